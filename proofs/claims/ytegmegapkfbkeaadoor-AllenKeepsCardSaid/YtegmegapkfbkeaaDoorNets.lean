/-
  Nets, in plain Lean: a closed net, the greatest one below a given one, and how narrowing comes to it; no program stands in it.
-/
import Derived.Test.YtegmegapkfbkeaaDoorArr
namespace Go.Proofs.YtegmegapkfbkeaaDoor

/-- Each relation of a is one of b. -/
def Sub (a b : Nat) : Prop := ∀ t, a.testBit t = true → b.testBit t = true
theorem Sub.rfl' (a : Nat) : Sub a a := fun _ h => h
theorem Sub.trans {a b c : Nat} (h : Sub a b) (k : Sub b c) : Sub a c := fun t ht => k t (h t ht)
theorem Sub.antisymm {a b : Nat} (h : Sub a b) (k : Sub b a) : a = b := Nat.eq_of_testBit_eq fun t => by
  rw [Bool.eq_iff_iff]; exact ⟨h t, k t⟩
theorem Sub.and {a b c : Nat} (h : Sub a b) (k : Sub a c) : Sub a (b &&& c) := fun t ht => by rw [Nat.testBit_and, h t ht, k t ht]; rfl
theorem Sub.left (a b : Nat) : Sub (a &&& b) a := fun t ht => by rw [Nat.testBit_and, Bool.and_eq_true] at ht; exact ht.1
theorem Sub.right (a b : Nat) : Sub (a &&& b) b := fun t ht => by rw [Nat.testBit_and, Bool.and_eq_true] at ht; exact ht.2
theorem Sub.zero {a : Nat} (h : Sub a 0) : a = 0 := h.antisymm fun t ht => by simp at ht
theorem Sub.le {a b : Nat} (h : Sub a b) : a ≤ b := by
  have e : b &&& a = a := (Sub.right b a).antisymm (h.and (Sub.rfl' a))
  rw [← e]
  exact Nat.and_le_left
theorem Sub.lt {a b : Nat} (h : Sub a b) (hn : a ≠ b) : a < b := Nat.lt_of_le_of_ne h.le hn
theorem Sub.turn {a b : Nat} (h : Sub a b) : Sub (turnI a) (turnI b) := fun t ht => by
  rw [testBit_turnI, Bool.and_eq_true, bitB_nat] at ht ⊢
  exact ⟨ht.1, h _ ht.2⟩
theorem Sub.follow {a b c d : Nat} (h : Sub a b) (k : Sub c d) : Sub (followI a c) (followI b d) := fun t ht => by
  rw [testBit_followI] at ht ⊢
  obtain ⟨r, s, hr, hs, h1, h2, h3⟩ := ht
  rw [bitB_nat] at h1 h2
  exact ⟨r, s, hr, hs, by rw [bitB_nat]; exact h r h1, by rw [bitB_nat]; exact k s h2, h3⟩
theorem turn_turn {a : Nat} (ha : a < 8192) : turnI (turnI a) = a := Nat.eq_of_testBit_eq fun t => by
  rw [testBit_turnI, bitB_nat, testBit_turnI, bitB_nat]
  by_cases ht : t < 13
  · have e : 12 - (12 - t) = t := by omega
    rw [e]
    have h2 : 12 - t < 13 := by omega
    simp [ht, h2]
  · have : a.testBit t = false := by
      cases hb : a.testBit t
      · rfl
      · exact absurd (bit_lt ha hb) ht
    simp [ht, this]
theorem bit64 {t : Nat} : (64 : Nat).testBit t = decide (6 = t) := Nat.testBit_two_pow (n := 6) (m := t)
theorem turn_six {s : Nat} (h : Sub s 64) : turnI s = s := Nat.eq_of_testBit_eq fun t => by
  have six : ∀ x, s.testBit x = true → x = 6 := fun x hx => by
    have := h x hx
    rw [bit64] at this
    simpa using (of_decide_eq_true this).symm
  rw [testBit_turnI, bitB_nat, Bool.eq_iff_iff, Bool.and_eq_true, decide_eq_true_eq]
  constructor
  · rintro ⟨a, b⟩
    have := six _ b
    have e : t = 6 := by omega
    subst e
    exact b
  · intro hb
    have := six _ hb
    subst this
    exact ⟨by decide, hb⟩

/-- A closed net, told by parts. -/
structure Good (n : Nat) (m : Nat → Nat) : Prop where
  turn : ∀ i k, i < n → k < n → Sub (m (i * n + k)) (turnI (m (k * n + i)))
  self : ∀ i, i < n → Sub (m (i * n + i)) 64
  tri : ∀ i j k, i < n → j < n → k < n → Sub (m (i * n + k)) (followI (m (i * n + j)) (m (j * n + k)))
def Le (n : Nat) (m L : Nat → Nat) : Prop := ∀ i k, i < n → k < n → Sub (m (i * n + k)) (L (i * n + k))
/-- The greatest closed net below N. -/
structure Greatest (n : Nat) (N L : Nat → Nat) : Prop where
  good : Good n L
  below : Le n L N
  most : ∀ m, Good n m → Le n m N → Le n m L

theorem place_inj {n i k i' k' : Nat} (hk : k < n) (hk' : k' < n) (h : i * n + k = i' * n + k') : i = i' ∧ k = k' := by
  have h1 : (i * n + k) / n = i := by rw [Nat.mul_comm, Nat.mul_add_div (by omega), Nat.div_eq_of_lt hk, Nat.add_zero]
  have h2 : (i' * n + k') / n = i' := by rw [Nat.mul_comm, Nat.mul_add_div (by omega), Nat.div_eq_of_lt hk', Nat.add_zero]
  have : i = i' := by rw [← h1, h, h2]
  subst this
  exact ⟨rfl, by omega⟩
theorem place_lt {n i k : Nat} (hi : i < n) (hk : k < n) : i * n + k < n * n := by
  have : i * n + n ≤ n * n := by
    have := Nat.mul_le_mul_right n (show i + 1 ≤ n by omega)
    rw [Nat.add_mul, Nat.one_mul] at this
    exact this
  omega
theorem place_of {n p : Nat} (h : p < n * n) : ∃ i k, i < n ∧ k < n ∧ p = i * n + k := by
  have hn : 0 < n := by
    rcases Nat.eq_zero_or_pos n with h0 | h0
    · subst h0; omega
    · exact h0
  exact ⟨p / n, p % n, Nat.div_lt_of_lt_mul h, Nat.mod_lt _ hn, by rw [Nat.mul_comm]; exact (Nat.div_add_mod p n).symm⟩

/-! ### Narrowing, as the program does it -/
def narBase (n : Nat) (L : Nat → Nat) (i k : Nat) : Nat := if i = k then (L (i * n + k) &&& turnI (L (k * n + i))) &&& 64 else L (i * n + k) &&& turnI (L (k * n + i))
def narTo (n : Nat) (L : Nat → Nat) (i k : Nat) : Nat → Nat
  | 0 => narBase n L i k
  | j + 1 => narTo n L i k j &&& followI (L (i * n + j)) (L (j * n + k))
def narN (n : Nat) (L : Nat → Nat) (i k : Nat) : Nat := narTo n L i k n

theorem narBase_lt (n : Nat) (L : Nat → Nat) (i k : Nat) : narBase n L i k < 8192 := by
  unfold narBase
  split
  · exact and_lt (by decide)
  · exact and_lt (turnI_lt _)
theorem narTo_lt (n : Nat) (L : Nat → Nat) (i k j : Nat) : narTo n L i k j < 8192 := by
  cases j with
  | zero => exact narBase_lt n L i k
  | succ j => exact and_lt (followI_lt _ _)
theorem narTo_base (n : Nat) (L : Nat → Nat) (i k : Nat) : ∀ j, Sub (narTo n L i k j) (narBase n L i k)
  | 0 => Sub.rfl' _
  | j + 1 => (Sub.left _ _).trans (narTo_base n L i k j)
theorem narTo_tri (n : Nat) (L : Nat → Nat) (i k : Nat) : ∀ J j, j < J → Sub (narTo n L i k J) (followI (L (i * n + j)) (L (j * n + k)))
  | 0, j, h => by omega
  | J + 1, j, h => by
    by_cases e : j = J
    · subst e; exact Sub.right _ _
    · exact (Sub.left _ _).trans (narTo_tri n L i k J j (by omega))
theorem narBase_self (n : Nat) (L : Nat → Nat) (i : Nat) : Sub (narBase n L i i) 64 := by
  unfold narBase; rw [if_pos rfl]; exact Sub.right _ _
theorem narBase_left (n : Nat) (L : Nat → Nat) (i k : Nat) : Sub (narBase n L i k) (L (i * n + k)) := by
  unfold narBase; split
  · exact (Sub.left _ _).trans (Sub.left _ _)
  · exact Sub.left _ _
theorem narBase_turn (n : Nat) (L : Nat → Nat) (i k : Nat) : Sub (narBase n L i k) (turnI (L (k * n + i))) := by
  unfold narBase; split
  · exact (Sub.left _ _).trans (Sub.right _ _)
  · exact Sub.right _ _
theorem nar_left (n : Nat) (L : Nat → Nat) (i k : Nat) : Sub (narN n L i k) (L (i * n + k)) := (narTo_base n L i k n).trans (narBase_left n L i k)
theorem nar_turn (n : Nat) (L : Nat → Nat) (i k : Nat) : Sub (narN n L i k) (turnI (L (k * n + i))) := (narTo_base n L i k n).trans (narBase_turn n L i k)

/-- What a closed net has is never taken away. -/
theorem nar_keeps {n : Nat} {m L : Nat → Nat} (hm : Good n m) (hl : Le n m L) {i k : Nat} (hi : i < n) (hk : k < n) : Sub (m (i * n + k)) (narN n L i k) := by
  have hb : Sub (m (i * n + k)) (narBase n L i k) := by
    have h1 := (hl i k hi hk).and ((hm.turn i k hi hk).trans (hl k i hk hi).turn)
    unfold narBase
    split
    · rename_i e; subst e
      exact h1.and (hm.self i hi)
    · exact h1
  have : ∀ J, J ≤ n → Sub (m (i * n + k)) (narTo n L i k J) := by
    intro J
    induction J with
    | zero => exact fun _ => hb
    | succ J ih => exact fun hJ => (ih (by omega)).and ((hm.tri i J k hi (by omega) hk).trans ((hl i J hi (by omega)).follow (hl J k (by omega) hk)))
  exact this n (Nat.le_refl _)

/-- A set put, and turned in the other place. -/
def putN (n : Nat) (L : Nat → Nat) (i k s : Nat) : Nat → Nat := upd (upd L (i * n + k) s) (k * n + i) (turnI s)
theorem put_keeps {n : Nat} {m L : Nat → Nat} (hm : Good n m) (hl : Le n m L) {i k s : Nat} (hi : i < n) (hk : k < n) (hs : Sub (m (i * n + k)) s) : Le n m (putN n L i k s) := fun i' k' hi' hk' => by
  unfold putN upd
  split
  · rename_i e
    obtain ⟨rfl, rfl⟩ := place_inj hk' hi e
    exact (hm.turn _ _ hi' hk').trans hs.turn
  · split
    · rename_i e
      obtain ⟨rfl, rfl⟩ := place_inj hk' hk e
      exact hs
    · exact hl i' k' hi' hk'
theorem put_lt {n : Nat} {L : Nat → Nat} (h : ∀ p, L p < 8192) {i k s : Nat} (hs : s < 8192) : ∀ p, putN n L i k s p < 8192 := fun p => by
  unfold putN upd
  split
  · exact turnI_lt _
  · split
    · exact hs
    · exact h p
theorem put_le {n : Nat} {L : Nat → Nat} (hL : ∀ p, L p < 8192) {i k s : Nat} (h1 : Sub s (L (i * n + k))) (h2 : Sub s (turnI (L (k * n + i)))) {N : Nat → Nat} (hN : Le n L N) (hi : i < n) (hk : k < n) : Le n (putN n L i k s) N := fun i' k' hi' hk' => by
  unfold putN upd
  split
  · rename_i e
    obtain ⟨rfl, rfl⟩ := place_inj hk' hi e
    have := h2.turn
    rw [turn_turn (hL _)] at this
    exact this.trans (hN _ _ hi' hk')
  · split
    · rename_i e
      obtain ⟨rfl, rfl⟩ := place_inj hk' hk e
      exact h1.trans (hN _ _ hi' hk')
    · exact hN i' k' hi' hk'

def sumTo (L : Nat → Nat) : Nat → Nat
  | 0 => 0
  | p + 1 => sumTo L p + L p
theorem sum_same {L M : Nat → Nat} : ∀ N, (∀ p, p < N → L p = M p) → sumTo L N = sumTo M N
  | 0, _ => rfl
  | N + 1, h => by rw [sumTo, sumTo, sum_same N (fun p hp => h p (by omega)), h N (by omega)]
theorem sum_upd (L : Nat → Nat) (p v : Nat) : ∀ N, p < N → sumTo (upd L p v) N + L p = sumTo L N + v
  | 0, h => by omega
  | N + 1, h => by
    rw [sumTo, sumTo]
    by_cases e : p = N
    · subst e
      have : sumTo (upd L p v) p = sumTo L p := sum_same p fun q hq => by unfold upd; rw [if_neg (by omega)]
      have hu : upd L p v p = v := by unfold upd; rw [if_pos rfl]
      rw [this, hu]; omega
    · have := sum_upd L p v N (by omega)
      have hu : upd L p v N = L N := by unfold upd; rw [if_neg (by omega)]
      rw [hu]; omega
theorem put_sum {n : Nat} {L : Nat → Nat} (hL : ∀ p, L p < 8192) {i k : Nat} (hi : i < n) (hk : k < n) (hne : narN n L i k ≠ L (i * n + k)) : sumTo (putN n L i k (narN n L i k)) (n * n) < sumTo L (n * n) := by
  have h1 := (nar_left n L i k).lt hne
  have p1 := place_lt hi hk
  have p2 := place_lt hk hi
  have s1 := sum_upd L (i * n + k) (narN n L i k) (n * n) p1
  have s2 := sum_upd (upd L (i * n + k) (narN n L i k)) (k * n + i) (turnI (narN n L i k)) (n * n) p2
  have hf : sumTo (putN n L i k (narN n L i k)) (n * n) + upd L (i * n + k) (narN n L i k) (k * n + i) = sumTo (upd L (i * n + k) (narN n L i k)) (n * n) + turnI (narN n L i k) := s2
  by_cases e : i = k
  · subst e
    have h6 : turnI (narN n L i i) = narN n L i i := turn_six ((narTo_base n L i i n).trans (narBase_self n L i))
    have hu : upd L (i * n + i) (narN n L i i) (i * n + i) = narN n L i i := by unfold upd; rw [if_pos rfl]
    rw [hu, h6] at hf
    omega
  · have hp : ¬ k * n + i = i * n + k := fun h => e (place_inj hi hk h).2
    have hu : upd L (i * n + k) (narN n L i k) (k * n + i) = L (k * n + i) := by unfold upd; rw [if_neg hp]
    have h2 : turnI (narN n L i k) ≤ L (k * n + i) := by
      have := (nar_turn n L i k).turn
      rw [turn_turn (hL _)] at this
      exact this.le
    rw [hu] at hf
    omega

/-- Where narrowing leaves all sets as they are, the net is closed. -/
theorem good_of_nar {n : Nat} {L : Nat → Nat} (h : ∀ i k, i < n → k < n → narN n L i k = L (i * n + k)) : Good n L where
  turn := fun i k hi hk => by have := nar_turn n L i k; rwa [h i k hi hk] at this
  self := fun i hi => by have := (narTo_base n L i i n).trans (narBase_self n L i); rwa [show narTo n L i i n = L (i * n + i) from h i i hi hi] at this
  tri := fun i j k hi hj hk => by have := narTo_tri n L i k n j hj; rwa [show narTo n L i k n = L (i * n + k) from h i k hi hk] at this
theorem nar_of_good {n : Nat} {L : Nat → Nat} (h : Good n L) {i k : Nat} (hi : i < n) (hk : k < n) : narN n L i k = L (i * n + k) :=
  (nar_left n L i k).antisymm (nar_keeps h (fun _ _ _ _ => Sub.rfl' _) hi hk)

/-! ### Narrowing, as the document does it -/
def Tri (n : Nat) (m : Nat → Nat) : Prop := ∀ i j k, i < n → j < n → k < n → Sub (m (i * n + k)) (followI (m (i * n + j)) (m (j * n + k)))
/-- What the document begins with. -/
def initN (n : Nat) (N : Nat → Nat) (i k : Nat) : Nat := narBase n N i k
structure TriInv (n : Nat) (N T : Nat → Nat) : Prop where
  small : ∀ p, T p < 8192
  below : ∀ i k, i < n → k < n → Sub (T (i * n + k)) (initN n N i k)
  most : ∀ m, Tri n m → (∀ i k, i < n → k < n → Sub (m (i * n + k)) (initN n N i k)) → Le n m T
theorem TriInv.step {n : Nat} {N T : Nat → Nat} (h : TriInv n N T) {i j k : Nat} (hi : i < n) (hj : j < n) (hk : k < n) :
    TriInv n N (upd T (i * n + k) (T (i * n + k) &&& followI (T (i * n + j)) (T (j * n + k)))) where
  small := fun p => by
    unfold upd; split
    · exact and_lt (followI_lt _ _)
    · exact h.small p
  below := fun i' k' hi' hk' => by
    unfold upd; split
    · rename_i e
      obtain ⟨rfl, rfl⟩ := place_inj hk' hk e
      exact (Sub.left _ _).trans (h.below _ _ hi hk)
    · exact h.below i' k' hi' hk'
  most := fun m hm hl i' k' hi' hk' => by
    have hle := h.most m hm hl
    unfold upd; split
    · rename_i e
      obtain ⟨rfl, rfl⟩ := place_inj hk' hk e
      exact (hle _ _ hi hk).and ((hm i' j k' hi hj hk).trans ((hle i' j hi hj).follow (hle j k' hj hk)))
    · exact hle i' k' hi' hk'
theorem init_turn (n : Nat) (N : Nat → Nat) (hN : ∀ p, N p < 8192) (i k : Nat) : turnI (initN n N i k) = initN n N k i := by
  have tand : ∀ a b : Nat, turnI ((a &&& b : Nat) : Int) = turnI a &&& turnI b := fun a b => Nat.eq_of_testBit_eq fun t => by
    rw [Nat.testBit_and, testBit_turnI, testBit_turnI, testBit_turnI, bitB_nat, bitB_nat, bitB_nat, Nat.testBit_and]
    cases decide (t < 13) <;> simp
  have t64 : turnI ((64 : Nat) : Int) = 64 := turn_six (Sub.rfl' 64)
  unfold initN narBase
  by_cases e : i = k
  · subst e
    rw [if_pos rfl, tand, tand, turn_turn (hN _), t64, Nat.and_comm (turnI _)]
  · rw [if_neg e, if_neg (fun h => e h.symm), tand, turn_turn (hN _), Nat.and_comm]
/-- Where the triangles leave all sets as they are, it is the greatest closed net. -/
theorem TriInv.greatest {n : Nat} {N T : Nat → Nat} (hN : ∀ p, N p < 8192) (h : TriInv n N T) (ht : Tri n T) : Greatest n N T := by
  have back : ∀ i k, i < n → k < n → Sub (turnI (T (k * n + i))) (T (i * n + k)) := by
    have key := h.most (fun p => turnI (T (p % n * n + p / n)))
    have pl : ∀ i k, k < n → (i * n + k) / n = i ∧ (i * n + k) % n = k := fun i k hk => by
      constructor
      · rw [Nat.mul_comm, Nat.mul_add_div (by omega), Nat.div_eq_of_lt hk, Nat.add_zero]
      · rw [Nat.mul_comm, Nat.mul_add_mod, Nat.mod_eq_of_lt hk]
    intro i k hi hk
    have := key ?_ ?_ i k hi hk
    · simp only [(pl i k hk).1, (pl i k hk).2] at this
      exact this
    · intro i j k hi hj hk
      simp only [(pl i k hk).1, (pl i k hk).2, (pl i j hj).1, (pl i j hj).2, (pl j k hk).1, (pl j k hk).2]
      have h1 := (ht k j i hk hj hi).turn
      rw [turn_follow] at h1
      exact h1
    · intro i k hi hk
      simp only [(pl i k hk).1, (pl i k hk).2]
      have h1 := (h.below k i hk hi).turn
      rw [init_turn n N hN] at h1
      exact h1
  have ini : ∀ i k, i < n → k < n → Sub (T (i * n + k)) (narBase n N i k) := h.below
  refine ⟨⟨fun i k hi hk => ?_, fun i hi => (ini i i hi hi).trans (narBase_self n N i), ht⟩, fun i k hi hk => (ini i k hi hk).trans (narBase_left n N i k), fun m hm hl => h.most m hm.tri fun i k hi hk => ?_⟩
  · have := (back k i hk hi).turn
    rw [turn_turn (h.small _)] at this
    exact this
  · have h1 := (hl i k hi hk).and ((hm.turn i k hi hk).trans (hl k i hk hi).turn)
    unfold initN narBase
    split
    · rename_i e; subst e
      exact h1.and (hm.self i hi)
    · exact h1
theorem Greatest.unique {n : Nat} {N L M : Nat → Nat} (h : Greatest n N L) (k : Greatest n N M) {p : Nat} (hp : p < n * n) : L p = M p := by
  obtain ⟨i, j, hi, hj, rfl⟩ := place_of hp
  exact (k.most L h.good h.below i j hi hj).antisymm (h.most M k.good k.below i j hi hj)

end Go.Proofs.YtegmegapkfbkeaaDoor
