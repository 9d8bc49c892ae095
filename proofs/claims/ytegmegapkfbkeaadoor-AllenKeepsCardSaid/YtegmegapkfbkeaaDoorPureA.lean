/-
  Sets of relations as numbers, in plain Lean: a number's bits, a set turned round, what follows of two relations and of two sets; no program stands in it.
-/
import Derived.Test.YtegmegapkfbkeaaDoorRows
import Derived.Laws.BitsLemmas
namespace Go.Proofs.YtegmegapkfbkeaaDoor

/-- Bit r of a number. -/
def bitB (x : Int) (r : Nat) : Bool := x / 2 ^ r % 2 == 1
/-- Its thirteen low bits. -/
def low (x : Int) : Nat := (x % 8192).toNat

theorem low_lt (x : Int) : low x < 8192 := by unfold low; omega

theorem and_mask (x : Int) (i : Nat) (hi : i ≤ 62) : bits .and .i64 x ((2 ^ i - 1 : Nat) : Int) = x % 2 ^ i := by
  have h64 : (2 : Nat) ^ i ≤ 2 ^ 62 := Nat.pow_le_pow_right (by decide) hi
  have hpos : 0 < 2 ^ i := Nat.two_pow_pos i
  have hb : (BitVec.ofInt 64 ((2 ^ i - 1 : Nat) : Int)).toNat = 2 ^ i - 1 := by
    rw [BitVec.ofInt_natCast, BitVec.toNat_ofNat, Nat.mod_eq_of_lt]
    have : (2 : Nat) ^ 62 < 2 ^ 64 := by decide
    omega
  have ha : (BitVec.ofInt 64 x).toNat = (x % 2 ^ 64).toNat := by simp [BitVec.toNat_ofInt]
  have key : (BitVec.ofInt 64 x &&& BitVec.ofInt 64 ((2 ^ i - 1 : Nat) : Int)).toNat = (x % 2 ^ 64).toNat % 2 ^ i := by
    rw [BitVec.toNat_and, ha, hb, Nat.and_two_pow_sub_one_eq_mod]
  show IntKind.i64.wrap ((BitVec.ofInt 64 x &&& BitVec.ofInt 64 ((2 ^ i - 1 : Nat) : Int)).toNat : Int) = _
  rw [key, IntKind.wrap_i64]
  have hdvd : (2 : Int) ^ i ∣ 2 ^ 64 := by
    have : (2 : Nat) ^ i ∣ 2 ^ 64 := Nat.pow_dvd_pow 2 (by omega)
    exact_mod_cast this
  have e1 : (((x % 2 ^ 64).toNat % 2 ^ i : Nat) : Int) = x % 2 ^ i := by
    rw [Int.natCast_emod, Int.toNat_of_nonneg (Int.emod_nonneg _ (by decide))]
    have : ((2 ^ i : Nat) : Int) = (2 : Int) ^ i := by simp
    rw [this, Int.emod_emod_of_dvd _ hdvd]
  rw [e1]
  have h0 : 0 ≤ x % 2 ^ i := Int.emod_nonneg _ (by exact_mod_cast Nat.pos_iff_ne_zero.mp hpos)
  have h1 : x % 2 ^ i < 2 ^ i := Int.emod_lt_of_pos _ (by exact_mod_cast hpos)
  have h2 : (2 : Int) ^ i ≤ 2 ^ 62 := by exact_mod_cast h64
  have h3 : (2 : Int) ^ 62 = 4611686018427387904 := by decide
  omega

theorem and_one (x : Int) : bits .and .i64 x 1 = x % 2 := by simpa using and_mask x 1 (by decide)
theorem and_every (x : Int) : bits .and .i64 x 8191 = (low x : Int) := by
  have := and_mask x 13 (by decide)
  simp at this
  rw [this]; unfold low; omega
theorem bit_and (x : Int) (r : Nat) : (bits .and .i64 (x / 2 ^ r) 1 == 1) = bitB x r := by rw [and_one]; rfl

theorem wrap13 (n : Int) (h₀ : 0 ≤ n) (h₁ : n < 2 ^ 13) : IntKind.i64.wrap n = n := by rw [IntKind.wrap_i64]; omega
theorem and_nat {a b : Nat} (ha : a < 8192) (hb : b < 8192) : bits .and .i64 a b = ((a &&& b : Nat) : Int) := (bits_nat .i64 13 (by decide) wrap13 a b ha hb).1
theorem or_nat {a b : Nat} (ha : a < 8192) (hb : b < 8192) : bits .or .i64 a b = ((a ||| b : Nat) : Int) := (bits_nat .i64 13 (by decide) wrap13 a b ha hb).2

theorem bitB_nat (n r : Nat) : bitB (n : Int) r = n.testBit r := by
  have : ((n : Int) / 2 ^ r % 2 == 1) = (n / 2 ^ r % 2 == 1) := by
    have e : ((n : Int) / 2 ^ r % 2) = ((n / 2 ^ r % 2 : Nat) : Int) := by simp
    rw [e]
    rcases Nat.mod_two_eq_zero_or_one (n / 2 ^ r) with h | h <;> rw [h] <;> rfl
  rw [Nat.testBit_eq_decide_div_mod_eq]
  unfold bitB
  rw [this]
  simp [BEq.beq]

theorem bitB_low (x : Int) (r : Nat) (hr : r < 13) : (low x).testBit r = bitB x r := by
  rw [← bitB_nat]
  unfold bitB low
  rw [Int.toNat_of_nonneg (by omega)]
  congr 1
  have hp : (0 : Int) < 2 ^ r := by exact_mod_cast Nat.two_pow_pos r
  have e : (8192 : Int) = 2 ^ r * 2 ^ (13 - r) := by
    rw [← Int.pow_add]
    have : r + (13 - r) = 13 := by omega
    rw [this]; decide
  obtain ⟨m, hm⟩ : ∃ m : Nat, 13 - r = m + 1 := ⟨12 - r, by omega⟩
  have e2 : x % 8192 = x - 8192 * (x / 8192) := by omega
  rw [e2]
  have e3 : x - 8192 * (x / 8192) = x + 2 ^ r * (2 * (-(2 ^ m * (x / 8192)))) := by
    rw [hm, Int.pow_succ] at e
    generalize x / 8192 = q
    have : (8192 : Int) * q = (2 ^ r * (2 ^ m * 2)) * q := by rw [← e]
    rw [this, Int.sub_eq_add_neg]
    congr 1
    simp [Int.mul_comm, Int.mul_left_comm, Int.mul_neg]
  rw [e3, Int.add_mul_ediv_left _ _ (by omega)]
  omega

theorem testBit_low (x : Int) (r : Nat) : (low x).testBit r = (decide (r < 13) && bitB x r) := by
  by_cases h : r < 13
  · simp [h, bitB_low x r h]
  · simp [h]
    exact Nat.testBit_lt_two_pow (Nat.lt_of_lt_of_le (low_lt x) (Nat.le_trans (show 8192 ≤ 2 ^ 13 by decide) (Nat.pow_le_pow_right (by decide) (by omega))))

theorem bitB_or (x y : Int) (q : Nat) (hq : q < 13) : bitB (bits .or .i64 x y) q = (bitB x q || bitB y q) := by
  have bb : ∀ z : Int, bitB z q = (BitVec.ofInt 64 z).getLsbD q := fun z => by
    have e : low z = (BitVec.ofInt 64 z).toNat % 2 ^ 13 := by
      simp only [BitVec.toNat_ofInt, low]
      omega
    rw [← bitB_low z q hq, e, Nat.testBit_mod_two_pow]
    simp [hq, BitVec.getLsbD]
  have e : BitVec.ofInt 64 (bits .or .i64 x y) = BitVec.ofInt 64 x ||| BitVec.ofInt 64 y := by
    show BitVec.ofInt 64 (IntKind.i64.wrap ((BitVec.ofInt 64 x ||| BitVec.ofInt 64 y).toNat : Int)) = _
    rw [IntKind.wrap_i64]
    generalize BitVec.ofInt 64 x ||| BitVec.ofInt 64 y = v
    apply BitVec.eq_of_toNat_eq
    have := v.isLt
    simp only [BitVec.toNat_ofInt]
    omega
  rw [bb, e, BitVec.getLsbD_or, bb, bb]

theorem pow_lt {r : Nat} (h : r < 13) : 2 ^ r < 8192 := Nat.lt_of_lt_of_le (Nat.pow_lt_pow_right (by decide) h) (by decide)
theorem or_lt {a b : Nat} (ha : a < 8192) (hb : b < 8192) : a ||| b < 8192 := Nat.or_lt_two_pow (n := 13) ha hb
theorem and_lt {a b : Nat} (hb : b < 8192) : a &&& b < 8192 := Nat.and_lt_two_pow (n := 13) a hb

/-! ### A set turned round -/
def turnTo (x : Int) : Nat → Nat
  | 0 => 0
  | k + 1 => if bitB x k then turnTo x k ||| 2 ^ (12 - k) else turnTo x k
def turnI (x : Int) : Nat := turnTo x 13

theorem turnTo_lt (x : Int) (k : Nat) : turnTo x k < 8192 := by
  induction k with
  | zero => exact (show 0 < 8192 by decide)
  | succ k ih => unfold turnTo; split; exact or_lt ih (pow_lt (by omega)); exact ih
theorem turnI_lt (x : Int) : turnI x < 8192 := turnTo_lt x 13
theorem testBit_turnTo (x : Int) (k t : Nat) (hk : k ≤ 13) : (turnTo x k).testBit t = (decide (t < 13 ∧ 12 - t < k) && bitB x (12 - t)) := by
  induction k with
  | zero => simp [turnTo]
  | succ k ih =>
    have ih := ih (by omega)
    unfold turnTo
    by_cases hb : bitB x k = true
    · rw [if_pos hb, Nat.testBit_or, ih, Nat.testBit_two_pow]
      by_cases ht : 12 - k = t
      · have h12 : 12 - t = k := by omega
        rw [h12, hb]
        have : t < 13 := by omega
        simp [ht, this]
      · have : (t < 13 ∧ 12 - t < k + 1) ↔ (t < 13 ∧ 12 - t < k) := by omega
        simp [ht, this]
    · have hb' : bitB x k = false := by simpa using hb
      rw [if_neg hb, ih]
      by_cases ht : t < 13 ∧ 12 - t = k
      · rw [ht.2, hb']; simp
      · have : (t < 13 ∧ 12 - t < k + 1) ↔ (t < 13 ∧ 12 - t < k) := by omega
        simp [this]
theorem testBit_turnI (x : Int) (t : Nat) : (turnI x).testBit t = (decide (t < 13) && bitB x (12 - t)) := by
  rw [turnI, testBit_turnTo x 13 t (Nat.le_refl _)]
  congr 2
  simp; omega

/-! ### What follows of two sets -/
def folIn (c : Nat → Nat → Nat) (x y : Int) (r acc : Nat) : Nat → Nat
  | 0 => acc
  | s + 1 => if bitB x r && bitB y s then folIn c x y r acc s ||| c r s else folIn c x y r acc s
def folOut (c : Nat → Nat → Nat) (x y : Int) : Nat → Nat
  | 0 => 0
  | r + 1 => folIn c x y r (folOut c x y r) 13
def Small (c : Nat → Nat → Nat) : Prop := ∀ r s, c r s < 8192

theorem folIn_lt {c : Nat → Nat → Nat} (hc : Small c) (x y : Int) (r acc k : Nat) (ha : acc < 8192) : folIn c x y r acc k < 8192 := by
  induction k with
  | zero => exact ha
  | succ k ih => unfold folIn; split; exact or_lt ih (hc _ _); exact ih
theorem folOut_lt {c : Nat → Nat → Nat} (hc : Small c) (x y : Int) (r : Nat) : folOut c x y r < 8192 := by
  induction r with
  | zero => exact (show 0 < 8192 by decide)
  | succ k ih => exact folIn_lt hc x y k _ 13 ih
theorem testBit_folIn (c : Nat → Nat → Nat) (x y : Int) (r acc k t : Nat) : (folIn c x y r acc k).testBit t = true ↔ acc.testBit t = true ∨ ∃ s, s < k ∧ bitB x r = true ∧ bitB y s = true ∧ (c r s).testBit t = true := by
  induction k with
  | zero => simp [folIn]
  | succ k ih =>
    unfold folIn
    by_cases hb : (bitB x r && bitB y k) = true
    · rw [if_pos hb, Nat.testBit_or, Bool.or_eq_true, ih]
      simp only [Bool.and_eq_true] at hb
      constructor
      · rintro ((h | ⟨s, hs, h⟩) | h)
        · exact .inl h
        · exact .inr ⟨s, by omega, h⟩
        · exact .inr ⟨k, by omega, hb.1, hb.2, h⟩
      · rintro (h | ⟨s, hs, h⟩)
        · exact .inl (.inl h)
        · by_cases hk : s = k
          · subst hk; exact .inr h.2.2
          · exact .inl (.inr ⟨s, by omega, h⟩)
    · rw [if_neg hb, ih]
      simp only [Bool.and_eq_true] at hb
      constructor
      · rintro (h | ⟨s, hs, h⟩)
        · exact .inl h
        · exact .inr ⟨s, by omega, h⟩
      · rintro (h | ⟨s, hs, h⟩)
        · exact .inl h
        · by_cases hk : s = k
          · subst hk; exact absurd ⟨h.1, h.2.1⟩ hb
          · exact .inr ⟨s, by omega, h⟩
theorem testBit_folOut (c : Nat → Nat → Nat) (x y : Int) (k t : Nat) : (folOut c x y k).testBit t = true ↔ ∃ r s, r < k ∧ s < 13 ∧ bitB x r = true ∧ bitB y s = true ∧ (c r s).testBit t = true := by
  induction k with
  | zero => simp [folOut]
  | succ k ih =>
    show (folIn c x y k (folOut c x y k) 13).testBit t = true ↔ _
    rw [testBit_folIn, ih]
    constructor
    · rintro (⟨r, s, hr, h⟩ | ⟨s, hs, h⟩)
      · exact ⟨r, s, by omega, h⟩
      · exact ⟨k, s, by omega, hs, h⟩
    · rintro ⟨r, s, hr, hs, h⟩
      by_cases hk : r = k
      · subst hk; exact .inr ⟨s, hs, h⟩
      · exact .inl ⟨r, s, by omega, hs, h⟩

/-! ### The thirteen relations -/
/-- How the ends lie, of each relation: four numbers each. -/
def endsL : List Int := [-1, -1, -1, -1, -1, -1, 0, -1, -1, -1, 1, -1, 0, -1, 1, -1, 1, -1, 1, -1, 1, -1, 1, 0, 0, -1, 1, 0, -1, -1, 1, 0, -1, -1, 1, 1, 0, -1, 1, 1, 1, -1, 1, 1, 1, 0, 1, 1, 1, 1, 1, 1]
def ends (r i : Nat) : Int := endsL.getD (4 * r + i) 0
/-- How two times lie. -/
def sgn (a b : Int) : Int := if a < b then -1 else if b < a then 1 else 0
def agreeB (ab bc ac : Int) : Bool := if ab * bc < 0 then true else ac == sgn (ab + bc) 0
def fitB (ab bc ac : Nat → Int) : Bool :=
  agreeB (ab 0) (bc 0) (ac 0) && agreeB (ab 0) (bc 1) (ac 1) && agreeB (ab 1) (bc 2) (ac 0) && agreeB (ab 1) (bc 3) (ac 1) &&
  agreeB (ab 2) (bc 0) (ac 2) && agreeB (ab 2) (bc 1) (ac 3) && agreeB (ab 3) (bc 2) (ac 2) && agreeB (ab 3) (bc 3) (ac 3)
def cmpTo (r s : Nat) : Nat → Nat
  | 0 => 0
  | t + 1 => if fitB (ends r) (ends s) (ends t) then cmpTo r s t ||| 2 ^ t else cmpTo r s t
def cmpN (r s : Nat) : Nat := cmpTo r s 13

theorem cmpTo_lt (r s k : Nat) (hk : k ≤ 13) : cmpTo r s k < 8192 := by
  induction k with
  | zero => exact (show 0 < 8192 by decide)
  | succ k ih => unfold cmpTo; split; exact or_lt (ih (by omega)) (pow_lt (by omega)); exact ih (by omega)
theorem cmpN_lt : Small cmpN := fun r s => cmpTo_lt r s 13 (Nat.le_refl _)
theorem testBit_cmpTo (r s k t : Nat) : (cmpTo r s k).testBit t = (decide (t < k) && fitB (ends r) (ends s) (ends t)) := by
  induction k with
  | zero => simp [cmpTo]
  | succ k ih =>
    unfold cmpTo
    by_cases hb : fitB (ends r) (ends s) (ends k) = true
    · rw [if_pos hb, Nat.testBit_or, ih, Nat.testBit_two_pow]
      by_cases ht : k = t
      · subst ht; simp [hb]
      · have : t < k + 1 ↔ t < k := by omega
        simp [ht, this]
    · rw [if_neg hb, ih]
      by_cases ht : k = t
      · subst ht; simp [hb]
      · have : t < k + 1 ↔ t < k := by omega
        simp [this]
theorem testBit_cmpN (r s t : Nat) : (cmpN r s).testBit t = (decide (t < 13) && fitB (ends r) (ends s) (ends t)) := testBit_cmpTo r s 13 t

/-- What follows is the same the other way round. -/
theorem cmpN_turn : ∀ r s t, r < 13 → s < 13 → t < 13 → (cmpN (12 - s) (12 - r)).testBit (12 - t) = (cmpN r s).testBit t := by
  have h : ∀ r : Fin 13, ∀ s : Fin 13, ∀ t : Fin 13, fitB (ends (12 - s.1)) (ends (12 - r.1)) (ends (12 - t.1)) = fitB (ends r.1) (ends s.1) (ends t.1) := by decide +kernel
  intro r s t hr hs ht
  rw [testBit_cmpN, testBit_cmpN, h ⟨r, hr⟩ ⟨s, hs⟩ ⟨t, ht⟩]
  congr 1
  simp; omega

def followI (x y : Int) : Nat := folOut cmpN x y 13
theorem followI_lt (x y : Int) : followI x y < 8192 := folOut_lt cmpN_lt x y 13
theorem testBit_followI (x y : Int) (t : Nat) : (followI x y).testBit t = true ↔ ∃ r s, r < 13 ∧ s < 13 ∧ bitB x r = true ∧ bitB y s = true ∧ (cmpN r s).testBit t = true := testBit_folOut cmpN x y 13 t

theorem bit_lt {a t : Nat} (ha : a < 8192) (h : a.testBit t = true) : t < 13 := by
  rcases Nat.lt_or_ge t 13 with h1 | h1
  · exact h1
  · rw [Nat.testBit_lt_two_pow (Nat.lt_of_lt_of_le ha (Nat.le_trans (show 8192 ≤ 2 ^ 13 by decide) (Nat.pow_le_pow_right (by decide) h1)))] at h
    cases h
theorem turn_follow (x y : Int) : turnI (followI x y) = followI (turnI y) (turnI x) := by
  apply Nat.eq_of_testBit_eq
  intro t
  rw [Bool.eq_iff_iff, testBit_turnI, testBit_followI, Bool.and_eq_true, bitB_nat, testBit_followI]
  constructor
  · rintro ⟨ht, r, s, hr, hs, hx, hy, hc⟩
    have ht : t < 13 := by simpa using ht
    refine ⟨12 - s, 12 - r, by omega, by omega, ?_, ?_, ?_⟩
    · rw [bitB_nat, testBit_turnI]; have : 12 - (12 - s) = s := by omega
      simp [this, hy]; omega
    · rw [bitB_nat, testBit_turnI]; have : 12 - (12 - r) = r := by omega
      simp [this, hx]; omega
    · have := cmpN_turn r s (12 - t) hr hs (by omega)
      have e : 12 - (12 - t) = t := by omega
      rw [e] at this
      rw [this, hc]
  · rintro ⟨r, s, hr, hs, hx, hy, hc⟩
    have ht : t < 13 := bit_lt (cmpN_lt _ _) hc
    rw [bitB_nat, testBit_turnI] at hx hy
    simp only [Bool.and_eq_true, decide_eq_true_eq] at hx hy
    refine ⟨by simpa using ht, 12 - s, 12 - r, by omega, by omega, hy.2, hx.2, ?_⟩
    rw [cmpN_turn r s t hr hs ht, hc]

end Go.Proofs.YtegmegapkfbkeaaDoor
