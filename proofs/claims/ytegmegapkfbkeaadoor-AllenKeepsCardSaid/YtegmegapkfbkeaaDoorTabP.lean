/-
  The document's table of what follows of two relations, in plain Lean: what all spans among six times have to each other is just what the program's Compose tells.
-/
import Derived.Test.YtegmegapkfbkeaaDoorArr
namespace Go.Proofs.YtegmegapkfbkeaaDoor

def spF (i : Nat) : Int := [(0 : Int), 0, 0, 0, 0, 1, 1, 1, 1, 2, 2, 2, 3, 3, 4].getD i 0
def spT (i : Nat) : Int := [(1 : Int), 2, 3, 4, 5, 2, 3, 4, 5, 3, 4, 5, 4, 5, 5].getD i 1
theorem spansL_len : spansL.length = 15 := by decide +kernel
theorem spansL_get : ∀ i, i < 15 → spansL[i]? = some (spF i, spT i) := by
  have h : ∀ i : Fin 15, spansL[i.1]? = some (spF i.1, spT i.1) := by decide +kernel
  exact fun i hi => h ⟨i, hi⟩
theorem sp_right : ∀ i, i < 15 → rightB (spF i) (spT i) = true := by
  have h : ∀ i : Fin 15, rightB (spF i.1) (spT i.1) = true := by decide +kernel
  exact fun i hi => h ⟨i, hi⟩
theorem sp_lt {i : Nat} (hi : i < 15) : spF i < spT i := (right_yes (sp_right i hi)).2.1
/-- The relation of the i-th to the j-th. -/
def relN (i j : Nat) : Nat := (relI (spF i) (spT i) (spF j) (spT j)).toNat
theorem relN_eq {i j : Nat} (hi : i < 15) (hj : j < 15) : relI (spF i) (spT i) (spF j) (spT j) = (relN i j : Int) ∧ relN i j < 13 := by
  have := rel_lt (sp_lt hi) (sp_lt hj)
  unfold relN
  omega
theorem of_sp {i j : Nat} (hi : i < 15) (hj : j < 15) : ofI (spF i) (spT i) (spF j) (spT j) = (relN i j : Int) ∧ bothB (spF i) (spT i) (spF j) (spT j) = true := by
  have hb : bothB (spF i) (spT i) (spF j) (spT j) = true := by simp [bothB, sp_right i hi, sp_right j hj]
  exact ⟨by rw [ofI, if_pos hb]; exact (relN_eq hi hj).1, hb⟩

/-- What is in the table, when the first n of all threes of spans were looked at. -/
def TabTo (n : Nat) (T : Nat → Nat) : Prop := ∀ p t, (T p).testBit t = true ↔ ∃ i j k, i < 15 ∧ j < 15 ∧ k < 15 ∧ 225 * i + 15 * j + k < n ∧ 13 * relN i j + relN j k = p ∧ relN i k = t
theorem TabTo.zero : TabTo 0 (fun _ => 0) := fun p t => by
  constructor
  · intro h; simp at h
  · rintro ⟨i, j, k, _, _, _, h, _⟩; omega
theorem TabTo.next {i j k : Nat} {T : Nat → Nat} (hi : i < 15) (hj : j < 15) (hk : k < 15) (h : TabTo (225 * i + 15 * j + k) T) :
    TabTo (225 * i + 15 * j + (k + 1)) (upd T (13 * relN i j + relN j k) (T (13 * relN i j + relN j k) ||| 2 ^ relN i k)) := fun p t => by
  unfold upd
  by_cases hp : p = 13 * relN i j + relN j k
  · rw [if_pos hp, Nat.testBit_or, Nat.testBit_two_pow, Bool.or_eq_true, ← hp, h p t]
    constructor
    · rintro (⟨i', j', k', a, b, c, d, e⟩ | ht)
      · exact ⟨i', j', k', a, b, c, by omega, e⟩
      · exact ⟨i, j, k, hi, hj, hk, by omega, hp.symm, by simpa using ht⟩
    · rintro ⟨i', j', k', a, b, c, d, e, f⟩
      by_cases hn : 225 * i' + 15 * j' + k' = 225 * i + 15 * j + k
      · obtain rfl : i' = i := by omega
        obtain rfl : j' = j := by omega
        obtain rfl : k' = k := by omega
        exact .inr (by simpa using f)
      · exact .inl ⟨i', j', k', a, b, c, by omega, e, f⟩
  · rw [if_neg hp, h p t]
    constructor
    · rintro ⟨i', j', k', a, b, c, d, e⟩
      exact ⟨i', j', k', a, b, c, by omega, e⟩
    · rintro ⟨i', j', k', a, b, c, d, e, f⟩
      by_cases hn : 225 * i' + 15 * j' + k' = 225 * i + 15 * j + k
      · obtain rfl : i' = i := by omega
        obtain rfl : j' = j := by omega
        obtain rfl : k' = k := by omega
        exact absurd e.symm hp
      · exact ⟨i', j', k', a, b, c, by omega, e, f⟩
theorem TabTo.small {n : Nat} {T : Nat → Nat} (h : TabTo n T) (p : Nat) : T p < 8192 := by
  apply Nat.lt_of_not_le
  intro hge
  obtain ⟨i, hi, hb⟩ := Nat.exists_ge_and_testBit_of_ge_two_pow (n := 13) (x := T p) hge
  obtain ⟨i', j', k', a, b, c, _, _, f⟩ := (h p i).1 hb
  have := (relN_eq a c).2
  omega

def bigK (i j : Nat) : Nat → Nat
  | 0 => 0
  | k + 1 => bigK i j k ||| 2 ^ (169 * relN i j + 13 * relN j k + relN i k)
def bigJ (i : Nat) : Nat → Nat
  | 0 => 0
  | j + 1 => bigJ i j ||| bigK i j 15
def bigI : Nat → Nat
  | 0 => 0
  | i + 1 => bigI i ||| bigJ i 15
theorem bigK_bit {i j : Nat} : ∀ k n, (bigK i j k).testBit n = true → ∃ k', k' < k ∧ 169 * relN i j + 13 * relN j k' + relN i k' = n
  | 0, n, h => by simp [bigK] at h
  | k + 1, n, h => by
    rw [bigK, Nat.testBit_or, Nat.testBit_two_pow, Bool.or_eq_true] at h
    rcases h with h | h
    · obtain ⟨k', a, b⟩ := bigK_bit k n h
      exact ⟨k', by omega, b⟩
    · exact ⟨k, by omega, by simpa using h⟩
theorem bigJ_bit {i : Nat} : ∀ j n, (bigJ i j).testBit n = true → ∃ j' k', j' < j ∧ k' < 15 ∧ 169 * relN i j' + 13 * relN j' k' + relN i k' = n
  | 0, n, h => by simp [bigJ] at h
  | j + 1, n, h => by
    rw [bigJ, Nat.testBit_or, Bool.or_eq_true] at h
    rcases h with h | h
    · obtain ⟨j', k', a, b⟩ := bigJ_bit j n h
      exact ⟨j', k', by omega, b⟩
    · obtain ⟨k', a, b⟩ := bigK_bit 15 n h
      exact ⟨j, k', by omega, a, b⟩
theorem bigI_bit : ∀ i n, (bigI i).testBit n = true → ∃ i' j' k', i' < i ∧ j' < 15 ∧ k' < 15 ∧ 169 * relN i' j' + 13 * relN j' k' + relN i' k' = n
  | 0, n, h => by simp [bigI] at h
  | i + 1, n, h => by
    rw [bigI, Nat.testBit_or, Bool.or_eq_true] at h
    rcases h with h | h
    · obtain ⟨i', j', k', a, b⟩ := bigI_bit i n h
      exact ⟨i', j', k', by omega, b⟩
    · obtain ⟨j', k', a, b⟩ := bigJ_bit 15 n h
      exact ⟨i, j', k', by omega, a, b⟩
theorem big_eq : bigI 15 = 11532500863595108661388537645610545565999198224314442701894555880523860162744410459226021931844887418815160608858319592843697687662021021360276084242642007018883276405889114085177290533134741121609665130619049270358408784775713534961648146554646073031952451716479155781349912614651353520058769592308218169059668756793856247183543877569728520811842172405323072743852736918201846976435705774359245949326552468443054851365429248925319115965374390638582252021137861798345743841250241029063026847369029120329055180985801802468671542335529534542507262816162038587225981581613032254467221080995861830949674618842566825166040007874987850210060833382311944241283105562625 := by decide +kernel
theorem big_all : ∀ r : Fin 13, ∀ s : Fin 13, ∀ t : Fin 13, fitB (ends r.1) (ends s.1) (ends t.1) = true → Nat.testBit 11532500863595108661388537645610545565999198224314442701894555880523860162744410459226021931844887418815160608858319592843697687662021021360276084242642007018883276405889114085177290533134741121609665130619049270358408784775713534961648146554646073031952451716479155781349912614651353520058769592308218169059668756793856247183543877569728520811842172405323072743852736918201846976435705774359245949326552468443054851365429248925319115965374390638582252021137861798345743841250241029063026847369029120329055180985801802468671542335529534542507262816162038587225981581613032254467221080995861830949674618842566825166040007874987850210060833382311944241283105562625 (169 * r.1 + 13 * s.1 + t.1) = true := by decide +kernel

/-- The whole table is what Compose tells. -/
theorem TabTo.all {T : Nat → Nat} (h : TabTo 3375 T) {r s : Nat} (hr : r < 13) (hs : s < 13) : T (13 * r + s) = cmpN r s := by
  apply Nat.eq_of_testBit_eq
  intro t
  rw [Bool.eq_iff_iff, h]
  constructor
  · rintro ⟨i, j, k, hi, hj, hk, _, hp, ht⟩
    have e1 := relN_eq hi hj
    have e2 := relN_eq hj hk
    have e3 := relN_eq hi hk
    obtain rfl : relN i j = r := by omega
    obtain rfl : relN j k = s := by omega
    subst ht
    exact sound (sp_lt hi) (sp_lt hj) (sp_lt hk) e1.1 e2.1 e3.1
  · intro hc
    have ht := bit_lt (cmpN_lt r s) hc
    rw [testBit_cmpN] at hc
    simp only [ht, decide_true, Bool.true_and] at hc
    have hb := big_all ⟨r, hr⟩ ⟨s, hs⟩ ⟨t, ht⟩ hc
    rw [← big_eq] at hb
    obtain ⟨i, j, k, hi, hj, hk, e⟩ := bigI_bit 15 _ hb
    have e : 169 * relN i j + 13 * relN j k + relN i k = 169 * r + 13 * s + t := e
    have e1 := (relN_eq hi hj).2
    have e2 := (relN_eq hj hk).2
    have e3 := (relN_eq hi hk).2
    exact ⟨i, j, k, hi, hj, hk, by omega, by omega, by omega⟩

end Go.Proofs.YtegmegapkfbkeaaDoor
