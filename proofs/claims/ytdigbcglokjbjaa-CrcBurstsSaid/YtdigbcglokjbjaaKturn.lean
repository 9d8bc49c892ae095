import Derived.Test.YtdigbcglokjbjaaKpure
/-
  Plain facts on bits that are turned within a text: the state behind it, and what is sealed.
-/
namespace Go.Proofs.Ytdigbcglokjbjaa

/-- A bit is turned. -/
def flipAt (l : List Nat) (j : Nat) : List Nat := l.set (j / 8) (l.getD (j / 8) 0 ^^^ 2 ^ (j % 8))
theorem flipAt_length (l : List Nat) (j : Nat) : (flipAt l j).length = l.length := List.length_set
theorem flipAt_lt {l : List Nat} {j : Nat} (hl : ∀ b ∈ l, b < 256) (hj : j < 8 * l.length) : ∀ b ∈ flipAt l j, b < 256 := by
  intro b hb
  rcases List.mem_or_eq_of_mem_set hb with h | h
  · exact hl b h
  · subst h
    have h1 : l.getD (j / 8) 0 < 256 := by
      rw [List.getD_eq_getElem?_getD, List.getElem?_eq_getElem (by omega)]
      exact hl _ (List.getElem_mem _)
    have h2 : 2 ^ (j % 8) < 2 ^ 8 := Nat.pow_lt_pow_right (by decide) (Nat.mod_lt _ (by decide))
    exact Nat.xor_lt_two_pow (n := 8) h1 h2
/-- The state behind a text of which a bit is turned. -/
theorem runN_flip {l : List Nat} {j : Nat} (x : Nat) (hj : j < 8 * l.length) : runN x (flipAt l j) = runN x l ^^^ zz (8 * l.length - j) 1 := by
  have hk : j / 8 < l.length := by omega
  obtain ⟨c, hc⟩ : ∃ c, l[j / 8]? = some c := ⟨_, List.getElem?_eq_getElem hk⟩
  have e1 : l = l.take (j / 8) ++ c :: l.drop (j / 8 + 1) := by
    have h2 := List.getElem?_eq_getElem hk
    rw [hc] at h2
    rw [Option.some.inj h2, ← List.drop_eq_getElem_cons hk, List.take_append_drop]
  have e2 : flipAt l j = l.take (j / 8) ++ (c ^^^ 2 ^ (j % 8)) :: l.drop (j / 8 + 1) := by
    unfold flipAt
    rw [List.set_eq_take_append_cons_drop, if_pos hk, List.getD_eq_getElem?_getD, hc]
    rfl
  have e3 : ∀ y, sb y (c ^^^ 2 ^ (j % 8)) = sb y c ^^^ zz (8 - j % 8) 1 := fun y => by
    unfold sb
    rw [← Nat.xor_assoc, zz_xor, zz_bit (by omega)]
  have e4 : runN x l = runN (sb (runN x (l.take (j / 8))) c) (l.drop (j / 8 + 1)) := by
    have := congrArg (runN x) e1
    rwa [runN_append, runN_cons] at this
  rw [e2, runN_append, runN_cons, e3, runN_over, ← e4, ← zz_add]
  congr 2
  rw [List.length_drop]
  omega

/-- Is the bit i of those that are to be turned within a text of T bits, from a bit on? -/
def isT (a : Int) (bits T i : Nat) : Bool := decide (bits / 2 ^ i % 2 = 1 ∧ 0 ≤ a ∧ a + i < T)
/-- A text of which the first i bits are turned; the bits that are. -/
def turnL (l : List Nat) (a : Int) (bits : Nat) : Nat → List Nat
  | 0 => l
  | i + 1 => if isT a bits (8 * l.length) i then flipAt (turnL l a bits i) (a.toNat + i) else turnL l a bits i
def turnW (T : Nat) (a : Int) (bits : Nat) : Nat → Nat
  | 0 => 0
  | i + 1 => if isT a bits T i then turnW T a bits i ^^^ 2 ^ i else turnW T a bits i
theorem turnL_length (l : List Nat) (a : Int) (bits : Nat) : ∀ i, (turnL l a bits i).length = l.length
  | 0 => rfl
  | i + 1 => by
    rw [turnL]
    split
    · rw [flipAt_length, turnL_length l a bits i]
    · exact turnL_length l a bits i
theorem turnL_lt {l : List Nat} (hl : ∀ b ∈ l, b < 256) (a : Int) (bits : Nat) : ∀ i, ∀ b ∈ turnL l a bits i, b < 256
  | 0 => hl
  | i + 1 => by
    rw [turnL]
    by_cases h : isT a bits (8 * l.length) i = true
    · rw [if_pos h]
      unfold isT at h
      rw [decide_eq_true_eq] at h
      exact flipAt_lt (turnL_lt hl a bits i) (by rw [turnL_length]; omega)
    · rw [if_neg h]
      exact turnL_lt hl a bits i
theorem turnW_lt (T : Nat) (a : Int) (bits : Nat) : ∀ i, turnW T a bits i < 2 ^ i
  | 0 => by simp [turnW]
  | i + 1 => by
    have ih := turnW_lt T a bits i
    have h1 : turnW T a bits i < 2 ^ (i + 1) := Nat.lt_of_lt_of_le ih (Nat.pow_le_pow_right (by decide) (by omega))
    rw [turnW]
    split
    · exact Nat.xor_lt_two_pow h1 (Nat.pow_lt_pow_right (by decide) (by omega))
    · exact h1
theorem turn_run (l : List Nat) (a : Int) (bits : Nat) (x : Nat) : ∀ i, runN x (turnL l a bits i) = runN x l ^^^ zz (8 * l.length - a.toNat) (turnW (8 * l.length) a bits i)
  | 0 => by rw [turnL, turnW, zz_zero, Nat.xor_zero]
  | i + 1 => by
    have ih := turn_run l a bits x i
    rw [turnL, turnW]
    by_cases h : isT a bits (8 * l.length) i = true
    · rw [if_pos h, if_pos h]
      unfold isT at h
      rw [decide_eq_true_eq] at h
      have hlen := turnL_length l a bits i
      rw [runN_flip _ (by rw [hlen]; omega), ih, hlen, zz_xor, zz_bit (k := 8 * l.length - a.toNat) (i := i) (by omega), Nat.xor_assoc]
      congr 3
      omega
    · rw [if_neg h, if_neg h, ih]
theorem turnW_none (l : List Nat) (a : Int) (bits : Nat) : ∀ i, turnW (8 * l.length) a bits i = 0 → turnL l a bits i = l
  | 0, _ => rfl
  | i + 1, h => by
    rw [turnW] at h
    rw [turnL]
    by_cases h2 : isT a bits (8 * l.length) i = true
    · rw [if_pos h2] at h
      have := xor_none h
      have := turnW_lt (8 * l.length) a bits i
      omega
    · rw [if_neg h2] at h
      rw [if_neg h2]
      exact turnW_none l a bits i h
/-- A text that is turned, and was sealed, has another state. -/
theorem turn_state {l : List Nat} (a : Int) (bits : Nat) (h : turnL l a bits 32 ≠ l) (hs : runN all1 l = zz 32 all1) : runN all1 (turnL l a bits 32) ≠ zz 32 all1 := by
  intro e
  rw [turn_run, hs] at e
  have e2 : zz (8 * l.length - a.toNat) (turnW (8 * l.length) a bits 32) = 0 := by
    have := congrArg (fun z => zz 32 all1 ^^^ z) e
    simp only [xor_fwd, Nat.xor_self] at this
    exact this
  exact h (turnW_none l a bits 32 (zz_none _ (turnW_lt _ a bits 32) e2))

/-- What Open gives of bytes: the text, the error. -/
def openN (l : List Nat) : List Nat × Nat :=
  if l.length < 4 then ([], 9) else if l.drop (l.length - 4) = le 4 (sumN (l.take (l.length - 4))) then (l.take (l.length - 4), 0) else ([], 10)
theorem openN_seal (l : List Nat) : openN (sealN l) = (l, 0) := by
  have e : (sealN l).length - 4 = l.length := by unfold sealN; rw [List.length_append, le_length]; omega
  unfold openN
  rw [e, if_neg (by unfold sealN; rw [List.length_append, le_length]; omega)]
  unfold sealN
  rw [List.drop_left, List.take_left, if_pos rfl]
theorem sealN_lt {l : List Nat} (hl : ∀ b ∈ l, b < 256) : ∀ b ∈ sealN l, b < 256 := by
  intro b hb
  rcases List.mem_append.1 hb with h | h
  · exact hl b h
  · exact le_lt _ _ b h
theorem openN_turned {l : List Nat} (hl : ∀ b ∈ l, b < 256) (a : Int) (bits : Nat) (h : turnL (sealN l) a bits 32 ≠ sealN l) : openN (turnL (sealN l) a bits 32) = ([], 10) := by
  have hlen := turnL_length (sealN l) a bits 32
  have hl2 := turnL_lt (sealN_lt hl) a bits 32
  have hst := turn_state a bits h ((seal_state hl (sumN_lt hl)).2 rfl)
  generalize turnL (sealN l) a bits 32 = u at *
  have hlen4 : 4 ≤ u.length := by
    rw [hlen]; unfold sealN; rw [List.length_append, le_length]; omega
  unfold openN
  rw [if_neg (by omega), if_neg]
  intro e
  have ht : ∀ b ∈ u.take (u.length - 4), b < 256 := fun b hb => hl2 b (List.mem_of_mem_take hb)
  apply hst
  have := (seal_state ht (sumN_lt ht)).2 rfl
  rw [← e, List.take_append_drop] at this
  exact this

end Go.Proofs.Ytdigbcglokjbjaa
