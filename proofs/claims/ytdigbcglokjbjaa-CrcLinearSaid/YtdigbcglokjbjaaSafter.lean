import Derived.Test.YtdigbcglokjbjaaSpure
/-
  Plain facts on keys: the text that comes after all that begin with another one; a number's key.
-/
namespace Go.Proofs.Ytdigbcglokjbjaa

theorem rep_prefix : ∀ (k : Nat) (s : List Nat), (∀ b ∈ s, b < 256) → (List.replicate k 255 <+: s ↔ lessN s (List.replicate k 255) = false)
  | 0, s, _ => by simp [lessN_nil]
  | k + 1, [], _ => by simp [List.replicate_succ, lessN]
  | k + 1, c :: r, h => by
    have hc := h c List.mem_cons_self
    have ih := rep_prefix k r fun b hb => h b (List.mem_cons_of_mem _ hb)
    rw [List.replicate_succ, List.cons_prefix_cons, ih, lessN, Bool.or_eq_false_iff, Bool.and_eq_false_iff, decide_eq_false_iff_not, beq_eq_false_iff_ne]
    constructor
    · rintro ⟨rfl, h2⟩; exact ⟨by omega, .inr h2⟩
    · rintro ⟨h1, h2⟩
      have : c = 255 := by omega
      subst this
      exact ⟨rfl, h2.resolve_left fun h => h rfl⟩
/-- q and a byte x below 255, and then bytes 255 alone: what begins so is not less than that, and less than q and x + 1. -/
theorem after_prefix (k x : Nat) : ∀ (q s : List Nat), (∀ b ∈ s, b < 256) →
    ((q ++ x :: List.replicate k 255) <+: s ↔ lessN s (q ++ x :: List.replicate k 255) = false ∧ lessN s (q ++ [x + 1]) = true)
  | [], [], _ => by simp [lessN]
  | [], c :: r, h => by
    have ih := rep_prefix k r fun b hb => h b (List.mem_cons_of_mem _ hb)
    rw [List.nil_append, List.nil_append, List.cons_prefix_cons, ih, lessN, lessN, lessN_nil, Bool.or_eq_false_iff, Bool.and_eq_false_iff, decide_eq_false_iff_not, beq_eq_false_iff_ne]
    simp only [Bool.and_false, Bool.or_false, decide_eq_true_eq]
    constructor
    · rintro ⟨rfl, h2⟩; exact ⟨⟨by omega, .inr h2⟩, by omega⟩
    · rintro ⟨⟨h1, h2⟩, h3⟩
      have : x = c := by omega
      subst this
      exact ⟨rfl, h2.resolve_left fun h => h rfl⟩
  | b :: q, [], _ => by simp [lessN]
  | b :: q, c :: r, h => by
    have ih := after_prefix k x q r fun b hb => h b (List.mem_cons_of_mem _ hb)
    rw [List.cons_append, List.cons_append, List.cons_prefix_cons, ih, lessN, lessN, Bool.or_eq_false_iff, Bool.and_eq_false_iff, decide_eq_false_iff_not, beq_eq_false_iff_ne]
    simp only [Bool.or_eq_true, decide_eq_true_eq, Bool.and_eq_true, beq_iff_eq]
    constructor
    · rintro ⟨rfl, h2, h3⟩; exact ⟨⟨by omega, .inr h2⟩, .inr ⟨rfl, h3⟩⟩
    · rintro ⟨⟨h1, h2⟩, h3⟩
      have : b = c := by omega
      subst this
      refine ⟨rfl, h2.resolve_left fun h => h rfl, ?_⟩
      rcases h3 with h3 | h3
      · omega
      · exact h3.2
theorem after_more (k x : Nat) (q : List Nat) : lessN (q ++ x :: List.replicate k 255) (q ++ [x + 1]) = true :=
  (lessN_diff ⟨q, x, x + 1, _, _, rfl, rfl, by omega⟩).1

/-- The key of a number. -/
def upI (n : Int) : Nat := (n + 9223372036854775808).toNat
def keyI (n : Int) : List Nat := be 8 (upI n)
def isI (n : Int) : Prop := -9223372036854775808 ≤ n ∧ n ≤ 9223372036854775807
theorem upI_lt {n : Int} (h : isI n) : upI n < 256 ^ 8 := by unfold upI isI at *; omega
theorem keyI_length (n : Int) : (keyI n).length = 8 := be_length _ _
theorem keyI_lt (n : Int) : ∀ b ∈ keyI n, b < 256 := be_lt _ _
theorem keyI_val {n : Int} (h : isI n) : val (keyI n) = upI n := by rw [keyI, val_be, Nat.mod_eq_of_lt (upI_lt h)]
theorem keyI_diff {n m : Int} (hn : isI n) (hm : isI m) (h : n < m) : Diff (keyI n) (keyI m) := by
  refine be_diff _ _ _ ?_
  rw [Nat.mod_eq_of_lt (upI_lt hn), Nat.mod_eq_of_lt (upI_lt hm)]
  unfold upI isI at *
  omega
theorem keyI_less {n m : Int} (hn : isI n) (hm : isI m) : lessN (keyI n) (keyI m) = decide (n < m) := by
  rcases Int.lt_trichotomy n m with h | h | h
  · rw [(lessN_diff (keyI_diff hn hm h)).1]; simp [h]
  · subst h; rw [lessN_self]; simp
  · have : ¬ n < m := by omega
    rw [(lessN_diff (keyI_diff hm hn h)).2]; simp [this]
theorem keyI_inj {n m : Int} (hn : isI n) (hm : isI m) (h : keyI n = keyI m) : n = m := by
  have := congrArg val h
  rw [keyI_val hn, keyI_val hm] at this
  unfold upI isI at *
  omega
/-- Eight bytes as a number with a sign. -/
def downI (l : List Nat) : Int := (val l : Int) - 9223372036854775808
theorem downI_key {n : Int} (h : isI n) : downI (keyI n) = n := by
  rw [downI, keyI_val h]
  unfold upI isI at *
  omega

/-- The least text that is greater than all that begin with a text, if there is one. -/
def aftL : List Nat → Option (List Nat)
  | [] => none
  | b :: l => match aftL l with
    | some t => some (b :: t)
    | none => if b = 255 then none else some [b + 1]
theorem aftL_none : ∀ p : List Nat, aftL p = none → ∃ k, p = List.replicate k 255
  | [], _ => ⟨0, rfl⟩
  | b :: l, h => by
    unfold aftL at h
    cases h2 : aftL l with
    | some t => rw [h2] at h; cases h
    | none =>
      rw [h2] at h
      by_cases hb : b = 255
      · obtain ⟨k, rfl⟩ := aftL_none l h2
        exact ⟨k + 1, by rw [hb]; rfl⟩
      · simp only [if_neg hb] at h; cases h
theorem aftL_some : ∀ p t : List Nat, aftL p = some t → ∃ q x k, p = q ++ x :: List.replicate k 255 ∧ t = q ++ [x + 1] ∧ x ≠ 255
  | [], _, h => by cases h
  | b :: l, t, h => by
    unfold aftL at h
    cases h2 : aftL l with
    | some t' =>
      rw [h2] at h
      obtain rfl : b :: t' = t := Option.some.inj h
      obtain ⟨q, x, k, h3, h4, h5⟩ := aftL_some l t' h2
      exact ⟨b :: q, x, k, by rw [h3]; rfl, by rw [h4]; rfl, h5⟩
    | none =>
      rw [h2] at h
      by_cases hb : b = 255
      · simp only [if_pos hb] at h; cases h
      · simp only [if_neg hb] at h
        obtain ⟨k, rfl⟩ := aftL_none l h2
        exact ⟨[], b, k, rfl, (Option.some.inj h).symm, hb⟩
theorem aftL_rep : ∀ k : Nat, aftL (List.replicate k 255) = none
  | 0 => rfl
  | k + 1 => by rw [List.replicate_succ, aftL, aftL_rep k]; rfl
theorem aftL_is : ∀ (q : List Nat) (x k : Nat), x ≠ 255 → aftL (q ++ x :: List.replicate k 255) = some (q ++ [x + 1])
  | [], x, k, h => by rw [List.nil_append, aftL, aftL_rep k]; simp [h]
  | b :: q, x, k, h => by rw [List.cons_append, aftL, aftL_is q x k h]; rfl

end Go.Proofs.Ytdigbcglokjbjaa
