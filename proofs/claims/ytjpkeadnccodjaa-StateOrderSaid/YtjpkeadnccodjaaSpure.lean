import Derived.Test.YtjpkeadnccodjaaPstr
/-
  Plain facts on keys: a text's key byte by byte, its order, and what is taken of bytes as a text.
-/
namespace Go.Proofs.Ytjpkeadnccodjaa

/-- Byte by byte the first list is less. -/
def lessN : List Nat → List Nat → Bool
  | _, [] => false
  | [], _ :: _ => true
  | a :: l, b :: m => decide (a < b) || a == b && lessN l m
theorem lessN_nil (l : List Nat) : lessN l [] = false := by cases l <;> rfl
theorem lessN_self : ∀ l : List Nat, lessN l l = false
  | [] => rfl
  | a :: l => by rw [lessN, lessN_self l]; simp
theorem lessN_diff {l m : List Nat} (h : Diff l m) : lessN l m = true ∧ lessN m l = false := by
  obtain ⟨p, x, y, l', m', rfl, rfl, hxy⟩ := h
  induction p with
  | nil =>
    have h2 : ¬ y < x := by omega
    have h3 : ¬ y = x := by omega
    simp [lessN, hxy, h2, h3]
  | cons b p ih => simp [lessN, ih.1, ih.2]
/-- One of two lists is less, or they are the same. -/
theorem lessN_or : ∀ l m : List Nat, lessN l m = true ∨ lessN m l = true ∨ l = m
  | [], [] => .inr (.inr rfl)
  | [], _ :: _ => .inl rfl
  | _ :: _, [] => .inr (.inl rfl)
  | a :: l, b :: m => by
    rcases Nat.lt_trichotomy a b with h | h | h
    · exact .inl (by simp [lessN, h])
    · subst h
      rcases lessN_or l m with h | h | h
      · exact .inl (by simp [lessN, h])
      · exact .inr (.inl (by simp [lessN, h]))
      · exact .inr (.inr (by rw [h]))
    · exact .inr (.inl (by simp [lessN, h]))
theorem lessN_not : ∀ l m : List Nat, lessN l m = true → lessN m l = false
  | _, [], h => by rw [lessN_nil] at h; cases h
  | [], b :: m, _ => rfl
  | a :: l, b :: m, h => by
    simp only [lessN, Bool.or_eq_true, decide_eq_true_eq, Bool.and_eq_true, beq_iff_eq] at h
    rcases h with h | ⟨h, h'⟩
    · have h1 : ¬ b < a := by omega
      have h2 : ¬ b = a := by omega
      simp [lessN, h1, h2]
    · subst h
      simp [lessN, lessN_not l m h']
/-- Texts are compared as their bytes. -/
theorem less_nats (a b : ByteArray) : Op.bytesLess a.toList b.toList = lessN (nats a) (nats b) := by
  rw [ByteArray.toList_eq, ByteArray.toList_eq, nats, nats]
  generalize a.data.toList = l
  generalize b.data.toList = m
  induction l generalizing m with
  | nil => cases m <;> rfl
  | cons x l ih =>
    cases m with
    | nil => rfl
    | cons y m =>
      rw [Op.bytesLess, List.map_cons, List.map_cons, lessN, ih m]
      congr 1
      congr 1
      rw [Bool.eq_iff_iff]
      simp only [beq_iff_eq]
      exact UInt8.toNat_inj.symm

/-- The key of a text. -/
def esc : List Nat → List Nat
  | [] => []
  | 0 :: l => 0 :: 255 :: esc l
  | (c + 1) :: l => (c + 1) :: esc l
def keyT (l : List Nat) : List Nat := esc l ++ [0, 0]
theorem esc_append : ∀ l m : List Nat, esc (l ++ m) = esc l ++ esc m
  | [], _ => rfl
  | 0 :: l, m => by rw [List.cons_append, esc, esc, esc_append l m]; rfl
  | (c + 1) :: l, m => by rw [List.cons_append, esc, esc, esc_append l m]; rfl
theorem esc_lt : ∀ l : List Nat, (∀ b ∈ l, b < 256) → ∀ b ∈ esc l, b < 256
  | [], _ => by simp [esc]
  | 0 :: l, h => by
    intro b hb
    rw [esc] at hb
    rcases List.mem_cons.1 hb with rfl | hb
    · omega
    · rcases List.mem_cons.1 hb with rfl | hb
      · omega
      · exact esc_lt l (fun c hc => h c (List.mem_cons_of_mem _ hc)) b hb
  | (c + 1) :: l, h => by
    intro b hb
    rw [esc] at hb
    rcases List.mem_cons.1 hb with rfl | hb
    · exact h _ List.mem_cons_self
    · exact esc_lt l (fun c hc => h c (List.mem_cons_of_mem _ hc)) b hb
theorem esc_length : ∀ l : List Nat, l.length ≤ (esc l).length ∧ (esc l).length ≤ 2 * l.length
  | [] => by simp [esc]
  | 0 :: l => by have := esc_length l; simp [esc]; omega
  | (c + 1) :: l => by have := esc_length l; simp [esc]; omega
theorem keyT_cons0 (l : List Nat) : keyT (0 :: l) = 0 :: 255 :: keyT l := rfl
theorem keyT_cons (c : Nat) (l : List Nat) : keyT ((c + 1) :: l) = (c + 1) :: keyT l := rfl
theorem keyT_nil : keyT [] = [0, 0] := rfl
/-- Of two texts the lesser one's key is less, and neither begins with the other one's. -/
theorem keyT_diff : ∀ l m : List Nat, lessN l m = true → Diff (keyT l) (keyT m)
  | _, [], h => by rw [lessN_nil] at h; cases h
  | [], 0 :: m, _ => ⟨[0], 0, 255, _, _, rfl, rfl, by decide⟩
  | [], (c + 1) :: m, _ => ⟨[], 0, c + 1, _, _, rfl, rfl, by omega⟩
  | 0 :: l, 0 :: m, h => by
    rw [keyT_cons0, keyT_cons0]
    exact ((keyT_diff l m (by simpa [lessN] using h)).cons _).cons _
  | 0 :: l, (c + 1) :: m, _ => ⟨[], 0, c + 1, _, _, rfl, rfl, by omega⟩
  | (c + 1) :: l, 0 :: m, h => by simp [lessN] at h
  | (c + 1) :: l, (d + 1) :: m, h => by
    rw [keyT_cons, keyT_cons]
    simp only [lessN, Bool.or_eq_true, decide_eq_true_eq, Bool.and_eq_true, beq_iff_eq] at h
    rcases h with h | ⟨h, h'⟩
    · exact ⟨[], _, _, _, _, rfl, rfl, h⟩
    · rw [h]; exact (keyT_diff l m h').cons _
theorem keyT_less (l m : List Nat) : lessN (keyT l) (keyT m) = lessN l m := by
  rcases lessN_or l m with h | h | h
  · rw [h, (lessN_diff (keyT_diff l m h)).1]
  · rw [lessN_not _ _ h, (lessN_diff (keyT_diff m l h)).2]
  · subst h; rw [lessN_self, lessN_self]
theorem Diff.not_prefix {l m : List Nat} (h : Diff l m) : ¬ l <+: m ∧ ¬ m <+: l := by
  obtain ⟨p, x, y, l', m', rfl, rfl, hxy⟩ := h
  constructor <;> intro k <;> rw [List.prefix_append_right_inj, List.cons_prefix_cons] at k <;> omega
/-- A key begins with another one just if it is the same. -/
theorem keyT_prefix (l m : List Nat) : keyT m <+: keyT l ↔ l = m := by
  constructor
  · intro h
    rcases lessN_or l m with h' | h' | h'
    · exact absurd h (keyT_diff l m h').not_prefix.2
    · exact absurd h (keyT_diff m l h').not_prefix.1
    · exact h'
  · rintro rfl; exact List.prefix_refl _

/-- What bytes begin with, as a text: it, what is behind it, the error. -/
def takT : List Nat → List Nat × List Nat × Nat
  | [] => ([], [], 9)
  | [0] => ([], [], 9)
  | 0 :: 0 :: r => ([], r, 0)
  | 0 :: (d + 1) :: r => if d = 254 then (if (takT r).2.2 = 0 then (0 :: (takT r).1, (takT r).2.1, 0) else ([], [], (takT r).2.2)) else ([], [], 8)
  | (c + 1) :: r => if (takT r).2.2 = 0 then ((c + 1) :: (takT r).1, (takT r).2.1, 0) else ([], [], (takT r).2.2)
theorem takT_key : ∀ l b : List Nat, takT (keyT l ++ b) = (l, b, 0)
  | [], b => rfl
  | 0 :: l, b => by
    rw [keyT_cons0, List.cons_append, List.cons_append, takT, if_pos rfl, takT_key l b, if_pos rfl]
  | (c + 1) :: l, b => by
    rw [keyT_cons, List.cons_append, takT, takT_key l b, if_pos rfl]
theorem takT_err : ∀ s : List Nat, (takT s).2.2 = 0 ∨ takT s = ([], [], 8) ∨ takT s = ([], [], 9)
  | [] => .inr (.inr rfl)
  | [0] => .inr (.inr rfl)
  | 0 :: 0 :: r => .inl rfl
  | 0 :: (d + 1) :: r => by
    rw [takT]
    by_cases h : d = 254
    · rw [if_pos h]
      by_cases h2 : (takT r).2.2 = 0
      · rw [if_pos h2]; exact .inl rfl
      · rw [if_neg h2]
        rcases takT_err r with h3 | h3 | h3
        · exact absurd h3 h2
        · rw [h3]; exact .inr (.inl rfl)
        · rw [h3]; exact .inr (.inr rfl)
    · rw [if_neg h]; exact .inr (.inl rfl)
  | (c + 1) :: r => by
    rw [takT]
    by_cases h2 : (takT r).2.2 = 0
    · rw [if_pos h2]; exact .inl rfl
    · rw [if_neg h2]
      rcases takT_err r with h3 | h3 | h3
      · exact absurd h3 h2
      · rw [h3]; exact .inr (.inl rfl)
      · rw [h3]; exact .inr (.inr rfl)

end Go.Proofs.Ytjpkeadnccodjaa
