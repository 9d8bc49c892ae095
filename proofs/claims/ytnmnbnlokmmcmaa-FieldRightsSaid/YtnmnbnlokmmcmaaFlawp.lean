/-
  Plain facts for the laws of fields: what is made may be; the chapter's examples.
-/
import Derived.Test.YtnmnbnlokmmcmaaFbpure
namespace Go.Proofs.Ytnmnbnlokmmcmaa

theorem layL_length : ∀ (l : List Fd) (f : Fd), (layL l f).length ≤ l.length + 1
  | [], _ => Nat.le_refl _
  | g :: l, f => by
    rw [layL]
    split
    · rw [List.length_cons, List.length_cons]; have := layL_length l f; omega
    · split
      · rw [List.length_cons, List.length_cons]; omega
      · rw [List.length_cons, List.length_cons]; omega
theorem foldl_length : ∀ (l a : List Fd), (l.foldl layL a).length ≤ a.length + l.length
  | [], _ => Nat.le_refl _
  | f :: l, a => by
    rw [List.foldl_cons, List.length_cons]
    have h1 := foldl_length l (layL a f)
    have h2 := layL_length a f
    omega
theorem overL_length (l : List Fd) : (overL l).length ≤ l.length := by have := foldl_length l []; rw [List.length_nil] at this; unfold overL; omega
theorem overL_snoc (l : List Fd) (f : Fd) : overL (l ++ [f]) = layL (overL l) f := by unfold overL; rw [List.foldl_append]; rfl
theorem foldl_mem : ∀ (l a : List Fd) (g : Fd), g ∈ l.foldl layL a → g ∈ a ∨ g ∈ l
  | [], _, _, h => .inl h
  | f :: l, a, g, h => by
    rcases foldl_mem l (layL a f) g h with h | h
    · rcases layL_mem a f g h with rfl | h
      · exact .inr List.mem_cons_self
      · exact .inl h
    · exact .inr (List.mem_cons_of_mem _ h)
theorem overL_mem {l : List Fd} {g : Fd} (h : g ∈ overL l) : g ∈ l := by
  rcases foldl_mem l [] g h with h | h
  · simp at h
  · exact h
theorem firstE_all : ∀ l : List Fd, firstE l = 0 → ∀ f ∈ l, oneE f = 0
  | [], _, f, hf => by simp at hf
  | g :: l, h, f, hf => by
    rw [firstE] at h
    by_cases h1 : oneE g = 0
    · rw [if_pos h1] at h
      rcases List.mem_cons.1 hf with rfl | hf
      · exact h1
      · exact firstE_all l h f hf
    · rw [if_neg h1] at h; exact absurd h h1
theorem rises_right : ∀ (l : List Fd) (o : Option ByteArray), Rises l → (∀ f ∈ l, oneE f = 0) → (∀ p, o = some p → ∀ f ∈ l, aheadB p f.n = true) → rightG o l = 0
  | [], o, _, _, _ => by cases o <;> rfl
  | f :: l, o, h, h1, h2 => by
    have h0 := h1 f List.mem_cons_self
    have ih := rises_right l (some f.n) h.2 (fun g hg => h1 g (List.mem_cons_of_mem _ hg)) (fun p hp g hg => by cases hp; exact h.1 g hg)
    cases o with
    | none => rw [rightG_none, if_pos h0, ih]
    | some p => rw [rightG_some, if_pos h0, if_pos (h2 p rfl f List.mem_cons_self), ih]
theorem make_big {l : List Fd} (h : 8 < l.length) : makeF l = ([], 4) := by unfold makeF; rw [if_pos h]
theorem make_bad {l : List Fd} (h : ¬ 8 < l.length) (h2 : firstE l ≠ 0) : makeF l = ([], firstE l) := by unfold makeF; rw [if_neg h, if_neg h2]
theorem make_twice {l : List Fd} (h : ¬ 8 < l.length) (h2 : firstE l = 0) (h3 : (overL l).length ≠ l.length) : makeF l = ([], 7) := by unfold makeF; rw [if_neg h, if_pos h2, if_neg h3]
theorem make_good {l : List Fd} (h : ¬ 8 < l.length) (h2 : firstE l = 0) (h3 : (overL l).length = l.length) : makeF l = (overL l, 0) := by unfold makeF; rw [if_neg h, if_pos h2, if_pos h3]
/-- What is made may be. -/
theorem make_right {l : List Fd} (h : (makeF l).2 = 0) : rightE (makeF l).1 = 0 := by
  by_cases h8 : 8 < l.length
  · rw [make_big h8] at h; cases h
  · by_cases h2 : firstE l = 0
    · by_cases h3 : (overL l).length = l.length
      · rw [make_good h8 h2 h3]
        unfold rightE
        rw [if_neg (by show ¬ 8 < (overL l).length; omega)]
        exact rises_right _ none (overL_rises l) (fun f hf => firstE_all l h2 f (overL_mem hf)) (fun p hp => by cases hp)
      · rw [make_twice h8 h2 h3] at h; cases h
    · rw [make_bad h8 h2] at h; exact absurd h h2
theorem make_length (l : List Fd) : (makeF l).1.length ≤ 8 := by
  by_cases h8 : 8 < l.length
  · rw [make_big h8]; decide
  · by_cases h2 : firstE l = 0
    · by_cases h3 : (overL l).length = l.length
      · rw [make_good h8 h2 h3]; show (overL l).length ≤ 8; omega
      · rw [make_twice h8 h2 h3]; decide
    · rw [make_bad h8 h2]; exact Nat.zero_le _
theorem right_length {l : List Fd} (h : rightE l = 0) : l.length ≤ 8 := by
  unfold rightE at h
  by_cases h8 : 8 < l.length
  · rw [if_pos h8] at h; cases h
  · omega
theorem take_length (s : ByteArray) : (takeF s).1.length ≤ 8 := by
  by_cases h : (takeF s).2.2 = 0
  · exact right_length (putF_take h).1
  · have e : (takeF s).1 = [] := by
      unfold takeF at h ⊢
      by_cases h1 : tkE s ≠ 0
      · rw [if_pos h1]
      · rw [if_neg h1] at h ⊢
        by_cases h2 : 8 < tkN s
        · rw [if_pos h2]
        · rw [if_neg h2] at h ⊢
          rw [takeG_err h]
    rw [e]; decide

/-- The chapter's examples. -/
def nA : ByteArray := ⟨#[97]⟩
def nB : ByteArray := ⟨#[98]⟩
def nC : ByteArray := ⟨#[99]⟩
theorem example_over : overL ([[⟨nA, 1⟩, ⟨nB, 2⟩], [⟨nB, 3⟩, ⟨nC, 4⟩]] : List (List Fd)).flatten = [⟨nA, 1⟩, ⟨nB, 3⟩, ⟨nC, 4⟩] := by
  have h1 : aheadB nA nB = true := by decide +kernel
  have h2 : aheadB nB nB = false := by decide +kernel
  have h3 : aheadB nB nC = true := by decide +kernel
  have h4 : aheadB nA nC = true := by decide +kernel
  have h5 : aheadB nB nA = false := by decide +kernel
  simp [overL, layL, h1, h2, h3, h4]
theorem example_put : rightE [⟨nA, 1⟩] = 0 ∧ putS [⟨nA, 1⟩] = ⟨#[1, 1, 97, 2]⟩ := by
  have h : rightE [⟨nA, 1⟩] = 0 := by decide +kernel
  refine ⟨h, ?_⟩
  unfold putS
  rw [if_pos h]
  decide +kernel

end Go.Proofs.Ytnmnbnlokmmcmaa
