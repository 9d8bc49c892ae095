/-
  Plain facts on lists of numbers: numbers put in one by one, each once, rising; and the pieces of a span that is cut at sorted times.
-/
namespace Go.Proofs.Ytmfkcbanjlmmhaa

/-- Put a number where it belongs, unless it is there. -/
def insU (x : Int) : List Int → List Int
  | [] => [x]
  | y :: ys => if y < x then y :: insU x ys else if y = x then y :: ys else x :: y :: ys
/-- The numbers of a list, each once, rising. -/
def riseL (l : List Int) : List Int := l.foldl (fun o x => insU x o) []

theorem mem_insU (x y : Int) : ∀ l : List Int, y ∈ insU x l ↔ y = x ∨ y ∈ l
  | [] => by simp [insU]
  | z :: zs => by
    unfold insU
    split
    · simp only [List.mem_cons, mem_insU x y zs]
      constructor
      · rintro (h | h | h) <;> simp [h]
      · rintro (h | h | h) <;> simp [h]
    · split
      · rename_i h
        subst h
        simp
      · simp
theorem insU_pw (x : Int) : ∀ l : List Int, l.Pairwise (· < ·) → (insU x l).Pairwise (· < ·)
  | [], _ => by simp [insU]
  | z :: zs, h => by
    obtain ⟨h1, h2⟩ := List.pairwise_cons.1 h
    unfold insU
    split
    · refine List.pairwise_cons.2 ⟨fun y hy => ?_, insU_pw x zs h2⟩
      rcases (mem_insU x y zs).1 hy with rfl | hy
      · assumption
      · exact h1 y hy
    · split
      · exact h
      · refine List.pairwise_cons.2 ⟨fun y hy => ?_, h⟩
        rcases List.mem_cons.1 hy with rfl | hy
        · omega
        · have := h1 y hy
          omega
theorem fold_mem (l : List Int) : ∀ (o : List Int) (y : Int), y ∈ l.foldl (fun o x => insU x o) o ↔ y ∈ o ∨ y ∈ l := by
  induction l with
  | nil => simp
  | cons x l ih =>
    intro o y
    rw [List.foldl_cons, ih, mem_insU, List.mem_cons]
    constructor
    · rintro ((h | h) | h) <;> simp [h]
    · rintro (h | h | h) <;> simp [h]
theorem fold_pw (l : List Int) : ∀ o : List Int, o.Pairwise (· < ·) → (l.foldl (fun o x => insU x o) o).Pairwise (· < ·) := by
  induction l with
  | nil => exact fun _ h => h
  | cons x l ih => exact fun o h => ih _ (insU_pw x o h)
theorem mem_riseL (l : List Int) (y : Int) : y ∈ riseL l ↔ y ∈ l := by simp [riseL, fold_mem]
theorem riseL_pw (l : List Int) : (riseL l).Pairwise (· < ·) := fold_pw l [] List.Pairwise.nil
theorem riseL_snoc (l : List Int) (x : Int) : riseL (l ++ [x]) = insU x (riseL l) := by simp [riseL]
theorem insU_length (x : Int) : ∀ l : List Int, (insU x l).length ≤ l.length + 1
  | [] => by simp [insU]
  | z :: zs => by
    have := insU_length x zs
    unfold insU
    split
    · simp; omega
    · split <;> simp
theorem fold_length (l : List Int) : ∀ o : List Int, (l.foldl (fun o x => insU x o) o).length ≤ o.length + l.length := by
  induction l with
  | nil => simp
  | cons x l ih =>
    intro o
    have h1 := ih (insU x o)
    have h2 := insU_length x o
    simp only [List.foldl_cons, List.length_cons]
    omega
theorem riseL_length (l : List Int) : (riseL l).length ≤ l.length := by simpa [riseL] using fold_length l []

/-- All numbers ahead of place k are less, the one there is not: so the number belongs there. -/
theorem insU_at {x : Int} : ∀ {l : List Int} {k : Nat}, (∀ j y, j < k → l[j]? = some y → y < x) → k ≤ l.length → (∀ y, l[k]? = some y → x < y) → insU x l = l.take k ++ x :: l.drop k
  | [], k, _, hk, _ => by
    obtain rfl : k = 0 := by simpa using hk
    simp [insU]
  | z :: zs, 0, _, _, h => by
    have := h z (by simp)
    unfold insU
    rw [if_neg (by omega), if_neg (by omega)]
    simp
  | z :: zs, k + 1, h, hk, hg => by
    have := h 0 z (by omega) (by simp)
    unfold insU
    rw [if_pos this, insU_at (k := k) (fun j y hj hy => h (j + 1) y (by omega) (by simpa using hy)) (by simpa using hk) (fun y hy => hg y (by simpa using hy))]
    simp
theorem insU_same {x : Int} : ∀ {l : List Int} {k : Nat}, (∀ j y, j < k → l[j]? = some y → y < x) → l[k]? = some x → insU x l = l
  | [], k, _, h => by simp at h
  | z :: zs, 0, _, h => by
    obtain rfl : z = x := by simpa using h
    unfold insU
    rw [if_neg (by omega), if_pos rfl]
  | z :: zs, k + 1, h, hx => by
    have := h 0 z (by omega) (by simp)
    unfold insU
    rw [if_pos this, insU_same (k := k) (fun j y hj hy => h (j + 1) y (by omega) (by simpa using hy)) (by simpa using hx)]

/-- Two rising lists with the same numbers are one. -/
theorem pw_ext : ∀ l m : List Int, l.Pairwise (· < ·) → m.Pairwise (· < ·) → (∀ x, x ∈ l ↔ x ∈ m) → l = m
  | [], [], _, _, _ => rfl
  | [], y :: ys, _, _, h => by have := (h y).2 (by simp); simp at this
  | x :: xs, [], _, _, h => by have := (h x).1 (by simp); simp at this
  | x :: xs, y :: ys, hl, hm, h => by
    obtain ⟨h1, h2⟩ := List.pairwise_cons.1 hl
    obtain ⟨h3, h4⟩ := List.pairwise_cons.1 hm
    have hxy : x = y := by
      rcases List.mem_cons.1 ((h x).1 (by simp)) with e | e
      · exact e
      · rcases List.mem_cons.1 ((h y).2 (by simp)) with e' | e'
        · exact e'.symm
        · have := h3 x e
          have := h1 y e'
          omega
    subst hxy
    rw [pw_ext xs ys h2 h4 fun z => ⟨fun hz => ?_, fun hz => ?_⟩]
    · have := h1 z hz
      rcases List.mem_cons.1 ((h z).1 (by simp [hz])) with e | e
      · omega
      · exact e
    · have := h3 z hz
      rcases List.mem_cons.1 ((h z).2 (by simp [hz])) with e | e
      · omega
      · exact e

/-- Of a sorted list, what is above f, each once. -/
def uniqF : Int → List Int → List Int
  | _, [] => []
  | f, t :: ts => if f < t then t :: uniqF t ts else uniqF f ts

theorem mem_uniqF : ∀ (l : List Int) (f y : Int), l.Pairwise (· ≤ ·) → (y ∈ uniqF f l ↔ y ∈ l ∧ f < y)
  | [], f, y, _ => by simp [uniqF]
  | t :: ts, f, y, h => by
    obtain ⟨h1, h2⟩ := List.pairwise_cons.1 h
    unfold uniqF
    split
    · rw [List.mem_cons, mem_uniqF ts t y h2, List.mem_cons]
      constructor
      · rintro (rfl | ⟨h3, h4⟩)
        · exact ⟨.inl rfl, by assumption⟩
        · exact ⟨.inr h3, by omega⟩
      · rintro ⟨rfl | h3, h4⟩
        · exact .inl rfl
        · have := h1 y h3
          by_cases e : y = t
          · exact .inl e
          · exact .inr ⟨h3, by omega⟩
    · rw [mem_uniqF ts f y h2, List.mem_cons]
      constructor
      · rintro ⟨h3, h4⟩
        exact ⟨.inr h3, h4⟩
      · rintro ⟨rfl | h3, h4⟩
        · omega
        · exact ⟨h3, h4⟩
theorem uniqF_pw : ∀ (l : List Int) (f : Int), l.Pairwise (· ≤ ·) → (uniqF f l).Pairwise (· < ·)
  | [], f, _ => by simp [uniqF]
  | t :: ts, f, h => by
    obtain ⟨h1, h2⟩ := List.pairwise_cons.1 h
    unfold uniqF
    split
    · exact List.pairwise_cons.2 ⟨fun y hy => ((mem_uniqF ts t y h2).1 hy).2, uniqF_pw ts t h2⟩
    · exact uniqF_pw ts f h2

/-- The pieces from f on, each one up to the next of the times. -/
def pieces : Int → List Int → List (Int × Int)
  | _, [] => []
  | f, t :: ts => (f, t) :: pieces t ts
theorem pieces_snoc : ∀ (l : List Int) (f t : Int), pieces f (l ++ [t]) = pieces f l ++ [((l.getLast?).getD f, t)]
  | [], f, t => by simp [pieces]
  | x :: xs, f, t => by
    rw [List.cons_append, pieces, pieces_snoc xs x t, pieces]
    rcases xs with _ | ⟨y, ys⟩ <;> simp [List.getLast?_cons]
theorem pieces_length : ∀ (l : List Int) (f : Int), (pieces f l).length = l.length
  | [], f => rfl
  | t :: ts, f => by simp [pieces, pieces_length ts t]

end Go.Proofs.Ytmfkcbanjlmmhaa
