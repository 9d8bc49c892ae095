/-
  The pieces that span.Cut gives back are the document's.
-/
import Derived.Test.YtaobmlkbhdonkaaDcut
namespace Go.Proofs.Ytaobmlkbhdonkaa

theorem sortI_pw (l : List Int) : (sortI l).Pairwise (· ≤ ·) := by
  have h := List.pairwise_mergeSort (le := fun x y : Int => decide (x ≤ y)) (fun a b c h1 h2 => by simp only [decide_eq_true_eq] at *; omega) (fun a b => by simp only [Bool.or_eq_true, decide_eq_true_eq]; omega) l
  exact h.imp (by simp)
theorem mem_sortI (l : List Int) (x : Int) : x ∈ sortI l ↔ x ∈ l := List.mem_mergeSort

theorem cut_fold (b : Int) : ∀ (ts : List Int) (acc : List (Int × Int)) (f : Int), ts.Pairwise (· ≤ ·) → (∀ t ∈ ts, f ≤ t ∧ t < b) → f < b →
    kept (ts.foldl (fun s t => (kept s.1 s.2 t, t)) (acc, f)).1 (ts.foldl (fun s t => (kept s.1 s.2 t, t)) (acc, f)).2 b = acc ++ pieces f (uniqF f ts ++ [b])
  | [], acc, f, _, _, hf => by simp [kept, hf, uniqF, pieces]
  | t :: ts, acc, f, hp, hm, hf => by
    obtain ⟨h1, h2⟩ := List.pairwise_cons.1 hp
    have ht := hm t (by simp)
    rw [List.foldl_cons]
    have ih := cut_fold b ts (kept acc f t) t h2 (fun u hu => ⟨h1 u hu, (hm u (by simp [hu])).2⟩) ht.2
    rw [ih]
    by_cases hlt : f < t
    · simp [kept, hlt, uniqF, pieces]
    · obtain rfl : f = t := by omega
      simp [kept, uniqF]

theorem cut_eq (a b : Int) (zs : List Int) : docCut a b zs = spanCut a b zs := by
  unfold docCut spanCut
  cases hr : rightB a b
  · rfl
  · have hab := right_yes hr
    simp only [if_true, cutL, cutSt]
    rw [cut_fold b _ [] a (sortI_pw _) (fun t ht => by
      have := (mem_sortI _ t).1 ht
      rw [List.mem_filter] at this
      simpa [hasB] using this.2) hab.2.1, List.nil_append]
    congr 2
    refine pw_ext _ _ (riseL_pw _) (uniqF_pw _ _ (sortI_pw _)) fun x => ?_
    rw [mem_riseL, mem_uniqF _ _ _ (sortI_pw _), mem_sortI, List.mem_filter, List.mem_filter]
    simp only [inB, hasB, Bool.and_eq_true, decide_eq_true_eq]
    constructor
    · rintro ⟨h1, h2, h3⟩
      exact ⟨⟨h1, by omega, h3⟩, h2⟩
    · rintro ⟨⟨h1, _, h3⟩, h4⟩
      exact ⟨h1, h4, h3⟩

end Go.Proofs.Ytaobmlkbhdonkaa
