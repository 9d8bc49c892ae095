/-
  Plain facts on what the first of two spans has alone: none of it meets the second; with what both have, each time of the first is in one part alone, and the parts are as long as the whole.
-/
import Derived.Test.YtaobmlkbhdonkaaFrame
namespace Go.Proofs.Ytaobmlkbhdonkaa

/-- Of some spans, how many have the time; how long they are together. -/
def cntL (l : List (Int × Int)) (t : Int) : Int := ((l.filter fun p => hasB p.1 p.2 t).length : Nat)
def lenL (l : List (Int × Int)) : Int := (l.map fun p => longI p.1 p.2).sum
def cntM (a b c d t : Int) : Int := if meetB a b c d then (if hasB (meetF a b c d) (meetT a b c d) t then 1 else 0) else 0
def lenM (a b c d : Int) : Int := if meetB a b c d then longI (meetF a b c d) (meetT a b c d) else 0

theorem minus_shape {a b c d : Int} (ha : rightB a b = true) (hc : rightB c d = true) :
    (meetB a b c d = false ∧ minusL a b c d = [(a, b)]) ∨ ∃ x y, meetB a b c d = true ∧ meetF a b c d = x ∧ meetT a b c d = y ∧ x = max a c ∧ y = min b d ∧ x < y ∧
      ((a < x ∧ y < b ∧ minusL a b c d = [(a, x), (y, b)]) ∨ (a < x ∧ y = b ∧ minusL a b c d = [(a, x)]) ∨ (a = x ∧ y < b ∧ minusL a b c d = [(y, b)]) ∨ (a = x ∧ y = b ∧ minusL a b c d = [])) := by
  cases hm : meetB a b c d
  · exact .inl ⟨rfl, by simp [minusL, ha, hm]⟩
  · have hlt : max a c < min b d := by
      have := hm
      simp only [meetB, ha, hc, Bool.true_and, decide_eq_true_eq] at this
      exact this
    refine .inr ⟨max a c, min b d, rfl, by simp [meetF, hm], by simp [meetT, hm], rfl, rfl, hlt, ?_⟩
    by_cases h1 : a < max a c
    · by_cases h2 : min b d < b
      · exact .inl ⟨h1, h2, by simp only [minusL, ha, hm, if_true, kept, if_pos h1, if_pos h2]; rfl⟩
      · exact .inr (.inl ⟨h1, by omega, by simp only [minusL, ha, hm, if_true, kept, if_pos h1, if_neg h2]; rfl⟩)
    · by_cases h2 : min b d < b
      · exact .inr (.inr (.inl ⟨by omega, h2, by simp only [minusL, ha, hm, if_true, kept, if_neg h1, if_pos h2]; rfl⟩))
      · exact .inr (.inr (.inr ⟨by omega, by omega, by simp only [minusL, ha, hm, if_true, kept, if_neg h1, if_neg h2]⟩))

theorem meet_false {a b c d : Int} (h : ¬ max a c < min b d) : meetB a b c d = false := by
  simp only [meetB, Bool.and_eq_false_iff, decide_eq_false_iff_not]
  exact .inr h

theorem minus_apart {a b c d : Int} (ha : rightB a b = true) (hc : rightB c d = true) (p : Int × Int) (hp : p ∈ minusL a b c d) : meetB p.1 p.2 c d = false ∧ rightB p.1 p.2 = true := by
  have h1 := right_yes ha
  have h2 := right_yes hc
  rcases minus_shape ha hc with ⟨hm, e⟩ | ⟨x, y, hm, _, _, hx, hy, hlt, h⟩
  · rw [e] at hp
    obtain rfl : p = (a, b) := by simpa using hp
    exact ⟨hm, ha⟩
  · have hA : a < x → meetB a x c d = false ∧ rightB a x = true := fun h => ⟨meet_false (by omega), by simp [rightB]; omega⟩
    have hB : y < b → meetB y b c d = false ∧ rightB y b = true := fun h => ⟨meet_false (by omega), by simp [rightB]; omega⟩
    rcases h with ⟨k1, k2, e⟩ | ⟨k1, k2, e⟩ | ⟨k1, k2, e⟩ | ⟨k1, k2, e⟩
    · rw [e] at hp
      rcases (by simpa using hp : p = (a, x) ∨ p = (y, b)) with rfl | rfl
      · exact hA k1
      · exact hB k2
    · rw [e] at hp
      obtain rfl : p = (a, x) := by simpa using hp
      exact hA k1
    · rw [e] at hp
      obtain rfl : p = (y, b) := by simpa using hp
      exact hB k2
    · rw [e] at hp
      simp at hp

theorem cntL_one (p q t : Int) : cntL [(p, q)] t = if hasB p q t then 1 else 0 := by
  cases h : hasB p q t <;> simp [cntL, h]
theorem cntL_cons (p q : Int) (l : List (Int × Int)) (t : Int) : cntL ((p, q) :: l) t = (if hasB p q t then 1 else 0) + cntL l t := by
  cases h : hasB p q t <;> simp [cntL, h]; omega
theorem cntL_nil (t : Int) : cntL [] t = 0 := by simp [cntL]
theorem lenL_cons (p q : Int) (l : List (Int × Int)) : lenL ((p, q) :: l) = longI p q + lenL l := by simp [lenL]
theorem lenL_nil : lenL [] = 0 := by simp [lenL]
theorem has_if (f t x : Int) : (if hasB f t x = true then (1 : Int) else 0) = if f ≤ x ∧ x < t then 1 else 0 := by simp [hasB]
theorem long_of {f t : Int} (h : rightB f t = true) : longI f t = t - f := by simp [longI, h]

theorem parts_cnt {a b c d : Int} (t : Int) (ha : rightB a b = true) (hc : rightB c d = true) : cntM a b c d t + cntL (minusL a b c d) t = if hasB a b t then 1 else 0 := by
  have h1 := right_yes ha
  have h2 := right_yes hc
  rcases minus_shape ha hc with ⟨hm, e⟩ | ⟨x, y, hm, eF, eT, hx, hy, hlt, h⟩
  · simp [e, cntM, hm, cntL_one]
  · rw [cntM, hm, eF, eT, if_pos rfl]
    rcases h with ⟨k1, k2, e⟩ | ⟨k1, k2, e⟩ | ⟨k1, k2, e⟩ | ⟨k1, k2, e⟩
    all_goals
      rw [e]
      simp only [cntL_cons, cntL_nil, has_if]
      (repeat' split) <;> omega

theorem parts_len {a b c d : Int} (ha : rightB a b = true) (hc : rightB c d = true) : lenM a b c d + lenL (minusL a b c d) = b - a := by
  have h1 := right_yes ha
  have h2 := right_yes hc
  have hap := minus_apart ha hc
  rcases minus_shape ha hc with ⟨hm, e⟩ | ⟨x, y, hm, eF, eT, hx, hy, hlt, h⟩
  · simp [e, lenM, hm, lenL_cons, lenL_nil, long_of ha]
  · have hxy : rightB x y = true := by simp [rightB]; omega
    rw [lenM, hm, eF, eT, if_pos rfl, long_of hxy]
    rcases h with ⟨k1, k2, e⟩ | ⟨k1, k2, e⟩ | ⟨k1, k2, e⟩ | ⟨k1, k2, e⟩
    · rw [e] at hap ⊢
      rw [lenL_cons, lenL_cons, lenL_nil, long_of (hap (a, x) (by simp)).2, long_of (hap (y, b) (by simp)).2]
      omega
    · rw [e] at hap ⊢
      rw [lenL_cons, lenL_nil, long_of (hap (a, x) (by simp)).2]
      omega
    · rw [e] at hap ⊢
      rw [lenL_cons, lenL_nil, long_of (hap (y, b) (by simp)).2]
      omega
    · rw [e, lenL_nil]
      omega

end Go.Proofs.Ytaobmlkbhdonkaa
