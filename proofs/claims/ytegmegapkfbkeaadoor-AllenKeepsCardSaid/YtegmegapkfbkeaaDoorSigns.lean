/-
  How two spans lie is told by how their ends lie, in plain Lean: the thirteen relations are the thirteen ways in which the ends of right spans can lie; relations of three spans go together.
-/
import Derived.Test.YtegmegapkfbkeaaDoorDof
namespace Go.Proofs.YtegmegapkfbkeaaDoor

theorem sgn_lt (a b : Int) : sgn a b = -1 ↔ a < b := by unfold sgn; split <;> (try split) <;> omega
theorem sgn_eq (a b : Int) : sgn a b = 0 ↔ a = b := by unfold sgn; split <;> (try split) <;> omega
theorem sgn_gt (a b : Int) : sgn a b = 1 ↔ b < a := by unfold sgn; split <;> (try split) <;> omega
theorem sgn_neg (a b : Int) : sgn b a = - sgn a b := by unfold sgn; split <;> (try split) <;> (try split) <;> omega
theorem sgn_range (a b : Int) : sgn a b = -1 ∨ sgn a b = 0 ∨ sgn a b = 1 := by unfold sgn; split <;> (try split) <;> omega

def halfS (p r s : Int) : Int := if r = -1 then 0 else if r = 0 then 1 else if p = -1 ∧ r = 1 ∧ s = -1 then 2 else if p = 0 ∧ s = -1 then 3 else if p = 1 ∧ s = -1 then 4 else if p = 1 ∧ s = 0 then 5 else if p = 0 ∧ s = 0 then 6 else -1
theorem half_signs (a b c d : Int) : halfI a b c d = halfS (sgn a c) (sgn b c) (sgn b d) := by
  unfold halfI halfS
  simp only [sgn_lt, sgn_eq, sgn_gt]
def relS (p q r s : Int) : Int := if halfS p r s < 0 then 12 - halfS (-p) (-q) (-s) else halfS p r s
theorem rel_signs (a b c d : Int) : relI a b c d = relS (sgn a c) (sgn a d) (sgn b c) (sgn b d) := by
  unfold relI relS
  rw [half_signs, half_signs c d a b, sgn_neg a c, sgn_neg a d, sgn_neg b d]

theorem relS_ends : ∀ p ∈ [(-1 : Int), 0, 1], ∀ q ∈ [(-1 : Int), 0, 1], ∀ r ∈ [(-1 : Int), 0, 1], ∀ s ∈ [(-1 : Int), 0, 1],
    (p ≠ -1 → r = 1) → (q ≠ -1 → s = 1) → (p ≠ 1 → q = -1) → (r ≠ 1 → s = -1) →
    (relS p q r s).toNat < 13 ∧ 0 ≤ relS p q r s ∧ ends (relS p q r s).toNat 0 = p ∧ ends (relS p q r s).toNat 1 = q ∧ ends (relS p q r s).toNat 2 = r ∧ ends (relS p q r s).toNat 3 = s := by
  decide +kernel

/-- The relation of right spans is one whose ends lie as theirs. -/
theorem ends_rel {a b c d : Int} (h1 : a < b) (h2 : c < d) :
    ∃ r : Nat, r < 13 ∧ relI a b c d = r ∧ ends r 0 = sgn a c ∧ ends r 1 = sgn a d ∧ ends r 2 = sgn b c ∧ ends r 3 = sgn b d := by
  have mem : ∀ x y : Int, sgn x y ∈ [(-1 : Int), 0, 1] := fun x y => by rcases sgn_range x y with h | h | h <;> rw [h] <;> decide
  have k1 : ∀ x, sgn a x ≠ -1 → sgn b x = 1 := fun x h => by
    rw [Ne, sgn_lt] at h
    rw [sgn_gt]; omega
  have k2 : ∀ x, sgn x c ≠ 1 → sgn x d = -1 := fun x h => by
    rw [Ne, sgn_gt] at h
    rw [sgn_lt]; omega
  obtain ⟨e1, e2, e3⟩ := relS_ends _ (mem a c) _ (mem a d) _ (mem b c) _ (mem b d) (k1 c) (k1 d) (k2 a) (k2 b)
  refine ⟨_, e1, ?_, e3⟩
  rw [rel_signs]; omega

theorem ends_inj : ∀ r s, r < 13 → s < 13 → ends r 0 = ends s 0 → ends r 1 = ends s 1 → ends r 2 = ends s 2 → ends r 3 = ends s 3 → r = s := by
  have h : ∀ r : Fin 13, ∀ s : Fin 13, ends r.1 0 = ends s.1 0 → ends r.1 1 = ends s.1 1 → ends r.1 2 = ends s.1 2 → ends r.1 3 = ends s.1 3 → r = s := by decide +kernel
  intro r s hr hs h0 h1 h2 h3
  exact congrArg Fin.val (h ⟨r, hr⟩ ⟨s, hs⟩ h0 h1 h2 h3)

theorem both_lt {a b c d : Int} (h : bothB a b c d = true) : a < b ∧ c < d := by
  simp [bothB, rightB] at h
  exact ⟨h.1.2.1, h.2.2.1⟩

/-- Times go together. -/
theorem agree_sgn (x y z : Int) : agreeB (sgn x y) (sgn y z) (sgn x z) = true := by
  unfold agreeB
  rcases Int.lt_trichotomy x y with h | h | h <;> rcases Int.lt_trichotomy y z with k | k | k
  all_goals first
    | (have e1 := (sgn_lt x y).2 h) | (have e1 := (sgn_eq x y).2 h) | (have e1 := (sgn_gt x y).2 h)
  all_goals first
    | (have e2 := (sgn_lt y z).2 k) | (have e2 := (sgn_eq y z).2 k) | (have e2 := (sgn_gt y z).2 k)
  all_goals rw [e1, e2]
  all_goals first
    | (rw [(sgn_lt x z).2 (by omega)]; decide) | (rw [(sgn_eq x z).2 (by omega)]; decide) | (rw [(sgn_gt x z).2 (by omega)]; decide) | (rw [if_pos (by decide)])

/-- Of three spans the relation of the first to the last one follows of the other two. -/
theorem sound {a b c d e f : Int} (h1 : a < b) (h2 : c < d) (h3 : e < f) {r s t : Nat} (hr : relI a b c d = r) (hs : relI c d e f = s) (ht : relI a b e f = t) : (cmpN r s).testBit t = true := by
  obtain ⟨r', hr', er, r0, r1, r2, r3⟩ := ends_rel h1 h2
  obtain ⟨s', hs', es, s0, s1, s2, s3⟩ := ends_rel h2 h3
  obtain ⟨t', ht', et, t0, t1, t2, t3⟩ := ends_rel h1 h3
  obtain rfl : r' = r := by omega
  obtain rfl : s' = s := by omega
  obtain rfl : t' = t := by omega
  rw [testBit_cmpN]
  simp only [ht', decide_true, Bool.true_and, fitB, r0, r1, r2, r3, s0, s1, s2, s3, t0, t1, t2, t3, agree_sgn, Bool.and_self]

theorem rel_lt {a b c d : Int} (h1 : a < b) (h2 : c < d) : 0 ≤ relI a b c d ∧ relI a b c d ≤ 12 := by
  obtain ⟨r, hr, e, _⟩ := ends_rel h1 h2
  omega
theorem ends_back : ∀ r, r < 13 → ends (12 - r) 0 = - ends r 0 ∧ ends (12 - r) 1 = - ends r 2 ∧ ends (12 - r) 2 = - ends r 1 ∧ ends (12 - r) 3 = - ends r 3 := by
  have h : ∀ r : Fin 13, ends (12 - r.1) 0 = - ends r.1 0 ∧ ends (12 - r.1) 1 = - ends r.1 2 ∧ ends (12 - r.1) 2 = - ends r.1 1 ∧ ends (12 - r.1) 3 = - ends r.1 3 := by decide +kernel
  exact fun r hr => h ⟨r, hr⟩
/-- The other way round it is the relation that is told back. -/
theorem rel_back {a b c d : Int} (h1 : a < b) (h2 : c < d) : relI c d a b = 12 - relI a b c d := by
  obtain ⟨r, hr, er, r0, r1, r2, r3⟩ := ends_rel h1 h2
  obtain ⟨s, hs, es, s0, s1, s2, s3⟩ := ends_rel h2 h1
  obtain ⟨b0, b1, b2, b3⟩ := ends_back r hr
  have : s = 12 - r := ends_inj s (12 - r) hs (by omega) (by rw [s0, b0, r0, sgn_neg]) (by rw [s1, b1, r2, sgn_neg]) (by rw [s2, b2, r1, sgn_neg]) (by rw [s3, b3, r3, sgn_neg])
  omega
theorem rel_self (a b : Int) (h : a < b) : relI a b a b = 6 := by
  rw [rel_signs, (sgn_eq a a).2 rfl, (sgn_eq b b).2 rfl, (sgn_lt a b).2 h, (sgn_gt b a).2 h]
  decide +kernel

end Go.Proofs.YtegmegapkfbkeaaDoor
