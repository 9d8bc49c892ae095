/-
  How two spans lie, by the document: half and Of.
-/
import Derived.Test.YtegmegapkfbkeaaDoorSmall
namespace Go.Proofs.YtegmegapkfbkeaaDoor
open Go.RowKit

def halfI (a b c d : Int) : Int :=
  if b < c then 0 else if b = c then 1 else if a < c ∧ c < b ∧ b < d then 2 else if a = c ∧ b < d then 3 else if c < a ∧ b < d then 4 else if c < a ∧ b = d then 5 else if a = c ∧ b = d then 6 else -1
/-- How the first span lies to the second one. -/
def relI (a b c d : Int) : Int := if halfI a b c d < 0 then 12 - halfI c d a b else halfI a b c d

theorem bcell {W w1 : World} (hb : Below W.heap.size W w1) : (∀ b o, b < W.heap.size → w1.cell? ⟨b, o, none⟩ = W.cell? ⟨b, o, none⟩) ∧ (∀ b o, b < W.heap.size → w1.frozen? ⟨b, o, none⟩ = W.frozen? ⟨b, o, none⟩) :=
  ⟨fun b o h => hb.cell (p := ⟨b, o, none⟩) h, fun b o h => hb.frozen (p := ⟨b, o, none⟩) h⟩

set_option maxHeartbeats 2000000 in
theorem half_any (a b c d : Int) (w : World) : Ret 29 #[sp a b, sp c d] w (.int .i64 (halfI a b c d)) := by
  rcases Int.lt_trichotomy b c with hbc | hbc | hbc
  · go_enter Tryd.func29, Tryd.ntmps29
    go_wp2
    go_ret
    exact ⟨ret_int (by simp [halfI, hbc]), by go_grown⟩
  · subst hbc
    go_enter Tryd.func29, Tryd.ntmps29
    go_wp2
    go_ret
    exact ⟨ret_int (by simp [halfI]), by go_grown⟩
  · have e0 : (b == c) = false := by simp; omega
    rcases Int.lt_trichotomy a c with hac | hac | hac <;> rcases Int.lt_trichotomy b d with hbd | hbd | hbd
    all_goals try subst hac
    all_goals try subst hbd
    all_goals go_enter Tryd.func29, Tryd.ntmps29
    all_goals go_wp2
    all_goals try (go_ret; exact ⟨ret_int (by unfold halfI; repeat' (first | rfl | omega | split)), by go_grown⟩)

end Go.Proofs.YtegmegapkfbkeaaDoor
