/-
  Texts joined into one: what the program's and the document's calls give back, piece by piece.
-/
import Derived.Test.YtaoobliajgcdmaaGreatMg1
import Derived.Test.YtaoobliajgcdmaaGreatRows
import Derived.BigQuiet
import Derived.ChangeAlike
import Derived.ChangeKeysEq
import Derived.Deep.AppendLies
import Derived.Deep.CutBlock
import Derived.Deep.CutRange
import Derived.Deep.Light
import Derived.Deep.QuietTactic
import Derived.Deep.RegionHeld3
import Derived.Deep.RegionLaw
import Derived.Handy
import Derived.Laws.BytesArg
import Derived.Laws.OwnMore
import Derived.Laws.Strings
import Derived.Laws.StructEq
import Derived.Lib.Hide
import Derived.Maps.AppendAt
import Derived.OneCell
import Derived.OwnWalk
import Derived.RegionTactic
import Derived.StillTailTactics
import Derived.WalkArith
import Derived.WalkKit
import Derived.WalkLawsBesides
import Derived.WalkSpells
import Derived.Shelf.SlSortCmp.NoneTotal
import Derived.Test.YtaoobliajgcdmaaGreatProg
import Derived.Deep.LoopGhost
import Derived.Shelf.SlSortCmp.KitK
import Derived.Sort.WalkB12
import Derived.Sort.WalkB2

/-
  A version, or a row, stored into a block of the call's own, and read behind a call.
-/
namespace Go.Proofs.YtaoobliajgcdmaaGreat
open Go.RowKit

/-- Seven cells of one block, stored one behind the other. -/
theorem seven_store {w : World} {b : Nat} {u0 u1 u2 u3 u4 u5 u6 : Value} (x0 x1 x2 x3 x4 x5 x6 : Value) (h0 : w.cell? ⟨b, 0, none⟩ = some u0) (h1 : w.cell? ⟨b, 1, none⟩ = some u1) (h2 : w.cell? ⟨b, 2, none⟩ = some u2) (h3 : w.cell? ⟨b, 3, none⟩ = some u3) (h4 : w.cell? ⟨b, 4, none⟩ = some u4) (h5 : w.cell? ⟨b, 5, none⟩ = some u5) (h6 : w.cell? ⟨b, 6, none⟩ = some u6) :
    (((((((w.setCell ⟨b, 0, none⟩ x0).setCell ⟨b, 1, none⟩ x1).setCell ⟨b, 2, none⟩ x2).setCell ⟨b, 3, none⟩ x3).setCell ⟨b, 4, none⟩ x4).setCell ⟨b, 5, none⟩ x5).setCell ⟨b, 6, none⟩ x6).cell? ⟨b, 0, none⟩ = some x0 ∧ (((((((w.setCell ⟨b, 0, none⟩ x0).setCell ⟨b, 1, none⟩ x1).setCell ⟨b, 2, none⟩ x2).setCell ⟨b, 3, none⟩ x3).setCell ⟨b, 4, none⟩ x4).setCell ⟨b, 5, none⟩ x5).setCell ⟨b, 6, none⟩ x6).cell? ⟨b, 1, none⟩ = some x1 ∧ (((((((w.setCell ⟨b, 0, none⟩ x0).setCell ⟨b, 1, none⟩ x1).setCell ⟨b, 2, none⟩ x2).setCell ⟨b, 3, none⟩ x3).setCell ⟨b, 4, none⟩ x4).setCell ⟨b, 5, none⟩ x5).setCell ⟨b, 6, none⟩ x6).cell? ⟨b, 2, none⟩ = some x2 ∧ (((((((w.setCell ⟨b, 0, none⟩ x0).setCell ⟨b, 1, none⟩ x1).setCell ⟨b, 2, none⟩ x2).setCell ⟨b, 3, none⟩ x3).setCell ⟨b, 4, none⟩ x4).setCell ⟨b, 5, none⟩ x5).setCell ⟨b, 6, none⟩ x6).cell? ⟨b, 3, none⟩ = some x3 ∧ (((((((w.setCell ⟨b, 0, none⟩ x0).setCell ⟨b, 1, none⟩ x1).setCell ⟨b, 2, none⟩ x2).setCell ⟨b, 3, none⟩ x3).setCell ⟨b, 4, none⟩ x4).setCell ⟨b, 5, none⟩ x5).setCell ⟨b, 6, none⟩ x6).cell? ⟨b, 4, none⟩ = some x4 ∧ (((((((w.setCell ⟨b, 0, none⟩ x0).setCell ⟨b, 1, none⟩ x1).setCell ⟨b, 2, none⟩ x2).setCell ⟨b, 3, none⟩ x3).setCell ⟨b, 4, none⟩ x4).setCell ⟨b, 5, none⟩ x5).setCell ⟨b, 6, none⟩ x6).cell? ⟨b, 5, none⟩ = some x5 ∧ (((((((w.setCell ⟨b, 0, none⟩ x0).setCell ⟨b, 1, none⟩ x1).setCell ⟨b, 2, none⟩ x2).setCell ⟨b, 3, none⟩ x3).setCell ⟨b, 4, none⟩ x4).setCell ⟨b, 5, none⟩ x5).setCell ⟨b, 6, none⟩ x6).cell? ⟨b, 6, none⟩ = some x6 := by
  have O := fun (W : World) (i j : Nat) (x : Value) (h : i ≠ j) => World.cell?_setCell_other W ⟨b, i, none⟩ ⟨b, j, none⟩ x (fun e => h (by injection e))
  have a0 : w.cell? ⟨b, 0, none⟩ = some u0 := h0
  have a1 : (w.setCell ⟨b, 0, none⟩ x0).cell? ⟨b, 1, none⟩ = some u1 := ((O _ 0 1 _ (by decide)).trans h1)
  have a2 : ((w.setCell ⟨b, 0, none⟩ x0).setCell ⟨b, 1, none⟩ x1).cell? ⟨b, 2, none⟩ = some u2 := ((O _ 1 2 _ (by decide)).trans ((O _ 0 2 _ (by decide)).trans h2))
  have a3 : (((w.setCell ⟨b, 0, none⟩ x0).setCell ⟨b, 1, none⟩ x1).setCell ⟨b, 2, none⟩ x2).cell? ⟨b, 3, none⟩ = some u3 := ((O _ 2 3 _ (by decide)).trans ((O _ 1 3 _ (by decide)).trans ((O _ 0 3 _ (by decide)).trans h3)))
  have a4 : ((((w.setCell ⟨b, 0, none⟩ x0).setCell ⟨b, 1, none⟩ x1).setCell ⟨b, 2, none⟩ x2).setCell ⟨b, 3, none⟩ x3).cell? ⟨b, 4, none⟩ = some u4 := ((O _ 3 4 _ (by decide)).trans ((O _ 2 4 _ (by decide)).trans ((O _ 1 4 _ (by decide)).trans ((O _ 0 4 _ (by decide)).trans h4))))
  have a5 : (((((w.setCell ⟨b, 0, none⟩ x0).setCell ⟨b, 1, none⟩ x1).setCell ⟨b, 2, none⟩ x2).setCell ⟨b, 3, none⟩ x3).setCell ⟨b, 4, none⟩ x4).cell? ⟨b, 5, none⟩ = some u5 := ((O _ 4 5 _ (by decide)).trans ((O _ 3 5 _ (by decide)).trans ((O _ 2 5 _ (by decide)).trans ((O _ 1 5 _ (by decide)).trans ((O _ 0 5 _ (by decide)).trans h5)))))
  have a6 : ((((((w.setCell ⟨b, 0, none⟩ x0).setCell ⟨b, 1, none⟩ x1).setCell ⟨b, 2, none⟩ x2).setCell ⟨b, 3, none⟩ x3).setCell ⟨b, 4, none⟩ x4).setCell ⟨b, 5, none⟩ x5).cell? ⟨b, 6, none⟩ = some u6 := ((O _ 5 6 _ (by decide)).trans ((O _ 4 6 _ (by decide)).trans ((O _ 3 6 _ (by decide)).trans ((O _ 2 6 _ (by decide)).trans ((O _ 1 6 _ (by decide)).trans ((O _ 0 6 _ (by decide)).trans h6))))))
  refine ⟨?_, ?_, ?_, ?_, ?_, ?_, ?_⟩
  · exact ((O _ 6 0 _ (by decide)).trans ((O _ 5 0 _ (by decide)).trans ((O _ 4 0 _ (by decide)).trans ((O _ 3 0 _ (by decide)).trans ((O _ 2 0 _ (by decide)).trans ((O _ 1 0 _ (by decide)).trans (World.cell?_setCell_same _ _ _ a0)))))))
  · exact ((O _ 6 1 _ (by decide)).trans ((O _ 5 1 _ (by decide)).trans ((O _ 4 1 _ (by decide)).trans ((O _ 3 1 _ (by decide)).trans ((O _ 2 1 _ (by decide)).trans (World.cell?_setCell_same _ _ _ a1))))))
  · exact ((O _ 6 2 _ (by decide)).trans ((O _ 5 2 _ (by decide)).trans ((O _ 4 2 _ (by decide)).trans ((O _ 3 2 _ (by decide)).trans (World.cell?_setCell_same _ _ _ a2)))))
  · exact ((O _ 6 3 _ (by decide)).trans ((O _ 5 3 _ (by decide)).trans ((O _ 4 3 _ (by decide)).trans (World.cell?_setCell_same _ _ _ a3))))
  · exact ((O _ 6 4 _ (by decide)).trans ((O _ 5 4 _ (by decide)).trans (World.cell?_setCell_same _ _ _ a4)))
  · exact ((O _ 6 5 _ (by decide)).trans (World.cell?_setCell_same _ _ _ a5))
  · exact (World.cell?_setCell_same _ _ _ a6)

/-- Eight cells of one block, stored one behind the other. -/
theorem eight_store {w : World} {b : Nat} {u0 u1 u2 u3 u4 u5 u6 u7 : Value} (x0 x1 x2 x3 x4 x5 x6 x7 : Value) (h0 : w.cell? ⟨b, 0, none⟩ = some u0) (h1 : w.cell? ⟨b, 1, none⟩ = some u1) (h2 : w.cell? ⟨b, 2, none⟩ = some u2) (h3 : w.cell? ⟨b, 3, none⟩ = some u3) (h4 : w.cell? ⟨b, 4, none⟩ = some u4) (h5 : w.cell? ⟨b, 5, none⟩ = some u5) (h6 : w.cell? ⟨b, 6, none⟩ = some u6) (h7 : w.cell? ⟨b, 7, none⟩ = some u7) :
    ((((((((w.setCell ⟨b, 0, none⟩ x0).setCell ⟨b, 1, none⟩ x1).setCell ⟨b, 2, none⟩ x2).setCell ⟨b, 3, none⟩ x3).setCell ⟨b, 4, none⟩ x4).setCell ⟨b, 5, none⟩ x5).setCell ⟨b, 6, none⟩ x6).setCell ⟨b, 7, none⟩ x7).cell? ⟨b, 0, none⟩ = some x0 ∧ ((((((((w.setCell ⟨b, 0, none⟩ x0).setCell ⟨b, 1, none⟩ x1).setCell ⟨b, 2, none⟩ x2).setCell ⟨b, 3, none⟩ x3).setCell ⟨b, 4, none⟩ x4).setCell ⟨b, 5, none⟩ x5).setCell ⟨b, 6, none⟩ x6).setCell ⟨b, 7, none⟩ x7).cell? ⟨b, 1, none⟩ = some x1 ∧ ((((((((w.setCell ⟨b, 0, none⟩ x0).setCell ⟨b, 1, none⟩ x1).setCell ⟨b, 2, none⟩ x2).setCell ⟨b, 3, none⟩ x3).setCell ⟨b, 4, none⟩ x4).setCell ⟨b, 5, none⟩ x5).setCell ⟨b, 6, none⟩ x6).setCell ⟨b, 7, none⟩ x7).cell? ⟨b, 2, none⟩ = some x2 ∧ ((((((((w.setCell ⟨b, 0, none⟩ x0).setCell ⟨b, 1, none⟩ x1).setCell ⟨b, 2, none⟩ x2).setCell ⟨b, 3, none⟩ x3).setCell ⟨b, 4, none⟩ x4).setCell ⟨b, 5, none⟩ x5).setCell ⟨b, 6, none⟩ x6).setCell ⟨b, 7, none⟩ x7).cell? ⟨b, 3, none⟩ = some x3 ∧ ((((((((w.setCell ⟨b, 0, none⟩ x0).setCell ⟨b, 1, none⟩ x1).setCell ⟨b, 2, none⟩ x2).setCell ⟨b, 3, none⟩ x3).setCell ⟨b, 4, none⟩ x4).setCell ⟨b, 5, none⟩ x5).setCell ⟨b, 6, none⟩ x6).setCell ⟨b, 7, none⟩ x7).cell? ⟨b, 4, none⟩ = some x4 ∧ ((((((((w.setCell ⟨b, 0, none⟩ x0).setCell ⟨b, 1, none⟩ x1).setCell ⟨b, 2, none⟩ x2).setCell ⟨b, 3, none⟩ x3).setCell ⟨b, 4, none⟩ x4).setCell ⟨b, 5, none⟩ x5).setCell ⟨b, 6, none⟩ x6).setCell ⟨b, 7, none⟩ x7).cell? ⟨b, 5, none⟩ = some x5 ∧ ((((((((w.setCell ⟨b, 0, none⟩ x0).setCell ⟨b, 1, none⟩ x1).setCell ⟨b, 2, none⟩ x2).setCell ⟨b, 3, none⟩ x3).setCell ⟨b, 4, none⟩ x4).setCell ⟨b, 5, none⟩ x5).setCell ⟨b, 6, none⟩ x6).setCell ⟨b, 7, none⟩ x7).cell? ⟨b, 6, none⟩ = some x6 ∧ ((((((((w.setCell ⟨b, 0, none⟩ x0).setCell ⟨b, 1, none⟩ x1).setCell ⟨b, 2, none⟩ x2).setCell ⟨b, 3, none⟩ x3).setCell ⟨b, 4, none⟩ x4).setCell ⟨b, 5, none⟩ x5).setCell ⟨b, 6, none⟩ x6).setCell ⟨b, 7, none⟩ x7).cell? ⟨b, 7, none⟩ = some x7 := by
  have O := fun (W : World) (i j : Nat) (x : Value) (h : i ≠ j) => World.cell?_setCell_other W ⟨b, i, none⟩ ⟨b, j, none⟩ x (fun e => h (by injection e))
  have a0 : w.cell? ⟨b, 0, none⟩ = some u0 := h0
  have a1 : (w.setCell ⟨b, 0, none⟩ x0).cell? ⟨b, 1, none⟩ = some u1 := ((O _ 0 1 _ (by decide)).trans h1)
  have a2 : ((w.setCell ⟨b, 0, none⟩ x0).setCell ⟨b, 1, none⟩ x1).cell? ⟨b, 2, none⟩ = some u2 := ((O _ 1 2 _ (by decide)).trans ((O _ 0 2 _ (by decide)).trans h2))
  have a3 : (((w.setCell ⟨b, 0, none⟩ x0).setCell ⟨b, 1, none⟩ x1).setCell ⟨b, 2, none⟩ x2).cell? ⟨b, 3, none⟩ = some u3 := ((O _ 2 3 _ (by decide)).trans ((O _ 1 3 _ (by decide)).trans ((O _ 0 3 _ (by decide)).trans h3)))
  have a4 : ((((w.setCell ⟨b, 0, none⟩ x0).setCell ⟨b, 1, none⟩ x1).setCell ⟨b, 2, none⟩ x2).setCell ⟨b, 3, none⟩ x3).cell? ⟨b, 4, none⟩ = some u4 := ((O _ 3 4 _ (by decide)).trans ((O _ 2 4 _ (by decide)).trans ((O _ 1 4 _ (by decide)).trans ((O _ 0 4 _ (by decide)).trans h4))))
  have a5 : (((((w.setCell ⟨b, 0, none⟩ x0).setCell ⟨b, 1, none⟩ x1).setCell ⟨b, 2, none⟩ x2).setCell ⟨b, 3, none⟩ x3).setCell ⟨b, 4, none⟩ x4).cell? ⟨b, 5, none⟩ = some u5 := ((O _ 4 5 _ (by decide)).trans ((O _ 3 5 _ (by decide)).trans ((O _ 2 5 _ (by decide)).trans ((O _ 1 5 _ (by decide)).trans ((O _ 0 5 _ (by decide)).trans h5)))))
  have a6 : ((((((w.setCell ⟨b, 0, none⟩ x0).setCell ⟨b, 1, none⟩ x1).setCell ⟨b, 2, none⟩ x2).setCell ⟨b, 3, none⟩ x3).setCell ⟨b, 4, none⟩ x4).setCell ⟨b, 5, none⟩ x5).cell? ⟨b, 6, none⟩ = some u6 := ((O _ 5 6 _ (by decide)).trans ((O _ 4 6 _ (by decide)).trans ((O _ 3 6 _ (by decide)).trans ((O _ 2 6 _ (by decide)).trans ((O _ 1 6 _ (by decide)).trans ((O _ 0 6 _ (by decide)).trans h6))))))
  have a7 : (((((((w.setCell ⟨b, 0, none⟩ x0).setCell ⟨b, 1, none⟩ x1).setCell ⟨b, 2, none⟩ x2).setCell ⟨b, 3, none⟩ x3).setCell ⟨b, 4, none⟩ x4).setCell ⟨b, 5, none⟩ x5).setCell ⟨b, 6, none⟩ x6).cell? ⟨b, 7, none⟩ = some u7 := ((O _ 6 7 _ (by decide)).trans ((O _ 5 7 _ (by decide)).trans ((O _ 4 7 _ (by decide)).trans ((O _ 3 7 _ (by decide)).trans ((O _ 2 7 _ (by decide)).trans ((O _ 1 7 _ (by decide)).trans ((O _ 0 7 _ (by decide)).trans h7)))))))
  refine ⟨?_, ?_, ?_, ?_, ?_, ?_, ?_, ?_⟩
  · exact ((O _ 7 0 _ (by decide)).trans ((O _ 6 0 _ (by decide)).trans ((O _ 5 0 _ (by decide)).trans ((O _ 4 0 _ (by decide)).trans ((O _ 3 0 _ (by decide)).trans ((O _ 2 0 _ (by decide)).trans ((O _ 1 0 _ (by decide)).trans (World.cell?_setCell_same _ _ _ a0))))))))
  · exact ((O _ 7 1 _ (by decide)).trans ((O _ 6 1 _ (by decide)).trans ((O _ 5 1 _ (by decide)).trans ((O _ 4 1 _ (by decide)).trans ((O _ 3 1 _ (by decide)).trans ((O _ 2 1 _ (by decide)).trans (World.cell?_setCell_same _ _ _ a1)))))))
  · exact ((O _ 7 2 _ (by decide)).trans ((O _ 6 2 _ (by decide)).trans ((O _ 5 2 _ (by decide)).trans ((O _ 4 2 _ (by decide)).trans ((O _ 3 2 _ (by decide)).trans (World.cell?_setCell_same _ _ _ a2))))))
  · exact ((O _ 7 3 _ (by decide)).trans ((O _ 6 3 _ (by decide)).trans ((O _ 5 3 _ (by decide)).trans ((O _ 4 3 _ (by decide)).trans (World.cell?_setCell_same _ _ _ a3)))))
  · exact ((O _ 7 4 _ (by decide)).trans ((O _ 6 4 _ (by decide)).trans ((O _ 5 4 _ (by decide)).trans (World.cell?_setCell_same _ _ _ a4))))
  · exact ((O _ 7 5 _ (by decide)).trans ((O _ 6 5 _ (by decide)).trans (World.cell?_setCell_same _ _ _ a5)))
  · exact ((O _ 7 6 _ (by decide)).trans (World.cell?_setCell_same _ _ _ a6))
  · exact (World.cell?_setCell_same _ _ _ a7)

theorem seven_below {w0 w : World} {base b : Nat} {x0 x1 x2 x3 x4 x5 x6 : Value} (h : Below base w0 w) (hg : base ≤ b) : Below base w0 (((((((w.setCell ⟨b, 0, none⟩ x0).setCell ⟨b, 1, none⟩ x1).setCell ⟨b, 2, none⟩ x2).setCell ⟨b, 3, none⟩ x3).setCell ⟨b, 4, none⟩ x4).setCell ⟨b, 5, none⟩ x5).setCell ⟨b, 6, none⟩ x6) := (((((((h.setCell hg _).setCell hg _).setCell hg _).setCell hg _).setCell hg _).setCell hg _).setCell hg _)
theorem eight_below {w0 w : World} {base b : Nat} {x0 x1 x2 x3 x4 x5 x6 x7 : Value} (h : Below base w0 w) (hg : base ≤ b) : Below base w0 ((((((((w.setCell ⟨b, 0, none⟩ x0).setCell ⟨b, 1, none⟩ x1).setCell ⟨b, 2, none⟩ x2).setCell ⟨b, 3, none⟩ x3).setCell ⟨b, 4, none⟩ x4).setCell ⟨b, 5, none⟩ x5).setCell ⟨b, 6, none⟩ x6).setCell ⟨b, 7, none⟩ x7) := ((((((((h.setCell hg _).setCell hg _).setCell hg _).setCell hg _).setCell hg _).setCell hg _).setCell hg _).setCell hg _)

/-- The cells of a version in a block of its own, and that they may be stored into. -/
structure HoldV (w : World) (g : Nat) (v : Vr) : Prop where
  c : Cells7 w g 0 v
  f : w.frozen? ⟨g, 0, none⟩ = false ∧ w.frozen? ⟨g, 1, none⟩ = false ∧ w.frozen? ⟨g, 2, none⟩ = false ∧ w.frozen? ⟨g, 3, none⟩ = false ∧ w.frozen? ⟨g, 4, none⟩ = false ∧ w.frozen? ⟨g, 5, none⟩ = false ∧ w.frozen? ⟨g, 6, none⟩ = false
theorem holdV_new (w : World) (v : Vr) : HoldV (w.alloc (ocV v)) w.heap.size v :=
  ⟨⟨by simp [go_sem], by simp [go_sem], by simp [go_sem], by simp [go_sem], by simp [go_sem], by simp [go_sem], by simp [go_sem]⟩, ⟨by simp [go_sem], by simp [go_sem], by simp [go_sem], by simp [go_sem], by simp [go_sem], by simp [go_sem], by simp [go_sem]⟩⟩
theorem HoldV.below {w w' : World} {g : Nat} {v : Vr} (h : HoldV w g v) (hb : Below w.heap.size w w') : HoldV w' g v := by
  have hg := lt_of_cell h.c.1
  obtain ⟨f0, f1, f2, f3, f4, f5, f6⟩ := h.f
  exact ⟨h.c.below hb, keepf hb hg f0, keepf hb hg f1, keepf hb hg f2, keepf hb hg f3, keepf hb hg f4, keepf hb hg f5, keepf hb hg f6⟩

end Go.Proofs.YtaoobliajgcdmaaGreat

/-
  What a call may turn: some cells, and nothing else; a version that is read into a block, cell by cell.
-/
namespace Go.Proofs.YtaoobliajgcdmaaGreat
open Go.RowKit

/-- Whatever lay, lies, but for the cells M. -/
structure But (M : Nat → Nat → Prop) (w w' : World) : Prop where
  os : w'.os = w.os
  tape : w'.tape = w.tape
  output : w'.output = w.output
  size : w.heap.size ≤ w'.heap.size
  block : ∀ c, c < w.heap.size → (∀ o, ¬ M c o) → w'.heap[c]? = w.heap[c]?
  cell : ∀ c o, c < w.heap.size → ¬ M c o → w'.cell? ⟨c, o, none⟩ = w.cell? ⟨c, o, none⟩
  frz : ∀ c o, c < w.heap.size → w'.frozen? ⟨c, o, none⟩ = w.frozen? ⟨c, o, none⟩
theorem But.refl (M : Nat → Nat → Prop) (w : World) : But M w w := ⟨rfl, rfl, rfl, Nat.le_refl _, fun _ _ _ => rfl, fun _ _ _ _ => rfl, fun _ _ _ => rfl⟩
theorem But.trans {M : Nat → Nat → Prop} {a b c : World} (h : But M a b) (k : But M b c) : But M a c :=
  ⟨k.os.trans h.os, k.tape.trans h.tape, k.output.trans h.output, Nat.le_trans h.size k.size,
   fun i hi hm => (k.block i (Nat.lt_of_lt_of_le hi h.size) hm).trans (h.block i hi hm),
   fun i o hi hm => (k.cell i o (Nat.lt_of_lt_of_le hi h.size) hm).trans (h.cell i o hi hm),
   fun i o hi => (k.frz i o (Nat.lt_of_lt_of_le hi h.size)).trans (h.frz i o hi)⟩
theorem But.of_below {M : Nat → Nat → Prop} {w w' : World} (h : Below w.heap.size w w') : But M w w' :=
  ⟨h.os, h.tape, h.output, h.size, fun c hc _ => h.block c hc, fun c o hc _ => h.cell (p := ⟨c, o, none⟩) hc, fun c o hc => h.frozen (p := ⟨c, o, none⟩) hc⟩
theorem But.set {M : Nat → Nat → Prop} {a w : World} (h : But M a w) {b o : Nat} (hm : M b o) (u : Value) : But M a (w.setCell ⟨b, o, none⟩ u) :=
  ⟨h.os, h.tape, h.output, by have := h.size; simpa [World.setCell] using this,
   fun c hc hn => (Below.heap_setCell w ⟨b, o, none⟩ u c (fun e => hn o (by simp at e; rw [e]; exact hm))).trans (h.block c hc hn),
   fun c i hc hn => (World.cell?_setCell_other w ⟨b, o, none⟩ ⟨c, i, none⟩ u (fun e => hn (by injection e with e1 e2; subst e1 e2; exact hm))).trans (h.cell c i hc hn),
   fun c i hc => (World.frozen?_setCell _ _ _ _).trans (h.frz c i hc)⟩
theorem But.below {M : Nat → Nat → Prop} {w w' : World} (h : But M w w') {n : Nat} (hn : n ≤ w.heap.size) (hM : ∀ c o, M c o → n ≤ c) : Below n w w' :=
  ⟨h.os, h.tape, h.output, h.size, fun c hc => h.block c (by omega) (fun o hm => by have := hM c o hm; omega)⟩
theorem But.mono {M M' : Nat → Nat → Prop} {w w' : World} (h : But M w w') (hM : ∀ c o, c < w.heap.size → M c o → M' c o) : But M' w w' :=
  ⟨h.os, h.tape, h.output, h.size, fun c hc hn => h.block c hc (fun o hm => hn o (hM c o hc hm)), fun c o hc hn => h.cell c o hc (fun hm => hn (hM c o hc hm)), h.frz⟩
theorem But.keep {M : Nat → Nat → Prop} {w w' : World} (h : But M w w') {c o : Nat} {v : Value} (hc : w.cell? ⟨c, o, none⟩ = some v) (hm : ¬ M c o) : w'.cell? ⟨c, o, none⟩ = some v :=
  (h.cell c o (lt_of_cell hc) hm).trans hc
/-- From an earlier world on. -/
theorem But.ahead {M : Nat → Nat → Prop} {a w w' : World} (hb : Below a.heap.size a w) (h : But M w w') : But M a w' := (But.of_below hb).trans h
/-- The cells of a version in block b. -/
abbrev MV (b : Nat) : Nat → Nat → Prop := fun c o => c = b ∧ o < 7

/-- The fields of a version lie where it says, and from block n on. -/
def FarF (n : Nat) (w : World) (v : Vr) : Prop := VF w v ∧ ∀ a, v.fa = some a → n ≤ a.block
theorem FarF.but {M : Nat → Nat → Prop} {n : Nat} {w w' : World} {v : Vr} (h : FarF n w v) (hb : But M w w') (hM : ∀ c o, M c o → c < n) : FarF n w' v :=
  ⟨⟨fun i f hf => by
    obtain ⟨g, off, he, c0, c1⟩ := h.1.1 i f hf
    have hg : n ≤ g := h.2 _ he
    exact ⟨g, off, he, hb.keep c0 (fun hm => by have := hM _ _ hm; omega), hb.keep c1 (fun hm => by have := hM _ _ hm; omega)⟩, h.1.2⟩, h.2⟩
theorem FarF.below {n : Nat} {w w' : World} {v : Vr} (h : FarF n w v) (hb : Below w.heap.size w w') : FarF n w' v := ⟨h.1.below hb, h.2⟩
theorem FarF.nil {n : Nat} (w : World) (v : Vr) (h : v.fs = []) (h2 : v.fa = none) (h3 : v.fc = 0) : FarF n w v :=
  ⟨⟨by rw [h]; exact Fields.nil _ _, by rw [h]; exact Nat.zero_le _, fun _ => h3⟩, fun a ha => by rw [h2] at ha; cases ha⟩
theorem FarF.same {n : Nat} {w : World} {v v' : Vr} (h : FarF n w v) (h1 : v'.fa = v.fa) (h2 : v'.fc = v.fc) (h3 : v'.fs = v.fs) : FarF n w v' := by
  unfold FarF VF at h ⊢
  rw [h1, h2, h3]; exact h
theorem OF.far {W w : World} {l : List Fd} {u : Value} (h : OF W l u w) : ∃ A c, u = .slice A l.length c ∧ ∀ v : Vr, v.fa = A → v.fc = c → v.fs = l → FarF W.heap.size w v := by
  obtain ⟨A, c, rfl, hF, hc, hn⟩ := h.list
  refine ⟨A, c, rfl, fun v h1 h2 h3 => ?_⟩
  subst h1 h2 h3
  exact ⟨⟨hF, hc, hn⟩, fun a ha => (h.own.lt a.block (by rw [ha]; rfl)).1⟩

theorem HoldV.set0 {w : World} {b : Nat} {v : Vr} (h : HoldV w b v) (n : Int) : HoldV (w.setCell ⟨b, 0, none⟩ (.int .i64 n)) b {v with id := n} :=
  ⟨⟨World.cell?_setCell_same _ ⟨b, 0, none⟩ _ (h.c.1), (World.cell?_setCell_other _ ⟨b, 0, none⟩ ⟨b, 1, none⟩ _ (by simp)).trans (h.c.2.1), (World.cell?_setCell_other _ ⟨b, 0, none⟩ ⟨b, 2, none⟩ _ (by simp)).trans (h.c.2.2.1), (World.cell?_setCell_other _ ⟨b, 0, none⟩ ⟨b, 3, none⟩ _ (by simp)).trans (h.c.2.2.2.1), (World.cell?_setCell_other _ ⟨b, 0, none⟩ ⟨b, 4, none⟩ _ (by simp)).trans (h.c.2.2.2.2.1), (World.cell?_setCell_other _ ⟨b, 0, none⟩ ⟨b, 5, none⟩ _ (by simp)).trans (h.c.2.2.2.2.2.1), (World.cell?_setCell_other _ ⟨b, 0, none⟩ ⟨b, 6, none⟩ _ (by simp)).trans (h.c.2.2.2.2.2.2)⟩, (World.frozen?_setCell _ _ _ _).trans (h.f.1), (World.frozen?_setCell _ _ _ _).trans (h.f.2.1), (World.frozen?_setCell _ _ _ _).trans (h.f.2.2.1), (World.frozen?_setCell _ _ _ _).trans (h.f.2.2.2.1), (World.frozen?_setCell _ _ _ _).trans (h.f.2.2.2.2.1), (World.frozen?_setCell _ _ _ _).trans (h.f.2.2.2.2.2.1), (World.frozen?_setCell _ _ _ _).trans (h.f.2.2.2.2.2.2)⟩
theorem HoldV.set1 {w : World} {b : Nat} {v : Vr} (h : HoldV w b v) (n : Int) : HoldV (w.setCell ⟨b, 1, none⟩ (.int .i64 n)) b {v with st := n} :=
  ⟨⟨(World.cell?_setCell_other _ ⟨b, 1, none⟩ ⟨b, 0, none⟩ _ (by simp)).trans (h.c.1), World.cell?_setCell_same _ ⟨b, 1, none⟩ _ (h.c.2.1), (World.cell?_setCell_other _ ⟨b, 1, none⟩ ⟨b, 2, none⟩ _ (by simp)).trans (h.c.2.2.1), (World.cell?_setCell_other _ ⟨b, 1, none⟩ ⟨b, 3, none⟩ _ (by simp)).trans (h.c.2.2.2.1), (World.cell?_setCell_other _ ⟨b, 1, none⟩ ⟨b, 4, none⟩ _ (by simp)).trans (h.c.2.2.2.2.1), (World.cell?_setCell_other _ ⟨b, 1, none⟩ ⟨b, 5, none⟩ _ (by simp)).trans (h.c.2.2.2.2.2.1), (World.cell?_setCell_other _ ⟨b, 1, none⟩ ⟨b, 6, none⟩ _ (by simp)).trans (h.c.2.2.2.2.2.2)⟩, (World.frozen?_setCell _ _ _ _).trans (h.f.1), (World.frozen?_setCell _ _ _ _).trans (h.f.2.1), (World.frozen?_setCell _ _ _ _).trans (h.f.2.2.1), (World.frozen?_setCell _ _ _ _).trans (h.f.2.2.2.1), (World.frozen?_setCell _ _ _ _).trans (h.f.2.2.2.2.1), (World.frozen?_setCell _ _ _ _).trans (h.f.2.2.2.2.2.1), (World.frozen?_setCell _ _ _ _).trans (h.f.2.2.2.2.2.2)⟩
theorem HoldV.set2 {w : World} {b : Nat} {v : Vr} (h : HoldV w b v) (n : ByteArray) : HoldV (w.setCell ⟨b, 2, none⟩ (.string n)) b {v with ent := n} :=
  ⟨⟨(World.cell?_setCell_other _ ⟨b, 2, none⟩ ⟨b, 0, none⟩ _ (by simp)).trans (h.c.1), (World.cell?_setCell_other _ ⟨b, 2, none⟩ ⟨b, 1, none⟩ _ (by simp)).trans (h.c.2.1), World.cell?_setCell_same _ ⟨b, 2, none⟩ _ (h.c.2.2.1), (World.cell?_setCell_other _ ⟨b, 2, none⟩ ⟨b, 3, none⟩ _ (by simp)).trans (h.c.2.2.2.1), (World.cell?_setCell_other _ ⟨b, 2, none⟩ ⟨b, 4, none⟩ _ (by simp)).trans (h.c.2.2.2.2.1), (World.cell?_setCell_other _ ⟨b, 2, none⟩ ⟨b, 5, none⟩ _ (by simp)).trans (h.c.2.2.2.2.2.1), (World.cell?_setCell_other _ ⟨b, 2, none⟩ ⟨b, 6, none⟩ _ (by simp)).trans (h.c.2.2.2.2.2.2)⟩, (World.frozen?_setCell _ _ _ _).trans (h.f.1), (World.frozen?_setCell _ _ _ _).trans (h.f.2.1), (World.frozen?_setCell _ _ _ _).trans (h.f.2.2.1), (World.frozen?_setCell _ _ _ _).trans (h.f.2.2.2.1), (World.frozen?_setCell _ _ _ _).trans (h.f.2.2.2.2.1), (World.frozen?_setCell _ _ _ _).trans (h.f.2.2.2.2.2.1), (World.frozen?_setCell _ _ _ _).trans (h.f.2.2.2.2.2.2)⟩
theorem HoldV.set3 {w : World} {b : Nat} {v : Vr} (h : HoldV w b v) (n : Int) : HoldV (w.setCell ⟨b, 3, none⟩ (.int .i64 n)) b {v with sf := n} :=
  ⟨⟨(World.cell?_setCell_other _ ⟨b, 3, none⟩ ⟨b, 0, none⟩ _ (by simp)).trans (h.c.1), (World.cell?_setCell_other _ ⟨b, 3, none⟩ ⟨b, 1, none⟩ _ (by simp)).trans (h.c.2.1), (World.cell?_setCell_other _ ⟨b, 3, none⟩ ⟨b, 2, none⟩ _ (by simp)).trans (h.c.2.2.1), World.cell?_setCell_same _ ⟨b, 3, none⟩ _ (h.c.2.2.2.1), (World.cell?_setCell_other _ ⟨b, 3, none⟩ ⟨b, 4, none⟩ _ (by simp)).trans (h.c.2.2.2.2.1), (World.cell?_setCell_other _ ⟨b, 3, none⟩ ⟨b, 5, none⟩ _ (by simp)).trans (h.c.2.2.2.2.2.1), (World.cell?_setCell_other _ ⟨b, 3, none⟩ ⟨b, 6, none⟩ _ (by simp)).trans (h.c.2.2.2.2.2.2)⟩, (World.frozen?_setCell _ _ _ _).trans (h.f.1), (World.frozen?_setCell _ _ _ _).trans (h.f.2.1), (World.frozen?_setCell _ _ _ _).trans (h.f.2.2.1), (World.frozen?_setCell _ _ _ _).trans (h.f.2.2.2.1), (World.frozen?_setCell _ _ _ _).trans (h.f.2.2.2.2.1), (World.frozen?_setCell _ _ _ _).trans (h.f.2.2.2.2.2.1), (World.frozen?_setCell _ _ _ _).trans (h.f.2.2.2.2.2.2)⟩
theorem HoldV.set4 {w : World} {b : Nat} {v : Vr} (h : HoldV w b v) (n : Int) : HoldV (w.setCell ⟨b, 4, none⟩ (.int .i64 n)) b {v with se := n} :=
  ⟨⟨(World.cell?_setCell_other _ ⟨b, 4, none⟩ ⟨b, 0, none⟩ _ (by simp)).trans (h.c.1), (World.cell?_setCell_other _ ⟨b, 4, none⟩ ⟨b, 1, none⟩ _ (by simp)).trans (h.c.2.1), (World.cell?_setCell_other _ ⟨b, 4, none⟩ ⟨b, 2, none⟩ _ (by simp)).trans (h.c.2.2.1), (World.cell?_setCell_other _ ⟨b, 4, none⟩ ⟨b, 3, none⟩ _ (by simp)).trans (h.c.2.2.2.1), World.cell?_setCell_same _ ⟨b, 4, none⟩ _ (h.c.2.2.2.2.1), (World.cell?_setCell_other _ ⟨b, 4, none⟩ ⟨b, 5, none⟩ _ (by simp)).trans (h.c.2.2.2.2.2.1), (World.cell?_setCell_other _ ⟨b, 4, none⟩ ⟨b, 6, none⟩ _ (by simp)).trans (h.c.2.2.2.2.2.2)⟩, (World.frozen?_setCell _ _ _ _).trans (h.f.1), (World.frozen?_setCell _ _ _ _).trans (h.f.2.1), (World.frozen?_setCell _ _ _ _).trans (h.f.2.2.1), (World.frozen?_setCell _ _ _ _).trans (h.f.2.2.2.1), (World.frozen?_setCell _ _ _ _).trans (h.f.2.2.2.2.1), (World.frozen?_setCell _ _ _ _).trans (h.f.2.2.2.2.2.1), (World.frozen?_setCell _ _ _ _).trans (h.f.2.2.2.2.2.2)⟩
theorem HoldV.set6 {w : World} {b : Nat} {v : Vr} (h : HoldV w b v) (n : Bool) : HoldV (w.setCell ⟨b, 6, none⟩ (.bool n)) b {v with gone := n} :=
  ⟨⟨(World.cell?_setCell_other _ ⟨b, 6, none⟩ ⟨b, 0, none⟩ _ (by simp)).trans (h.c.1), (World.cell?_setCell_other _ ⟨b, 6, none⟩ ⟨b, 1, none⟩ _ (by simp)).trans (h.c.2.1), (World.cell?_setCell_other _ ⟨b, 6, none⟩ ⟨b, 2, none⟩ _ (by simp)).trans (h.c.2.2.1), (World.cell?_setCell_other _ ⟨b, 6, none⟩ ⟨b, 3, none⟩ _ (by simp)).trans (h.c.2.2.2.1), (World.cell?_setCell_other _ ⟨b, 6, none⟩ ⟨b, 4, none⟩ _ (by simp)).trans (h.c.2.2.2.2.1), (World.cell?_setCell_other _ ⟨b, 6, none⟩ ⟨b, 5, none⟩ _ (by simp)).trans (h.c.2.2.2.2.2.1), World.cell?_setCell_same _ ⟨b, 6, none⟩ _ (h.c.2.2.2.2.2.2)⟩, (World.frozen?_setCell _ _ _ _).trans (h.f.1), (World.frozen?_setCell _ _ _ _).trans (h.f.2.1), (World.frozen?_setCell _ _ _ _).trans (h.f.2.2.1), (World.frozen?_setCell _ _ _ _).trans (h.f.2.2.2.1), (World.frozen?_setCell _ _ _ _).trans (h.f.2.2.2.2.1), (World.frozen?_setCell _ _ _ _).trans (h.f.2.2.2.2.2.1), (World.frozen?_setCell _ _ _ _).trans (h.f.2.2.2.2.2.2)⟩
theorem HoldV.set5 {w : World} {b : Nat} {v : Vr} (h : HoldV w b v) (A : Option Addr) (c : Nat) (l : List Fd) : HoldV (w.setCell ⟨b, 5, none⟩ (.slice A l.length c)) b {v with fa := A, fc := c, fs := l} :=
  ⟨⟨(World.cell?_setCell_other _ ⟨b, 5, none⟩ ⟨b, 0, none⟩ _ (by simp)).trans (h.c.1), (World.cell?_setCell_other _ ⟨b, 5, none⟩ ⟨b, 1, none⟩ _ (by simp)).trans (h.c.2.1), (World.cell?_setCell_other _ ⟨b, 5, none⟩ ⟨b, 2, none⟩ _ (by simp)).trans (h.c.2.2.1), (World.cell?_setCell_other _ ⟨b, 5, none⟩ ⟨b, 3, none⟩ _ (by simp)).trans (h.c.2.2.2.1), (World.cell?_setCell_other _ ⟨b, 5, none⟩ ⟨b, 4, none⟩ _ (by simp)).trans (h.c.2.2.2.2.1), World.cell?_setCell_same _ ⟨b, 5, none⟩ _ (h.c.2.2.2.2.2.1), (World.cell?_setCell_other _ ⟨b, 5, none⟩ ⟨b, 6, none⟩ _ (by simp)).trans (h.c.2.2.2.2.2.2)⟩, (World.frozen?_setCell _ _ _ _).trans (h.f.1), (World.frozen?_setCell _ _ _ _).trans (h.f.2.1), (World.frozen?_setCell _ _ _ _).trans (h.f.2.2.1), (World.frozen?_setCell _ _ _ _).trans (h.f.2.2.2.1), (World.frozen?_setCell _ _ _ _).trans (h.f.2.2.2.2.1), (World.frozen?_setCell _ _ _ _).trans (h.f.2.2.2.2.2.1), (World.frozen?_setCell _ _ _ _).trans (h.f.2.2.2.2.2.2)⟩
theorem HoldV.other {w : World} {b : Nat} {v : Vr} (h : HoldV w b v) {c o : Nat} (hne : b ≠ c) (u : Value) : HoldV (w.setCell ⟨c, o, none⟩ u) b v :=
  ⟨⟨(World.cell?_setCell_other _ ⟨c, o, none⟩ ⟨b, 0, none⟩ _ (fun e => hne (by injection e with e1 e2; exact e1.symm))).trans (h.c.1), (World.cell?_setCell_other _ ⟨c, o, none⟩ ⟨b, 1, none⟩ _ (fun e => hne (by injection e with e1 e2; exact e1.symm))).trans (h.c.2.1), (World.cell?_setCell_other _ ⟨c, o, none⟩ ⟨b, 2, none⟩ _ (fun e => hne (by injection e with e1 e2; exact e1.symm))).trans (h.c.2.2.1), (World.cell?_setCell_other _ ⟨c, o, none⟩ ⟨b, 3, none⟩ _ (fun e => hne (by injection e with e1 e2; exact e1.symm))).trans (h.c.2.2.2.1), (World.cell?_setCell_other _ ⟨c, o, none⟩ ⟨b, 4, none⟩ _ (fun e => hne (by injection e with e1 e2; exact e1.symm))).trans (h.c.2.2.2.2.1), (World.cell?_setCell_other _ ⟨c, o, none⟩ ⟨b, 5, none⟩ _ (fun e => hne (by injection e with e1 e2; exact e1.symm))).trans (h.c.2.2.2.2.2.1), (World.cell?_setCell_other _ ⟨c, o, none⟩ ⟨b, 6, none⟩ _ (fun e => hne (by injection e with e1 e2; exact e1.symm))).trans (h.c.2.2.2.2.2.2)⟩, (World.frozen?_setCell _ _ _ _).trans (h.f.1), (World.frozen?_setCell _ _ _ _).trans (h.f.2.1), (World.frozen?_setCell _ _ _ _).trans (h.f.2.2.1), (World.frozen?_setCell _ _ _ _).trans (h.f.2.2.2.1), (World.frozen?_setCell _ _ _ _).trans (h.f.2.2.2.2.1), (World.frozen?_setCell _ _ _ _).trans (h.f.2.2.2.2.2.1), (World.frozen?_setCell _ _ _ _).trans (h.f.2.2.2.2.2.2)⟩

end Go.Proofs.YtaoobliajgcdmaaGreat

/-
  Plain facts on lists of spans: which times a list has, what a cover is, that a set of times has one cover, how covers grow at their end.
-/
namespace Go.Proofs.YtaoobliajgcdmaaGreat.Co

/-- May the span be? -/
def rightB (f t : Int) : Bool := decide (-1099511627776 ≤ f ∧ f < t ∧ t ≤ 1099511627776)
/-- Has it the time? -/
def hasB (f t x : Int) : Bool := decide (f ≤ x ∧ x < t)
theorem right_yes {f t : Int} (h : rightB f t = true) : -1099511627776 ≤ f ∧ f < t ∧ t ≤ 1099511627776 := by simpa [rightB] using h
theorem right_no {f t : Int} (h : rightB f t = false) : ¬ (-1099511627776 ≤ f ∧ f < t ∧ t ≤ 1099511627776) := by simpa [rightB] using h

abbrev Sp := Int × Int
/-- Has one of the list's right spans the time? -/
def Mem (l : List Sp) (x : Int) : Prop := ∃ p ∈ l, rightB p.1 p.2 = true ∧ p.1 ≤ x ∧ x < p.2
def memB (l : List Sp) (x : Int) : Bool := l.any fun p => rightB p.1 p.2 && hasB p.1 p.2 x
theorem memB_iff (l : List Sp) (x : Int) : memB l x = true ↔ Mem l x := by simp [memB, Mem, hasB]
theorem memB_eq {l m : List Sp} {x : Int} (h : Mem l x ↔ Mem m x) : memB l x = memB m x := by
  rw [Bool.eq_iff_iff, memB_iff, memB_iff]; exact h
instance (l : List Sp) (x : Int) : Decidable (Mem l x) := decidable_of_iff _ (memB_iff l x)

theorem mem_nil (x : Int) : ¬ Mem [] x := by simp [Mem]
theorem mem_cons (p : Sp) (l : List Sp) (x : Int) : Mem (p :: l) x ↔ (rightB p.1 p.2 = true ∧ p.1 ≤ x ∧ x < p.2) ∨ Mem l x := by simp [Mem]
theorem mem_append (l m : List Sp) (x : Int) : Mem (l ++ m) x ↔ Mem l x ∨ Mem m x := by
  simp only [Mem, List.mem_append]
  constructor
  · rintro ⟨p, h | h, r⟩
    · exact .inl ⟨p, h, r⟩
    · exact .inr ⟨p, h, r⟩
  · rintro (⟨p, h, r⟩ | ⟨p, h, r⟩)
    · exact ⟨p, .inl h, r⟩
    · exact ⟨p, .inr h, r⟩
theorem mem_one (p : Sp) (x : Int) : Mem [p] x ↔ (rightB p.1 p.2 = true ∧ p.1 ≤ x ∧ x < p.2) := by simp [Mem]
theorem mem_perm {l m : List Sp} (h : l.Perm m) (x : Int) : Mem l x ↔ Mem m x := by
  constructor
  · rintro ⟨p, hp, r⟩; exact ⟨p, h.mem_iff.1 hp, r⟩
  · rintro ⟨p, hp, r⟩; exact ⟨p, h.mem_iff.2 hp, r⟩
theorem mem_filter (l : List Sp) (x : Int) : Mem (l.filter fun p => rightB p.1 p.2) x ↔ Mem l x := by
  simp only [Mem, List.mem_filter]
  constructor
  · rintro ⟨p, ⟨hp, _⟩, r⟩; exact ⟨p, hp, r⟩
  · rintro ⟨p, hp, r⟩; exact ⟨p, ⟨hp, r.1⟩, r⟩
theorem mem_bounds {l : List Sp} {x : Int} (h : Mem l x) : -1099511627776 ≤ x ∧ x < 1099511627776 := by
  obtain ⟨p, _, hr, h1, h2⟩ := h
  have := right_yes hr
  omega

/-- A cover: right spans, each of which ends ahead of the next one. -/
def Cov (l : List Sp) : Prop := (∀ p ∈ l, rightB p.1 p.2 = true) ∧ l.Pairwise fun p q => p.2 < q.1
instance (l : List Sp) : Decidable (Cov l) := inferInstanceAs (Decidable (_ ∧ _))
theorem Cov.nil : Cov [] := ⟨by simp, List.Pairwise.nil⟩
theorem Cov.tail {p : Sp} {l : List Sp} (h : Cov (p :: l)) : Cov l := ⟨fun q hq => h.1 q (List.mem_cons_of_mem _ hq), (List.pairwise_cons.1 h.2).2⟩
theorem Cov.head {p : Sp} {l : List Sp} (h : Cov (p :: l)) : ∀ q ∈ l, p.2 < q.1 := (List.pairwise_cons.1 h.2).1
theorem Cov.snoc {l : List Sp} {p : Sp} (h : Cov l) (hp : rightB p.1 p.2 = true) (hl : ∀ q ∈ l, q.2 < p.1) : Cov (l ++ [p]) := by
  refine ⟨fun q hq => ?_, ?_⟩
  · rcases List.mem_append.1 hq with h1 | h1
    · exact h.1 q h1
    · obtain rfl := List.mem_singleton.1 h1; exact hp
  · refine List.pairwise_append.2 ⟨h.2, List.pairwise_singleton _ _, fun a ha b hb => ?_⟩
    obtain rfl := List.mem_singleton.1 hb
    exact hl a ha
theorem Cov.left {l m : List Sp} (h : Cov (l ++ m)) : Cov l := ⟨fun p hp => h.1 p (List.mem_append_left _ hp), (List.pairwise_append.1 h.2).1⟩
theorem Cov.last {l : List Sp} {p : Sp} (h : Cov (l ++ [p])) : rightB p.1 p.2 = true ∧ ∀ q ∈ l, q.2 < p.1 :=
  ⟨h.1 p (by simp), fun q hq => (List.pairwise_append.1 h.2).2.2 q hq p (by simp)⟩
/-- All that stand ahead end ahead, if the last one does. -/
theorem Cov.ends {l : List Sp} {q : Sp} (h : Cov (l ++ [q])) {x : Int} (hx : q.2 < x) : ∀ p ∈ l ++ [q], p.2 < x := fun p hp => by
  rcases List.mem_append.1 hp with h1 | h1
  · have := h.last.2 p h1
    have := right_yes h.last.1
    omega
  · obtain rfl := List.mem_singleton.1 h1; exact hx

theorem cov_first {p : Sp} {l : List Sp} (h : Cov (p :: l)) {x : Int} (hx : Mem (p :: l) x) : p.1 ≤ x := by
  obtain ⟨q, hq, hr, h1, h2⟩ := hx
  rcases List.mem_cons.1 hq with rfl | hq
  · exact h1
  · have := h.head q hq
    have := right_yes (h.1 p (by simp))
    omega
theorem cov_first_mem {p : Sp} {l : List Sp} (h : Cov (p :: l)) : Mem (p :: l) p.1 := by
  have := right_yes (h.1 p (by simp))
  exact ⟨p, by simp, h.1 p (by simp), by omega, by omega⟩
theorem cov_end {p : Sp} {l : List Sp} (h : Cov (p :: l)) : ¬ Mem (p :: l) p.2 := by
  rintro ⟨q, hq, hr, h1, h2⟩
  rcases List.mem_cons.1 hq with rfl | hq
  · omega
  · have := h.head q hq
    omega
theorem cov_tail {p : Sp} {l : List Sp} (h : Cov (p :: l)) (x : Int) : Mem l x ↔ Mem (p :: l) x ∧ p.2 ≤ x := by
  constructor
  · intro hm
    obtain ⟨q, hq, hr, h1, h2⟩ := hm
    have := h.head q hq
    exact ⟨⟨q, List.mem_cons_of_mem _ hq, hr, h1, h2⟩, by omega⟩
  · rintro ⟨⟨q, hq, hr, h1, h2⟩, h3⟩
    rcases List.mem_cons.1 hq with rfl | hq
    · omega
    · exact ⟨q, hq, hr, h1, h2⟩

/-- A set of times has one cover. -/
theorem cov_ext : ∀ l m : List Sp, Cov l → Cov m → (∀ x, Mem l x ↔ Mem m x) → l = m
  | [], [], _, _, _ => rfl
  | [], q :: m, _, hm, h => absurd ((h q.1).2 (cov_first_mem hm)) (mem_nil _)
  | p :: l, [], hl, _, h => absurd ((h p.1).1 (cov_first_mem hl)) (mem_nil _)
  | p :: l, q :: m, hl, hm, h => by
    have h1 := cov_first hm ((h p.1).1 (cov_first_mem hl))
    have h2 := cov_first hl ((h q.1).2 (cov_first_mem hm))
    have rp := right_yes (hl.1 p (by simp))
    have rq := right_yes (hm.1 q (by simp))
    have e1 : p.1 = q.1 := by omega
    have e2 : p.2 = q.2 := by
      rcases Int.lt_trichotomy p.2 q.2 with hlt | heq | hgt
      · exact absurd ((h p.2).2 ⟨q, by simp, hm.1 q (by simp), by omega, hlt⟩) (cov_end hl)
      · exact heq
      · exact absurd ((h q.2).1 ⟨p, by simp, hl.1 p (by simp), by omega, hgt⟩) (cov_end hm)
    have e : p = q := Prod.ext e1 e2
    subst e
    rw [cov_ext l m hl.tail hm.tail fun x => by rw [cov_tail hl, cov_tail hm, h x]]

/-- The cover of a set of times. -/
def CovOf (l : List Sp) (S : Int → Prop) : Prop := Cov l ∧ ∀ x, Mem l x ↔ S x
theorem CovOf.eq {l m : List Sp} {S T : Int → Prop} (hl : CovOf l S) (hm : CovOf m T) (h : ∀ x, S x ↔ T x) : l = m :=
  cov_ext l m hl.1 hm.1 fun x => ((hl.2 x).trans (h x)).trans (hm.2 x).symm
theorem CovOf.same {l m : List Sp} {S T : Int → Prop} (hl : CovOf l S) (hm : CovOf m T) (h : ∀ x, S x ↔ T x) : decide (l = m) = true := by
  simpa using hl.eq hm h

/- Is a list a cover, as far as k? -/
theorem cov_take_succ {l : List Sp} {k : Nat} {p : Sp} (hp : l[k]? = some p) (h : Cov (l.take k)) (hr : rightB p.1 p.2 = true) (hq : ∀ q, k ≠ 0 → l[k - 1]? = some q → q.2 < p.1) : Cov (l.take (k + 1)) := by
  rw [List.take_add_one, hp]
  simp only [Option.toList_some]
  rcases Nat.eq_zero_or_pos k with rfl | hk
  · simpa using Cov.snoc (l := []) Cov.nil hr (by simp)
  · obtain ⟨q, hq'⟩ : ∃ q, l[k - 1]? = some q := by
      have : k < l.length := by rcases Nat.lt_or_ge k l.length with h | h; exact h; simp [List.getElem?_eq_none h] at hp
      exact ⟨_, List.getElem?_eq_getElem (by omega)⟩
    have e : l.take k = l.take (k - 1) ++ [q] := by
      have e1 : l.take (k - 1 + 1) = l.take (k - 1) ++ [q] := by rw [List.take_add_one, hq']; rfl
      rwa [show k - 1 + 1 = k from by omega] at e1
    have h' := h
    rw [e] at h'
    refine Cov.snoc h hr ?_
    rw [e]
    exact h'.ends (hq q (by omega) hq')
theorem cov_not_right {l : List Sp} {k : Nat} {p : Sp} (hp : l[k]? = some p) (hr : rightB p.1 p.2 = false) : ¬ Cov l := fun h => by
  have := h.1 p (List.mem_of_getElem? hp)
  rw [hr] at this
  cases this
theorem cov_not_apart {l : List Sp} {k : Nat} {p q : Sp} (hq : l[k]? = some q) (hp : l[k + 1]? = some p) (h : p.1 ≤ q.2) : ¬ Cov l := fun hc => by
  have h1 := List.pairwise_iff_getElem.1 hc.2 k (k + 1)
  obtain ⟨l1, e1⟩ := List.getElem?_eq_some_iff.1 hq
  obtain ⟨l2, e2⟩ := List.getElem?_eq_some_iff.1 hp
  have := h1 l1 l2 (by omega)
  rw [e1, e2] at this
  omega

/- Making a cover of spans that rise. -/
/-- What has been made of the spans so far. -/
structure Made (m d : List Sp) : Prop where
  cov : Cov m
  mem : ∀ x, Mem m x ↔ Mem d x
  len : m.length ≤ d.length
  from_ : ∀ q ∈ m, ∃ p ∈ d, p.1 = q.1
theorem Made.nil : Made [] [] := ⟨Cov.nil, fun _ => Iff.rfl, Nat.le_refl _, by simp⟩
theorem Made.joins {m d : List Sp} {q a : Sp} (h : Made (m ++ [q]) d) (hr : rightB a.1 a.2 = true) (hs : ∀ p ∈ d, p.1 ≤ a.1) (hle : a.1 ≤ q.2) : Made (m ++ [(q.1, max q.2 a.2)]) (d ++ [a]) := by
  have hq := right_yes h.cov.last.1
  have ha := right_yes hr
  obtain ⟨p, hp, he⟩ := h.from_ q (by simp)
  have h1 := hs p hp
  have hr' : rightB q.1 (max q.2 a.2) = true := by simp [rightB]; omega
  refine ⟨Cov.snoc h.cov.left hr' h.cov.last.2, fun x => ?_, by have := h.len; simp at this ⊢; omega, ?_⟩
  · rw [mem_append, mem_append, ← h.mem x, mem_append, mem_one, mem_one, mem_one]
    simp only [hr', hr, h.cov.last.1, true_and]
    constructor
    · rintro (h2 | h2)
      · exact .inl (.inl h2)
      · rcases Int.lt_or_le x q.2 with h3 | h3
        · exact .inl (.inr ⟨h2.1, h3⟩)
        · exact .inr ⟨by omega, by omega⟩
    · rintro ((h2 | h2) | h2)
      · exact .inl h2
      · exact .inr ⟨h2.1, by omega⟩
      · exact .inr ⟨by omega, by omega⟩
  · intro r hr2
    rcases List.mem_append.1 hr2 with h2 | h2
    · obtain ⟨p', hp', e⟩ := h.from_ r (List.mem_append_left _ h2)
      exact ⟨p', List.mem_append_left _ hp', e⟩
    · obtain rfl := List.mem_singleton.1 h2
      exact ⟨p, List.mem_append_left _ hp, he⟩
theorem Made.adds {m d : List Sp} {a : Sp} (h : Made m d) (hr : rightB a.1 a.2 = true) (hl : ∀ q ∈ m, q.2 < a.1) : Made (m ++ [a]) (d ++ [a]) := by
  refine ⟨Cov.snoc h.cov hr hl, fun x => ?_, by have := h.len; simp; omega, ?_⟩
  · rw [mem_append, mem_append, h.mem x]
  · intro r hr2
    rcases List.mem_append.1 hr2 with h2 | h2
    · obtain ⟨p', hp', e⟩ := h.from_ r h2
      exact ⟨p', List.mem_append_left _ hp', e⟩
    · obtain rfl := List.mem_singleton.1 h2
      exact ⟨_, by simp, rfl⟩

/- The document's way: piece by piece between the ends. -/
/-- A piece behind a cover: it is joined to the last one where it touches it. -/
theorem put_joins {m : List Sp} {q : Sp} {t : Int} (h : Cov (m ++ [q])) (hq : q.2 < t) (ht : t ≤ 1099511627776) : Cov (m ++ [(q.1, t)]) ∧ ∀ x, Mem (m ++ [(q.1, t)]) x ↔ Mem (m ++ [q]) x ∨ (q.2 ≤ x ∧ x < t) := by
  have hr := right_yes h.last.1
  have hr' : rightB q.1 t = true := by simp [rightB]; omega
  refine ⟨Cov.snoc h.left hr' h.last.2, fun x => ?_⟩
  rw [mem_append, mem_append, mem_one, mem_one]
  simp only [hr', h.last.1, true_and]
  constructor
  · rintro (h2 | h2)
    · exact .inl (.inl h2)
    · rcases Int.lt_or_le x q.2 with h3 | h3
      · exact .inl (.inr ⟨h2.1, h3⟩)
      · exact .inr ⟨h3, h2.2⟩
  · rintro ((h2 | h2) | h2)
    · exact .inl h2
    · exact .inr ⟨h2.1, by omega⟩
    · exact .inr ⟨by omega, h2.2⟩
theorem put_adds {m : List Sp} {f t : Int} (h : Cov m) (hl : ∀ q ∈ m, q.2 < f) (hr : rightB f t = true) : Cov (m ++ [(f, t)]) ∧ ∀ x, Mem (m ++ [(f, t)]) x ↔ Mem m x ∨ (f ≤ x ∧ x < t) := by
  refine ⟨Cov.snoc h hr hl, fun x => ?_⟩
  rw [mem_append, mem_one]
  simp [hr]

/-- The ends of the right spans of a list. -/
def endsOf (l : List Sp) : List Int := (l.filter fun p => rightB p.1 p.2).flatMap fun p => [p.1, p.2]
theorem mem_ends {l : List Sp} {p : Sp} (hp : p ∈ l) (hr : rightB p.1 p.2 = true) : p.1 ∈ endsOf l ∧ p.2 ∈ endsOf l := by
  unfold endsOf
  simp only [List.mem_flatMap, List.mem_filter]
  exact ⟨⟨p, ⟨hp, hr⟩, by simp⟩, ⟨p, ⟨hp, hr⟩, by simp⟩⟩
theorem ends_bounds {l : List Sp} {x : Int} (h : x ∈ endsOf l) : -1099511627776 ≤ x ∧ x ≤ 1099511627776 := by
  unfold endsOf at h
  simp only [List.mem_flatMap, List.mem_filter] at h
  obtain ⟨p, ⟨_, hr⟩, hx⟩ := h
  have := right_yes hr
  simp at hx
  omega
theorem ends_append (l m : List Sp) : endsOf (l ++ m) = endsOf l ++ endsOf m := by simp [endsOf]
theorem ends_length (l : List Sp) : (endsOf l).length ≤ 2 * l.length := by
  have h : ∀ l : List Sp, (l.flatMap fun p => [p.1, p.2]).length = 2 * l.length := fun l => by
    induction l with
    | nil => rfl
    | cons p l ih => simp only [List.flatMap_cons, List.length_append, ih, List.length_cons, List.length_nil]; omega
  rw [endsOf, h]
  have := List.length_filter_le (fun p : Sp => rightB p.1 p.2) l
  omega
/-- Between two ends that follow on each other all times are alike. -/
theorem mem_between {l : List Sp} {ts : List Int} (hts : ∀ y ∈ endsOf l, y ∈ ts) (hp : ts.Pairwise (· < ·)) {i : Nat} {a b x : Int} (ha : ts[i]? = some a) (hb : ts[i + 1]? = some b) (h1 : a ≤ x) (h2 : x < b) : Mem l x ↔ Mem l a := by
  have key : ∀ y ∈ ts, y < b → y ≤ a := fun y hy hlt => by
    obtain ⟨j, hj⟩ := List.getElem?_of_mem hy
    obtain ⟨lj, ej⟩ := List.getElem?_eq_some_iff.1 hj
    obtain ⟨li, ei⟩ := List.getElem?_eq_some_iff.1 ha
    obtain ⟨lb, eb⟩ := List.getElem?_eq_some_iff.1 hb
    have H := List.pairwise_iff_getElem.1 hp
    rcases Nat.lt_trichotomy j i with h | rfl | h
    · have := H j i lj li h
      omega
    · omega
    · rcases Nat.lt_or_ge (i + 1) j with h3 | h3
      · have := H (i + 1) j lb lj h3
        omega
      · obtain rfl : j = i + 1 := by omega
        omega
  constructor
  · rintro ⟨p, hp', hr, h3, h4⟩
    obtain ⟨e1, e2⟩ := mem_ends hp' hr
    have := key p.1 (hts _ e1) (by omega)
    exact ⟨p, hp', hr, this, by omega⟩
  · rintro ⟨p, hp', hr, h3, h4⟩
    obtain ⟨e1, e2⟩ := mem_ends hp' hr
    refine ⟨p, hp', hr, by omega, ?_⟩
    rcases Int.lt_or_le p.2 b with h5 | h5
    · have := key p.2 (hts _ e2) h5
      omega
    · omega
theorem mem_ahead {l : List Sp} {ts : List Int} (hts : ∀ y ∈ endsOf l, y ∈ ts) (hp : ts.Pairwise (· < ·)) {x : Int} (h : ∀ q, ts[0]? = some q → x < q) : ¬ Mem l x := by
  rintro ⟨p, hp', hr, h3, h4⟩
  obtain ⟨j, hj⟩ := List.getElem?_of_mem (hts _ (mem_ends hp' hr).1)
  obtain ⟨lj, ej⟩ := List.getElem?_eq_some_iff.1 hj
  have h0 := h ts[0] (List.getElem?_eq_getElem (by omega))
  rcases Nat.eq_zero_or_pos j with rfl | h1
  · omega
  · have := List.pairwise_iff_getElem.1 hp 0 j (by omega) lj h1
    omega
theorem mem_behind {l : List Sp} {ts : List Int} (hts : ∀ y ∈ endsOf l, y ∈ ts) (hp : ts.Pairwise (· < ·)) {i : Nat} {a x : Int} (ha : ts[i]? = some a) (hi : ts.length ≤ i + 1) (h : a ≤ x) : ¬ Mem l x := by
  rintro ⟨p, hp', hr, h3, h4⟩
  obtain ⟨j, hj⟩ := List.getElem?_of_mem (hts _ (mem_ends hp' hr).2)
  obtain ⟨lj, ej⟩ := List.getElem?_eq_some_iff.1 hj
  obtain ⟨li, ei⟩ := List.getElem?_eq_some_iff.1 ha
  rcases Nat.lt_or_ge j i with h1 | h1
  · have := List.pairwise_iff_getElem.1 hp j i lj li h1
    omega
  · obtain rfl : j = i := by omega
    omega

/-- Which times of two lists count. -/
def kindB (kind : Int) (x y : Bool) : Bool := (kind == 0 && (x || y)) || (kind == 1 && x && y) || (kind == 2 && x && !y)
def KindP (kind : Int) (a b : List Sp) (x : Int) : Prop := kindB kind (memB a x) (memB b x) = true
/-- What is out when the pieces ahead of place i are through. -/
structure OutTo (a b : List Sp) (kind : Int) (ts : List Int) (i : Nat) (o : List Sp) : Prop where
  cov : Cov o
  mem : ∀ x, (∀ q, ts[i]? = some q → x < q) → i < ts.length → (Mem o x ↔ KindP kind a b x)
  ends : ∀ p ∈ o, ∀ q, ts[i]? = some q → p.2 ≤ q
  len : o.length ≤ i
theorem kind_none {kind : Int} : kindB kind false false = false := by simp [kindB]
theorem OutTo.start {a b : List Sp} {kind : Int} {ts : List Int} (ha : ∀ y ∈ endsOf a, y ∈ ts) (hb : ∀ y ∈ endsOf b, y ∈ ts) (hp : ts.Pairwise (· < ·)) : OutTo a b kind ts 0 [] := by
  refine ⟨Cov.nil, fun x hx _ => ?_, by simp, Nat.le_refl _⟩
  have h1 : memB a x = false := by have := mem_ahead ha hp hx; rw [← memB_iff] at this; simpa using this
  have h2 : memB b x = false := by have := mem_ahead hb hp hx; rw [← memB_iff] at this; simpa using this
  simp [KindP, h1, h2, kind_none, mem_nil]
theorem kind_between {a b : List Sp} {kind : Int} {ts : List Int} (ha : ∀ y ∈ endsOf a, y ∈ ts) (hb : ∀ y ∈ endsOf b, y ∈ ts) (hp : ts.Pairwise (· < ·)) {i : Nat} {f t x : Int} (hf : ts[i]? = some f) (ht : ts[i + 1]? = some t) (h1 : f ≤ x) (h2 : x < t) : KindP kind a b x ↔ KindP kind a b f := by
  unfold KindP
  rw [memB_eq (l := a) (m := a) (x := x), memB_eq (l := b) (m := b) (x := x)]
  · rw [show memB a x = memB a f from by rw [Bool.eq_iff_iff, memB_iff, memB_iff]; exact mem_between ha hp hf ht h1 h2, show memB b x = memB b f from by rw [Bool.eq_iff_iff, memB_iff, memB_iff]; exact mem_between hb hp hf ht h1 h2]
  · exact Iff.rfl
  · exact Iff.rfl
/-- A piece that doesn't count. -/
theorem OutTo.skip {a b : List Sp} {kind : Int} {ts : List Int} {i : Nat} {o : List Sp} (h : OutTo a b kind ts i o) (ha : ∀ y ∈ endsOf a, y ∈ ts) (hb : ∀ y ∈ endsOf b, y ∈ ts) (hp : ts.Pairwise (· < ·)) {f t : Int} (hf : ts[i]? = some f) (ht : ts[i + 1]? = some t) (hn : kindB kind (memB a f) (memB b f) = false) : OutTo a b kind ts (i + 1) o := by
  obtain ⟨li, ei⟩ := List.getElem?_eq_some_iff.1 hf
  obtain ⟨lj, ej⟩ := List.getElem?_eq_some_iff.1 ht
  have hft := List.pairwise_iff_getElem.1 hp i (i + 1) li lj (by omega)
  rw [ei, ej] at hft
  refine ⟨h.cov, fun x hx _ => ?_, fun p hp' q hq => ?_, by have := h.len; omega⟩
  · rcases Int.lt_or_le x f with h1 | h1
    · exact h.mem x (fun q hq => by rw [hf] at hq; injection hq with hq; omega) li
    · rw [kind_between ha hb hp hf ht h1 (hx t ht)]
      constructor
      · rintro ⟨p, hp', hr, h3, h4⟩
        have := h.ends p hp' f hf
        omega
      · intro hk
        rw [KindP, hn] at hk
        cases hk
  · have := h.ends p hp' f hf
    rw [ht] at hq
    injection hq with hq
    omega
theorem OutTo.next {a b : List Sp} {kind : Int} {ts : List Int} {i : Nat} {o o' : List Sp} (h : OutTo a b kind ts i o) (ha : ∀ y ∈ endsOf a, y ∈ ts) (hb : ∀ y ∈ endsOf b, y ∈ ts) (hp : ts.Pairwise (· < ·)) {f t : Int} (hf : ts[i]? = some f) (ht : ts[i + 1]? = some t) (hn : kindB kind (memB a f) (memB b f) = true)
    (hc : Cov o') (hm : ∀ x, Mem o' x ↔ Mem o x ∨ (f ≤ x ∧ x < t)) (he : ∀ p ∈ o', p ∈ o ∨ p.2 = t) (hl : o'.length ≤ o.length + 1) : OutTo a b kind ts (i + 1) o' := by
  obtain ⟨li, ei⟩ := List.getElem?_eq_some_iff.1 hf
  obtain ⟨lj, ej⟩ := List.getElem?_eq_some_iff.1 ht
  have hft := List.pairwise_iff_getElem.1 hp i (i + 1) li lj (by omega)
  rw [ei, ej] at hft
  refine ⟨hc, fun x hx _ => ?_, fun p hp' q hq => ?_, by have := h.len; omega⟩
  · rw [hm x]
    rcases Int.lt_or_le x f with h1 | h1
    · rw [h.mem x (fun q hq => by rw [hf] at hq; injection hq with hq; omega) li]
      constructor
      · rintro (h2 | h2)
        · exact h2
        · omega
      · exact .inl
    · rw [kind_between ha hb hp hf ht h1 (hx t ht)]
      exact ⟨fun _ => hn, fun _ => .inr ⟨h1, hx t ht⟩⟩
  · rw [ht] at hq
    injection hq with hq
    rcases he p hp' with h1 | h1
    · have := h.ends p h1 f hf
      omega
    · omega
theorem OutTo.stop {a b : List Sp} {kind : Int} {ts : List Int} {i : Nat} {o : List Sp} (h : OutTo a b kind ts i o) (ha : ∀ y ∈ endsOf a, y ∈ ts) (hb : ∀ y ∈ endsOf b, y ∈ ts) (hp : ts.Pairwise (· < ·)) (hi : ts.length ≤ i + 1) (hi2 : i = 0 ∨ i < ts.length) : CovOf o (KindP kind a b) := by
  refine ⟨h.cov, fun x => ?_⟩
  rcases Nat.lt_or_ge i ts.length with hl | hl
  · rcases Int.lt_or_le x ts[i] with h1 | h1
    · exact h.mem x (fun q hq => by rw [List.getElem?_eq_getElem hl] at hq; injection hq with hq; omega) hl
    · have e1 : memB a x = false := by have := mem_behind ha hp (List.getElem?_eq_getElem hl) hi h1; rw [← memB_iff] at this; simpa using this
      have e2 : memB b x = false := by have := mem_behind hb hp (List.getElem?_eq_getElem hl) hi h1; rw [← memB_iff] at this; simpa using this
      constructor
      · rintro ⟨p, hp', hr, h3, h4⟩
        have := h.ends p hp' _ (List.getElem?_eq_getElem hl)
        omega
      · intro hk
        rw [KindP, e1, e2, kind_none] at hk
        cases hk
  · obtain rfl : i = 0 := by omega
    have ht : ts = [] := List.eq_nil_of_length_eq_zero (by omega)
    have e0 : o = [] := List.eq_nil_of_length_eq_zero (by have := h.len; omega)
    have e1 : memB a x = false := by have := mem_ahead ha hp (x := x) (by simp [ht]); rw [← memB_iff] at this; simpa using this
    have e2 : memB b x = false := by have := mem_ahead hb hp (x := x) (by simp [ht]); rw [← memB_iff] at this; simpa using this
    rw [e0]
    simp [KindP, e1, e2, kind_none, mem_nil]

end Go.Proofs.YtaoobliajgcdmaaGreat.Co

/-
  Plain facts on timelines: lists of pieces, what they have at a time, pieces put behind each other.
-/
namespace Go.Proofs.YtaoobliajgcdmaaGreat

/-- A piece; where its fields lie (fa, fc) is no part of what it says. -/
structure Pc where
  f : Int
  t : Int
  fa : Option Addr
  fc : Nat
  fs : List Fd
abbrev sayP (p : Pc) : Int × Int × List Fd := (p.f, p.t, p.fs)
/-- Do two pieces, two lists of them, say the same? -/
def sameP1 (p q : Pc) : Bool := (decide (p.f = q.f) && decide (p.t = q.t)) && sameF p.fs q.fs
def sameP : List Pc → List Pc → Bool
  | [], [] => true
  | p :: l, q :: m => sameP1 p q && sameP l m
  | _, _ => false
theorem sameP_say : ∀ {l m : List Pc}, l.map sayP = m.map sayP → sameP l m = true
  | [], [], _ => rfl
  | [], _ :: _, h => by simp at h
  | _ :: _, [], h => by simp at h
  | p :: l, q :: m, h => by
    rw [List.map_cons, List.map_cons] at h
    injection h with h1 h2
    obtain ⟨f, t, fa, fc, fs⟩ := p
    obtain ⟨f', t', fa', fc', fs'⟩ := q
    simp only [sayP, Prod.mk.injEq] at h1
    obtain ⟨rfl, rfl, rfl⟩ := h1
    rw [sameP, sameP_say h2]
    simp [sameP1, sameF_self]
theorem sameP_len : ∀ (a b : List Pc), a.length ≠ b.length → sameP a b = false
  | [], [], h => absurd rfl h
  | [], _ :: _, _ => rfl
  | _ :: _, [], _ => rfl
  | x :: a, y :: b, h => by
    rw [sameP, sameP_len a b (fun e => h (by simp [e])), Bool.and_false]

abbrev rightP (f t : Int) : Bool := decide (-1099511627776 ≤ f) && decide (t ≤ 1099511627776) && decide (f < t)
abbrev inP (f t x : Int) : Bool := decide (f ≤ x) && decide (x < t)
def hasP (p : Pc) (x : Int) : Bool := rightP p.f p.t && inP p.f p.t x
theorem hasP_iff (p : Pc) (x : Int) : hasP p x = true ↔ (-1099511627776 ≤ p.f ∧ p.t ≤ 1099511627776 ∧ p.f < p.t) ∧ p.f ≤ x ∧ x < p.t := by
  simp [hasP, rightP, inP, and_assoc]
/-- The first piece that has a time. -/
def valP : List Pc → Int → Option Pc
  | [], _ => none
  | p :: l, x => if hasP p x = true then some p else valP l x
def fsP (l : List Pc) (x : Int) : Option (List Fd) := (valP l x).map Pc.fs
theorem valP_append : ∀ (l m : List Pc) (x : Int), valP (l ++ m) x = match valP l x with | some p => some p | none => valP m x
  | [], m, x => rfl
  | p :: l, m, x => by
    rw [List.cons_append, valP, valP]
    split
    · rfl
    · exact valP_append l m x
theorem fsP_append (l m : List Pc) (x : Int) : fsP (l ++ m) x = match fsP l x with | some s => some s | none => fsP m x := by
  unfold fsP
  rw [valP_append]
  cases valP l x <;> rfl
theorem valP_none {l : List Pc} {x : Int} (h : ∀ p ∈ l, ¬ hasP p x = true) : valP l x = none := by
  induction l with
  | nil => rfl
  | cons p l ih =>
    rw [valP, if_neg (h p (by simp))]
    exact ih fun q hq => h q (List.mem_cons_of_mem _ hq)
theorem valP_mem {l : List Pc} {x : Int} {p : Pc} (h : valP l x = some p) : p ∈ l ∧ hasP p x = true := by
  induction l with
  | nil => cases h
  | cons q l ih =>
    rw [valP] at h
    split at h
    · rename_i hq
      injection h with h
      subst h
      exact ⟨by simp, hq⟩
    · exact ⟨List.mem_cons_of_mem _ (ih h).1, (ih h).2⟩
theorem fsP_none {l : List Pc} {x : Int} (h : ∀ p ∈ l, ¬ hasP p x = true) : fsP l x = none := by rw [fsP, valP_none h]; rfl
theorem fsP_one (p : Pc) (x : Int) : fsP [p] x = if hasP p x = true then some p.fs else none := by
  rw [fsP, valP]
  split <;> rfl

/-- A timeline. -/
def linkP (p q : Pc) : Prop := p.t ≤ q.f ∧ (p.t = q.f → p.fs ≠ q.fs)
def TL : List Pc → Prop
  | [] => True
  | [p] => rightP p.f p.t = true
  | p :: q :: l => rightP p.f p.t = true ∧ linkP p q ∧ TL (q :: l)
theorem TL.tail {p : Pc} : ∀ {l : List Pc}, TL (p :: l) → TL l
  | [], _ => trivial
  | _ :: _, h => h.2.2
theorem TL.head {p : Pc} : ∀ {l : List Pc}, TL (p :: l) → rightP p.f p.t = true
  | [], h => h
  | _ :: _, h => h.1
theorem right_lt {f t : Int} (h : rightP f t = true) : -1099511627776 ≤ f ∧ f < t ∧ t ≤ 1099511627776 := by
  simp only [rightP, Bool.and_eq_true, decide_eq_true_eq] at h
  omega
theorem TL.behind : ∀ {l : List Pc} {p : Pc}, TL (p :: l) → ∀ q ∈ l, p.t ≤ q.f
  | [], _, _, q, hq => by simp at hq
  | r :: l, p, h, q, hq => by
    have h1 := h.2.1.1
    rcases List.mem_cons.1 hq with rfl | hq
    · exact h1
    · have := TL.behind h.2.2 q hq
      have := right_lt h.2.2.head
      omega
theorem TL.rights : ∀ {l : List Pc}, TL l → ∀ p ∈ l, rightP p.f p.t = true
  | [], _, p, hp => by simp at hp
  | q :: l, h, p, hp => by
    rcases List.mem_cons.1 hp with rfl | hp
    · exact h.head
    · exact TL.rights h.tail p hp
theorem has_at {p : Pc} (h : rightP p.f p.t = true) {x : Int} (h1 : p.f ≤ x) (h2 : x < p.t) : hasP p x = true := by
  have := right_lt h
  rw [hasP_iff]; omega
theorem fs_head {p : Pc} {l : List Pc} (h : TL (p :: l)) {x : Int} (h1 : p.f ≤ x) (h2 : x < p.t) : fsP (p :: l) x = some p.fs := by
  rw [fsP, valP, if_pos (has_at h.head h1 h2)]; rfl
theorem fs_below {p : Pc} {l : List Pc} (h : TL (p :: l)) {x : Int} (h1 : x < p.f) : fsP (p :: l) x = none := fsP_none fun q hq hh => by
  rw [hasP_iff] at hh
  have := right_lt h.head
  rcases List.mem_cons.1 hq with rfl | hq
  · omega
  · have := h.behind q hq
    omega
theorem fs_tail {p : Pc} {l : List Pc} (h : TL (p :: l)) (x : Int) : fsP l x = if x < p.t then none else fsP (p :: l) x := by
  split
  · exact fsP_none fun q hq hh => by
      rw [hasP_iff] at hh
      have := h.behind q hq
      omega
  · have : ¬ hasP p x = true := fun hh => by rw [hasP_iff] at hh; omega
    rw [fsP, fsP, valP, if_neg this]
/-- At its end the first piece's fields are not told. -/
theorem fs_end {p : Pc} {l : List Pc} (h : TL (p :: l)) : fsP (p :: l) p.t ≠ some p.fs := by
  have hn : ¬ hasP p p.t = true := fun hh => by rw [hasP_iff] at hh; omega
  have e : fsP (p :: l) p.t = fsP l p.t := by rw [fsP, fsP, valP, if_neg hn]
  rw [e]
  cases l with
  | nil => simp [fsP, valP]
  | cons q l =>
    obtain ⟨h1, h2, h3⟩ := h
    have hq := right_lt h3.head
    by_cases he : p.t = q.f
    · rw [fs_head h3 (by omega) (by omega)]
      intro e2
      injection e2 with e2
      exact h2.2 he e2.symm
    · rw [fs_below h3 (by have := h2.1; omega)]
      simp
/-- A timeline is told by what it has at each time. -/
theorem tl_ext : ∀ {a b : List Pc}, TL a → TL b → (∀ x, fsP a x = fsP b x) → a.map sayP = b.map sayP
  | [], [], _, _, _ => rfl
  | [], q :: m, _, hb, h => by
    have := h q.f
    have hq := right_lt hb.head
    rw [fs_head hb (by omega) (by omega)] at this
    simp [fsP, valP] at this
  | p :: l, [], ha, _, h => by
    have := h p.f
    have hp := right_lt ha.head
    rw [fs_head ha (by omega) (by omega)] at this
    simp [fsP, valP] at this
  | p :: l, q :: m, ha, hb, h => by
    have hp := right_lt ha.head
    have hq := right_lt hb.head
    have ep := fs_head ha (x := p.f) (by omega) (by omega)
    have eq := fs_head hb (x := q.f) (by omega) (by omega)
    have hf : p.f = q.f := by
      rcases Int.lt_trichotomy p.f q.f with hlt | he | hgt
      · rw [h, fs_below hb hlt] at ep; cases ep
      · exact he
      · rw [← h, fs_below ha hgt] at eq; cases eq
    have hs : p.fs = q.fs := by
      have := h p.f
      rw [ep, hf, eq] at this
      injection this
    have ht : p.t = q.t := by
      rcases Int.lt_trichotomy p.t q.t with hlt | he | hgt
      · have := fs_end ha
        rw [h, fs_head hb (by omega) hlt, hs] at this
        exact absurd rfl this
      · exact he
      · have := fs_end hb
        rw [← h, fs_head ha (by omega) hgt, hs] at this
        exact absurd rfl this
    rw [List.map_cons, List.map_cons, tl_ext ha.tail hb.tail (fun x => by rw [fs_tail ha, fs_tail hb, ht, h])]
    simp only [sayP, hf, ht, hs]
theorem tl_same {a b : List Pc} (ha : TL a) (hb : TL b) (h : ∀ x, fsP a x = fsP b x) : sameP a b = true := sameP_say (tl_ext ha hb h)
/-- What each piece has is told at its beginning. -/
theorem fs_mem : ∀ {l : List Pc}, TL l → ∀ p ∈ l, fsP l p.f = some p.fs
  | [], _, p, hp => by simp at hp
  | q :: l, h, p, hp => by
    rcases List.mem_cons.1 hp with rfl | hp
    · have := right_lt h.head
      exact fs_head h (by omega) (by omega)
    · have h1 := fs_mem h.tail p hp
      have h2 := h.behind p hp
      rw [fs_tail h, if_neg (by omega)] at h1
      exact h1

/-- Is a list a timeline? -/
def linkB (p q : Pc) : Bool := decide (p.t ≤ q.f) && (decide (p.t ≠ q.f) || !sameF p.fs q.fs)
def rightT : List Pc → Bool
  | [] => true
  | [p] => rightP p.f p.t
  | p :: q :: l => rightP p.f p.t && linkB p q && rightT (q :: l)
theorem linkB_iff (p q : Pc) : linkB p q = true ↔ linkP p q := by
  unfold linkB linkP
  simp only [Bool.and_eq_true, decide_eq_true_eq, Bool.or_eq_true, Bool.not_eq_true']
  constructor
  · rintro ⟨h1, h2⟩
    refine ⟨h1, fun he hs => ?_⟩
    rcases h2 with h2 | h2
    · exact h2 he
    · rw [hs, sameF_self] at h2; cases h2
  · rintro ⟨h1, h2⟩
    refine ⟨h1, ?_⟩
    by_cases he : p.t = q.f
    · right
      cases hs : sameF p.fs q.fs with
      | false => rfl
      | true => exact absurd (sameF_eq _ _ hs) (h2 he)
    · exact .inl he
theorem rightT_iff : ∀ l : List Pc, rightT l = true ↔ TL l
  | [] => by simp [rightT, TL]
  | [p] => Iff.rfl
  | p :: q :: l => by
    rw [rightT, Bool.and_eq_true, Bool.and_eq_true, linkB_iff, rightT_iff (q :: l), TL, and_assoc]

/-- A piece behind a timeline. -/
def putP (l : List Pc) (p : Pc) : List Pc := match l.getLast? with
  | none => [p]
  | some q => if q.t = p.f ∧ sameF q.fs p.fs = true then l.dropLast ++ [{ q with t := p.t }] else l ++ [p]
theorem TL.snoc : ∀ {l : List Pc} {p : Pc}, TL l → rightP p.f p.t = true → (∀ q, l.getLast? = some q → linkP q p) → TL (l ++ [p])
  | [], _, _, hp, _ => hp
  | [q], p, h, hp, hl => ⟨h, hl q rfl, hp⟩
  | q :: r :: l, p, h, hp, hl => ⟨h.1, h.2.1, TL.snoc (l := r :: l) h.2.2 hp (fun s hs => hl s (by simpa using hs))⟩
theorem TL.init : ∀ {l m : List Pc}, TL (l ++ m) → TL l
  | [], _, _ => trivial
  | [_], _, h => h.head
  | _ :: q :: l, _, h => ⟨h.1, h.2.1, TL.init (l := q :: l) h.2.2⟩
theorem TL.last : ∀ {l : List Pc} {p : Pc}, TL (l ++ [p]) → rightP p.f p.t = true ∧ (∀ q ∈ l, q.t ≤ p.f) ∧ ∀ q, l.getLast? = some q → linkP q p
  | [], _, h => ⟨h, by simp, by simp⟩
  | [q], _, h => ⟨h.2.2, by simpa using h.2.1.1, by simpa using h.2.1⟩
  | q :: r :: l, p, h => by
    obtain ⟨h1, h2, h3⟩ := TL.last (l := r :: l) (p := p) h.2.2
    refine ⟨h1, fun s hs => ?_, fun s hs => h3 s (by simpa using hs)⟩
    rcases List.mem_cons.1 hs with rfl | hs
    · exact TL.behind h p (by simp)
    · exact h2 s hs
theorem link_fs {q q' p : Pc} (h : linkP q p) (h1 : q'.t = q.t) (h2 : q'.fs = q.fs) : linkP q' p := by
  unfold linkP at *
  rw [h1, h2]; exact h
/-- What is put behind a timeline. -/
structure PutTo (l : List Pc) (p : Pc) (m : List Pc) : Prop where
  tl : TL m
  fs : ∀ x, fsP m x = if p.f ≤ x ∧ x < p.t then some p.fs else fsP l x
  le : ∀ q ∈ m, q.t ≤ p.t
  len : m.length ≤ l.length + 1
  mem : ∀ q ∈ m, q.fs = p.fs ∨ ∃ r ∈ l, q.fs = r.fs
theorem fs_past {l : List Pc} {x : Int} (h : ∀ q ∈ l, q.t ≤ x) : fsP l x = none := fsP_none fun q hq hh => by
  rw [hasP_iff] at hh
  have := h q hq
  omega
theorem put_to {l : List Pc} {p : Pc} (hl : TL l) (hp : rightP p.f p.t = true) (hle : ∀ q ∈ l, q.t ≤ p.f) : PutTo l p (putP l p) := by
  have hr := right_lt hp
  rcases List.eq_nil_or_concat l with rfl | ⟨m, q, rfl⟩
  · refine ⟨hp, fun x => ?_, by simp [putP], by simp [putP], by simp [putP]⟩
    show fsP [p] x = _
    rw [fsP_one]
    by_cases hx : p.f ≤ x ∧ x < p.t
    · rw [if_pos hx, if_pos (has_at hp hx.1 hx.2)]
    · rw [if_neg hx, if_neg (fun hh => by rw [hasP_iff] at hh; exact hx hh.2)]; rfl
  · rw [List.concat_eq_append] at hl hle ⊢
    obtain ⟨h1, h2, h3⟩ := hl.last
    have hq := hle q (by simp)
    have hqr := right_lt h1
    unfold putP
    rw [show (m ++ [q]).getLast? = some q by simp, List.dropLast_concat]
    simp only
    by_cases hj : q.t = p.f ∧ sameF q.fs p.fs = true
    · rw [if_pos hj]
      have hj : q.t = p.f ∧ q.fs = p.fs := ⟨hj.1, sameF_eq _ _ hj.2⟩
      refine ⟨hl.init.snoc ?_ (fun s hs => ⟨(h3 s hs).1, fun e => (h3 s hs).2 e⟩), fun x => ?_, ?_, by simp, ?_⟩
      · show rightP q.f p.t = true
        simp only [rightP, Bool.and_eq_true, decide_eq_true_eq]; omega
      · rw [fsP_append, fsP_append, fsP_one, fsP_one]
        by_cases hx : p.f ≤ x ∧ x < p.t
        · rw [if_pos hx, fs_past (fun s hs => by have := h2 s hs; omega)]
          simp only
          rw [if_pos, hj.2]
          rw [hasP_iff]
          show (-1099511627776 ≤ q.f ∧ p.t ≤ 1099511627776 ∧ q.f < p.t) ∧ q.f ≤ x ∧ x < p.t
          omega
        · rw [if_neg hx]
          have : (hasP { q with t := p.t } x = true) ↔ (hasP q x = true) := by
            rw [hasP_iff, hasP_iff]
            show ((-1099511627776 ≤ q.f ∧ p.t ≤ 1099511627776 ∧ q.f < p.t) ∧ q.f ≤ x ∧ x < p.t) ↔ _
            omega
          simp only [this]
      · intro s hs
        rcases List.mem_append.1 hs with hs | hs
        · have := h2 s hs; omega
        · obtain rfl := List.mem_singleton.1 hs
          exact Int.le_refl _
      · intro s hs
        rcases List.mem_append.1 hs with hs | hs
        · exact .inr ⟨s, by simp [hs], rfl⟩
        · obtain rfl := List.mem_singleton.1 hs
          exact .inl hj.2
    · rw [if_neg hj]
      refine ⟨hl.snoc hp (fun s hs => ?_), fun x => ?_, ?_, by simp, ?_⟩
      · rw [show (m ++ [q]).getLast? = some q by simp] at hs
        injection hs with hs
        subst hs
        exact ⟨hq, fun e e2 => hj ⟨e, by rw [e2]; exact sameF_self _⟩⟩
      · rw [fsP_append, fsP_one]
        by_cases hx : p.f ≤ x ∧ x < p.t
        · rw [if_pos hx, fs_past (fun s hs => by have := hle s hs; omega), if_pos (has_at hp hx.1 hx.2)]
        · rw [if_neg hx, if_neg (fun hh => by rw [hasP_iff] at hh; exact hx hh.2)]
          cases fsP (m ++ [q]) x <;> rfl
      · intro s hs
        rcases List.mem_append.1 hs with hs | hs
        · have := hle s hs; omega
        · obtain rfl := List.mem_singleton.1 hs
          exact Int.le_refl _
      · intro s hs
        rcases List.mem_append.1 hs with hs | hs
        · exact .inr ⟨s, hs, rfl⟩
        · obtain rfl := List.mem_singleton.1 hs
          exact .inl rfl

/-- A timeline that is made from end to end. -/
structure MadeT (ts : List Int) (g : Int → Option (List Fd)) (i : Nat) (o : List Pc) : Prop where
  tl : TL o
  le : ∀ e, ts[i]? = some e → ∀ q ∈ o, q.t ≤ e
  fs : ∀ e, ts[i]? = some e → ∀ x, fsP o x = if x < e then g x else none
  len : o.length ≤ i
/-- What is to be made is the same from one end to the next one, and nothing outside of them. -/
structure Steps (ts : List Int) (g : Int → Option (List Fd)) : Prop where
  up : ts.Pairwise (· < ·)
  lim : ∀ e ∈ ts, -1099511627776 ≤ e ∧ e ≤ 1099511627776
  const : ∀ (i : Nat) (a b x : Int), ts[i]? = some a → ts[i + 1]? = some b → a ≤ x → x < b → g x = g a
  ahead : ∀ x, (∀ e, ts[0]? = some e → x < e) → g x = none
  behind : ∀ x, (∀ e ∈ ts, e ≤ x) → g x = none
theorem MadeT.start {ts : List Int} {g : Int → Option (List Fd)} (h : Steps ts g) : MadeT ts g 0 [] :=
  ⟨trivial, fun e _ q hq => by simp at hq, fun e he x => by
    by_cases hx : x < e
    · rw [if_pos hx, h.ahead x (fun e' he' => by rw [he] at he'; injection he' with he'; omega)]; rfl
    · rw [if_neg hx]; rfl, Nat.le_refl _⟩
theorem steps_lt {ts : List Int} {g : Int → Option (List Fd)} (h : Steps ts g) {i : Nat} {f t : Int} (hf : ts[i]? = some f) (ht : ts[i + 1]? = some t) : f < t ∧ -1099511627776 ≤ f ∧ t ≤ 1099511627776 := by
  obtain ⟨h1, rfl⟩ := List.getElem?_eq_some_iff.1 hf
  obtain ⟨h2, rfl⟩ := List.getElem?_eq_some_iff.1 ht
  exact ⟨List.pairwise_iff_getElem.1 h.up i (i + 1) h1 h2 (by omega), (h.lim _ (List.getElem_mem h1)).1, (h.lim _ (List.getElem_mem h2)).2⟩
theorem MadeT.skip {ts : List Int} {g : Int → Option (List Fd)} (h : Steps ts g) {i : Nat} {o : List Pc} (k : MadeT ts g i o) {f t : Int} (hf : ts[i]? = some f) (ht : ts[i + 1]? = some t) (hg : g f = none) : MadeT ts g (i + 1) o := by
  have hlt := steps_lt h hf ht
  refine ⟨k.tl, fun e he q hq => ?_, fun e he x => ?_, by have := k.len; omega⟩
  · rw [ht] at he; injection he with he; subst he
    have := k.le f hf q hq; omega
  · rw [ht] at he; injection he with he; subst he
    rw [k.fs f hf]
    by_cases h1 : x < f
    · rw [if_pos h1, if_pos (by omega)]
    · rw [if_neg h1]
      by_cases h2 : x < t
      · rw [if_pos h2, h.const i f t x hf ht (by omega) h2, hg]
      · rw [if_neg h2]
theorem MadeT.next {ts : List Int} {g : Int → Option (List Fd)} (h : Steps ts g) {i : Nat} {o : List Pc} (k : MadeT ts g i o) {p : Pc} (hf : ts[i]? = some p.f) (ht : ts[i + 1]? = some p.t) (hg : g p.f = some p.fs) : MadeT ts g (i + 1) (putP o p) := by
  have hlt := steps_lt h hf ht
  have hp : rightP p.f p.t = true := by simp only [rightP, Bool.and_eq_true, decide_eq_true_eq]; omega
  have hpt := put_to k.tl hp (k.le p.f hf)
  refine ⟨hpt.tl, fun e he q hq => ?_, fun e he x => ?_, by have := k.len; have := hpt.len; omega⟩
  · rw [ht] at he; injection he with he; subst he
    exact hpt.le q hq
  · rw [ht] at he; injection he with he; subst he
    rw [hpt.fs, k.fs p.f hf]
    by_cases h1 : p.f ≤ x ∧ x < p.t
    · rw [if_pos h1, if_pos h1.2, h.const i p.f p.t x hf ht h1.1 h1.2, hg]
    · rw [if_neg h1]
      by_cases h2 : x < p.f
      · rw [if_pos h2, if_pos (by omega)]
      · rw [if_neg h2, if_neg (by omega)]
theorem MadeT.stop {ts : List Int} {g : Int → Option (List Fd)} (h : Steps ts g) {i : Nat} {o : List Pc} (k : MadeT ts g i o) (hi : ts.length = i + 1) : TL o ∧ ∀ x, fsP o x = g x := by
  refine ⟨k.tl, fun x => ?_⟩
  obtain ⟨e, he⟩ : ∃ e, ts[i]? = some e := ⟨_, List.getElem?_eq_getElem (by omega)⟩
  rw [k.fs e he]
  split
  · rfl
  · rw [h.behind x (fun a ha => by
      obtain ⟨j, hj⟩ := List.mem_iff_getElem?.1 ha
      have hjl := (List.getElem?_eq_some_iff.1 hj).1
      rcases Nat.lt_or_ge j i with hji | hji
      · obtain ⟨h1, rfl⟩ := List.getElem?_eq_some_iff.1 hj
        obtain ⟨h2, rfl⟩ := List.getElem?_eq_some_iff.1 he
        have := List.pairwise_iff_getElem.1 h.up j i h1 h2 hji
        omega
      · obtain rfl : j = i := by omega
        rw [he] at hj; injection hj with hj; omega)]

end Go.Proofs.YtaoobliajgcdmaaGreat

/-
  What the small calls of span, and of the document's answers beside it, give back for any spans and times: Right, Has, Long. Each makes new blocks alone.
-/
namespace Go.Proofs.YtaoobliajgcdmaaGreat.Co
open Go.RowKit

/-- A span as a value. -/
abbrev sp (f t : Int) : Value := .agg #[.int .i64 f, .int .i64 t]

theorem bcell {W w1 : World} (hb : Below W.heap.size W w1) : (∀ b o, b < W.heap.size → w1.cell? ⟨b, o, none⟩ = W.cell? ⟨b, o, none⟩) ∧ (∀ b o, b < W.heap.size → w1.frozen? ⟨b, o, none⟩ = W.frozen? ⟨b, o, none⟩) :=
  ⟨fun b o h => hb.cell (p := ⟨b, o, none⟩) h, fun b o h => hb.frozen (p := ⟨b, o, none⟩) h⟩

set_option maxHeartbeats 400000 in
theorem right_any (f t : Int) (w : World) :
    Calls Tryz.prog 43 #[sp f t] w fun e w' => e = .returned (.bool (rightB f t)) ∧ Below w.heap.size w w' := by
  by_cases h0 : -1099511627776 ≤ f
  case' neg =>
    go_enter Tryz.func43, Tryz.ntmps43
    go_wp2
    go_ret
    exact ⟨by simp [rightB]; omega, by go_grown⟩
  by_cases h1 : f < t
  case' neg =>
    go_enter Tryz.func43, Tryz.ntmps43
    go_wp2
    go_ret
    exact ⟨by simp [rightB]; omega, by go_grown⟩
  by_cases h2 : t ≤ 1099511627776
  case' neg =>
    go_enter Tryz.func43, Tryz.ntmps43
    go_wp2
    go_ret
    exact ⟨by simp [rightB]; omega, by go_grown⟩
  go_enter Tryz.func43, Tryz.ntmps43
  go_wp2
  go_ret
  exact ⟨by simp [rightB]; omega, by go_grown⟩

set_option maxHeartbeats 400000 in
theorem drightc_any (f t : Int) (w : World) :
    Calls Tryz.prog 29 #[sp f t] w fun e w' => e = .returned (.bool (rightB f t)) ∧ Below w.heap.size w w' := by
  by_cases h0 : -1099511627776 ≤ f
  case' neg =>
    go_enter Tryz.func29, Tryz.ntmps29
    go_wp2
    go_ret
    exact ⟨by simp [rightB]; omega, by go_grown⟩
  by_cases h1 : t ≤ 1099511627776
  case' neg =>
    go_enter Tryz.func29, Tryz.ntmps29
    go_wp2
    go_ret
    exact ⟨by simp [rightB]; omega, by go_grown⟩
  by_cases h2 : f < t
  case' neg =>
    go_enter Tryz.func29, Tryz.ntmps29
    go_wp2
    go_ret
    exact ⟨by simp [rightB]; omega, by go_grown⟩
  go_enter Tryz.func29, Tryz.ntmps29
  go_wp2
  go_ret
  exact ⟨by simp [rightB]; omega, by go_grown⟩

set_option maxHeartbeats 400000 in
theorem has_any (f t x : Int) (w : World) :
    Calls Tryz.prog 45 #[sp f t, .int .i64 x] w fun e w' => e = .returned (.bool (hasB f t x)) ∧ Below w.heap.size w w' := by
  by_cases h0 : f ≤ x
  case' neg =>
    go_enter Tryz.func45, Tryz.ntmps45
    go_wp2
    go_ret
    exact ⟨by simp [hasB]; omega, by go_grown⟩
  by_cases h1 : x < t
  case' neg =>
    go_enter Tryz.func45, Tryz.ntmps45
    go_wp2
    go_ret
    exact ⟨by simp [hasB]; omega, by go_grown⟩
  go_enter Tryz.func45, Tryz.ntmps45
  go_wp2
  go_ret
  exact ⟨by simp [hasB]; omega, by go_grown⟩

set_option maxHeartbeats 400000 in
theorem dhas_any (f t x : Int) (w : World) :
    Calls Tryz.prog 30 #[sp f t, .int .i64 x] w fun e w' => e = .returned (.bool (hasB f t x)) ∧ Below w.heap.size w w' := by
  by_cases h0 : f ≤ x
  case' neg =>
    go_enter Tryz.func30, Tryz.ntmps30
    go_wp2
    go_ret
    exact ⟨by simp [hasB]; omega, by go_grown⟩
  by_cases h1 : x < t
  case' neg =>
    go_enter Tryz.func30, Tryz.ntmps30
    go_wp2
    go_ret
    exact ⟨by simp [hasB]; omega, by go_grown⟩
  go_enter Tryz.func30, Tryz.ntmps30
  go_wp2
  go_ret
  exact ⟨by simp [hasB]; omega, by go_grown⟩

/-- How many times it has. -/
def longI (f t : Int) : Int := if rightB f t then t - f else 0
theorem ret_int {k : IntKind} {a b : Int} (h : a = b) : Ending.returned (.int k a) = .returned (.int k b) := by rw [h]

/-- Two cells of one block, stored one behind the other. -/
theorem two_set {w : World} {b : Nat} {u0 u1 : Value} (x y : Value) (h0 : w.cell? ⟨b, 0, none⟩ = some u0) (h1 : w.cell? ⟨b, 1, none⟩ = some u1) :
    (w.setCell ⟨b, 0, none⟩ x).cell? ⟨b, 0, none⟩ = some x ∧ ((w.setCell ⟨b, 0, none⟩ x).setCell ⟨b, 1, none⟩ y).cell? ⟨b, 1, none⟩ = some y :=
  ⟨World.cell?_setCell_same _ _ _ h0, World.cell?_setCell_same _ _ _ ((World.cell?_setCell_other _ _ _ _ (by simp)).trans h1)⟩

end Go.Proofs.YtaoobliajgcdmaaGreat.Co

/-
  What span.Make and span.Meet give back, and the document's Meet, for any spans.
-/
namespace Go.Proofs.YtaoobliajgcdmaaGreat.Co
open Go.RowKit

def madeF (f t : Int) : Int := if rightB f t then f else 0
def madeT (f t : Int) : Int := if rightB f t then t else 0
def madeE (f t : Int) : Int := if rightB f t then 0 else 3
set_option maxHeartbeats 400000 in
theorem smake_any (f t : Int) (w : World) :
    Calls Tryz.prog 56 #[.int .i64 f, .int .i64 t] w fun e w' => e = .returned (.tuple #[sp (madeF f t) (madeT f t), .int .i64 (madeE f t)]) ∧ Below w.heap.size w w' := by
  cases hr : rightB f t
  all_goals
    go_enter Tryz.func56, Tryz.ntmps56
    go_wp2_with (go_at_call 43; refine (right_any _ _ _).mono ?_; rintro e w1 ⟨rfl, hb⟩; obtain ⟨hc, hf⟩ := bcell hb)
    have h0 := (hc w.heap.size 0 (by simp; omega)).trans (by simp [go_sem]; rfl)
    have h1 := (hc w.heap.size 1 (by simp; omega)).trans (by simp [go_sem]; rfl)
  · obtain ⟨q0, q1⟩ := two_set (.int .i64 0) (.int .i64 0) h0 h1
    refine bodyPost_ret (v := .tuple #[sp (madeF f t) (madeT f t), .int .i64 (madeE f t)]) (by simp [results, Tryz.results56, go_sem, q0, q1, madeF, madeT, madeE, hr]) rfl ⟨rfl, ?_⟩
    exact (((((Below.refl _ _).alloc (Nat.le_refl _) _).alloc (by simp) _).trans (hb.mono (by simp; omega))).setCell (by simp) _).setCell (by simp) _
  · obtain ⟨q0, q1⟩ := two_set (.int .i64 f) (.int .i64 t) h0 h1
    refine bodyPost_ret (v := .tuple #[sp (madeF f t) (madeT f t), .int .i64 (madeE f t)]) (by simp [results, Tryz.results56, go_sem, q0, q1, madeF, madeT, madeE, hr]) rfl ⟨rfl, ?_⟩
    exact (((((Below.refl _ _).alloc (Nat.le_refl _) _).alloc (by simp) _).trans (hb.mono (by simp; omega))).setCell (by simp) _).setCell (by simp) _

/-- Have both a time in common? -/
def meetB (a b c d : Int) : Bool := rightB a b && rightB c d && decide (max a c < min b d)
def meetF (a b c d : Int) : Int := if meetB a b c d then max a c else 0
def meetT (a b c d : Int) : Int := if meetB a b c d then min b d else 0

/-- Three blocks of the call's own are there still. -/
theorem size3 {w w1 : World} {o0 o1 o2 : Obj} (hb : Below (((w.alloc o0).alloc o1).alloc o2).heap.size (((w.alloc o0).alloc o1).alloc o2) w1) :
    w.heap.size < w1.heap.size ∧ w.heap.size + 1 < w1.heap.size ∧ w.heap.size + 1 + 1 < w1.heap.size := by
  have := hb.size
  simp at this
  omega

def meetE (a b c d : Int) : Int := if meetB a b c d then 0 else 3
theorem make_meet (a b c d x y : Int) (hr : rightB a b = true) (hs : rightB c d = true) (hx : x = max a c) (hy : y = min b d) (w : World) :
    Calls Tryz.prog 56 #[.int .i64 x, .int .i64 y] w fun e w' => e = .returned (.tuple #[sp (meetF a b c d) (meetT a b c d), .int .i64 (meetE a b c d)]) ∧ Below w.heap.size w w' := by
  have e : rightB x y = meetB a b c d := by
    have h1 := right_yes hr
    have h2 := right_yes hs
    rw [Bool.eq_iff_iff]
    simp [meetB, rightB, hx, hy]
    omega
  have e1 : madeF x y = meetF a b c d := by simp only [madeF, meetF, e]; rw [hx]
  have e2 : madeT x y = meetT a b c d := by simp only [madeT, meetT, e]; rw [hy]
  have e3 : madeE x y = meetE a b c d := by simp only [madeE, meetE, e]
  exact (smake_any x y w).mono fun e' w' ⟨he, hb⟩ => ⟨by rw [he, e1, e2, e3], hb⟩

set_option maxHeartbeats 800000 in
theorem meet_any (a b c d : Int) (w : World) :
    Calls Tryz.prog 32 #[sp a b, sp c d] w fun e w' => e = .returned (.tuple #[sp (meetF a b c d) (meetT a b c d), .bool (meetB a b c d)]) ∧ Below w.heap.size w w' := by
  cases hr : rightB a b
  · go_enter Tryz.func32, Tryz.ntmps32
    go_wp2_with (go_at_call 43; refine (right_any _ _ _).mono ?_; rintro e w1 ⟨rfl, hb⟩; obtain ⟨hc, hf⟩ := bcell hb)
    have h0 := (hc (w.heap.size + 1 + 1) 0 (by simp)).trans (by simp [go_sem]; rfl)
    have h1 := (hc (w.heap.size + 1 + 1) 1 (by simp)).trans (by simp [go_sem]; rfl)
    obtain ⟨q0, q1⟩ := two_set (.int .i64 0) (.int .i64 0) h0 h1
    refine bodyPost_ret (v := .tuple #[sp (meetF a b c d) (meetT a b c d), .bool (meetB a b c d)]) (by simp [results, Tryz.results32, go_sem, q0, q1, meetF, meetT, meetB, hr]) rfl ⟨rfl, ?_⟩
    exact ((((((Below.refl _ _).alloc (Nat.le_refl _) _).alloc (by simp) _).alloc (by simp; omega) _).trans (hb.mono (by simp; omega))).setCell (by simp; omega) _).setCell (by simp; omega) _
  · cases hs : rightB c d
    · go_enter Tryz.func32, Tryz.ntmps32
      go_wp2_with fail
      (go_at_call 43; refine (right_any _ _ _).mono ?_; rintro e w1 ⟨rfl, hb⟩; obtain ⟨hc, hf⟩ := bcell hb; obtain ⟨hz0, hz1, hz2⟩ := size3 hb)
      go_wp2_with fail
      (go_at_call 43; refine (right_any _ _ _).mono ?_; rintro e w2 ⟨rfl, hb2⟩; obtain ⟨hc2, hf2⟩ := bcell hb2)
      go_wp2_with fail
      have h0 := (hc2 (w.heap.size + 1 + 1) 0 hz2).trans ((hc (w.heap.size + 1 + 1) 0 (by simp)).trans (by simp [go_sem]; rfl))
      have h1 := (hc2 (w.heap.size + 1 + 1) 1 hz2).trans ((hc (w.heap.size + 1 + 1) 1 (by simp)).trans (by simp [go_sem]; rfl))
      obtain ⟨q0, q1⟩ := two_set (.int .i64 0) (.int .i64 0) h0 h1
      refine bodyPost_ret (v := .tuple #[sp (meetF a b c d) (meetT a b c d), .bool (meetB a b c d)]) (by simp [results, Tryz.results32, go_sem, q0, q1, meetF, meetT, meetB, hr, hs]) rfl ⟨rfl, ?_⟩
      exact ((((((Below.refl _ _).alloc (Nat.le_refl _) _).alloc (by simp) _).alloc (by simp; omega) _).trans ((hb.mono (by simp; omega)).trans (hb2.mono (by omega)))).setCell (by simp; omega) _).setCell (by simp; omega) _
    · go_enter Tryz.func32, Tryz.ntmps32
      go_wp2_with fail
      (go_at_call 43; refine (right_any _ _ _).mono ?_; rintro e w1 ⟨rfl, hb⟩; obtain ⟨hc, hf⟩ := bcell hb; obtain ⟨hz0, hz1, hz2⟩ := size3 hb)
      go_wp2_with fail
      (go_at_call 43; refine (right_any _ _ _).mono ?_; rintro e w2 ⟨rfl, hb2⟩; obtain ⟨hc2, hf2⟩ := bcell hb2; have hz3 := hb2.size)
      go_wp2_with fail
      all_goals
        refine (make_meet a b c d _ _ hr hs (by omega) (by omega) _).mono ?_
        rintro e w3 ⟨rfl, hb3⟩
        obtain ⟨hc3, hf3⟩ := bcell hb3
        have hz4 : w.heap.size < w2.heap.size := by omega
        have hz5 : w.heap.size + 1 < w2.heap.size := by omega
        have hz6 : w.heap.size + 1 + 1 < w2.heap.size := by omega
        have hz7 : w.heap.size + 1 + 1 < w3.heap.size := by have := hb3.size; omega
        go_wp2_with fail
        have h0 := (hc3 (w.heap.size + 1 + 1) 0 hz6).trans ((hc2 (w.heap.size + 1 + 1) 0 hz2).trans ((hc (w.heap.size + 1 + 1) 0 (by simp)).trans (by simp [go_sem]; rfl)))
        have h1 := (hc3 (w.heap.size + 1 + 1) 1 hz6).trans ((hc2 (w.heap.size + 1 + 1) 1 hz2).trans ((hc (w.heap.size + 1 + 1) 1 (by simp)).trans (by simp [go_sem]; rfl)))
        obtain ⟨q0, q1⟩ := two_set (.int .i64 (meetF a b c d)) (.int .i64 (meetT a b c d)) h0 h1
        have he : (meetE a b c d == 0) = meetB a b c d := by unfold meetE; cases meetB a b c d <;> rfl
        refine bodyPost_ret (v := .tuple #[sp (meetF a b c d) (meetT a b c d), .bool (meetB a b c d)]) (by simp [results, Tryz.results32, go_sem, q0, q1, he, hz7]) rfl ⟨rfl, ?_⟩
        exact (((((((Below.refl _ _).alloc (Nat.le_refl _) _).alloc (by simp) _).alloc (by simp; omega) _).trans ((hb.mono (by simp; omega)).trans ((hb2.mono (by omega)).trans (hb3.mono (by omega))))).setCell (by simp; omega) _).setCell (by simp; omega) _).alloc (by simp; omega) _

set_option maxHeartbeats 800000 in
theorem dmeet_any (a b c d : Int) (w : World) :
    Calls Tryz.prog 40 #[sp a b, sp c d] w fun e w' => e = .returned (.tuple #[sp (meetF a b c d) (meetT a b c d), .bool (meetB a b c d)]) ∧ Below w.heap.size w w' := by
  cases hr : rightB a b
  · go_enter Tryz.func40, Tryz.ntmps40
    go_wp2_with (go_at_call 29; refine (drightc_any _ _ _).mono ?_; rintro e w1 ⟨rfl, hb⟩; obtain ⟨hc, hf⟩ := bcell hb)
    have h0 := (hc (w.heap.size + 1 + 1) 0 (by simp)).trans (by simp [go_sem]; rfl)
    have h1 := (hc (w.heap.size + 1 + 1) 1 (by simp)).trans (by simp [go_sem]; rfl)
    obtain ⟨q0, q1⟩ := two_set (.int .i64 0) (.int .i64 0) h0 h1
    refine bodyPost_ret (v := .tuple #[sp (meetF a b c d) (meetT a b c d), .bool (meetB a b c d)]) (by simp [results, Tryz.results40, go_sem, q0, q1, meetF, meetT, meetB, hr]) rfl ⟨rfl, ?_⟩
    exact ((((((Below.refl _ _).alloc (Nat.le_refl _) _).alloc (by simp) _).alloc (by simp; omega) _).trans (hb.mono (by simp; omega))).setCell (by simp; omega) _).setCell (by simp; omega) _
  · cases hs : rightB c d
    · go_enter Tryz.func40, Tryz.ntmps40
      go_wp2_with fail
      (go_at_call 29; refine (drightc_any _ _ _).mono ?_; rintro e w1 ⟨rfl, hb⟩; obtain ⟨hc, hf⟩ := bcell hb; obtain ⟨hz0, hz1, hz2⟩ := size3 hb)
      go_wp2_with fail
      (go_at_call 29; refine (drightc_any _ _ _).mono ?_; rintro e w2 ⟨rfl, hb2⟩; obtain ⟨hc2, hf2⟩ := bcell hb2)
      go_wp2_with fail
      have h0 := (hc2 (w.heap.size + 1 + 1) 0 hz2).trans ((hc (w.heap.size + 1 + 1) 0 (by simp)).trans (by simp [go_sem]; rfl))
      have h1 := (hc2 (w.heap.size + 1 + 1) 1 hz2).trans ((hc (w.heap.size + 1 + 1) 1 (by simp)).trans (by simp [go_sem]; rfl))
      obtain ⟨q0, q1⟩ := two_set (.int .i64 0) (.int .i64 0) h0 h1
      refine bodyPost_ret (v := .tuple #[sp (meetF a b c d) (meetT a b c d), .bool (meetB a b c d)]) (by simp [results, Tryz.results40, go_sem, q0, q1, meetF, meetT, meetB, hr, hs]) rfl ⟨rfl, ?_⟩
      exact ((((((Below.refl _ _).alloc (Nat.le_refl _) _).alloc (by simp) _).alloc (by simp; omega) _).trans ((hb.mono (by simp; omega)).trans (hb2.mono (by omega)))).setCell (by simp; omega) _).setCell (by simp; omega) _
    · go_enter Tryz.func40, Tryz.ntmps40
      go_wp2_with fail
      (go_at_call 29; refine (drightc_any _ _ _).mono ?_; rintro e w1 ⟨rfl, hb⟩; obtain ⟨hc, hf⟩ := bcell hb; obtain ⟨hz0, hz1, hz2⟩ := size3 hb)
      go_wp2_with fail
      (go_at_call 29; refine (drightc_any _ _ _).mono ?_; rintro e w2 ⟨rfl, hb2⟩; obtain ⟨hc2, hf2⟩ := bcell hb2; have hz3 := hb2.size)
      have hz4 : w.heap.size < w2.heap.size := by omega
      have hz5 : w.heap.size + 1 < w2.heap.size := by omega
      have hz6 : w.heap.size + 1 + 1 < w2.heap.size := by omega
      go_wp2_with fail
      all_goals
        have h0 := (hc2 (w.heap.size + 1 + 1) 0 hz2).trans ((hc (w.heap.size + 1 + 1) 0 (by simp)).trans (by simp [go_sem]; rfl))
        have h1 := (hc2 (w.heap.size + 1 + 1) 1 hz2).trans ((hc (w.heap.size + 1 + 1) 1 (by simp)).trans (by simp [go_sem]; rfl))
        first
        | (have hm : meetB a b c d = false := by (simp [meetB, hr, hs]; omega)
           have e1 : meetF a b c d = 0 := by (simp [meetF, hm]; try omega)
           have e2 : meetT a b c d = 0 := by (simp [meetT, hm]; try omega)
           obtain ⟨q0, q1⟩ := two_set (.int .i64 0) (.int .i64 0) h0 h1
           refine bodyPost_ret (v := .tuple #[sp (meetF a b c d) (meetT a b c d), .bool (meetB a b c d)]) (by simp [results, Tryz.results40, go_sem, q0, q1, e1, e2, hm, hz6]) rfl ⟨rfl, ?_⟩
           exact (((((((Below.refl _ _).alloc (Nat.le_refl _) _).alloc (by simp) _).alloc (by simp; omega) _).trans ((hb.mono (by simp; omega)).trans (hb2.mono (by omega)))).setCell (by simp; omega) _).setCell (by simp; omega) _).alloc (by simp; omega) _)
        | (have hm : meetB a b c d = true := by (simp [meetB, hr, hs]; omega)
           have e1 : meetF a b c d = a := by (simp [meetF, hm]; try omega)
           have e2 : meetT a b c d = b := by (simp [meetT, hm]; try omega)
           obtain ⟨q0, q1⟩ := two_set (.int .i64 a) (.int .i64 b) h0 h1
           refine bodyPost_ret (v := .tuple #[sp (meetF a b c d) (meetT a b c d), .bool (meetB a b c d)]) (by simp [results, Tryz.results40, go_sem, q0, q1, e1, e2, hm, hz6]) rfl ⟨rfl, ?_⟩
           exact (((((((Below.refl _ _).alloc (Nat.le_refl _) _).alloc (by simp) _).alloc (by simp; omega) _).trans ((hb.mono (by simp; omega)).trans (hb2.mono (by omega)))).setCell (by simp; omega) _).setCell (by simp; omega) _).alloc (by simp; omega) _)
        | (have hm : meetB a b c d = true := by (simp [meetB, hr, hs]; omega)
           have e1 : meetF a b c d = a := by (simp [meetF, hm]; try omega)
           have e2 : meetT a b c d = d := by (simp [meetT, hm]; try omega)
           obtain ⟨q0, q1⟩ := two_set (.int .i64 a) (.int .i64 d) h0 h1
           refine bodyPost_ret (v := .tuple #[sp (meetF a b c d) (meetT a b c d), .bool (meetB a b c d)]) (by simp [results, Tryz.results40, go_sem, q0, q1, e1, e2, hm, hz6]) rfl ⟨rfl, ?_⟩
           exact (((((((Below.refl _ _).alloc (Nat.le_refl _) _).alloc (by simp) _).alloc (by simp; omega) _).trans ((hb.mono (by simp; omega)).trans (hb2.mono (by omega)))).setCell (by simp; omega) _).setCell (by simp; omega) _).alloc (by simp; omega) _)
        | (have hm : meetB a b c d = true := by (simp [meetB, hr, hs]; omega)
           have e1 : meetF a b c d = c := by (simp [meetF, hm]; try omega)
           have e2 : meetT a b c d = b := by (simp [meetT, hm]; try omega)
           obtain ⟨q0, q1⟩ := two_set (.int .i64 c) (.int .i64 b) h0 h1
           refine bodyPost_ret (v := .tuple #[sp (meetF a b c d) (meetT a b c d), .bool (meetB a b c d)]) (by simp [results, Tryz.results40, go_sem, q0, q1, e1, e2, hm, hz6]) rfl ⟨rfl, ?_⟩
           exact (((((((Below.refl _ _).alloc (Nat.le_refl _) _).alloc (by simp) _).alloc (by simp; omega) _).trans ((hb.mono (by simp; omega)).trans (hb2.mono (by omega)))).setCell (by simp; omega) _).setCell (by simp; omega) _).alloc (by simp; omega) _)
        | (have hm : meetB a b c d = true := by (simp [meetB, hr, hs]; omega)
           have e1 : meetF a b c d = c := by (simp [meetF, hm]; try omega)
           have e2 : meetT a b c d = d := by (simp [meetT, hm]; try omega)
           obtain ⟨q0, q1⟩ := two_set (.int .i64 c) (.int .i64 d) h0 h1
           refine bodyPost_ret (v := .tuple #[sp (meetF a b c d) (meetT a b c d), .bool (meetB a b c d)]) (by simp [results, Tryz.results40, go_sem, q0, q1, e1, e2, hm, hz6]) rfl ⟨rfl, ?_⟩
           exact (((((((Below.refl _ _).alloc (Nat.le_refl _) _).alloc (by simp) _).alloc (by simp; omega) _).trans ((hb.mono (by simp; omega)).trans (hb2.mono (by omega)))).setCell (by simp; omega) _).setCell (by simp; omega) _).alloc (by simp; omega) _)

end Go.Proofs.YtaoobliajgcdmaaGreat.Co

/-
  What Make, Clip and Splice are to tell at each time; from end to end it is the same: plain facts.
-/
namespace Go.Proofs.YtaoobliajgcdmaaGreat

theorem rightB_P (f t : Int) : Co.rightB f t = rightP f t := by
  rw [Bool.eq_iff_iff]
  simp only [Co.rightB, rightP, Bool.and_eq_true, decide_eq_true_eq]
  omega
theorem rightP_iff (f t : Int) : rightP f t = true ↔ -1099511627776 ≤ f ∧ f < t ∧ t ≤ 1099511627776 := by
  simp only [rightP, Bool.and_eq_true, decide_eq_true_eq]
  omega
theorem inP_iff (f t x : Int) : inP f t x = true ↔ f ≤ x ∧ x < t := by
  simp only [inP, Bool.and_eq_true, decide_eq_true_eq]
theorem meetB_iff (a b c d : Int) : Co.meetB a b c d = true ↔ (rightP a b = true ∧ rightP c d = true) ∧ max a c < min b d := by
  unfold Co.meetB
  rw [rightB_P, rightB_P, Bool.and_eq_true, Bool.and_eq_true, decide_eq_true_eq]
theorem covers_iff (v : Vr) (x : Int) : coversB v x = true ↔ v.gone = false ∧ rightP v.sf v.se = true ∧ v.sf ≤ x ∧ x < v.se := by
  rw [rightP_iff]
  simp only [coversB, Bool.and_eq_true, Bool.not_eq_true', decide_eq_true_eq]
  constructor
  · rintro ⟨⟨h1, ⟨h2, h3⟩, h4⟩, h5, h6⟩; exact ⟨h1, ⟨h2, h4, h3⟩, h5, h6⟩
  · rintro ⟨h1, ⟨h2, h4, h3⟩, h5, h6⟩; exact ⟨⟨h1, ⟨h2, h3⟩, h4⟩, h5, h6⟩

/-- What the timeline of versions over a span has at a time. -/
def makeV (a : Int × Int) (l : List Vr) (x : Int) : Option (List Fd) := if (rightP a.1 a.2 && inP a.1 a.2 x && l.any fun v => coversB v x) = true then some (atL x l) else none
theorem makeV_out {a : Int × Int} {l : List Vr} {x : Int} (h : ¬ (rightP a.1 a.2 = true ∧ a.1 ≤ x ∧ x < a.2)) : makeV a l x = none := by
  rw [makeV, if_neg]
  intro hh
  rw [Bool.and_eq_true, Bool.and_eq_true, inP_iff] at hh
  exact h ⟨hh.1.1, hh.1.2.1, hh.1.2.2⟩
theorem makeV_in {a : Int × Int} {l : List Vr} {x : Int} (h1 : rightP a.1 a.2 = true) (h2 : a.1 ≤ x) (h3 : x < a.2) : makeV a l x = if (l.any fun v => coversB v x) = true then some (atL x l) else none := by
  rw [makeV, h1, (inP_iff _ _ _).2 ⟨h2, h3⟩]; rfl
theorem at_congr {l : List Vr} {x y : Int} (h : ∀ v ∈ l, coversB v x = coversB v y) : atL x l = atL y l ∧ (l.any fun v => coversB v x) = l.any fun v => coversB v y := by
  refine ⟨by rw [atL, atL, List.filter_congr h], ?_⟩
  rw [Bool.eq_iff_iff, List.any_eq_true, List.any_eq_true]
  constructor
  · rintro ⟨v, hv, hc⟩; exact ⟨v, hv, by rw [← h v hv]; exact hc⟩
  · rintro ⟨v, hv, hc⟩; exact ⟨v, hv, by rw [h v hv]; exact hc⟩

/-- Between two ends no other one lies. -/
theorem end_le {ts : List Int} (hp : ts.Pairwise (· < ·)) {i : Nat} {a b x e : Int} (ha : ts[i]? = some a) (hb : ts[i + 1]? = some b) (h1 : a ≤ x) (h2 : x < b) (he : e ∈ ts) : e ≤ x ↔ e ≤ a := by
  obtain ⟨j, hj⟩ := List.mem_iff_getElem?.1 he
  obtain ⟨i1, rfl⟩ := List.getElem?_eq_some_iff.1 ha
  obtain ⟨i2, rfl⟩ := List.getElem?_eq_some_iff.1 hb
  obtain ⟨i3, rfl⟩ := List.getElem?_eq_some_iff.1 hj
  have lt := fun (m n : Nat) (hm : m < ts.length) (hn : n < ts.length) (h : m < n) => List.pairwise_iff_getElem.1 hp m n hm hn h
  rcases Nat.lt_trichotomy j i with h | rfl | h
  · have := lt j i i3 i1 h
    omega
  · omega
  · rcases Nat.lt_or_ge (i + 1) j with h3 | h3
    · have := lt (i + 1) j i2 i3 h3
      have := lt i j i1 i3 h
      omega
    · obtain rfl : j = i + 1 := by omega
      omega
theorem end_first {ts : List Int} (hp : ts.Pairwise (· < ·)) {x : Int} (h : ∀ e, ts[0]? = some e → x < e) {e : Int} (he : e ∈ ts) : x < e := by
  cases ts with
  | nil => simp at he
  | cons y ts =>
    have h0 := h y rfl
    rcases List.mem_cons.1 he with rfl | he
    · exact h0
    · have := (List.pairwise_cons.1 hp).1 e he
      omega

/-- The ends of which Make goes. -/
def endsV (a : Int × Int) (v : Vr) : List Int := if (Co.meetB a.1 a.2 v.sf v.se && !v.gone) = true then [Co.meetF a.1 a.2 v.sf v.se, Co.meetT a.1 a.2 v.sf v.se] else []
def endsM (a : Int × Int) (l : List Vr) : List Int := [a.1, a.2] ++ l.flatMap (endsV a)
theorem endsV_length (a : Int × Int) (v : Vr) : (endsV a v).length ≤ 2 := by unfold endsV; split <;> simp
theorem flat2_length {α : Type} (f : α → List Int) (h : ∀ x, (f x).length ≤ 2) : ∀ l : List α, (l.flatMap f).length ≤ 2 * l.length
  | [] => by simp
  | x :: l => by
    have := h x
    have := flat2_length f h l
    rw [List.flatMap_cons, List.length_append, List.length_cons]; omega
theorem endsM_length (a : Int × Int) (l : List Vr) : (endsM a l).length ≤ 2 * l.length + 2 := by
  have := flat2_length (endsV a) (endsV_length a) l
  unfold endsM
  rw [List.length_append]
  simp only [List.length_cons, List.length_nil]
  omega
theorem steps_make {a : Int × Int} {l : List Vr} {ts : List Int} (ha : rightP a.1 a.2 = true) (hp : ts.Pairwise (· < ·)) (hm : ∀ y, y ∈ ts ↔ y ∈ endsM a l) : Steps ts (makeV a l) := by
  have hr := (rightP_iff _ _).1 ha
  have h1 : a.1 ∈ ts := (hm _).2 (by simp [endsM])
  have h2 : a.2 ∈ ts := (hm _).2 (by simp [endsM])
  refine ⟨hp, fun e he => ?_, fun i b c x hb hc hx1 hx2 => ?_, fun x hx => ?_, fun x hx => ?_⟩
  · have he := (hm e).1 he
    unfold endsM at he
    rcases List.mem_append.1 he with he | he
    · simp at he
      rcases he with rfl | rfl <;> omega
    · obtain ⟨v, hv, he⟩ := List.mem_flatMap.1 he
      unfold endsV at he
      split at he
      · rename_i hh
        rw [Bool.and_eq_true] at hh
        have hh2 := (meetB_iff _ _ _ _).1 hh.1
        have := (rightP_iff _ _).1 hh2.1.2
        have := hh2.2
        simp only [Co.meetF, Co.meetT, hh.1, if_true, List.mem_cons, List.not_mem_nil, or_false] at he
        omega
      · simp at he
  · have e1 := end_le hp hb hc hx1 hx2 h1
    have e2 := end_le hp hb hc hx1 hx2 h2
    by_cases hin : a.1 ≤ x ∧ x < a.2
    · have hin2 : a.1 ≤ b ∧ b < a.2 := by omega
      have hcv : ∀ v ∈ l, coversB v x = coversB v b := fun v hv => by
        rw [Bool.eq_iff_iff, covers_iff, covers_iff]
        by_cases hg : v.gone = false
        · by_cases hvr : rightP v.sf v.se = true
          · have hvr2 := (rightP_iff _ _).1 hvr
            by_cases hmt : max a.1 v.sf < min a.2 v.se
            · have hmb : Co.meetB a.1 a.2 v.sf v.se = true := (meetB_iff _ _ _ _).2 ⟨⟨ha, hvr⟩, hmt⟩
              have hev : endsV a v = [max a.1 v.sf, min a.2 v.se] := by
                unfold endsV Co.meetF Co.meetT
                rw [hmb, hg]; rfl
              have m1 : max a.1 v.sf ∈ ts := (hm _).2 (List.mem_append.2 (.inr (List.mem_flatMap.2 ⟨v, hv, by rw [hev]; simp⟩)))
              have m2 : min a.2 v.se ∈ ts := (hm _).2 (List.mem_append.2 (.inr (List.mem_flatMap.2 ⟨v, hv, by rw [hev]; simp⟩)))
              have k1 := end_le hp hb hc hx1 hx2 m1
              have k2 := end_le hp hb hc hx1 hx2 m2
              constructor
              · rintro ⟨_, _, q1, q2⟩; exact ⟨hg, hvr, by omega, by omega⟩
              · rintro ⟨_, _, q1, q2⟩; exact ⟨hg, hvr, by omega, by omega⟩
            · constructor
              · rintro ⟨_, _, q1, q2⟩; omega
              · rintro ⟨_, _, q1, q2⟩; omega
          · constructor
            · rintro ⟨_, q, _⟩; exact absurd q hvr
            · rintro ⟨_, q, _⟩; exact absurd q hvr
        · constructor
          · rintro ⟨q, _⟩; exact absurd q hg
          · rintro ⟨q, _⟩; exact absurd q hg
      obtain ⟨c1, c2⟩ := at_congr hcv
      rw [makeV_in ha hin.1 hin.2, makeV_in ha hin2.1 hin2.2, c1, c2]
    · rw [makeV_out (fun h => hin h.2), makeV_out (fun h => hin (by omega))]
  · have := end_first hp hx h1
    exact makeV_out fun h => by omega
  · have := hx a.2 h2
    exact makeV_out fun h => by omega

/-- What l has, but at the times of a what m has. -/
def spliceV (a : Int × Int) (l m : List Pc) (x : Int) : Option (List Fd) := if inP a.1 a.2 x = true then fsP m x else fsP l x
def endsP (p : Pc) : List Int := [p.f, p.t]
def endsS (a : Int × Int) (l m : List Pc) : List Int := [a.1, a.2] ++ l.flatMap endsP ++ m.flatMap endsP
theorem endsS_length (a : Int × Int) (l m : List Pc) : (endsS a l m).length ≤ 2 * l.length + 2 * m.length + 2 := by
  have h1 := flat2_length endsP (fun _ => Nat.le_refl 2) l
  have h2 := flat2_length endsP (fun _ => Nat.le_refl 2) m
  unfold endsS
  rw [List.length_append, List.length_append]
  simp only [List.length_cons, List.length_nil]
  omega
theorem fs_congr {l : List Pc} {x y : Int} (h : ∀ p ∈ l, hasP p x = hasP p y) : fsP l x = fsP l y := by
  induction l with
  | nil => rfl
  | cons p l ih =>
    rw [fsP, fsP, valP, valP, h p (by simp)]
    split
    · rfl
    · exact ih fun q hq => h q (List.mem_cons_of_mem _ hq)
theorem steps_splice {a : Int × Int} {l m : List Pc} {ts : List Int} (ha : rightP a.1 a.2 = true) (hl : TL l) (hm : TL m) (hp : ts.Pairwise (· < ·)) (ht : ∀ y, y ∈ ts ↔ y ∈ endsS a l m) : Steps ts (spliceV a l m) := by
  have hr := (rightP_iff _ _).1 ha
  have h1 : a.1 ∈ ts := (ht _).2 (by simp [endsS])
  have h2 : a.2 ∈ ts := (ht _).2 (by simp [endsS])
  have l1 : ∀ p ∈ l, p.f ∈ ts ∧ p.t ∈ ts := fun p hpl => ⟨(ht _).2 (List.mem_append.2 (.inl (List.mem_append.2 (.inr (List.mem_flatMap.2 ⟨p, hpl, by simp [endsP]⟩))))), (ht _).2 (List.mem_append.2 (.inl (List.mem_append.2 (.inr (List.mem_flatMap.2 ⟨p, hpl, by simp [endsP]⟩)))))⟩
  have m1 : ∀ p ∈ m, p.f ∈ ts ∧ p.t ∈ ts := fun p hpm => ⟨(ht _).2 (List.mem_append.2 (.inr (List.mem_flatMap.2 ⟨p, hpm, by simp [endsP]⟩))), (ht _).2 (List.mem_append.2 (.inr (List.mem_flatMap.2 ⟨p, hpm, by simp [endsP]⟩)))⟩
  refine ⟨hp, fun e he => ?_, fun i b c x hb hc hx1 hx2 => ?_, fun x hx => ?_, fun x hx => ?_⟩
  · have he := (ht e).1 he
    unfold endsS at he
    rcases List.mem_append.1 he with he | he
    · rcases List.mem_append.1 he with he | he
      · simp at he
        rcases he with rfl | rfl <;> omega
      · obtain ⟨p, hpl, he⟩ := List.mem_flatMap.1 he
        have := (rightP_iff _ _).1 (hl.rights p hpl)
        simp [endsP] at he
        omega
    · obtain ⟨p, hpm, he⟩ := List.mem_flatMap.1 he
      have := (rightP_iff _ _).1 (hm.rights p hpm)
      simp [endsP] at he
      omega
  · have e1 := end_le hp hb hc hx1 hx2 h1
    have e2 := end_le hp hb hc hx1 hx2 h2
    have hcong : ∀ (k : List Pc), (∀ p ∈ k, p.f ∈ ts ∧ p.t ∈ ts) → fsP k x = fsP k b := fun k hk => fs_congr fun p hpk => by
      have k1 := end_le hp hb hc hx1 hx2 (hk p hpk).1
      have k2 := end_le hp hb hc hx1 hx2 (hk p hpk).2
      rw [Bool.eq_iff_iff, hasP_iff, hasP_iff]
      omega
    have hin : inP a.1 a.2 x = inP a.1 a.2 b := by
      rw [Bool.eq_iff_iff, inP_iff, inP_iff]; omega
    rw [spliceV, spliceV, hin, hcong l l1, hcong m m1]
  · have := end_first hp hx h1
    rw [spliceV, if_neg (fun h => by rw [inP_iff] at h; omega)]
    exact fsP_none fun p hpl h => by
      rw [hasP_iff] at h
      have := end_first hp hx (l1 p hpl).1
      omega
  · have := hx a.2 h2
    rw [spliceV, if_neg (fun h => by rw [inP_iff] at h; omega)]
    exact fsP_none fun p hpl h => by
      rw [hasP_iff] at h
      have := hx p.t (l1 p hpl).2
      omega

/-- A timeline within a span. -/
def clipP (a : Int × Int) (p : Pc) : Option Pc := if Co.meetB a.1 a.2 p.f p.t = true then some ⟨Co.meetF a.1 a.2 p.f p.t, Co.meetT a.1 a.2 p.f p.t, p.fa, p.fc, p.fs⟩ else none
def clipL (a : Int × Int) (l : List Pc) : List Pc := l.filterMap (clipP a)
theorem tl_pair : ∀ {l : List Pc}, TL l → l.Pairwise linkP
  | [], _ => List.Pairwise.nil
  | [p], _ => List.pairwise_singleton _ _
  | p :: q :: l, h => by
    refine List.pairwise_cons.2 ⟨fun r hr => ?_, tl_pair h.2.2⟩
    rcases List.mem_cons.1 hr with rfl | hr
    · exact h.2.1
    · have h1 := TL.behind h.2.2 r hr
      have h2 := right_lt h.2.2.head
      have h3 := h.2.1.1
      exact ⟨by omega, fun e => by omega⟩
theorem tl_of : ∀ {l : List Pc}, (∀ p ∈ l, rightP p.f p.t = true) → l.Pairwise linkP → TL l
  | [], _, _ => trivial
  | [p], h, _ => h p (by simp)
  | p :: q :: l, h, k => ⟨h p (by simp), (List.pairwise_cons.1 k).1 q (by simp), tl_of (fun r hr => h r (List.mem_cons_of_mem _ hr)) (List.pairwise_cons.1 k).2⟩
theorem clip_some {a : Int × Int} {p q : Pc} (h : clipP a p = some q) : rightP q.f q.t = true ∧ q.f = max a.1 p.f ∧ q.t = min a.2 p.t ∧ q.fs = p.fs ∧ rightP a.1 a.2 = true ∧ rightP p.f p.t = true := by
  unfold clipP at h
  split at h
  · rename_i hm
    injection h with h
    subst h
    have h2 := (meetB_iff _ _ _ _).1 hm
    have r1 := (rightP_iff _ _).1 h2.1.1
    have r2 := (rightP_iff _ _).1 h2.1.2
    have e1 : Co.meetF a.1 a.2 p.f p.t = max a.1 p.f := by rw [Co.meetF, hm]; rfl
    have e2 : Co.meetT a.1 a.2 p.f p.t = min a.2 p.t := by rw [Co.meetT, hm]; rfl
    refine ⟨?_, e1, e2, rfl, h2.1.1, h2.1.2⟩
    show rightP (Co.meetF a.1 a.2 p.f p.t) (Co.meetT a.1 a.2 p.f p.t) = true
    rw [e1, e2, rightP_iff]
    have := h2.2
    omega
  · cases h
theorem clip_tl {a : Int × Int} {l : List Pc} (h : TL l) : TL (clipL a l) := by
  refine tl_of (fun q hq => ?_) ?_
  · obtain ⟨p, _, hpq⟩ := List.mem_filterMap.1 hq
    exact (clip_some hpq).1
  · refine (tl_pair h).filterMap _ ?_
    intro p p' hl q hq q' hq'
    have c1 := clip_some hq
    have c2 := clip_some hq'
    refine ⟨by have := hl.1; omega, fun e => ?_⟩
    rw [c1.2.2.2.1, c2.2.2.2.1]
    exact hl.2 (by have := hl.1; omega)
theorem clip_fs (a : Int × Int) : ∀ (l : List Pc) (x : Int), fsP (clipL a l) x = if (rightP a.1 a.2 && inP a.1 a.2 x) = true then fsP l x else none
  | [], x => by simp [clipL, fsP, valP]
  | p :: l, x => by
    have ih := clip_fs a l x
    unfold clipL at ih ⊢
    rw [List.filterMap_cons]
    cases hc : clipP a p with
    | none =>
      simp only
      rw [ih]
      split
      · rename_i hh
        rw [Bool.and_eq_true, inP_iff] at hh
        rw [fsP, fsP, valP, if_neg]
        intro hp
        rw [hasP_iff] at hp
        unfold clipP at hc
        rw [if_pos] at hc
        · cases hc
        · rw [meetB_iff, rightP_iff, rightP_iff]
          have := (rightP_iff _ _).1 hh.1
          omega
      · rfl
    | some q =>
      have c := clip_some hc
      simp only
      rw [fsP, valP]
      by_cases hq : hasP q x = true
      · rw [if_pos hq]
        rw [hasP_iff] at hq
        have ra := (rightP_iff _ _).1 c.2.2.2.2.1
        have rp := (rightP_iff _ _).1 c.2.2.2.2.2
        rw [if_pos, fsP, valP, if_pos]
        · show some q.fs = some p.fs
          rw [c.2.2.2.1]
        · rw [hasP_iff]; omega
        · rw [c.2.2.2.2.1, Bool.true_and, inP_iff]; omega
      · rw [if_neg hq]
        show fsP (List.filterMap (clipP a) l) x = _
        rw [ih]
        split
        · rename_i hh
          rw [Bool.and_eq_true, inP_iff] at hh
          rw [fsP, fsP, valP, if_neg]
          intro hp
          apply hq
          rw [hasP_iff] at hp ⊢
          have := (rightP_iff _ _).1 c.1
          omega
        · rfl
theorem clip_length (a : Int × Int) (l : List Pc) : (clipL a l).length ≤ l.length := List.length_filterMap_le _ _

/-! What the laws say of these. -/
theorem covers_out {a : Int × Int} {v : Vr} {x : Int} (ha : rightP a.1 a.2 = true) (h1 : a.1 ≤ x) (h2 : x < a.2) (h : ¬ (Co.meetB a.1 a.2 v.sf v.se = true ∧ max a.1 v.sf ≤ x ∧ x < min a.2 v.se)) : coversB v x = false := by
  cases hc : coversB v x with
  | false => rfl
  | true =>
    rw [covers_iff] at hc
    exact absurd ⟨(meetB_iff _ _ _ _).2 ⟨⟨ha, hc.2.1⟩, by omega⟩, by omega, by omega⟩ h
theorem make_less {a : Int × Int} {l : List Vr} {v : Vr} {x : Int} (h : coversB v x = false) : makeV a (l ++ [v]) x = makeV a l x := by
  unfold makeV atL
  rw [List.filter_append, List.any_append]
  simp [h]
theorem more_not {a : Int × Int} {l : List Vr} {v : Vr} (h : Co.meetB a.1 a.2 v.sf v.se = false) (x : Int) : makeV a (l ++ [v]) x = makeV a l x := by
  by_cases hin : rightP a.1 a.2 = true ∧ a.1 ≤ x ∧ x < a.2
  · exact make_less (covers_out hin.1 hin.2.1 hin.2.2 (fun hh => by rw [h] at hh; exact absurd hh.1 (by simp)))
  · rw [makeV_out hin, makeV_out hin]
theorem more_is {a : Int × Int} {l : List Vr} {v : Vr} (h : Co.meetB a.1 a.2 v.sf v.se = true) {was new : List Pc} (h1 : ∀ x, fsP was x = makeV a l x) (h2 : ∀ x, fsP new x = makeV (Co.meetF a.1 a.2 v.sf v.se, Co.meetT a.1 a.2 v.sf v.se) (l ++ [v]) x) (x : Int) : spliceV (Co.meetF a.1 a.2 v.sf v.se, Co.meetT a.1 a.2 v.sf v.se) was new x = makeV a (l ++ [v]) x := by
  have e1 : Co.meetF a.1 a.2 v.sf v.se = max a.1 v.sf := by rw [Co.meetF, h]; rfl
  have e2 : Co.meetT a.1 a.2 v.sf v.se = min a.2 v.se := by rw [Co.meetT, h]; rfl
  have hh := (meetB_iff _ _ _ _).1 h
  have ra := (rightP_iff _ _).1 hh.1.1
  have rv := (rightP_iff _ _).1 hh.1.2
  have hx : rightP (max a.1 v.sf) (min a.2 v.se) = true := by rw [rightP_iff]; have := hh.2; omega
  rw [spliceV, h1, h2]
  simp only [e1, e2]
  by_cases hin : inP (max a.1 v.sf) (min a.2 v.se) x = true
  · rw [if_pos hin]
    rw [inP_iff] at hin
    rw [makeV_in (a := (max a.1 v.sf, min a.2 v.se)) hx hin.1 hin.2, makeV_in hh.1.1 (by omega) (by omega)]
  · rw [if_neg hin]
    by_cases hia : a.1 ≤ x ∧ x < a.2
    · exact (make_less (covers_out hh.1.1 hia.1 hia.2 (fun k => hin ((inP_iff _ _ _).2 k.2)))).symm
    · rw [makeV_out (fun k => hia k.2), makeV_out (fun k => hia k.2)]
theorem clip_make (a b : Int × Int) (l : List Vr) {m : List Pc} (h : ∀ x, fsP m x = makeV a l x) (x : Int) : fsP (clipL b m) x = makeV (Co.meetF a.1 a.2 b.1 b.2, Co.meetT a.1 a.2 b.1 b.2) l x := by
  rw [clip_fs, h]
  cases hm : Co.meetB a.1 a.2 b.1 b.2 with
  | true =>
    have e1 : Co.meetF a.1 a.2 b.1 b.2 = max a.1 b.1 := by rw [Co.meetF, hm]; rfl
    have e2 : Co.meetT a.1 a.2 b.1 b.2 = min a.2 b.2 := by rw [Co.meetT, hm]; rfl
    have hh := (meetB_iff _ _ _ _).1 hm
    have ra := (rightP_iff _ _).1 hh.1.1
    have rb := (rightP_iff _ _).1 hh.1.2
    have hx : rightP (max a.1 b.1) (min a.2 b.2) = true := by rw [rightP_iff]; have := hh.2; omega
    rw [e1, e2, hh.1.2, Bool.true_and]
    by_cases hin : max a.1 b.1 ≤ x ∧ x < min a.2 b.2
    · rw [makeV_in (a := (max a.1 b.1, min a.2 b.2)) hx hin.1 hin.2, if_pos ((inP_iff _ _ _).2 (by omega)), makeV_in hh.1.1 (by omega) (by omega)]
    · rw [makeV_out (a := (max a.1 b.1, min a.2 b.2)) (fun k => hin k.2)]
      split
      · rename_i hb
        rw [inP_iff] at hb
        exact makeV_out fun k => hin (by omega)
      · rfl
  | false =>
    have e1 : Co.meetF a.1 a.2 b.1 b.2 = 0 := by rw [Co.meetF, hm]; rfl
    have e2 : Co.meetT a.1 a.2 b.1 b.2 = 0 := by rw [Co.meetT, hm]; rfl
    rw [e1, e2, makeV_out (a := ((0 : Int), (0 : Int))) (fun k => by have h1 := k.2.1; have h2 := k.2.2; have h1 : (0 : Int) ≤ x := h1; have h2 : x < (0 : Int) := h2; omega)]
    split
    · rename_i hb
      rw [Bool.and_eq_true, inP_iff] at hb
      refine makeV_out fun k => ?_
      have : Co.meetB a.1 a.2 b.1 b.2 = true := (meetB_iff _ _ _ _).2 ⟨⟨k.1, hb.1⟩, by omega⟩
      rw [hm] at this; cases this
    · rfl
theorem splice_back {b : Int × Int} {m : List Pc} (hb : rightP b.1 b.2 = true) (x : Int) : spliceV b m (clipL b m) x = fsP m x := by
  rw [spliceV, clip_fs, hb, Bool.true_and]
  split
  · rfl
  · rfl

end Go.Proofs.YtaoobliajgcdmaaGreat

/-
  Pieces in memory: lists of pieces, lists of them that a call makes.
-/
namespace Go.Proofs.YtaoobliajgcdmaaGreat
open Go.RowKit

abbrev cellsPc (p : Pc) : List Value := [.int .i64 p.f, .int .i64 p.t, .slice p.fa p.fs.length p.fc]
/-- A piece as a value. -/
abbrev pv (p : Pc) : Value := .agg #[.int .i64 p.f, .int .i64 p.t, .slice p.fa p.fs.length p.fc]
def EP : El Pc where
  s := 27
  e := 62
  sz := 3
  bys := 40
  z := .agg #[.int .i64 0, .int .i64 0, .slice none 0 0]
  cells := cellsPc
  pos := by decide
  few := by decide
  len := fun _ => rfl
  one := fun x u hu => by
    simp only [cellsPc, List.mem_cons, List.not_mem_nil, or_false] at hu
    rcases hu with rfl | rfl | rfl <;> rfl
  und := Tryz.underlying27
  info := by kernel_rfl
  zs := rfl
/-- A piece in a block of its own. -/
abbrev ocP (p : Pc) : Obj := .cells #[.int .i64 p.f, .int .i64 p.t, .slice p.fa p.fs.length p.fc] 62
/-- The fields of a piece lie where it says. -/
def PF (w : World) (p : Pc) : Prop := Fields w p.fa p.fs ∧ p.fs.length ≤ p.fc ∧ (p.fa = none → p.fc = 0)
theorem PF.below {w w' : World} {p : Pc} (h : PF w p) (hb : Below w.heap.size w w') : PF w' p := ⟨h.1.below hb, h.2⟩
theorem PF.list {w : World} {p : Pc} (h : PF w p) : ListF w (.slice p.fa p.fs.length p.fc) p.fs := ⟨p.fa, p.fc, rfl, h.1, h.2.1, h.2.2⟩
/-- A list of pieces as a value. -/
def PcsL (w : World) (u : Value) (l : List Pc) : Prop := ListE EP w u l ∧ ∀ p ∈ l, PF w p
theorem PcsL.below {w w' : World} {u : Value} {l : List Pc} (h : PcsL w u l) (hb : Below w.heap.size w w') : PcsL w' u l := ⟨h.1.below hb, fun v hv => (h.2 v hv).below hb⟩
theorem PcsL.nil (w : World) : PcsL w (.slice none 0 0) [] := ⟨ListE.nil _, fun p hp => by simp at hp⟩
abbrev Cells3 (w : World) (g o : Nat) (p : Pc) : Prop := w.cell? ⟨g, o, none⟩ = some (.int .i64 p.f) ∧ w.cell? ⟨g, o + 1, none⟩ = some (.int .i64 p.t) ∧ w.cell? ⟨g, o + 2, none⟩ = some (.slice p.fa p.fs.length p.fc)
theorem RowE.cells3 {w : World} {A : Option Addr} {l : List Pc} (h : RowE EP w A l) {k : Nat} {p : Pc} (hv : l[k]? = some p) : ∃ g off, A = some ⟨g, off, none⟩ ∧ Cells3 w g (off + k * 3) p := by
  obtain ⟨g, off, rfl, hc⟩ := h k p hv
  exact ⟨g, off, rfl, hc 0 _ rfl, hc 1 _ rfl, hc 2 _ rfl⟩
theorem Cells3.below {w w' : World} {g o : Nat} {p : Pc} (h : Cells3 w g o p) (hb : Below w.heap.size w w') : Cells3 w' g o p :=
  ⟨keepc hb h.1, keepc hb h.2.1, keepc hb h.2.2⟩
theorem Cells3.more {w : World} {g o : Nat} {p : Pc} (h : Cells3 w g o p) (x : Obj) : Cells3 (w.alloc x) g o p := h.below ((bl w).alloc (Nat.le_refl _) x)
abbrev BoxP (w : World) (g : Nat) (p : Pc) : Prop := w.cell? ⟨g, 0, none⟩ = some (.int .i64 p.f) ∧ w.cell? ⟨g, 1, none⟩ = some (.int .i64 p.t) ∧ w.cell? ⟨g, 2, none⟩ = some (.slice p.fa p.fs.length p.fc)
theorem BoxP.below {w w' : World} {g : Nat} {p : Pc} (h : BoxP w g p) (hb : Below w.heap.size w w') : BoxP w' g p := ⟨keepc hb h.1, keepc hb h.2.1, keepc hb h.2.2⟩
theorem boxP_new (w : World) (p : Pc) : BoxP (w.alloc (ocP p)) w.heap.size p := ⟨by simp [go_sem], by simp [go_sem], by simp [go_sem]⟩

/-- The fields of a piece lie where it says, and not in block o. -/
def KP (w : World) (o : Option Nat) (p : Pc) : Prop := PF w p ∧ (p.fs ≠ [] → ∀ a, p.fa = some a → o ≠ some a.block)
theorem PF.lt {w : World} {p : Pc} (h : PF w p) (hn : p.fs ≠ []) {a : Addr} (ha : p.fa = some a) : a.block < w.heap.size := by
  cases hfs : p.fs with
  | nil => exact absurd hfs hn
  | cons f l =>
    obtain ⟨g, off, he, c0, _⟩ := h.1 0 f (by rw [hfs]; rfl)
    rw [ha] at he
    injection he with he
    subst he
    exact lt_of_cell c0
/-- Whatever lay, lies, but for one block. -/
def Kb (o : Option Nat) (w w' : World) : Prop := w.heap.size ≤ w'.heap.size ∧ ∀ c, c < w.heap.size → o ≠ some c → w'.heap[c]? = w.heap[c]?
theorem Kb.refl (o : Option Nat) (w : World) : Kb o w w := ⟨Nat.le_refl _, fun _ _ _ => rfl⟩
theorem Kb.trans {o : Option Nat} {a b c : World} (h : Kb o a b) (k : Kb o b c) : Kb o a c := ⟨Nat.le_trans h.1 k.1, fun i hi hn => (k.2 i (Nat.lt_of_lt_of_le hi h.1) hn).trans (h.2 i hi hn)⟩
theorem Kb.of_below {o : Option Nat} {w w' : World} (h : Below w.heap.size w w') : Kb o w w' := ⟨h.size, fun c hc _ => h.block c hc⟩
theorem Kb.set {a w : World} {b i : Nat} (h : Kb (some b) a w) (u : Value) : Kb (some b) a (w.setCell ⟨b, i, none⟩ u) :=
  ⟨by have := h.1; simpa [World.setCell] using this, fun c hc hn => (Below.heap_setCell w ⟨b, i, none⟩ u c (fun e => hn (by simp at e; rw [e]))).trans (h.2 c hc hn)⟩
theorem Kb.grown {a w w' : World} {o : Option Nat} (h : Kb o a w) (hg : w.grownBy w' o) : Kb o a w' := h.trans ⟨hg.size, fun c hc hn => hg.block c hc (fun e => hn e.symm)⟩
theorem Kb.cell {o : Option Nat} {w w' : World} (h : Kb o w w') {g i : Nat} {u : Value} (hc : w.cell? ⟨g, i, none⟩ = some u) (hn : o ≠ some g) : w'.cell? ⟨g, i, none⟩ = some u :=
  (World.cell?_of_block (w := w) (h.2 g (lt_of_cell hc) hn)).trans hc
theorem KP.below {w w' : World} {o : Option Nat} {p : Pc} (h : KP w o p) (hb : Below w.heap.size w w') : KP w' o p := ⟨h.1.below hb, h.2⟩
theorem KP.but {w w' : World} {o : Option Nat} {p : Pc} (h : KP w o p) (hb : Kb o w w') : PF w' p := by
  refine ⟨fun k f hf => ?_, h.1.2⟩
  obtain ⟨g, off, he, c0, c1⟩ := h.1.1 k f hf
  have hne : o ≠ some g := h.2 (fun e => by rw [e] at hf; simp at hf) _ he
  exact ⟨g, off, he, hb.cell c0 hne, hb.cell c1 hne⟩
theorem KP.move {w w' : World} {o o' : Option Nat} {p : Pc} (h : KP w o p) (hb : Kb o w w') (ho : o' = o ∨ ∃ g, o' = some g ∧ w.heap.size ≤ g) : KP w' o' p := by
  refine ⟨h.but hb, fun hn a ha => ?_⟩
  rcases ho with rfl | ⟨g, rfl, hg⟩
  · exact h.2 hn a ha
  · intro e
    injection e with e
    have := h.1.lt hn ha
    omega
theorem KP.same {w : World} {o : Option Nat} {p q : Pc} (h : KP w o p) (h1 : q.fa = p.fa) (h2 : q.fc = p.fc) (h3 : q.fs = p.fs) : KP w o q := by
  unfold KP PF at h ⊢
  rw [h1, h2, h3]; exact h
/-- A list of pieces of the call's own, whose block no fields lie in. -/
structure OutP (W : World) (l : List Pc) (v : Value) (w : World) : Prop where
  own : ownE EP w W.heap.size v l
  bel : Below W.heap.size W w
  kp : ∀ p ∈ l, KP w v.ownBlock p
theorem OutP.nil (W : World) : OutP W [] (.slice none 0 0) W := ⟨ownE_nil _ _, bl W, fun p hp => by simp at hp⟩
theorem OutP.below {W w w' : World} {l : List Pc} {v : Value} (h : OutP W l v w) (hb : Below w.heap.size w w') : OutP W l v w' := ⟨ownE_below h.own hb, chain h.bel hb, fun p hp => (h.kp p hp).below hb⟩
theorem OutP.pcs {W w : World} {l : List Pc} {v : Value} (h : OutP W l v w) : PcsL w v l := ⟨ownE_list h.own, fun p hp => (h.kp p hp).1⟩
theorem OutP.lt {W w : World} {l : List Pc} {v : Value} (h : OutP W l v w) {g : Nat} (hg : v.ownBlock = some g) : W.heap.size ≤ g ∧ g < w.heap.size := h.own.lt g hg
/-- Fields of before the call are outside of its list's block. -/
theorem OutP.old {W w : World} {l : List Pc} {v : Value} (h : OutP W l v w) {p : Pc} (hp : PF W p) : KP w v.ownBlock p := ⟨hp.below h.bel, fun hn a ha e => by
  have := (h.lt e).1
  have := hp.lt hn ha
  omega⟩
/-- So are fields that a later call made. -/
theorem OutP.newer {W w w' : World} {l : List Pc} {v u : Value} (h : OutP W l v w) {s : List Fd} (ho : OF w s u w') : ∃ A c, u = .slice A s.length c ∧ ∀ f t, KP w' v.ownBlock ⟨f, t, A, c, s⟩ := by
  obtain ⟨A, c, rfl, hF, hc, hn⟩ := ho.list
  refine ⟨A, c, rfl, fun f t => ⟨⟨hF, hc, hn⟩, fun _ a ha e => ?_⟩⟩
  have ha : A = some a := ha
  have h1 := (h.lt e).2
  have h2 := (ho.own.lt a.block (by rw [ha]; rfl)).1
  omega

theorem wpList_appP {ops : Array Oper} {rest : List Oper} {o : Oper} {a : Act} {w : World} {Q : Exit → Act → World → Prop} (hgd : o.guard = none) (s x : Operand)
    (ho : o.op = .call { callee := .builtin .append, args := #[s, x], argTypes := #[27, 27] })
    {base : Nat} {v : Value} {ts : List Pc} (hs : a.eval s = v) (hown : ownE EP w base v ts) {B : Option Addr} {c m : Nat} {xs : List Pc} (hv : a.eval x = .slice B m c) (hm : m = xs.length) (hx : RowE EP w B xs) (hc : B = none → c = 0)
    (hl : ts.length + xs.length ≤ 1000000) (hbase : base ≤ w.heap.size)
    (h : ∀ v' w', ownE EP w' base v' (ts ++ xs) → w.grownBy w' v.ownBlock → (v'.ownBlock = v.ownBlock ∨ v'.ownBlock = some w.heap.size) → wpList Tryz.prog ops Q rest (a.put o.dst v') w') : wpList Tryz.prog ops Q (o :: rest) a w := by
  subst hm
  obtain ⟨v', w', hrun, h2, h3, h4⟩ := run_appE w hown B c xs hx hc hl hbase o.type
  refine wpList_plain hgd fun _ hK => ?_
  unfold Oper.wp execOp
  have e0 : EP.s = 27 := rfl
  rw [e0] at hrun
  simp only [ho, resolve, invoke, builtin, Sem.run_bind, Sem.run_pure, Result.andThen_ok, List.map_toArray, List.map_cons, List.map_nil, hs, hv, hrun]
  exact hK _ _ (h v' w' h2 h3 h4)
theorem OutP.app {W w w' : World} {L : List Pc} {p : Pc} {v v' : Value} (h : OutP W L v w) (hp : KP w v.ownBlock p) (hg : w.grownBy w' v.ownBlock) (hown : ownE EP w' W.heap.size v' (L ++ [p])) (ho : v'.ownBlock = v.ownBlock ∨ v'.ownBlock = some w.heap.size) : OutP W (L ++ [p]) v' w' := by
  have hk : Kb v.ownBlock w w' := (Kb.refl _ _).grown hg
  have ho' : v'.ownBlock = v.ownBlock ∨ ∃ g, v'.ownBlock = some g ∧ w.heap.size ≤ g := ho.imp_right fun e => ⟨_, e, Nat.le_refl _⟩
  refine ⟨hown, below_grownE h.bel hg (fun r hr => (h.own.lt r hr).1), fun q hq => ?_⟩
  rcases List.mem_append.1 hq with hq | hq
  · exact (h.kp q hq).move hk ho'
  · obtain rfl := List.mem_singleton.1 hq
    exact hp.move hk ho'
theorem flat_setP : ∀ (L : List Pc) (t : Nat) (v : Pc) (x : Int), L[t]? = some v → (flatE EP L).set (t * 3 + 1) (.int .i64 x) = flatE EP (L.set t { v with t := x })
  | [], _, _, _, h => by simp at h
  | y :: L, 0, v, x, h => by
    obtain rfl : y = v := by simpa using h
    rw [flatE_cons, List.set_cons_zero, flatE_cons]
    rfl
  | y :: L, t + 1, v, x, h => by
    have ih := flat_setP L t v x (by simpa using h)
    have hl : (EP.cells y).length = 3 := EP.len y
    rw [flatE_cons, List.set_append_right _ _ (by rw [hl]; omega), hl, show (t + 1) * 3 + 1 - 3 = t * 3 + 1 by omega, ih, List.set_cons_succ, flatE_cons]
theorem OutP.setLast {W w : World} {m : List Pc} {q : Pc} {g c n : Nat} (h : OutP W (m ++ [q]) (.slice (some ⟨g, 0, none⟩) n c) w) (hn : n = m.length + 1) (x : Int) : OutP W (m ++ [{ q with t := x }]) (.slice (some ⟨g, 0, none⟩) n c) (w.setCell ⟨g, m.length * 3 + 1, none⟩ (.int .i64 x)) := by
  subst hn
  have hq : (m ++ [q])[m.length]? = some q := by simp
  have hset : (m ++ [q]).set m.length { q with t := x } = m ++ [{ q with t := x }] := by simp
  have hlen : (m ++ [q]).length = m.length + 1 := by simp
  have hw := h.own
  unfold ownE at hw
  rw [hlen] at hw
  have hs := (World.ownsRow.stored hw (m.length * 3 + 1) (.int .i64 x)).1
  rw [flat_setP _ _ _ x hq, hset] at hs
  have hbel : Below W.heap.size W (w.setCell ⟨g, m.length * 3 + 1, none⟩ (.int .i64 x)) := h.bel.setCell (p := ⟨g, m.length * 3 + 1, none⟩) (h.lt rfl).1 _
  have hlen2 : (m ++ [{ q with t := x }]).length = m.length + 1 := by simp
  refine ⟨?_, hbel, fun r hr => ?_⟩
  · unfold ownE
    rw [hlen2]
    exact hs
  · have hk : Kb (some g) w (w.setCell ⟨g, m.length * 3 + 1, none⟩ (.int .i64 x)) := (Kb.refl _ _).set _
    rcases List.mem_append.1 hr with hr | hr
    · exact (h.kp r (by simp [hr])).move hk (.inl rfl)
    · obtain rfl := List.mem_singleton.1 hr
      exact ((h.kp q (by simp)).move hk (.inl rfl)).same rfl rfl rfl

/-- A list of pieces that is the timeline of g. -/
structure TimeL (w : World) (u : Value) (g : Int → Option (List Fd)) (R : List Pc) : Prop where
  pcs : PcsL w u R
  tl : TL R
  fs : ∀ x, fsP R x = g x
  len : R.length ≤ 1000
theorem TimeL.below {w w' : World} {u : Value} {g : Int → Option (List Fd)} {R : List Pc} (h : TimeL w u g R) (hb : Below w.heap.size w w') : TimeL w' u g R := ⟨h.pcs.below hb, h.tl, h.fs, h.len⟩
theorem TimeL.nil (w : World) (g : Int → Option (List Fd)) (h : ∀ x, g x = none) : TimeL w (.slice none 0 0) g [] := ⟨PcsL.nil w, trivial, fun x => (h x).symm, Nat.zero_le _⟩
theorem TimeL.mono {w : World} {u : Value} {g g' : Int → Option (List Fd)} {R : List Pc} (h : TimeL w u g R) (hg : ∀ x, g x = g' x) : TimeL w u g' R := ⟨h.pcs, h.tl, fun x => (h.fs x).trans (hg x), h.len⟩
/-- A value is a timeline of g. -/
def HasTL (w : World) (u : Value) (g : Int → Option (List Fd)) : Prop := ∃ R, TimeL w u g R
/-- The fields of a timeline are as few as those that are told. -/
theorem TimeL.few {w : World} {u : Value} {g : Int → Option (List Fd)} {R : List Pc} (h : TimeL w u g R) {n : Nat} (hg : ∀ x s, g x = some s → s.length ≤ n) : ∀ p ∈ R, p.fs.length ≤ n := fun p hp => hg p.f p.fs (by rw [← h.fs]; exact fs_mem h.tl p hp)
theorem timel_same {w w' : World} {u u' : Value} {g : Int → Option (List Fd)} {R Q : List Pc} (h : TimeL w u g R) (k : TimeL w' u' g Q) : sameP R Q = true := tl_same h.tl k.tl fun x => (h.fs x).trans (k.fs x).symm
/-- What Clip tells of any list, and what Splice. -/
def clipG (a : Int × Int) (l : List Pc) (x : Int) : Option (List Fd) := if rightT l = true then fsP (clipL a l) x else none
def spliceG (a : Int × Int) (l m : List Pc) (x : Int) : Option (List Fd) := if (rightT l && rightT m) = true then (if rightP a.1 a.2 = true then spliceV a l m x else fsP l x) else none
def firstF (l : List Pc) (x : Int) : List Fd := (fsP l x).getD []
theorem fs_small {l : List Pc} {n : Nat} (h : ∀ p ∈ l, p.fs.length ≤ n) {x : Int} {s : List Fd} (hs : fsP l x = some s) : s.length ≤ n := by
  unfold fsP at hs
  cases hv : valP l x with
  | none => rw [hv] at hs; cases hs
  | some p =>
    rw [hv] at hs
    have : p.fs = s := by simpa using hs
    rw [← this]
    exact h p (valP_mem hv).1
theorem clipG_few {a : Int × Int} {l : List Pc} {n : Nat} (h : ∀ p ∈ l, p.fs.length ≤ n) : ∀ x s, clipG a l x = some s → s.length ≤ n := fun x s hs => by
  unfold clipG at hs
  split at hs
  · rw [clip_fs] at hs
    split at hs
    · exact fs_small h hs
    · cases hs
  · cases hs
theorem spliceG_few {a : Int × Int} {l m : List Pc} {n : Nat} (h : ∀ p ∈ l, p.fs.length ≤ n) (k : ∀ p ∈ m, p.fs.length ≤ n) : ∀ x s, spliceG a l m x = some s → s.length ≤ n := fun x s hs => by
  unfold spliceG at hs
  split at hs
  · split at hs
    · unfold spliceV at hs
      split at hs
      · exact fs_small k hs
      · exact fs_small h hs
    · exact fs_small h hs
  · cases hs
abbrev sp2 (a : Int × Int) : Value := .agg #[.int .i64 a.1, .int .i64 a.2]
abbrev spanP (p : Pc) : Int × Int := (p.f, p.t)

end Go.Proofs.YtaoobliajgcdmaaGreat

/-
  Plain facts on a stable sort: lists that are put in order by exchanges, merged in place; equals stand as they stood (each bears its place).
-/
namespace Go.Proofs.YtaoobliajgcdmaaGreat
open Go.Sort Go.Shelf

section
variable {α : Type} {lt : α → α → Bool}

/-- By the things alone, their places laid aside. -/
def ltp (lt : α → α → Bool) (x y : α × Nat) : Bool := lt x.1 y.1
/-- x stands ahead of y: it is less, or y is not less and x stood ahead. -/
def TLst (lt : α → α → Bool) (x y : α × Nat) : Prop := lt x.1 y.1 = true ∨ (lt y.1 x.1 = false ∧ x.2 < y.2)
theorem swo_anti (h : SWO lt) {x y : α} (hx : lt x y = true) : lt y x = false := by
  cases e : lt y x with
  | false => rfl
  | true => have := h.trans _ _ _ hx e; rw [h.irrefl] at this; cases this
theorem lt_of_lt_le (h : SWO lt) {x y z : α} (h1 : lt x y = true) (h2 : lt z y = false) : lt x z = true := by
  cases e : lt x z with
  | true => rfl
  | false => have := h.ntrans _ _ _ e h2; rw [h1] at this; cases this
theorem lt_of_le_lt (h : SWO lt) {x y z : α} (h1 : lt y x = false) (h2 : lt y z = true) : lt x z = true := by
  cases e : lt x z with
  | true => rfl
  | false => have := h.ntrans _ _ _ h1 e; rw [h2] at this; cases this
theorem TLst.not [Inhabited α] (h : SWO lt) {x y : α × Nat} (k : TLst lt x y) : lt y.1 x.1 = false := by
  rcases k with k | ⟨k, _⟩
  · exact swo_anti h k
  · exact k
theorem TLst.trans [Inhabited α] (h : SWO lt) {x y z : α × Nat} (k1 : TLst lt x y) (k2 : TLst lt y z) : TLst lt x z := by
  rcases k1 with k1 | ⟨k1, t1⟩
  · exact .inl (lt_of_lt_le h k1 (k2.not h))
  · rcases k2 with k2 | ⟨k2, t2⟩
    · exact .inl (lt_of_le_lt h k1 k2)
    · exact .inr ⟨h.ntrans _ _ _ k2 k1, by omega⟩
/-- y stood behind and is not less. -/
theorem TLst.of_le {x y : α × Nat} (h : lt y.1 x.1 = false) (ht : x.2 < y.2) : TLst lt x y := .inr ⟨h, ht⟩
abbrev Ord (lt : α → α → Bool) (l : List (α × Nat)) : Prop := l.Pairwise (TLst lt)
/-- All of a stood ahead of all of b. -/
def Cross (a b : List (α × Nat)) : Prop := ∀ x ∈ a, ∀ y ∈ b, x.2 < y.2
theorem Ord.at {l : List (α × Nat)} (h : Ord lt l) {i j : Nat} {x y : α × Nat} (hij : i < j) (hx : l[i]? = some x) (hy : l[j]? = some y) : TLst lt x y := by
  obtain ⟨h1, rfl⟩ := List.getElem?_eq_some_iff.1 hx
  obtain ⟨h2, rfl⟩ := List.getElem?_eq_some_iff.1 hy
  exact List.pairwise_iff_getElem.1 h i j h1 h2 hij
theorem mem_takeAt {l : List (α × Nat)} {k : Nat} {x : α × Nat} (h : x ∈ l.take k) : ∃ i, i < k ∧ l[i]? = some x := by
  obtain ⟨i, hi⟩ := List.getElem?_of_mem h
  rw [List.getElem?_take] at hi
  split at hi
  · exact ⟨i, by assumption, hi⟩
  · cases hi
theorem mem_dropAt {l : List (α × Nat)} {k : Nat} {x : α × Nat} (h : x ∈ l.drop k) : ∃ i, k ≤ i ∧ l[i]? = some x := by
  obtain ⟨i, hi⟩ := List.getElem?_of_mem h
  rw [List.getElem?_drop] at hi
  exact ⟨k + i, by omega, hi⟩
/-- What is not less than the last of the first ones is not less than any of them. -/
theorem take_le [Inhabited α] (h : SWO lt) {l : List (α × Nat)} (ho : Ord lt l) {k : Nat} {y : α} (hy : k = 0 ∨ ∃ z, l[k - 1]? = some z ∧ lt y z.1 = false) : ∀ x ∈ l.take k, lt y x.1 = false := fun x hx => by
  obtain ⟨i, hi, hxi⟩ := mem_takeAt hx
  rcases hy with rfl | ⟨z, hz, hyz⟩
  · omega
  · rcases Nat.lt_or_ge i (k - 1) with h1 | h1
    · exact h.ntrans _ _ _ hyz ((ho.at h1 hxi hz).not h)
    · obtain rfl : i = k - 1 := by omega
      rw [hz] at hxi
      obtain rfl := Option.some.inj hxi
      exact hyz
theorem take_lt [Inhabited α] (h : SWO lt) {l : List (α × Nat)} (ho : Ord lt l) {k : Nat} {y : α} (hy : k = 0 ∨ ∃ z, l[k - 1]? = some z ∧ lt z.1 y = true) : ∀ x ∈ l.take k, lt x.1 y = true := fun x hx => by
  obtain ⟨i, hi, hxi⟩ := mem_takeAt hx
  rcases hy with rfl | ⟨z, hz, hyz⟩
  · omega
  · rcases Nat.lt_or_ge i (k - 1) with h1 | h1
    · exact lt_of_le_lt h ((ho.at h1 hxi hz).not h) hyz
    · obtain rfl : i = k - 1 := by omega
      rw [hz] at hxi
      obtain rfl := Option.some.inj hxi
      exact hyz
theorem drop_le [Inhabited α] (h : SWO lt) {l : List (α × Nat)} (ho : Ord lt l) {k : Nat} {y : α} (hy : k = l.length ∨ ∃ z, l[k]? = some z ∧ lt z.1 y = false) : ∀ x ∈ l.drop k, lt x.1 y = false := fun x hx => by
  obtain ⟨i, hi, hxi⟩ := mem_dropAt hx
  rcases hy with rfl | ⟨z, hz, hyz⟩
  · rw [List.getElem?_eq_none hi] at hxi; cases hxi
  · rcases Nat.lt_or_ge k i with h1 | h1
    · exact h.ntrans _ _ _ ((ho.at h1 hz hxi).not h) hyz
    · obtain rfl : i = k := by omega
      rw [hz] at hxi
      obtain rfl := Option.some.inj hxi
      exact hyz
theorem drop_lt [Inhabited α] (h : SWO lt) {l : List (α × Nat)} (ho : Ord lt l) {k : Nat} {y : α} (hy : k = l.length ∨ ∃ z, l[k]? = some z ∧ lt y z.1 = true) : ∀ x ∈ l.drop k, lt y x.1 = true := fun x hx => by
  obtain ⟨i, hi, hxi⟩ := mem_dropAt hx
  rcases hy with rfl | ⟨z, hz, hyz⟩
  · rw [List.getElem?_eq_none hi] at hxi; cases hxi
  · rcases Nat.lt_or_ge k i with h1 | h1
    · exact lt_of_lt_le h hyz ((ho.at h1 hz hxi).not h)
    · obtain rfl : i = k := by omega
      rw [hz] at hxi
      obtain rfl := Option.some.inj hxi
      exact hyz
/-- One thing that stood ahead is laid into a list that is in order. -/
theorem merge_left [Inhabited α] (h : SWO lt) {x : α × Nat} {B : List (α × Nat)} {j : Nat} (ho : Ord lt B) (hc : Cross [x] B) (h1 : j = 0 ∨ ∃ z, B[j - 1]? = some z ∧ lt z.1 x.1 = true) (h2 : j = B.length ∨ ∃ z, B[j]? = some z ∧ lt z.1 x.1 = false) :
    Ord lt (B.take j ++ x :: B.drop j) := by
  refine List.pairwise_append.2 ⟨ho.sublist (List.take_sublist _ _), List.pairwise_cons.2 ⟨fun y hy => ?_, ho.sublist (List.drop_sublist _ _)⟩, fun u hu v hv => ?_⟩
  · exact .inr ⟨drop_le h ho h2 y hy, hc x List.mem_cons_self y (List.mem_of_mem_drop hy)⟩
  · rcases List.mem_cons.1 hv with rfl | hv
    · exact .inl (take_lt h ho h1 u hu)
    · exact TLst.trans h (.inl (take_lt h ho h1 u hu)) (.inr ⟨drop_le h ho h2 v hv, hc x List.mem_cons_self v (List.mem_of_mem_drop hv)⟩)
/-- .. that stood behind. -/
theorem merge_right [Inhabited α] (h : SWO lt) {y : α × Nat} {A : List (α × Nat)} {j : Nat} (ho : Ord lt A) (hc : Cross A [y]) (h1 : j = 0 ∨ ∃ z, A[j - 1]? = some z ∧ lt y.1 z.1 = false) (h2 : j = A.length ∨ ∃ z, A[j]? = some z ∧ lt y.1 z.1 = true) :
    Ord lt (A.take j ++ y :: A.drop j) := by
  refine List.pairwise_append.2 ⟨ho.sublist (List.take_sublist _ _), List.pairwise_cons.2 ⟨fun v hv => ?_, ho.sublist (List.drop_sublist _ _)⟩, fun u hu v hv => ?_⟩
  · exact .inl (drop_lt h ho h2 v hv)
  · have hu1 : TLst lt u y := .inr ⟨take_le h ho h1 u hu, hc u (List.mem_of_mem_take hu) y List.mem_cons_self⟩
    rcases List.mem_cons.1 hv with rfl | hv
    · exact hu1
    · exact TLst.trans h hu1 (.inl (drop_lt h ho h2 v hv))
theorem perm_mid (x : α × Nat) (B : List (α × Nat)) (j : Nat) : (B.take j ++ x :: B.drop j).Perm ([x] ++ B) := by
  have h1 : (B.take j ++ x :: B.drop j).Perm (x :: (B.take j ++ B.drop j)) := List.perm_middle
  rwa [List.take_append_drop] at h1
/-- Two lists cut so that the first parts stand ahead of the last ones. -/
theorem merge_cut [Inhabited α] (h : SWO lt) {A B : List (α × Nat)} {i j : Nat} (hA : Ord lt A) (hB : Ord lt B) (hc : Cross A B)
    (h1 : i = 0 ∨ j = B.length ∨ ∃ u v, A[i - 1]? = some u ∧ B[j]? = some v ∧ lt v.1 u.1 = false) (h2 : i = A.length ∨ j = 0 ∨ ∃ u v, A[i]? = some u ∧ B[j - 1]? = some v ∧ lt v.1 u.1 = true) :
    ∀ u ∈ A.take i ++ B.take j, ∀ v ∈ A.drop i ++ B.drop j, TLst lt u v := fun u hu v hv => by
  rcases List.mem_append.1 hu with hu | hu
  · rcases List.mem_append.1 hv with hv | hv
    · obtain ⟨a, ha, hxa⟩ := mem_takeAt hu
      obtain ⟨b, hb, hxb⟩ := mem_dropAt hv
      exact hA.at (by omega) hxa hxb
    · refine .inr ⟨?_, hc u (List.mem_of_mem_take hu) v (List.mem_of_mem_drop hv)⟩
      rcases h1 with rfl | rfl | ⟨a, b, ha, hb, hab⟩
      · simp at hu
      · simp at hv
      · have e1 := take_le h hA (k := i) (y := b.1) (.inr ⟨a, ha, hab⟩) u hu
        have e2 := drop_le h hB (k := j) (y := u.1) (.inr ⟨b, hb, e1⟩) v hv
        exact e2
  · rcases List.mem_append.1 hv with hv | hv
    · rcases h2 with rfl | rfl | ⟨a, b, ha, hb, hab⟩
      · simp at hv
      · simp at hu
      · have e1 := take_lt h hB (k := j) (y := a.1) (.inr ⟨b, hb, hab⟩) u hu
        exact .inl (drop_lt h hA (k := i) (y := u.1) (.inr ⟨a, ha, e1⟩) v hv)
    · obtain ⟨a, ha, hxa⟩ := mem_takeAt hu
      obtain ⟨b, hb, hxb⟩ := mem_dropAt hv
      exact hB.at (by omega) hxa hxb
theorem ord_join {U V M1 M2 : List (α × Nat)} (h : ∀ u ∈ U, ∀ v ∈ V, TLst lt u v) (p1 : M1.Perm U) (p2 : M2.Perm V) (o1 : Ord lt M1) (o2 : Ord lt M2) : Ord lt (M1 ++ M2) :=
  List.pairwise_append.2 ⟨o1, o2, fun u hu v hv => h u (p1.mem_iff.1 hu) v (p2.mem_iff.1 hv)⟩
theorem perm_cut {A B M1 M2 : List (α × Nat)} {i j : Nat} (p1 : M1.Perm (A.take i ++ B.take j)) (p2 : M2.Perm (A.drop i ++ B.drop j)) : (M1 ++ M2).Perm (A ++ B) := by
  refine (p1.append p2).trans ?_
  have e : A ++ B = (A.take i ++ A.drop i) ++ (B.take j ++ B.drop j) := by rw [List.take_append_drop, List.take_append_drop]
  rw [e, List.append_assoc, List.append_assoc]
  refine List.Perm.append_left _ ?_
  rw [← List.append_assoc, ← List.append_assoc]
  exact List.Perm.append_right _ List.perm_append_comm

/-! ### exchanges -/
theorem getBangT [Inhabited α] {l : List (α × Nat)} {i : Nat} {x : α × Nat} (h : l[i]? = some x) : l.toArray[i]! = x := by
  obtain ⟨hl, he⟩ := List.getElem?_eq_some_iff.1 h
  rw [getElem!_pos l.toArray i (by simpa using hl)]
  simpa using he
theorem at_len (P : List (α × Nat)) (x : α × Nat) (S : List (α × Nat)) : (P ++ x :: S)[P.length]? = some x := by simp
theorem swp_list [Inhabited α] (P M S : List (α × Nat)) (x y : α × Nat) : swp (P ++ x :: (M ++ y :: S)).toArray P.length (P.length + 1 + M.length) = (P ++ y :: (M ++ x :: S)).toArray := by
  have ex : (P ++ x :: (M ++ y :: S)).toArray[P.length]! = x := getBangT (at_len P x _)
  have ey : (P ++ x :: (M ++ y :: S)).toArray[P.length + 1 + M.length]! = y := getBangT (by
    have := at_len (P ++ x :: M) y S
    rw [List.append_assoc, List.cons_append, List.length_append, List.length_cons] at this
    rw [show P.length + 1 + M.length = P.length + (M.length + 1) by omega]
    exact this)
  unfold swp
  rw [ex, ey, List.setIfInBounds_toArray, List.setIfInBounds_toArray]
  congr 1
  rw [List.set_append_right _ _ (Nat.le_refl _), Nat.sub_self, List.set_cons_zero]
  rw [List.set_append_right _ _ (by omega), show P.length + 1 + M.length - P.length = M.length + 1 by omega, List.set_cons_succ]
  rw [List.set_append_right _ _ (Nat.le_refl _), Nat.sub_self, List.set_cons_zero]
theorem swp_list_back [Inhabited α] (P M S : List (α × Nat)) (x y : α × Nat) : swp (P ++ x :: (M ++ y :: S)).toArray (P.length + 1 + M.length) P.length = (P ++ y :: (M ++ x :: S)).toArray := by
  have ex : (P ++ x :: (M ++ y :: S)).toArray[P.length]! = x := getBangT (at_len P x _)
  have ey : (P ++ x :: (M ++ y :: S)).toArray[P.length + 1 + M.length]! = y := getBangT (by
    have := at_len (P ++ x :: M) y S
    rw [List.append_assoc, List.cons_append, List.length_append, List.length_cons] at this
    rw [show P.length + 1 + M.length = P.length + (M.length + 1) by omega]
    exact this)
  unfold swp
  rw [ex, ey, List.setIfInBounds_toArray, List.setIfInBounds_toArray]
  congr 1
  rw [List.set_append_right _ _ (by omega), show P.length + 1 + M.length - P.length = M.length + 1 by omega, List.set_cons_succ]
  rw [List.set_append_right _ _ (Nat.le_refl _), Nat.sub_self, List.set_cons_zero]
  rw [List.set_append_right _ _ (Nat.le_refl _), Nat.sub_self, List.set_cons_zero]
/-- Two ranges of one length, exchanged as far as i. -/
def mix (P X M Y S : List (α × Nat)) (i : Nat) : List (α × Nat) := P ++ (Y.take i ++ X.drop i) ++ M ++ (X.take i ++ Y.drop i) ++ S
theorem mix_zero (P X M Y S : List (α × Nat)) : mix P X M Y S 0 = P ++ X ++ M ++ Y ++ S := by simp [mix]
theorem mix_all (P X M Y S : List (α × Nat)) {n : Nat} (hx : X.length = n) (hy : Y.length = n) : mix P X M Y S n = P ++ Y ++ M ++ X ++ S := by
  unfold mix
  rw [List.take_of_length_le (by omega), List.drop_of_length_le (by omega), List.take_of_length_le (by omega), List.drop_of_length_le (by omega), List.append_nil, List.append_nil]
theorem mix_length (P X M Y S : List (α × Nat)) {n i : Nat} (hx : X.length = n) (hy : Y.length = n) (hi : i ≤ n) : (mix P X M Y S i).length = P.length + n + M.length + n + S.length := by
  unfold mix
  simp only [List.length_append, List.length_take, List.length_drop]
  omega
theorem mix_next [Inhabited α] (P X M Y S : List (α × Nat)) {n i : Nat} (hx : X.length = n) (hy : Y.length = n) (hi : i < n) : swp (mix P X M Y S i).toArray (P.length + i) (P.length + n + M.length + i) = (mix P X M Y S (i + 1)).toArray := by
  have hX : X = X.take i ++ X[i] :: X.drop (i + 1) := by rw [← List.drop_eq_getElem_cons, List.take_append_drop]
  have hY : Y = Y.take i ++ Y[i] :: Y.drop (i + 1) := by rw [← List.drop_eq_getElem_cons, List.take_append_drop]
  have e0 : mix P X M Y S i = (P ++ Y.take i) ++ X[i] :: ((X.drop (i + 1) ++ M ++ X.take i) ++ Y[i] :: (Y.drop (i + 1) ++ S)) := by
    unfold mix
    rw [List.drop_eq_getElem_cons (l := X) (by omega), List.drop_eq_getElem_cons (l := Y) (by omega)]
    simp only [List.append_assoc, List.cons_append]
  have e1 : mix P X M Y S (i + 1) = (P ++ Y.take i) ++ Y[i] :: ((X.drop (i + 1) ++ M ++ X.take i) ++ X[i] :: (Y.drop (i + 1) ++ S)) := by
    unfold mix
    rw [List.take_add_one, List.take_add_one, List.getElem?_eq_getElem (by omega), List.getElem?_eq_getElem (by omega)]
    simp only [Option.toList_some, List.append_assoc, List.cons_append, List.nil_append]
  have := swp_list (P ++ Y.take i) (X.drop (i + 1) ++ M ++ X.take i) (Y.drop (i + 1) ++ S) X[i] Y[i]
  rw [← e0, ← e1] at this
  rw [← this]
  congr 1
  · rw [List.length_append, List.length_take]; omega
  · simp only [List.length_append, List.length_take, List.length_drop]; omega

end

end Go.Proofs.YtaoobliajgcdmaaGreat

/-
  Plain facts on a stable sort: insertion by exchanges; blocks that are in order, of one length and of twice that length.
-/
namespace Go.Proofs.YtaoobliajgcdmaaGreat
open Go.Sort Go.Shelf

section
variable {α : Type} {lt : α → α → Bool}

theorem ins_inner [Inhabited α] : ∀ (n : Nat) (L P S : List (α × Nat)) (x : α × Nat), L.length = n → ∃ L1 L2, L = L1 ++ L2 ∧
    insInner (ltp lt) P.length (P.length + L.length) (P ++ (L ++ x :: S)).toArray = (P ++ (L1 ++ x :: (L2 ++ S))).toArray ∧
    (L1.length = 0 ∨ ∃ z, L[L1.length - 1]? = some z ∧ lt x.1 z.1 = false) ∧ (L1.length = L.length ∨ ∃ z, L[L1.length]? = some z ∧ lt x.1 z.1 = true)
  | 0, L, P, S, x, h => by
    obtain rfl := List.eq_nil_of_length_eq_zero h
    refine ⟨[], [], rfl, ?_, .inl rfl, .inl rfl⟩
    rw [insInner_stop _ _ _ _ (.inl (by simp))]
    rfl
  | n + 1, L, P, S, x, h => by
    rcases List.eq_nil_or_concat L with rfl | ⟨L', y, rfl⟩
    · cases h
    · rw [List.concat_eq_append] at h ⊢
      have hL : L'.length = n := by rw [List.length_append, List.length_singleton] at h; omega
      have e0 : P ++ (L' ++ [y] ++ x :: S) = (P ++ L') ++ y :: ([] ++ x :: S) := by simp
      have gx : (P ++ (L' ++ [y] ++ x :: S)).toArray[P.length + (L' ++ [y]).length]! = x := getBangT (by
        have := at_len (P ++ (L' ++ [y])) x S
        rw [List.append_assoc, List.length_append] at this
        exact this)
      have gy : (P ++ (L' ++ [y] ++ x :: S)).toArray[P.length + (L' ++ [y]).length - 1]! = y := getBangT (by
        have := at_len (P ++ L') y ([] ++ x :: S)
        rw [← e0, List.length_append] at this
        rw [show P.length + (L' ++ [y]).length - 1 = P.length + L'.length by rw [List.length_append, List.length_singleton]; omega]
        exact this)
      cases hxy : lt x.1 y.1 with
      | false =>
        refine ⟨L' ++ [y], [], by simp, ?_, .inr ⟨y, ?_, hxy⟩, .inl rfl⟩
        · rw [insInner_stop _ _ _ _ (.inr (by rw [gx, gy]; exact hxy))]
          simp
        · rw [List.length_append, List.length_singleton, Nat.add_sub_cancel]
          simp
      | true =>
        obtain ⟨L1, L2, h1, h2, h3, h4⟩ := ins_inner n L' P (y :: S) x hL
        refine ⟨L1, L2 ++ [y], by rw [h1]; simp, ?_, ?_, ?_⟩
        · rw [insInner_go _ _ _ _ (by rw [List.length_append, List.length_singleton]; omega) (by rw [gx, gy]; exact hxy)]
          have hs := swp_list_back (P ++ L') [] S y x
          rw [List.length_nil, Nat.add_zero, List.length_append, ← e0] at hs
          rw [show P.length + (L' ++ [y]).length - 1 = P.length + L'.length by rw [List.length_append, List.length_singleton]; omega,
            show P.length + (L' ++ [y]).length = P.length + L'.length + 1 by rw [List.length_append, List.length_singleton]; omega, hs]
          rw [show P ++ L' ++ x :: ([] ++ y :: S) = P ++ (L' ++ x :: (y :: S)) by simp, h2]
          simp
        · rcases h3 with h3 | ⟨z, h3, h5⟩
          · exact .inl h3
          · refine .inr ⟨z, ?_, h5⟩
            rw [List.getElem?_append_left (List.getElem?_eq_some_iff.1 h3).1]
            exact h3
        · refine .inr ?_
          rcases h4 with h4 | ⟨z, h4, h5⟩
          · refine ⟨y, ?_, hxy⟩
            rw [h4]
            simp
          · refine ⟨z, ?_, h5⟩
            rw [List.getElem?_append_left (List.getElem?_eq_some_iff.1 h4).1]
            exact h4
/-- They stood in this order. -/
abbrev Asc (l : List (α × Nat)) : Prop := l.Pairwise fun x y => x.2 < y.2
theorem ins_outer [Inhabited α] (h : SWO lt) : ∀ (R M P S : List (α × Nat)), Ord lt M → Cross M R → Asc R →
    ∃ M', M'.Perm (M ++ R) ∧ Ord lt M' ∧ insOuter (ltp lt) P.length (P.length + M.length + R.length) (P.length + M.length) (P ++ (M ++ (R ++ S))).toArray = (P ++ (M' ++ S)).toArray
  | [], M, P, S, ho, _, _ => by
    refine ⟨M, by simp, ho, ?_⟩
    rw [insOuter_stop _ _ _ _ _ (by simp)]
    rfl
  | x :: R, M, P, S, ho, hc, ha => by
    obtain ⟨a1, a2⟩ := List.pairwise_cons.1 ha
    obtain ⟨L1, L2, e1, e2, h3, h4⟩ := ins_inner (lt := lt) M.length M P (R ++ S) x rfl
    have ht : M.take L1.length = L1 := by rw [e1]; simp
    have hd : M.drop L1.length = L2 := by rw [e1]; simp
    have hm := merge_right h (y := x) (j := L1.length) ho (fun u hu v hv => by
      obtain rfl := List.mem_singleton.1 hv
      exact hc u hu v List.mem_cons_self) h3 h4
    rw [ht, hd] at hm
    have hp : (L1 ++ x :: L2).Perm (M ++ [x]) := by
      rw [e1]
      refine (List.perm_middle).trans ?_
      exact (List.perm_append_comm (l₁ := [x]) (l₂ := L1 ++ L2))
    have hl : (L1 ++ x :: L2).length = M.length + 1 := by rw [e1]; simp; omega
    obtain ⟨M', p, o, e⟩ := ins_outer h R (L1 ++ x :: L2) P S hm (fun u hu v hv => by
      rcases List.mem_append.1 (hp.mem_iff.1 hu) with hu | hu
      · exact hc u hu v (List.mem_cons_of_mem _ hv)
      · obtain rfl := List.mem_singleton.1 hu
        exact a1 v hv) a2
    refine ⟨M', p.trans ?_, o, ?_⟩
    · have := hp.append_right R
      rw [show M ++ [x] ++ R = M ++ x :: R by simp] at this
      exact this
    · rw [insOuter_go _ _ _ _ _ (by rw [List.length_cons]; omega)]
      rw [List.cons_append, e2]
      rw [hl] at e
      rw [show P.length + M.length + (x :: R).length = P.length + (M.length + 1) + R.length by rw [List.length_cons]; omega, Nat.add_assoc P.length M.length 1]
      rw [show P ++ (L1 ++ x :: (L2 ++ (R ++ S))) = P ++ (L1 ++ x :: L2 ++ (R ++ S)) by simp]
      exact e
theorem insertion_stable [Inhabited α] (h : SWO lt) (B P S : List (α × Nat)) (ha : Asc B) : ∃ M, M.Perm B ∧ Ord lt M ∧ insertionSort (ltp lt) (P ++ (B ++ S)).toArray P.length (P.length + B.length) = (P ++ (M ++ S)).toArray := by
  cases B with
  | nil =>
    refine ⟨[], List.Perm.refl _, List.Pairwise.nil, ?_⟩
    unfold insertionSort
    rw [insOuter_stop _ _ _ _ _ (by simp)]
  | cons x R =>
    obtain ⟨a1, a2⟩ := List.pairwise_cons.1 ha
    obtain ⟨M', p, o, e⟩ := ins_outer h R [x] P S (List.pairwise_singleton _ _) (fun u hu v hv => by
      obtain rfl := List.mem_singleton.1 hu
      exact a1 v hv) a2
    refine ⟨M', p, o, ?_⟩
    unfold insertionSort
    rw [List.length_singleton] at e
    rw [show P.length + (x :: R).length = P.length + 1 + R.length by rw [List.length_cons]; omega]
    exact e

/-! ### blocks -/
/-- Two places: in one block of s they are in order; in two blocks they stood so. -/
def GB (lt : α → α → Bool) (s : Nat) (d : List (α × Nat)) (p q : Nat) : Prop := ∀ x y, d[p]? = some x → d[q]? = some y → (p / s = q / s → TLst lt x y) ∧ (p / s < q / s → x.2 < y.2)
/-- Ahead of a the blocks are of s2, behind it of s1. -/
def HB (lt : α → α → Bool) (s1 s2 a : Nat) (d : List (α × Nat)) : Prop := ∀ p q, p < q → (q < a → GB lt s2 d p q) ∧ (a ≤ q → GB lt s1 d p q)
theorem HB.start {s1 s2 : Nat} {d : List (α × Nat)} (h : ∀ p q, p < q → GB lt s1 d p q) : HB lt s1 s2 0 d := fun p q hpq => ⟨fun h0 => by omega, fun _ => h p q hpq⟩
theorem asc_one {d : List (α × Nat)} (h : Asc d) : ∀ p q, p < q → GB lt 1 d p q := fun p q hpq x y hx hy => by
  obtain ⟨h1, rfl⟩ := List.getElem?_eq_some_iff.1 hx
  obtain ⟨h2, rfl⟩ := List.getElem?_eq_some_iff.1 hy
  rw [Nat.div_one, Nat.div_one]
  exact ⟨fun e => by omega, fun _ => List.pairwise_iff_getElem.1 h p q h1 h2 hpq⟩
theorem get_mid {P X S : List (α × Nat)} {p : Nat} {x : α × Nat} (hx : (P ++ (X ++ S))[p]? = some x) : (p < P.length ∧ P[p]? = some x) ∨ (P.length ≤ p ∧ p < P.length + X.length ∧ X[p - P.length]? = some x) ∨ (P.length + X.length ≤ p ∧ S[p - (P.length + X.length)]? = some x) := by
  rcases Nat.lt_or_ge p P.length with h | h
  · rw [List.getElem?_append_left h] at hx
    exact .inl ⟨h, hx⟩
  · rw [List.getElem?_append_right h] at hx
    rcases Nat.lt_or_ge (p - P.length) X.length with h2 | h2
    · rw [List.getElem?_append_left h2] at hx
      exact .inr (.inl ⟨h, by omega, hx⟩)
    · rw [List.getElem?_append_right h2] at hx
      exact .inr (.inr ⟨by omega, by rw [Nat.sub_sub] at hx; exact hx⟩)
theorem put_first {P X S : List (α × Nat)} {p : Nat} {x : α × Nat} (hx : P[p]? = some x) : (P ++ (X ++ S))[p]? = some x := by
  rw [List.getElem?_append_left (List.getElem?_eq_some_iff.1 hx).1]; exact hx
theorem put_mid {P X S : List (α × Nat)} {p : Nat} {x : α × Nat} (hx : X[p]? = some x) : (P ++ (X ++ S))[P.length + p]? = some x := by
  rw [List.getElem?_append_right (by omega), Nat.add_sub_cancel_left, List.getElem?_append_left (List.getElem?_eq_some_iff.1 hx).1]; exact hx
theorem put_last {P X S : List (α × Nat)} {p : Nat} {x : α × Nat} (hx : S[p]? = some x) : (P ++ (X ++ S))[P.length + X.length + p]? = some x := by
  rw [List.getElem?_append_right (by omega), List.getElem?_append_right (by omega), show P.length + X.length + p - P.length - X.length = p by omega]; exact hx
theorem div_same {s k p : Nat} (h : 0 < s) (h1 : k * s ≤ p) (h2 : p < k * s + s) : p / s = k := by
  rw [Nat.div_eq_iff h]
  exact ⟨h1, by rw [Nat.mul_comm k s, Nat.mul_comm s k]; omega⟩
theorem div_lt {s k p : Nat} (h : 0 < s) (h1 : p < k * s) : p / s < k := (Nat.div_lt_iff_lt_mul h).2 h1
theorem div_ge {s k p : Nat} (h : 0 < s) (h1 : k * s ≤ p) : k ≤ p / s := (Nat.le_div_iff_mul_le h).2 h1
/-- One block of s2 more is put in order. -/
theorem HB.step [Inhabited α] {s1 s2 k : Nat} {P X X' S : List (α × Nat)} (h1 : 0 < s1) (h2 : 0 < s2) (hP : P.length = k * s2) {t : Nat} (hs : k * s2 + X.length = t * s1 ∨ S = []) (ht : k * s2 = 0 ∨ ∃ u, k * s2 = u * s1) (hX : X.length ≤ s2) (_hsX : S = [] ∨ X.length = s2)
    (h : HB lt s1 s2 P.length (P ++ (X ++ S))) (hp : X'.Perm X) (ho : Ord lt X') : HB lt s1 s2 (P.length + X.length) (P ++ (X' ++ S)) := by
  have hl := hp.length_eq
  have memX : ∀ {i : Nat} {x : α × Nat}, X'[i]? = some x → ∃ j, X[j]? = some x ∧ j < X.length := fun {i x} hx => by
    obtain ⟨j, hj⟩ := List.getElem?_of_mem (hp.mem_iff.1 (List.mem_of_getElem? hx))
    exact ⟨j, hj, (List.getElem?_eq_some_iff.1 hj).1⟩
  intro p q hpq
  constructor
  · intro hq x y hx hy
    rcases get_mid hy with ⟨q1, hy⟩ | ⟨q1, q2, hy⟩ | ⟨q1, hy⟩
    · rcases get_mid hx with ⟨p1, hx⟩ | ⟨p1, p2, hx⟩ | ⟨p1, hx⟩
      · exact (h p q hpq).1 q1 x y (put_first hx) (put_first hy)
      · omega
      · omega
    · rcases get_mid hx with ⟨p1, hx⟩ | ⟨p1, p2, hx⟩ | ⟨p1, hx⟩
      · have e1 := div_lt (p := p) (k := k) h2 (by omega)
        have e2 := div_ge (p := q) (k := k) h2 (by omega)
        refine ⟨fun e => by omega, fun _ => ?_⟩
        obtain ⟨j, hj, hjl⟩ := memX hy
        have := (h p (P.length + j) (by omega)).2 (by omega) x y (put_first hx) (put_mid hj)
        refine this.2 ?_
        rcases ht with h0 | ⟨u, hu⟩
        · omega
        · exact Nat.lt_of_lt_of_le (div_lt (k := u) h1 (by omega)) (div_ge (k := u) h1 (by omega))
      · have e1 := div_same (p := p) (k := k) h2 (by omega) (by omega)
        have e2 := div_same (p := q) (k := k) h2 (by omega) (by omega)
        exact ⟨fun _ => ho.at (by omega) hx hy, fun e => by omega⟩
      · omega
    · omega
  · intro hq x y hx hy
    rcases get_mid hy with ⟨q1, hy⟩ | ⟨q1, q2, hy⟩ | ⟨q1, hy⟩
    · omega
    · omega
    · rw [hl] at q1 hy
      have hy2 := put_last (P := P) (X := X) hy
      rw [show P.length + X.length + (q - (P.length + X.length)) = q by omega] at hy2
      rcases get_mid hx with ⟨p1, hx⟩ | ⟨p1, p2, hx⟩ | ⟨p1, hx⟩
      · exact (h p q hpq).2 (by omega) x y (put_first hx) hy2
      · obtain ⟨j, hj, hjl⟩ := memX hx
        have hne : S ≠ [] := fun e => by rw [e] at hy; simp at hy
        rcases hs with hs | hs
        · have d1 : p / s1 < t := div_lt h1 (by omega)
          have d2 : t ≤ q / s1 := div_ge h1 (by omega)
          have d3 : (P.length + j) / s1 < t := div_lt h1 (by omega)
          have := (h (P.length + j) q (by omega)).2 (by omega) x y (put_mid hj) hy2
          exact ⟨fun e => by omega, fun _ => this.2 (by omega)⟩
        · exact absurd hs hne
      · rw [hl] at p1 hx
        have hx2 := put_last (P := P) (X := X) hx
        rw [show P.length + X.length + (p - (P.length + X.length)) = p by omega] at hx2
        exact (h p q hpq).2 (by omega) x y hx2 hy2
/-- What is behind is one block of s1, too: all blocks are of s2. -/
theorem HB.end {s1 s2 k n : Nat} {d : List (α × Nat)} (h1 : 0 < s1) (h2 : 0 < s2) (hs : s1 ≤ s2) (hd : d.length = n) (hn : n ≤ k * s2 + s1) {u : Nat} (hu : k * s2 = u * s1) (h : HB lt s1 s2 (k * s2) d) : ∀ p q, p < q → GB lt s2 d p q := by
  intro p q hpq x y hx hy
  have hq := (List.getElem?_eq_some_iff.1 hy).1
  rcases Nat.lt_or_ge q (k * s2) with h3 | h3
  · exact (h p q hpq).1 h3 x y hx hy
  · have k1 := (h p q hpq).2 h3 x y hx hy
    have e2 := div_same (p := q) (k := k) h2 h3 (by omega)
    have e3 := div_same (p := q) (k := u) h1 (by omega) (by omega)
    rcases Nat.lt_or_ge p (k * s2) with h4 | h4
    · have e4 := div_lt (p := p) (k := k) h2 h4
      have e5 := div_lt (p := p) (k := u) h1 (by omega)
      exact ⟨fun e => by omega, fun _ => k1.2 (by omega)⟩
    · have e4 := div_same (p := p) (k := k) h2 h4 (by omega)
      have e5 := div_same (p := p) (k := u) h1 (by omega) (by omega)
      exact ⟨fun _ => k1.1 (by omega), fun e => by omega⟩
/-- One block: all in order. -/
theorem GB.all {s : Nat} {d : List (α × Nat)} (h : ∀ p q, p < q → GB lt s d p q) (hn : d.length ≤ s) : Ord lt d := by
  show List.Pairwise _ _
  rw [List.pairwise_iff_getElem]
  intro i j hi hj hij
  refine (h i j hij _ _ (List.getElem?_eq_getElem hi) (List.getElem?_eq_getElem hj)).1 ?_
  rw [Nat.div_eq_of_lt (by omega), Nat.div_eq_of_lt (by omega)]

end

end Go.Proofs.YtaoobliajgcdmaaGreat

/-
  slices.SortStableFunc's swapRangeCmpFunc and rotateCmpFunc, over any program that bears their bodies: two ranges exchanged; two neighbours exchanged.
-/
namespace Go.Proofs.YtaoobliajgcdmaaGreat
open Go.RowKit Go.Lib Go.Sort Go.Shelf

/-- What the stable sort's bodies want of a program: its numbers are this dump's, the element has k cells. -/
structure StabL (P : Program) (k : Nat) : Prop where
  mixed : P.follows .mixedOrders = true
  fSwap : P.funcs[160]? = some Tryz.f160
  fRot : P.funcs[149]? = some Tryz.f149
  fSym : P.funcs[122]? = some Tryz.f122
  t3 : P.underlying 3 = some (TypeDesc.int IntKind.i64)
  a3 : ∀ w, (isAgg 3).run P w = .ok false w
  z3 : ∀ w, (Go.sizeOf 3).run P w = .ok 1 w
  v3 : ∀ w, (zeroValue 3).run P w = .ok (Value.int IntKind.i64 0) w
  t4 : P.underlying 4 = some (TypeDesc.bool)
  a4 : ∀ w, (isAgg 4).run P w = .ok false w
  z4 : ∀ w, (Go.sizeOf 4).run P w = .ok 1 w
  v4 : ∀ w, (zeroValue 4).run P w = .ok (Value.bool false) w
  tU : P.underlying 115 = some (TypeDesc.int IntKind.u64)
  aU : ∀ w, (isAgg 115).run P w = .ok false w
  zU : ∀ w, (Go.sizeOf 115).run P w = .ok 1 w
  tS : P.underlying 24 = some (TypeDesc.slice 50)
  aS : ∀ w, (isAgg 24).run P w = .ok false w
  zS : ∀ w, (Go.sizeOf 24).run P w = .ok 1 w
  vS : ∀ w, (zeroValue 24).run P w = .ok (Value.slice none 0 0) w
  aE : ∀ w, (isAgg 50).run P w = .ok true w
  zE : ∀ w, (Go.sizeOf 50).run P w = .ok k w

variable {P : Program} {k : Nat} {α : Type} [Inhabited α]
/-- A thing's cells: its place is not laid. -/
def encT (enc : α → List Value) (x : α × Nat) : List Value := enc x.1

set_option maxHeartbeats 4000000 in
set_option maxRecDepth 1000000 in
theorem swapRange_w (L : StabL P k) (enc : α → List Value) (g : Nat) (cb : Array Value) (blk off cap : Nat) (d0 : Array (α × Nat)) (w0 w : World) (R : RowK (encT enc) k w0 blk off d0) (hsz : d0.size < 4611686018427387904)
    (Q X M Y S : List (α × Nat)) (n : Nat) (hx : X.length = n) (hy : Y.length = n) (hs : Q.length + n + M.length + n + S.length = d0.size) (S0 : SWK (encT enc) k w0 blk off (Q ++ X ++ M ++ Y ++ S).toArray w) :
    Calls P 160 #[.slice (some ⟨blk, off, none⟩) d0.size cap, .int .i64 (Q.length : Int), .int .i64 ((Q.length + n + M.length : Nat) : Int), .int .i64 (n : Int), .func (.func g) #[] cb] w fun e w' =>
      e = .returned (.tuple #[]) ∧ SWK (encT enc) k w0 blk off (Q ++ Y ++ M ++ X ++ S).toArray w' := by
  have mixed := L.mixed; have t3 := L.t3; have a3 := L.a3; have z3 := L.z3; have v3 := L.v3; have t4 := L.t4; have a4 := L.a4; have z4 := L.z4; have v4 := L.v4; have tS := L.tS; have aS := L.aS; have zS := L.zS; have vS := L.vS; have aE := L.aE; have zE := L.zE
  have S1 : Aside (SWK (encT enc) k w0 blk off (mix Q X M Y S 0).toArray w) := by rw [mix_zero]; exact S0
  have HL : Hid (∀ i, i ≤ n → (mix Q X M Y S i).toArray.size = d0.size) := fun i hi => by rw [List.size_toArray, mix_length Q X M Y S hx hy hi]; exact hs
  have HN : Hid (∀ i, i < n → swp (mix Q X M Y S i).toArray (Q.length + i) (Q.length + n + M.length + i) = (mix Q X M Y S (i + 1)).toArray) := fun i hi => mix_next Q X M Y S hx hy hi
  have HE : Hid (mix Q X M Y S n = Q ++ Y ++ M ++ X ++ S) := mix_all Q X M Y S hx hy
  rw [← HE.out]
  obtain ⟨a, ha⟩ : ∃ a, a = Q.length := ⟨_, rfl⟩
  obtain ⟨b, hb⟩ : ∃ b, b = Q.length + n + M.length := ⟨_, rfl⟩
  rw [← hb, ← ha] at HN ⊢
  have hab : a + n ≤ b := by omega
  have hbn : b + n ≤ d0.size := by omega
  clear hx hy hs S0 HE ha hb
  generalize mix Q X M Y S = mx at *
  have HSZ : Hid (d0.size < 4611686018427387904) := hsz
  go_enter L.fSwap, Tryz.ntmps160
  go_wp2
  go_loopw [10] (fun v wr => ∃ i : Nat, v = .int .i64 i ∧ i ≤ n ∧ Aside (SWK (encT enc) k w0 blk off (mx i).toArray wr)) (fun v _ => n - (intOf v).toNat)
  case atStart => exact ⟨0, rfl, Nat.zero_le _, S1⟩
  case round =>
    clear S1
    obtain ⟨i, rfl, hi, S2⟩ := hrel
    by_cases hlt : i < n
    · have hltz : (i : Int) < (n : Int) := by omega
      have HD := HL.out i hi
      have NX := HN.out i hlt
      generalize (mx i).toArray = dk at *
      go_wp2_with fail
      have ea : ((a : Int) + (i : Int)).toNat = a + i := by omega
      have pa : (0 : Int) ≤ (a : Int) + (i : Int) := by omega
      have ba : (a : Int) + (i : Int) < (d0.size : Int) := by omega
      have ra : IntKind.i64.wrap ((a : Int) + (i : Int)) = (a : Int) + (i : Int) := by rw [IntKind.wrap_i64]; omega
      have ec : ((b : Int) + (i : Int)).toNat = b + i := by omega
      have pc : (0 : Int) ≤ (b : Int) + (i : Int) := by omega
      have bc : (b : Int) + (i : Int) < (d0.size : Int) := by omega
      have rc : IntKind.i64.wrap ((b : Int) + (i : Int)) = (b : Int) + (i : Int) := by rw [IntKind.wrap_i64]; omega
      have S3 : Aside (SWK (encT enc) k w0 blk off (swp dk (a + i) (b + i)) ((wr.drew.setCells blk (off + (a + i) * k) (encT enc dk[b + i]!)).setCells blk (off + (b + i) * k) (encT enc dk[a + i]!))) := S2.out.swapped R (a + i) (b + i) (by omega) (by omega)
      have la := S2.out.ld1 R (by omega) P (a + i) (by omega)
      have lb := S2.out.ld1 R (by omega) P (b + i) (by omega)
      have sa := S2.out.st1 R (by omega) P (a + i) (by omega) dk[b + i]!
      have sb := S2.out.st2 R (by omega) P (a + i) (b + i) (by omega) (by omega) dk[b + i]! dk[a + i]!
      have na : (encT enc dk[a + i]!).length = k := R.hk _
      have nb : (encT enc dk[b + i]!).length = k := R.hk _
      generalize encT enc dk[a + i]! = cI at S3 la sb na
      generalize encT enc dk[b + i]! = cJ at S3 lb sa sb nb
      clear S2
      have NXH : Hid (swp dk (a + i) (b + i) = (mx (i + 1)).toArray) := NX
      clear NX
      go_big_region_o
      clear la lb sa sb
      generalize (wr.drew.setCells blk (off + (a + i) * k) cJ).setCells blk (off + (b + i) * k) cI = w2 at S3 ⊢
      go_wp2
      exact ⟨⟨i + 1, by go_num, by omega, by rw [← NXH.out]; exact S3⟩, by simp [intOf] <;> omega⟩
    · obtain rfl : i = n := by omega
      have hltz : ¬ (i : Int) < (i : Int) := by omega
      go_wp2
      go_end0
      exact ⟨rfl, S2.out⟩
set_option maxHeartbeats 4000000 in
set_option maxRecDepth 1000000 in
theorem rotate_w (L : StabL P k) (enc : α → List Value) (g : Nat) (cb : Array Value) (blk off cap : Nat) (d0 : Array (α × Nat)) (w0 w : World) (R : RowK (encT enc) k w0 blk off d0) (hsz : d0.size < 4611686018427387904)
    (Q A B S : List (α × Nat)) (hA : A ≠ []) (hB : B ≠ []) (hs : Q.length + A.length + B.length + S.length = d0.size) (S0 : SWK (encT enc) k w0 blk off (Q ++ A ++ B ++ S).toArray w) :
    Calls P 149 #[.slice (some ⟨blk, off, none⟩) d0.size cap, .int .i64 (Q.length : Int), .int .i64 ((Q.length + A.length : Nat) : Int), .int .i64 ((Q.length + A.length + B.length : Nat) : Int), .func (.func g) #[] cb] w fun e w' =>
      e = .returned (.tuple #[]) ∧ SWK (encT enc) k w0 blk off (Q ++ B ++ A ++ S).toArray w' := by
  have mixed := L.mixed; have t3 := L.t3; have a3 := L.a3; have z3 := L.z3; have v3 := L.v3; have t4 := L.t4; have a4 := L.a4; have z4 := L.z4; have v4 := L.v4; have tS := L.tS; have aS := L.aS; have zS := L.zS; have vS := L.vS; have aE := L.aE; have zE := L.zE
  have eSw : ∀ args w, (callFunc 160 args).run P w = .ok (.enter 160 args) w := enters_of L.fSwap (by kernel_rfl) rfl
  have S1 : Aside (SWK (encT enc) k w0 blk off (Q ++ A ++ B ++ S).toArray w) := S0
  obtain ⟨T, hT⟩ : ∃ T, T = Q ++ B ++ A ++ S := ⟨_, rfl⟩
  rw [← hT]
  have HT : Hid (T = Q ++ B ++ A ++ S) := hT
  obtain ⟨m, hm⟩ : ∃ m, m = Q.length + A.length := ⟨_, rfl⟩
  obtain ⟨a, ha⟩ : ∃ a, a = Q.length := ⟨_, rfl⟩
  obtain ⟨b, hb⟩ : ∃ b, b = Q.length + A.length + B.length := ⟨_, rfl⟩
  rw [← hb, ← hm, ← ha]
  have hal := List.length_pos_iff.2 hA
  have hbl := List.length_pos_iff.2 hB
  obtain ⟨ni, hni⟩ : ∃ ni, ni = A.length := ⟨_, rfl⟩
  obtain ⟨nj, hnj⟩ : ∃ nj, nj = B.length := ⟨_, rfl⟩
  have hma : m = a + ni := by omega
  have hbm : b = m + nj := by omega
  have hi0 : 0 < ni := by omega
  have hj0 : 0 < nj := by omega
  have hbz : b ≤ d0.size := by omega
  have hnjz : nj < 4611686018427387904 := by omega
  have hniz : ni < 4611686018427387904 := by omega
  have HA : Hid (ni = A.length ∧ nj = B.length ∧ Q.length + A.length = m ∧ Q.length + A.length + B.length + S.length = d0.size) := ⟨hni, hnj, by omega, hs⟩
  have ez1 : IntKind.i64.wrap ((m : Int) - (a : Int)) = (ni : Int) := by rw [IntKind.wrap_i64]; omega
  have ez2 : IntKind.i64.wrap ((b : Int) - (m : Int)) = (nj : Int) := by rw [IntKind.wrap_i64]; omega
  have em1 : (m : Int) - (a : Int) = (ni : Int) := by omega
  have em2 : (b : Int) - (m : Int) = (nj : Int) := by omega
  have HSZ : Hid (d0.size < 4611686018427387904 ∧ b ≤ d0.size ∧ m ≤ b) := ⟨hsz, hbz, by omega⟩
  clear hT hm ha hb hal hbl hni hnj hs S0 hA hB hma hbm hsz hbz
  go_enter L.fRot, Tryz.ntmps149
  go_wp2
  go_loopw [10, 11] (fun u v wr => ∃ (i j : Nat) (Q' A' B' S' : List (α × Nat)), u = .int .i64 i ∧ v = .int .i64 j ∧ 0 < i ∧ 0 < j ∧ Hid (i = A'.length ∧ j = B'.length ∧ Q'.length + A'.length = m ∧ Q'.length + A'.length + B'.length + S'.length = d0.size ∧ T = Q' ++ B' ++ A' ++ S') ∧ Aside (SWK (encT enc) k w0 blk off (Q' ++ A' ++ B' ++ S').toArray wr)) (fun u v _ => (intOf u).toNat + (intOf v).toNat)
  case atStart => exact ⟨ni, nj, Q, A, B, S, by first | rfl | go_num, by first | rfl | go_num, hi0, hj0, ⟨HA.out.1, HA.out.2.1, HA.out.2.2.1, HA.out.2.2.2, HT.out⟩, S1⟩
  case round =>
    clear S1 ez1 ez2 em1 em2
    obtain ⟨i, j, Q', A', B', S', rfl, rfl, hi, hj, HH, S2⟩ := hrel
    obtain ⟨h1, h2, h3, h4, h5⟩ := HH.out
    obtain ⟨z1, z2, z3⟩ := HSZ.out
    have w1 : IntKind.i64.wrap ((m : Int) - (i : Int)) = (m : Int) - (i : Int) := by rw [IntKind.wrap_i64]; omega
    by_cases hij : i = j
    · subst hij
      have hijz : ((i : Int) != (i : Int)) = false := by rw [bne_eq_false_iff_eq]
      have CS : Hid (Calls P 160 #[.slice (some ⟨blk, off, none⟩) d0.size cap, .int .i64 ((m : Int) - (i : Int)), .int .i64 (m : Int), .int .i64 (i : Int), .func (.func g) #[] cb] wr fun e w' => e = .returned (.tuple #[]) ∧ SWK (encT enc) k w0 blk off T.toArray w') := by
        have := swapRange_w L enc g cb blk off cap d0 w0 wr R z1 Q' A' [] B' S' i (by omega) (by omega) (by simp; omega) (by simpa using S2.out)
        rw [show ((Q'.length : Nat) : Int) = (m : Int) - (i : Int) by omega, show Q'.length + i + ([] : List (α × Nat)).length = m by simp; omega, List.append_nil, ← h5] at this
        exact this
      clear h1 h2 h3 h4 h5 z1 z2 z3 HH S2
      go_wp2_with (go_at_fn 160; refine CS.out.mono ?_; rintro e w2 ⟨rfl, S3⟩)
      go_end0
      exact ⟨rfl, S3⟩
    · have hijz : ((i : Int) != (j : Int)) = true := by rw [bne_iff_ne]; omega
      have hije : ¬ (i : Int) = (j : Int) := by omega
      by_cases hgt : j < i
      · have hgtz : (j : Int) < (i : Int) := by omega
        have CS : Hid (Calls P 160 #[.slice (some ⟨blk, off, none⟩) d0.size cap, .int .i64 ((m : Int) - (i : Int)), .int .i64 (m : Int), .int .i64 (j : Int), .func (.func g) #[] cb] wr fun e w' => e = .returned (.tuple #[]) ∧ SWK (encT enc) k w0 blk off (Q' ++ B' ++ A'.drop j ++ A'.take j ++ S').toArray w') := by
          have := swapRange_w L enc g cb blk off cap d0 w0 wr R z1 Q' (A'.take j) (A'.drop j) B' S' j (by rw [List.length_take]; omega) (by omega) (by rw [List.length_drop]; omega) (by rw [List.append_assoc Q', List.take_append_drop]; exact S2.out)
          rw [show ((Q'.length : Nat) : Int) = (m : Int) - (i : Int) by omega, show Q'.length + j + (A'.drop j).length = m by rw [List.length_drop]; omega] at this
          exact this
        have NX : Hid (i - j = (A'.drop j).length ∧ j = (A'.take j).length ∧ (Q' ++ B').length + (A'.drop j).length = m ∧ (Q' ++ B').length + (A'.drop j).length + (A'.take j).length + S'.length = d0.size ∧ T = (Q' ++ B') ++ A'.take j ++ A'.drop j ++ S') := by
          refine ⟨by rw [List.length_drop]; omega, by rw [List.length_take]; omega, by rw [List.length_append, List.length_drop]; omega, by rw [List.length_append, List.length_drop, List.length_take]; omega, ?_⟩
          rw [List.append_assoc (Q' ++ B'), List.take_append_drop]
          exact h5
        have w2 : IntKind.i64.wrap ((i : Int) - (j : Int)) = (i : Int) - (j : Int) := by rw [IntKind.wrap_i64]; omega
        clear h1 h2 h3 h4 h5 z1 z2 z3 HH S2 hij
        go_wp2_with (go_at_fn 160; refine CS.out.mono ?_; rintro e w2 ⟨rfl, S3⟩)
        exact ⟨⟨i - j, j, _, _, _, _, by congr 1; omega, rfl, by omega, hj, NX.out, S3⟩, by simp [intOf] <;> omega⟩
      · have hgtz : ¬ (j : Int) < (i : Int) := by omega
        have CS : Hid (Calls P 160 #[.slice (some ⟨blk, off, none⟩) d0.size cap, .int .i64 ((m : Int) - (i : Int)), .int .i64 ((m : Int) + (j : Int) - (i : Int)), .int .i64 (i : Int), .func (.func g) #[] cb] wr fun e w' => e = .returned (.tuple #[]) ∧ SWK (encT enc) k w0 blk off (Q' ++ B'.drop (j - i) ++ B'.take (j - i) ++ (A' ++ S')).toArray w') := by
          have := swapRange_w L enc g cb blk off cap d0 w0 wr R z1 Q' A' (B'.take (j - i)) (B'.drop (j - i)) S' i (by omega) (by rw [List.length_drop]; omega) (by rw [List.length_take]; omega) (by rw [List.append_assoc (Q' ++ A'), List.take_append_drop]; exact S2.out)
          rw [show ((Q'.length : Nat) : Int) = (m : Int) - (i : Int) by omega, show ((Q'.length + i + (B'.take (j - i)).length : Nat) : Int) = (m : Int) + (j : Int) - (i : Int) by rw [List.length_take]; omega, List.append_assoc _ A' S'] at this
          exact this
        have NX : Hid (i = (B'.drop (j - i)).length ∧ j - i = (B'.take (j - i)).length ∧ Q'.length + (B'.drop (j - i)).length = m ∧ Q'.length + (B'.drop (j - i)).length + (B'.take (j - i)).length + (A' ++ S').length = d0.size ∧ T = Q' ++ B'.take (j - i) ++ B'.drop (j - i) ++ (A' ++ S')) := by
          refine ⟨by rw [List.length_drop]; omega, by rw [List.length_take]; omega, by rw [List.length_drop]; omega, by rw [List.length_append, List.length_drop, List.length_take]; omega, ?_⟩
          rw [List.append_assoc Q', List.take_append_drop, ← List.append_assoc]
          exact h5
        have w2 : IntKind.i64.wrap ((j : Int) - (i : Int)) = (j : Int) - (i : Int) := by rw [IntKind.wrap_i64]; omega
        have w3 : IntKind.i64.wrap ((m : Int) + (j : Int)) = (m : Int) + (j : Int) := by rw [IntKind.wrap_i64]; omega
        have w4 : IntKind.i64.wrap ((m : Int) + (j : Int) - (i : Int)) = (m : Int) + (j : Int) - (i : Int) := by rw [IntKind.wrap_i64]; omega
        clear h1 h2 h3 h4 h5 z1 z2 z3 HH S2 hij
        go_wp2_with (go_at_fn 160; refine CS.out.mono ?_; rintro e w2 ⟨rfl, S3⟩)
        exact ⟨⟨i, j - i, _, _, _, _, rfl, by congr 1; omega, hi, by omega, NX.out, S3⟩, by simp [intOf] <;> omega⟩

end Go.Proofs.YtaoobliajgcdmaaGreat

/-
  slices.SortStableFunc's symMergeCmpFunc, over any program that bears its body: two neighbours, each in order, become one that is in order; equals stand as they stood.
-/
namespace Go.Proofs.YtaoobliajgcdmaaGreat
open Go.RowKit Go.Lib Go.Sort Go.Shelf

section
variable {α : Type}
theorem slide_up [Inhabited α] (Q B S : List (α × Nat)) (x : α × Nat) {t : Nat} (ht : t < B.length) : swp (Q ++ (B.take t ++ x :: (B.drop t ++ S))).toArray (Q.length + t) (Q.length + t + 1) = (Q ++ (B.take (t + 1) ++ x :: (B.drop (t + 1) ++ S))).toArray := by
  have h := swp_list (Q ++ B.take t) [] (B.drop (t + 1) ++ S) x B[t]
  have hl : (Q ++ B.take t).length = Q.length + t := by rw [List.length_append, List.length_take]; omega
  rw [hl, List.length_nil, Nat.add_zero] at h
  rw [List.drop_eq_getElem_cons ht, List.take_add_one, List.getElem?_eq_getElem ht]
  simp only [Option.toList_some, List.append_assoc, List.cons_append, List.nil_append] at h ⊢
  exact h
theorem slide_down [Inhabited α] (Q A S : List (α × Nat)) (y : α × Nat) {t : Nat} (ht : t < A.length) : swp (Q ++ (A.take (t + 1) ++ y :: (A.drop (t + 1) ++ S))).toArray (Q.length + t + 1) (Q.length + t) = (Q ++ (A.take t ++ y :: (A.drop t ++ S))).toArray := by
  have h := swp_list_back (Q ++ A.take t) [] (A.drop (t + 1) ++ S) A[t] y
  have hl : (Q ++ A.take t).length = Q.length + t := by rw [List.length_append, List.length_take]; omega
  rw [hl, List.length_nil, Nat.add_zero] at h
  rw [List.drop_eq_getElem_cons ht, List.take_add_one, List.getElem?_eq_getElem ht]
  simp only [Option.toList_some, List.append_assoc, List.cons_append, List.nil_append] at h ⊢
  exact h
theorem slide_length (Q B S : List (α × Nat)) (x : α × Nat) (t : Nat) : (Q ++ (B.take t ++ x :: (B.drop t ++ S))).length = Q.length + 1 + B.length + S.length := by
  simp only [List.length_append, List.length_cons, List.length_take, List.length_drop]
  omega
end

variable {P : Program} {k : Nat} {α : Type}
/-- By the things alone. -/
def cfP (cf : α → α → Int) (x y : α × Nat) : Int := cf x.1 y.1

set_option maxHeartbeats 8000000 in
set_option maxRecDepth 1000000 in
theorem symLeft_w [Inhabited α] (L : StabL P k) (enc : α → List Value) (cf : α → α → Int) (hO : SWO (ltOf cf)) (g : Nat) (cb : Array Value) (blk off cap : Nat) (d0 : Array (α × Nat)) (w0 : World) (eg : ∀ args w, (callFunc g args).run P w = .ok (.enter g args) w) (hcmp : CmpLays P g cb (encT enc) k (cfP cf) blk off d0.size w0) (R : RowK (encT enc) k w0 blk off d0) (hsz : d0.size < 4611686018427387904)
    (w : World) (Q B S : List (α × Nat)) (x : α × Nat) (ho : Ord (ltOf cf) B) (hc : Cross [x] B) (hs : Q.length + 1 + B.length + S.length = d0.size) (S0 : SWK (encT enc) k w0 blk off (Q ++ x :: (B ++ S)).toArray w) :
    Calls P 122 #[.slice (some ⟨blk, off, none⟩) d0.size cap, .int .i64 (Q.length : Int), .int .i64 ((Q.length + 1 : Nat) : Int), .int .i64 ((Q.length + 1 + B.length : Nat) : Int), .func (.func g) #[] cb] w fun e w' =>
      e = .returned (.tuple #[]) ∧ ∃ M, M.Perm ([x] ++ B) ∧ Ord (ltOf cf) M ∧ SWK (encT enc) k w0 blk off (Q ++ (M ++ S)).toArray w' := by
  have mixed := L.mixed; have t3 := L.t3; have a3 := L.a3; have z3 := L.z3; have v3 := L.v3; have t4 := L.t4; have a4 := L.a4; have z4 := L.z4; have v4 := L.v4; have tU := L.tU; have aU := L.aU; have zU := L.zU; have tS := L.tS; have aS := L.aS; have zS := L.zS; have vS := L.vS; have aE := L.aE; have zE := L.zE
  have HC : Aside _ := hcmp
  obtain ⟨a, ha⟩ : ∃ a, a = Q.length := ⟨_, rfl⟩
  obtain ⟨m, hm⟩ : ∃ m, m = a + 1 := ⟨_, rfl⟩
  obtain ⟨b, hb⟩ : ∃ b, b = m + B.length := ⟨_, rfl⟩
  rw [← ha, ← hm, ← hb]
  have hbz : b ≤ d0.size := by omega
  have em : (m : Int) - (a : Int) = 1 := by omega
  have SL : Hid (∀ t, t < B.length → swp (Q ++ (B.take t ++ x :: (B.drop t ++ S))).toArray (a + t) (a + t + 1) = (Q ++ (B.take (t + 1) ++ x :: (B.drop (t + 1) ++ S))).toArray) := fun t ht => by rw [ha]; exact slide_up Q B S x ht
  have SZ : Hid (∀ t, (Q ++ (B.take t ++ x :: (B.drop t ++ S))).toArray.size = d0.size) := fun t => by rw [List.size_toArray, slide_length, hs]
  have HB : Hid (b = m + B.length ∧ m = a + 1) := ⟨hb, hm⟩
  have hab : a < m := by omega
  have hmb : m ≤ b := by omega
  have hmz : a + 1 = m := by omega
  obtain ⟨dk, hdk⟩ : ∃ dk, dk = (Q ++ x :: (B ++ S)).toArray := ⟨_, rfl⟩
  have HDK : Hid (dk = (Q ++ x :: (B ++ S)).toArray) := hdk
  have S1 : Aside (SWK (encT enc) k w0 blk off dk w) := by rw [hdk]; exact S0
  have HD : Hid (dk.size = d0.size) := by show dk.size = _; rw [hdk]; exact SZ.out 0
  have GX : Hid (dk[a]! = x) := by show dk[a]! = x; rw [hdk, ha]; exact getBangT (at_len Q x _)
  have GY : Hid (∀ i y, B[i]? = some y → dk[m + i]! = y) := fun i y hy => by
    rw [hdk]
    refine getBangT ?_
    have := put_mid (P := Q ++ [x]) (S := S) hy
    rw [List.length_append, List.length_singleton, ← ha, ← hm, List.append_assoc, List.singleton_append] at this
    exact this
  clear hcmp ha hm hb hs S0 hdk
  have HSZ : Hid (d0.size < 4611686018427387904) := hsz
  go_enter L.fSym, Tryz.ntmps122
  go_wp2
  go_loopw [10, 11] (fun u v wr => ∃ i j : Nat, u = .int .i64 i ∧ v = .int .i64 j ∧ m ≤ i ∧ i ≤ j ∧ j ≤ b ∧ Hid (i - m = 0 ∨ ∃ z, B[i - m - 1]? = some z ∧ ltOf cf z.1 x.1 = true) ∧ Hid (j - m = B.length ∨ ∃ z, B[j - m]? = some z ∧ ltOf cf z.1 x.1 = false) ∧ Aside (SWK (encT enc) k w0 blk off dk wr)) (fun u v _ => (intOf v).toNat - (intOf u).toNat)
  case atStart => exact ⟨m, b, rfl, rfl, Nat.le_refl _, hmb, Nat.le_refl _, .inl (Nat.sub_self _), .inl (by have := HB.out; omega), S1⟩
  case round =>
    clear S1 em
    obtain ⟨i, j, rfl, rfl, hmi, hij, hjb, I1, I2, S2⟩ := hrel
    by_cases hlt : i < j
    · have hltz : (i : Int) < (j : Int) := by omega
      obtain ⟨h, hh⟩ : ∃ h, h = (i + j) / 2 := ⟨_, rfl⟩
      have hih : i ≤ h := by omega
      have hhj : h < j := by omega
      have ehz : ((i : Int) + (j : Int)) / 2 = (h : Int) := by omega
      clear hh
      obtain ⟨y, hy⟩ : ∃ y, B[h - m]? = some y := ⟨_, List.getElem?_eq_getElem (by have := HB.out; omega)⟩
      have gy := GY.out (h - m) y hy
      rw [show m + (h - m) = h by omega] at gy
      have HY : Hid (B[h - m]? = some y) := hy
      clear hy
      by_cases hv1 : cfP cf y x < 0
      · have LT : Hid (ltOf cf y.1 x.1 = true) := decide_eq_true hv1
        have ea1 : ((h : Int)).toNat = h := by omega
        have pa1 : (0 : Int) ≤ (h : Int) := by omega
        have ba1 : (h : Int) < (d0.size : Int) := by omega
        have ra1 : IntKind.i64.wrap ((h : Int)) = (h : Int) := by rw [IntKind.wrap_i64]; omega
        have ec1 : ((a : Int)).toNat = a := by omega
        have pc1 : (0 : Int) ≤ (a : Int) := by omega
        have bc1 : (a : Int) < (d0.size : Int) := by omega
        have rc1 : IntKind.i64.wrap ((a : Int)) = (a : Int) := by rw [IntKind.wrap_i64]; omega
        have l1a := S2.out.ld R HD.out P (h) (by have := HD.out; omega)
        have l1b := S2.out.ld R HD.out P (a) (by have := HD.out; omega)
        rw [gy] at l1a
        rw [GX.out] at l1b
        have hc1 := S2.out.cmp HC.out HD.out y x
        have hd1 : decide (cfP cf y x < 0) = true := decide_eq_true hv1
        go_wp2_with fail
        go_quiet_grown (first | (go_at_fn g; refine Calls.grown_of (hc1 _ _)))
        have S3 : Aside (SWK (encT enc) k w0 blk off dk (grow (wr.drewN nq) osq)) := S2.out.grown nq osq
        clear l1a l1b hc1 S2
        generalize grow (wr.drewN nq) osq = w2 at S3 ⊢
        clear nq osq
        go_wp2_with fail
        exact ⟨⟨h + 1, j, by first | rfl | go_num, rfl, by omega, by omega, hjb, .inr ⟨y, by rw [show h + 1 - m - 1 = h - m by omega]; exact HY.out, LT.out⟩, I2, S3⟩, by simp [intOf] <;> omega⟩
      · have LT : Hid (ltOf cf y.1 x.1 = false) := decide_eq_false hv1
        have ea1 : ((h : Int)).toNat = h := by omega
        have pa1 : (0 : Int) ≤ (h : Int) := by omega
        have ba1 : (h : Int) < (d0.size : Int) := by omega
        have ra1 : IntKind.i64.wrap ((h : Int)) = (h : Int) := by rw [IntKind.wrap_i64]; omega
        have ec1 : ((a : Int)).toNat = a := by omega
        have pc1 : (0 : Int) ≤ (a : Int) := by omega
        have bc1 : (a : Int) < (d0.size : Int) := by omega
        have rc1 : IntKind.i64.wrap ((a : Int)) = (a : Int) := by rw [IntKind.wrap_i64]; omega
        have l1a := S2.out.ld R HD.out P (h) (by have := HD.out; omega)
        have l1b := S2.out.ld R HD.out P (a) (by have := HD.out; omega)
        rw [gy] at l1a
        rw [GX.out] at l1b
        have hc1 := S2.out.cmp HC.out HD.out y x
        have hd1 : decide (cfP cf y x < 0) = false := decide_eq_false hv1
        go_wp2_with fail
        go_quiet_grown (first | (go_at_fn g; refine Calls.grown_of (hc1 _ _)))
        have S3 : Aside (SWK (encT enc) k w0 blk off dk (grow (wr.drewN nq) osq)) := S2.out.grown nq osq
        clear l1a l1b hc1 S2
        generalize grow (wr.drewN nq) osq = w2 at S3 ⊢
        clear nq osq
        go_wp2_with fail
        exact ⟨⟨i, h, rfl, by first | rfl | go_num, hmi, hih, by omega, I1, .inr ⟨y, HY.out, LT.out⟩, S3⟩, by simp [intOf] <;> omega⟩
    · obtain rfl : i = j := by omega
      have hltz : ¬ (i : Int) < (i : Int) := by omega
      clear hlt hij
      have S4 : Aside (SWK (encT enc) k w0 blk off (Q ++ (B.take 0 ++ x :: (B.drop 0 ++ S))).toArray wr) := by
        have := S2.out
        rw [HDK.out] at this
        exact this
      clear S2
      go_wp2_with fail
      go_loopw [13] (fun v wr2 => ∃ q : Nat, v = .int .i64 q ∧ a ≤ q ∧ q + 1 ≤ i ∧ Aside (SWK (encT enc) k w0 blk off (Q ++ (B.take (q - a) ++ x :: (B.drop (q - a) ++ S))).toArray wr2)) (fun v _ => i - (intOf v).toNat)
      case atStart => exact ⟨a, rfl, Nat.le_refl _, by omega, by rw [Nat.sub_self]; exact S4⟩
      case round =>
        clear S4
        obtain ⟨q, rfl, haq, hqi, S5⟩ := hrel
        by_cases hlt2 : q + 1 < i
        · have hlt2z : (q : Int) < (i : Int) - 1 := by omega
          have HDk := Lib.hid (SZ.out (q - a))
          have NX := Lib.hid (SL.out (q - a) (by have := HB.out; omega))
          rw [show a + (q - a) = q by omega] at NX
          generalize (Q ++ (B.take (q - a) ++ x :: (B.drop (q - a) ++ S))).toArray = dq at *
          have ea2 : ((q : Int)).toNat = q := by omega
          have pa2 : (0 : Int) ≤ (q : Int) := by omega
          have ba2 : (q : Int) < (d0.size : Int) := by omega
          have ra2 : IntKind.i64.wrap ((q : Int)) = (q : Int) := by rw [IntKind.wrap_i64]; omega
          have ec2 : ((q : Int) + 1).toNat = q + 1 := by omega
          have pc2 : (0 : Int) ≤ (q : Int) + 1 := by omega
          have bc2 : (q : Int) + 1 < (d0.size : Int) := by omega
          have rc2 : IntKind.i64.wrap ((q : Int) + 1) = (q : Int) + 1 := by rw [IntKind.wrap_i64]; omega
          have S6 : Aside (SWK (encT enc) k w0 blk off (swp dq (q) (q + 1)) ((wr.drew.setCells blk (off + (q) * k) (encT enc dq[q + 1]!)).setCells blk (off + (q + 1) * k) (encT enc dq[q]!))) := S5.out.swapped R (q) (q + 1) (by have := HDk.out; omega) (by have := HDk.out; omega)
          have l2a := S5.out.ld1 R HDk.out P (q) (by have := HDk.out; omega)
          have l2b := S5.out.ld1 R HDk.out P (q + 1) (by have := HDk.out; omega)
          have s2a := S5.out.st1 R HDk.out P (q) (by have := HDk.out; omega) dq[q + 1]!
          have s2b := S5.out.st2 R HDk.out P (q) (q + 1) (by have := HDk.out; omega) (by have := HDk.out; omega) dq[q + 1]! dq[q]!
          have n2a : (encT enc dq[q]!).length = k := R.hk _
          have n2b : (encT enc dq[q + 1]!).length = k := R.hk _
          generalize encT enc dq[q]! = cI2 at S6 l2a s2b n2a
          generalize encT enc dq[q + 1]! = cJ2 at S6 l2b s2a s2b n2b
          clear S5
          go_wp2_with fail
          go_big_region_o
          clear l2a l2b s2a s2b
          generalize (wr.drew.setCells blk (off + (q) * k) cJ2).setCells blk (off + (q + 1) * k) cI2 = w3 at S6 ⊢
          go_wp2
          exact ⟨⟨q + 1, by first | rfl | go_num, by omega, by omega, by rw [show q + 1 - a = q - a + 1 by omega, ← NX.out]; exact S6⟩, by simp [intOf] <;> omega⟩
        · have hqe : q + 1 = i := by omega
          have hlt2z : ¬ (q : Int) < (i : Int) - 1 := by omega
          go_wp2_with fail
          (try simp only [Exit.inBlock, Exit.then]); refine bodyPost_ret (results_none rfl _ _ _) rfl ?_
          have e : q - a = i - m := by have := HB.out; omega
          have S6 := S5.out
          rw [e] at S6
          refine ⟨rfl, _, perm_mid x B (i - m), merge_left hO ho hc I1.out I2.out, ?_⟩
          simpa using S6

set_option maxHeartbeats 8000000 in
set_option maxRecDepth 1000000 in
theorem symRight_w [Inhabited α] (L : StabL P k) (enc : α → List Value) (cf : α → α → Int) (hO : SWO (ltOf cf)) (g : Nat) (cb : Array Value) (blk off cap : Nat) (d0 : Array (α × Nat)) (w0 : World) (eg : ∀ args w, (callFunc g args).run P w = .ok (.enter g args) w) (hcmp : CmpLays P g cb (encT enc) k (cfP cf) blk off d0.size w0) (R : RowK (encT enc) k w0 blk off d0) (hsz : d0.size < 4611686018427387904)
    (w : World) (Q A S : List (α × Nat)) (y : α × Nat) (hA : 2 ≤ A.length) (ho : Ord (ltOf cf) A) (hc : Cross A [y]) (hs : Q.length + 1 + A.length + S.length = d0.size) (S0 : SWK (encT enc) k w0 blk off (Q ++ (A ++ y :: S)).toArray w) :
    Calls P 122 #[.slice (some ⟨blk, off, none⟩) d0.size cap, .int .i64 (Q.length : Int), .int .i64 ((Q.length + A.length : Nat) : Int), .int .i64 ((Q.length + A.length + 1 : Nat) : Int), .func (.func g) #[] cb] w fun e w' =>
      e = .returned (.tuple #[]) ∧ ∃ M, M.Perm (A ++ [y]) ∧ Ord (ltOf cf) M ∧ SWK (encT enc) k w0 blk off (Q ++ (M ++ S)).toArray w' := by
  have mixed := L.mixed; have t3 := L.t3; have a3 := L.a3; have z3 := L.z3; have v3 := L.v3; have t4 := L.t4; have a4 := L.a4; have z4 := L.z4; have v4 := L.v4; have tU := L.tU; have aU := L.aU; have zU := L.zU; have tS := L.tS; have aS := L.aS; have zS := L.zS; have vS := L.vS; have aE := L.aE; have zE := L.zE
  have HC : Aside _ := hcmp
  obtain ⟨a, ha⟩ : ∃ a, a = Q.length := ⟨_, rfl⟩
  obtain ⟨m, hm⟩ : ∃ m, m = a + A.length := ⟨_, rfl⟩
  obtain ⟨b, hb⟩ : ∃ b, b = m + 1 := ⟨_, rfl⟩
  rw [← ha, ← hm, ← hb]
  have hbz : b ≤ d0.size := by omega
  have em1 : ((m : Int) - (a : Int) == 1) = false := by rw [beq_eq_false_iff_ne]; omega
  have em2 : ¬ (m : Int) - (a : Int) = 1 := by omega
  have em : (b : Int) - (m : Int) = 1 := by omega
  have SL : Hid (∀ t, t < A.length → swp (Q ++ (A.take (t + 1) ++ y :: (A.drop (t + 1) ++ S))).toArray (a + t + 1) (a + t) = (Q ++ (A.take t ++ y :: (A.drop t ++ S))).toArray) := fun t ht => by rw [ha]; exact slide_down Q A S y ht
  have SZ : Hid (∀ t, (Q ++ (A.take t ++ y :: (A.drop t ++ S))).toArray.size = d0.size) := fun t => by rw [List.size_toArray, slide_length, hs]
  have HA : Hid (m = a + A.length ∧ b = m + 1) := ⟨hm, hb⟩
  have ham : a < m := by omega
  have hmb : m < b := by omega
  obtain ⟨dk, hdk⟩ : ∃ dk, dk = (Q ++ (A ++ y :: S)).toArray := ⟨_, rfl⟩
  have HDK : Hid (dk = (Q ++ (A ++ y :: S)).toArray) := hdk
  have S1 : Aside (SWK (encT enc) k w0 blk off dk w) := by rw [hdk]; exact S0
  have e9 : Q ++ (A ++ y :: S) = Q ++ (A.take A.length ++ y :: (A.drop A.length ++ S)) := by simp
  have HD : Hid (dk.size = d0.size) := by show dk.size = _; rw [hdk, e9]; exact SZ.out A.length
  have GY : Hid (dk[m]! = y) := by
    show dk[m]! = y
    rw [hdk, hm, ha]
    refine getBangT ?_
    have := at_len (Q ++ A) y S
    rw [List.length_append, List.append_assoc] at this
    exact this
  have GX : Hid (∀ i x, A[i]? = some x → dk[a + i]! = x) := fun i x hx => by
    rw [hdk, ha]
    exact getBangT (put_mid (P := Q) (S := y :: S) hx)
  have E9 : Hid (Q ++ (A ++ y :: S) = Q ++ (A.take A.length ++ y :: (A.drop A.length ++ S))) := e9
  clear hcmp ha hm hb hs S0 hdk e9 hA
  have HSZ : Hid (d0.size < 4611686018427387904) := hsz
  go_enter L.fSym, Tryz.ntmps122
  go_wp2
  go_loopw [14, 15] (fun u v wr => ∃ i j : Nat, u = .int .i64 i ∧ v = .int .i64 j ∧ a ≤ i ∧ i ≤ j ∧ j ≤ m ∧ Hid (i - a = 0 ∨ ∃ z, A[i - a - 1]? = some z ∧ ltOf cf y.1 z.1 = false) ∧ Hid (j - a = A.length ∨ ∃ z, A[j - a]? = some z ∧ ltOf cf y.1 z.1 = true) ∧ Aside (SWK (encT enc) k w0 blk off dk wr)) (fun u v _ => (intOf v).toNat - (intOf u).toNat)
  case atStart => exact ⟨a, m, rfl, rfl, Nat.le_refl _, by omega, Nat.le_refl _, .inl (Nat.sub_self _), .inl (by have := HA.out; omega), S1⟩
  case round =>
    clear S1 em em1 em2
    obtain ⟨i, j, rfl, rfl, hmi, hij, hjb, I1, I2, S2⟩ := hrel
    by_cases hlt : i < j
    · have hltz : (i : Int) < (j : Int) := by omega
      obtain ⟨h, hh⟩ : ∃ h, h = (i + j) / 2 := ⟨_, rfl⟩
      have hih : i ≤ h := by omega
      have hhj : h < j := by omega
      have ehz : ((i : Int) + (j : Int)) / 2 = (h : Int) := by omega
      clear hh
      obtain ⟨x, hx⟩ : ∃ x, A[h - a]? = some x := ⟨_, List.getElem?_eq_getElem (by have := HA.out; omega)⟩
      have gx := GX.out (h - a) x hx
      rw [show a + (h - a) = h by omega] at gx
      have HX : Hid (A[h - a]? = some x) := hx
      clear hx
      by_cases hv1 : cfP cf y x < 0
      · have LT : Hid (ltOf cf y.1 x.1 = true) := decide_eq_true hv1
        have ea1 : ((m : Int)).toNat = m := by omega
        have pa1 : (0 : Int) ≤ (m : Int) := by omega
        have ba1 : (m : Int) < (d0.size : Int) := by omega
        have ra1 : IntKind.i64.wrap ((m : Int)) = (m : Int) := by rw [IntKind.wrap_i64]; omega
        have ec1 : ((h : Int)).toNat = h := by omega
        have pc1 : (0 : Int) ≤ (h : Int) := by omega
        have bc1 : (h : Int) < (d0.size : Int) := by omega
        have rc1 : IntKind.i64.wrap ((h : Int)) = (h : Int) := by rw [IntKind.wrap_i64]; omega
        have l1a := S2.out.ld R HD.out P (m) (by have := HD.out; omega)
        have l1b := S2.out.ld R HD.out P (h) (by have := HD.out; omega)
        rw [GY.out] at l1a
        rw [gx] at l1b
        have hc1 := S2.out.cmp HC.out HD.out y x
        have hd1 : decide (cfP cf y x < 0) = true := decide_eq_true hv1
        go_wp2_with fail
        go_quiet_grown (first | (go_at_fn g; refine Calls.grown_of (hc1 _ _)))
        have S3 : Aside (SWK (encT enc) k w0 blk off dk (grow (wr.drewN nq) osq)) := S2.out.grown nq osq
        clear l1a l1b hc1 S2
        generalize grow (wr.drewN nq) osq = w2 at S3 ⊢
        clear nq osq
        go_wp2_with fail
        exact ⟨⟨i, h, rfl, by first | rfl | go_num, hmi, hih, by omega, I1, .inr ⟨x, HX.out, LT.out⟩, S3⟩, by simp [intOf] <;> omega⟩
      · have LT : Hid (ltOf cf y.1 x.1 = false) := decide_eq_false hv1
        have ea1 : ((m : Int)).toNat = m := by omega
        have pa1 : (0 : Int) ≤ (m : Int) := by omega
        have ba1 : (m : Int) < (d0.size : Int) := by omega
        have ra1 : IntKind.i64.wrap ((m : Int)) = (m : Int) := by rw [IntKind.wrap_i64]; omega
        have ec1 : ((h : Int)).toNat = h := by omega
        have pc1 : (0 : Int) ≤ (h : Int) := by omega
        have bc1 : (h : Int) < (d0.size : Int) := by omega
        have rc1 : IntKind.i64.wrap ((h : Int)) = (h : Int) := by rw [IntKind.wrap_i64]; omega
        have l1a := S2.out.ld R HD.out P (m) (by have := HD.out; omega)
        have l1b := S2.out.ld R HD.out P (h) (by have := HD.out; omega)
        rw [GY.out] at l1a
        rw [gx] at l1b
        have hc1 := S2.out.cmp HC.out HD.out y x
        have hd1 : decide (cfP cf y x < 0) = false := decide_eq_false hv1
        go_wp2_with fail
        go_quiet_grown (first | (go_at_fn g; refine Calls.grown_of (hc1 _ _)))
        have S3 : Aside (SWK (encT enc) k w0 blk off dk (grow (wr.drewN nq) osq)) := S2.out.grown nq osq
        clear l1a l1b hc1 S2
        generalize grow (wr.drewN nq) osq = w2 at S3 ⊢
        clear nq osq
        go_wp2_with fail
        exact ⟨⟨h + 1, j, by first | rfl | go_num, rfl, by omega, by omega, hjb, .inr ⟨x, by rw [show h + 1 - a - 1 = h - a by omega]; exact HX.out, LT.out⟩, I2, S3⟩, by simp [intOf] <;> omega⟩
    · obtain rfl : i = j := by omega
      have hltz : ¬ (i : Int) < (i : Int) := by omega
      clear hlt hij
      have S4 : Aside (SWK (encT enc) k w0 blk off (Q ++ (A.take (m - a) ++ y :: (A.drop (m - a) ++ S))).toArray wr) := by
        have := S2.out
        rw [HDK.out, E9.out] at this
        rw [show m - a = A.length by have := HA.out; omega]
        exact this
      clear S2
      go_wp2_with fail
      go_loopw [17] (fun v wr2 => ∃ q : Nat, v = .int .i64 q ∧ i ≤ q ∧ q ≤ m ∧ Aside (SWK (encT enc) k w0 blk off (Q ++ (A.take (q - a) ++ y :: (A.drop (q - a) ++ S))).toArray wr2)) (fun v _ => (intOf v).toNat)
      case atStart => exact ⟨m, rfl, hjb, Nat.le_refl _, S4⟩
      case round =>
        clear S4
        obtain ⟨q, rfl, hiq, hqm, S5⟩ := hrel
        by_cases hlt2 : i < q
        · have hlt2z : (i : Int) < (q : Int) := by omega
          obtain ⟨p, rfl⟩ : ∃ p, q = p + 1 := ⟨q - 1, by omega⟩
          have HDk := Lib.hid (SZ.out (p + 1 - a))
          have NX := Lib.hid (SL.out (p - a) (by have := HA.out; omega))
          rw [show a + (p - a) = p by omega, show p - a + 1 = p + 1 - a by omega] at NX
          generalize (Q ++ (A.take (p + 1 - a) ++ y :: (A.drop (p + 1 - a) ++ S))).toArray = dq at *
          have hcast : ((p + 1 : Nat) : Int) = (p : Int) + 1 := by omega
          rw [hcast]
          clear hcast
          have hlt3z : (i : Int) < (p : Int) + 1 := by omega
          have ea2 : ((p : Int) + 1).toNat = p + 1 := by omega
          have pa2 : (0 : Int) ≤ (p : Int) + 1 := by omega
          have ba2 : (p : Int) + 1 < (d0.size : Int) := by omega
          have ra2 : IntKind.i64.wrap ((p : Int) + 1) = (p : Int) + 1 := by rw [IntKind.wrap_i64]; omega
          have ec2 : ((p : Int)).toNat = p := by omega
          have pc2 : (0 : Int) ≤ (p : Int) := by omega
          have bc2 : (p : Int) < (d0.size : Int) := by omega
          have rc2 : IntKind.i64.wrap ((p : Int)) = (p : Int) := by rw [IntKind.wrap_i64]; omega
          have S6 : Aside (SWK (encT enc) k w0 blk off (swp dq (p + 1) (p)) ((wr.drew.setCells blk (off + (p + 1) * k) (encT enc dq[p]!)).setCells blk (off + (p) * k) (encT enc dq[p + 1]!))) := S5.out.swapped R (p + 1) (p) (by have := HDk.out; omega) (by have := HDk.out; omega)
          have l2a := S5.out.ld1 R HDk.out P (p + 1) (by have := HDk.out; omega)
          have l2b := S5.out.ld1 R HDk.out P (p) (by have := HDk.out; omega)
          have s2a := S5.out.st1 R HDk.out P (p + 1) (by have := HDk.out; omega) dq[p]!
          have s2b := S5.out.st2 R HDk.out P (p + 1) (p) (by have := HDk.out; omega) (by have := HDk.out; omega) dq[p]! dq[p + 1]!
          have n2a : (encT enc dq[p + 1]!).length = k := R.hk _
          have n2b : (encT enc dq[p]!).length = k := R.hk _
          generalize encT enc dq[p + 1]! = cI2 at S6 l2a s2b n2a
          generalize encT enc dq[p]! = cJ2 at S6 l2b s2a s2b n2b
          clear S5
          go_wp2_with fail
          go_big_region_o
          clear l2a l2b s2a s2b
          generalize (wr.drew.setCells blk (off + (p + 1) * k) cJ2).setCells blk (off + (p) * k) cI2 = w3 at S6 ⊢
          go_wp2
          exact ⟨⟨p, by first | rfl | go_num, by omega, by omega, by rw [← NX.out]; exact S6⟩, by simp [intOf] <;> omega⟩
        · obtain rfl : q = i := by omega
          have hlt2z : ¬ (q : Int) < (q : Int) := by omega
          go_wp2_with fail
          (try simp only [Exit.inBlock, Exit.then]); refine bodyPost_ret (results_none rfl _ _ _) rfl ?_
          refine ⟨rfl, _, (perm_mid y A (q - a)).trans List.perm_append_comm, merge_right hO ho hc I1.out I2.out, ?_⟩
          have S6 := S5.out
          simpa using S6

end Go.Proofs.YtaoobliajgcdmaaGreat
