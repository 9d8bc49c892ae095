/-
  SpanHulls is true for any spans: Hull of span is as the document says.
-/
import Derived.Test.YtaobmlkbhdonkaaDhull
namespace Go.Proofs.Ytaobmlkbhdonkaa
open Go.RowKit

set_option maxHeartbeats 2000000 in
theorem hulls_walk (w : World) (A : Option Addr) (c : Nat) (l : List (Int × Int)) (hl : Spans w A l) :
    Calls Try.prog 6 #[.slice A l.length c] w fun e w' => e = .returned (.bool true) ∧ Below w.heap.size w w' := by
  by_cases hn : 2000 < l.length
  · go_enter Try.func6, Try.ntmps6
    go_wp2_with (go_at_call 17; refine (alive_any _).mono ?_; rintro e w1 ⟨rfl, hb1⟩)
    go_ret
    exact ⟨rfl, hb1⟩
  · have HL := Lib.hid hl
    clear hl
    go_enter Try.func6, Try.ntmps6
    go_wp2_with fail
    (go_at_call 23; refine (hull_any _ _ _ _ HL.out (by omega)).mono ?_; rintro e w1 ⟨rfl, hb1⟩)
    have h1 : Below w1.heap.size w1 (w1.alloc (.cells #[.int .i64 (hullSt l).2.1, .int .i64 (hullSt l).2.2] 23)) := (Below.refl _ _).alloc (Nat.le_refl _) _
    have hw1 := chain hb1 h1
    have cx0 : (w1.alloc (.cells #[.int .i64 (hullSt l).2.1, .int .i64 (hullSt l).2.2] 23)).cell? ⟨w1.heap.size, 0, none⟩ = some (.int .i64 (hullSt l).2.1) := by simp [go_sem]
    have cx1 : (w1.alloc (.cells #[.int .i64 (hullSt l).2.1, .int .i64 (hullSt l).2.2] 23)).cell? ⟨w1.heap.size, 1, none⟩ = some (.int .i64 (hullSt l).2.2) := by simp [go_sem]
    go_wp2_with fail
    (go_at_call 24; refine (dhull_any _ _ _ _ (HL.out.below hw1) (by omega)).mono ?_; rintro e w2 ⟨rfl, hb2⟩)
    replace cx0 := keepc' hb2 cx0
    replace cx1 := keepc' hb2 cx1
    have hs2 := lt_of_cell cx0
    have hw2 := chain hw1 hb2
    go_wp2_with (go_at_call 17; refine (alive_any _).mono ?_; rintro e w3 ⟨rfl, hb3⟩)
    go_ret
    exact ⟨rfl, chain (hw2.alloc hw2.size _) hb3⟩

end Go.Proofs.Ytaobmlkbhdonkaa
