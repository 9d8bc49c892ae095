/-
  The chapter's examples hold: alive gives back true, and turns nothing that was there.
-/
import Derived.Test.YtaobmlkbhdonkaaCut
namespace Go.Proofs.Ytaobmlkbhdonkaa
open Go.RowKit

theorem ex_minus : minusL 0 10 3 5 = [(0, 3), (5, 10)] := by decide
theorem ex_cut : spanCut 0 10 [5, 0, 5, 12] = [(0, 5), (5, 10)] := by
  have h : sortI [5, 0, 5] = [0, 5, 5] := by simp [sortI, List.mergeSort, List.MergeSort.Internal.splitInTwo]
  have e : ([5, 0, 5, 12] : List Int).filter (hasB 0 10) = [5, 0, 5] := by decide
  rw [spanCut, e, h]
  decide

/-- A list that is built on the spot. -/
theorem spans_two {w : World} {a b c d : Int} (t : TypeId) : Spans (w.alloc (.cells #[.int .i64 a, .int .i64 b, .int .i64 c, .int .i64 d] t)) (some ⟨w.heap.size, 0, none⟩) [(a, b), (c, d)] := fun i p hp => by
  refine ⟨_, _, rfl, ?_⟩
  rcases i with _ | _ | i
  · obtain rfl : (a, b) = p := by simpa using hp
    exact ⟨by simp [go_sem], by simp [go_sem]⟩
  · obtain rfl : (c, d) = p := by simpa using hp
    exact ⟨by simp [go_sem], by simp [go_sem]⟩
  · simp at hp

theorem ints_four {w : World} {a b c d : Int} (t : TypeId) : Ints (w.alloc (.cells #[.int .i64 a, .int .i64 b, .int .i64 c, .int .i64 d] t)) (some ⟨w.heap.size, 0, none⟩) [a, b, c, d] := fun i p hp => by
  refine ⟨_, _, rfl, ?_⟩
  rcases i with _ | _ | _ | _ | i
  · obtain rfl : a = p := by simpa using hp
    simp [go_sem]
  · obtain rfl : b = p := by simpa using hp
    simp [go_sem]
  · obtain rfl : c = p := by simpa using hp
    simp [go_sem]
  · obtain rfl : d = p := by simpa using hp
    simp [go_sem]
  · simp at hp

set_option maxHeartbeats 1000000 in
theorem alive_any (w : World) : Calls Try.prog 17 #[] w fun e w' => e = .returned (.bool true) ∧ Below w.heap.size w w' := by
  go_enter Try.func17, Try.ntmps17
  go_wp2_with fail
  (go_at_call 21; refine (minus_any 0 10 3 5 w).mono ?_; rintro e w1 ⟨A, c, rfl, hs, hb⟩)
  rw [ex_minus] at hs ⊢
  have HS := Lib.hid hs
  clear hs
  go_wp2_with fail
  refine (same_any _ A _ c 2 [(0, 3), (5, 10)] [(0, 3), (5, 10)] (HS.out.below ((Below.refl _ _).alloc (Nat.le_refl _) _)) (spans_two _) (by simp)).mono ?_
  rintro e w2 ⟨rfl, hb2⟩
  have hs1 := hb.size
  have hs2 := hb2.size
  simp at hs2
  go_wp2_with fail
  (go_at_call 25; refine (cut_any 0 10 _ 4 [5, 0, 5, 12] _ (ints_four _) (by simp)).mono ?_; rintro e w3 ⟨A', c', rfl, hs', hb3⟩)
  rw [ex_cut] at hs' ⊢
  have HS' := Lib.hid hs'
  clear hs'
  have hs3 := hb3.size
  simp at hs3
  go_wp2_with fail
  refine (same_any _ A' _ c' 2 [(0, 5), (5, 10)] [(0, 5), (5, 10)] (HS'.out.below ((Below.refl _ _).alloc (Nat.le_refl _) _)) (spans_two _) (by simp)).mono ?_
  rintro e w4 ⟨rfl, hb4⟩
  go_wp2_with fail
  go_ret
  exact ⟨rfl, (((((hb.alloc hs1 _).trans (hb2.mono (by simp; omega))).alloc (by omega) _).trans (hb3.mono (by simp; omega))).alloc (by omega) _).trans (hb4.mono (by simp; omega))⟩

end Go.Proofs.Ytaobmlkbhdonkaa
