/-
  SpanMeets is true for any two spans: Meet and Minus of span are as the document says.
-/
import Derived.Test.YtaobmlkbhdonkaaFrame
namespace Go.Proofs.Ytaobmlkbhdonkaa
open Go.RowKit

theorem minusL_length (a b c d : Int) : (minusL a b c d).length ≤ 9223372036854775807 := by
  unfold minusL
  split
  · split
    · have h1 := kept_length [] a (max a c)
      have h2 := kept_length (kept [] a (max a c)) (min b d) b
      simp at h1
      omega
    · simp
  · simp

set_option maxHeartbeats 4000000 in
theorem meets_walk (a b c d : Int) (w : World) :
    Calls Try.prog 4 #[sp a b, sp c d] w fun e w' => e = .returned (.bool true) ∧ Below w.heap.size w w' := by
  go_enter Try.func4, Try.ntmps4
  go_wp2_with fail
  (go_at_call 18; refine (meet_any _ _ _ _ _).mono ?_; rintro e w1 ⟨rfl, hb⟩)
  have hs1 : w.heap.size + 1 < w1.heap.size := by have := hb.size; simp at this; omega
  have hz0 : w.heap.size < w1.heap.size := by omega
  have ca0 : w1.cell? ⟨w.heap.size, 0, none⟩ = some (.int .i64 a) := (hb.cell (p := ⟨w.heap.size, 0, none⟩) (by simp; omega)).trans (by simp [go_sem])
  have ca1 : w1.cell? ⟨w.heap.size, 1, none⟩ = some (.int .i64 b) := (hb.cell (p := ⟨w.heap.size, 1, none⟩) (by simp; omega)).trans (by simp [go_sem])
  have cb0 : w1.cell? ⟨w.heap.size + 1, 0, none⟩ = some (.int .i64 c) := (hb.cell (p := ⟨w.heap.size + 1, 0, none⟩) (by simp)).trans (by simp [go_sem])
  have cb1 : w1.cell? ⟨w.heap.size + 1, 1, none⟩ = some (.int .i64 d) := (hb.cell (p := ⟨w.heap.size + 1, 1, none⟩) (by simp)).trans (by simp [go_sem])
  have hw1 : Below w.heap.size w w1 := (((Below.refl _ _).alloc (Nat.le_refl _) _).alloc (by simp) _).trans (hb.mono (by simp; omega))
  go_wp2_with fail
  (go_at_call 19; refine (dmeet_any _ _ _ _ _).mono ?_; rintro e w2 ⟨rfl, hb2⟩)
  have hs2 : w1.heap.size < w2.heap.size := by have := hb2.size; simp at this; omega
  obtain ⟨W, hW⟩ : ∃ W, w2.alloc (.cells #[.int .i64 (meetF a b c d), .int .i64 (meetT a b c d)] 23) = W := ⟨_, rfl⟩
  have hWs : W.heap.size = w2.heap.size + 1 := by rw [← hW]; simp
  have h2W : Below w2.heap.size w2 W := by rw [← hW]; exact (Below.refl _ _).alloc (Nat.le_refl _) _
  have hw : Below w.heap.size w W := (hw1.alloc (by omega) _).trans ((hb2.mono (by simp; omega)).trans (h2W.mono (by omega)))
  have ry0 : W.cell? ⟨w2.heap.size, 0, none⟩ = some (.int .i64 (meetF a b c d)) := by rw [← hW]; simp [go_sem]
  have ry1 : W.cell? ⟨w2.heap.size, 1, none⟩ = some (.int .i64 (meetT a b c d)) := by rw [← hW]; simp [go_sem]
  have mk : ∀ w', Below W.heap.size W w' → (Below W.heap.size W w' ∧ w'.cell? ⟨w.heap.size, 0, none⟩ = some (.int .i64 a) ∧ w'.cell? ⟨w.heap.size, 1, none⟩ = some (.int .i64 b) ∧ w'.cell? ⟨w.heap.size + 1, 0, none⟩ = some (.int .i64 c) ∧ w'.cell? ⟨w.heap.size + 1, 1, none⟩ = some (.int .i64 d) ∧ w'.cell? ⟨w1.heap.size, 0, none⟩ = some (.int .i64 (meetF a b c d)) ∧ w'.cell? ⟨w1.heap.size, 1, none⟩ = some (.int .i64 (meetT a b c d)) ∧ w'.cell? ⟨w2.heap.size, 0, none⟩ = some (.int .i64 (meetF a b c d)) ∧ w'.cell? ⟨w2.heap.size, 1, none⟩ = some (.int .i64 (meetT a b c d))) := fun w' h => by
    have k : ∀ g o, g < w1.heap.size + 1 → w'.cell? ⟨g, o, none⟩ = (w1.alloc (.cells #[.int .i64 (meetF a b c d), .int .i64 (meetT a b c d)] 23)).cell? ⟨g, o, none⟩ := fun g o hg => (h.cell (p := ⟨g, o, none⟩) (by simp; omega)).trans ((h2W.cell (p := ⟨g, o, none⟩) (by simp; omega)).trans (hb2.cell (p := ⟨g, o, none⟩) (by simp; omega)))
    have k1 : ∀ g o, g < w1.heap.size → w'.cell? ⟨g, o, none⟩ = w1.cell? ⟨g, o, none⟩ := fun g o hg => (k g o (by omega)).trans (World.cell?_alloc_lt _ _ _ hg)
    exact ⟨h, (k1 _ _ hz0).trans ca0, (k1 _ _ hz0).trans ca1, (k1 _ _ hs1).trans cb0, (k1 _ _ hs1).trans cb1, (k _ _ (by omega)).trans (by simp [go_sem]), (k _ _ (by omega)).trans (by simp [go_sem]), (h.cell (p := ⟨w2.heap.size, 0, none⟩) (by simp; omega)).trans ry0, (h.cell (p := ⟨w2.heap.size, 1, none⟩) (by simp; omega)).trans ry1⟩
  have MK := Lib.hid mk
  have HW := Lib.hid hW
  have hlen := minusL_length a b c d
  clear mk hW ry0 ry1 ca0 ca1 cb0 cb1 hWs
  go_wp2_with fail
  rw [HW.out]
  go_region_held3 (fun w' => Below W.heap.size W w' ∧ w'.cell? ⟨w.heap.size, 0, none⟩ = some (.int .i64 a) ∧ w'.cell? ⟨w.heap.size, 1, none⟩ = some (.int .i64 b) ∧ w'.cell? ⟨w.heap.size + 1, 0, none⟩ = some (.int .i64 c) ∧ w'.cell? ⟨w.heap.size + 1, 1, none⟩ = some (.int .i64 d) ∧ w'.cell? ⟨w1.heap.size, 0, none⟩ = some (.int .i64 (meetF a b c d)) ∧ w'.cell? ⟨w1.heap.size, 1, none⟩ = some (.int .i64 (meetT a b c d)) ∧ w'.cell? ⟨w2.heap.size, 0, none⟩ = some (.int .i64 (meetF a b c d)) ∧ w'.cell? ⟨w2.heap.size, 1, none⟩ = some (.int .i64 (meetT a b c d)))
    (first | exact MK.out _ ((Below.refl _ _).drew) | (go_split_ands; exact MK.out _ (chain (by assumption) hb3)))
    (first
      | (go_at_call 21; refine (minus_any _ _ _ _ _).mono ?_; rintro e w3 ⟨A, cA, rfl, hsp, hb3⟩; have HSA := Lib.hid hsp; clear hsp)
      | (go_at_call 22; refine (dminus_any _ _ _ _ _).mono ?_; rintro e w4 ⟨B, cB, rfl, hsp, hb3⟩; have HSB := Lib.hid hsp; clear hsp; have HSC := Lib.hid (HSA.out.below hb3))
      | (go_at_call 20; refine (same_any _ A B cA cB (minusL a b c d) (minusL a b c d) HSC.out HSB.out hlen).mono ?_; rintro e w5 ⟨rfl, hb3⟩)
      | (go_at_call 17; refine (alive_any _).mono ?_; rintro e w6 ⟨rfl, hb3⟩))
  have hfin : Below W.heap.size W w6 := by go_split_ands; assumption
  go_wp2_with fail
  go_ret
  exact ⟨rfl, chain hw hfin⟩

end Go.Proofs.Ytaobmlkbhdonkaa
