/-
  SpanCuts is true for any span and any times: Cut of span is as the document says.
-/
import Derived.Test.YtaobmlkbhdonkaaCutEq
namespace Go.Proofs.Ytaobmlkbhdonkaa
open Go.RowKit

theorem dcut_same (a b : Int) (A : Option Addr) (c : Nat) (zs : List Int) (w : World) (hz : Ints w A zs) (hn : zs.length ≤ 900) :
    Calls Try.prog 26 #[sp a b, .slice A zs.length c] w (ListPost (spanCut a b zs) w) := by
  rw [← cut_eq]
  exact dcut_any a b A c zs w hz hn
theorem spanCut_length (a b : Int) (zs : List Int) : (spanCut a b zs).length ≤ zs.length + 1 := by
  unfold spanCut
  split
  · unfold cutL
    have h1 := kept_length (cutSt a (sortI (zs.filter (hasB a b)))).1 (cutSt a (sortI (zs.filter (hasB a b)))).2 b
    have h2 := cutSt_length a (sortI (zs.filter (hasB a b)))
    rw [sortI_length] at h2
    have h3 := List.length_filter_le (hasB a b) zs
    omega
  · simp

set_option maxHeartbeats 4000000 in
theorem cuts_walk (a b : Int) (A : Option Addr) (c : Nat) (zs : List Int) (w : World) (hz : Ints w A zs) :
    Calls Try.prog 7 #[sp a b, .slice A zs.length c] w fun e w' => e = .returned (.bool true) ∧ Below w.heap.size w w' := by
  by_cases hn : 300 < zs.length
  · go_enter Try.func7, Try.ntmps7
    go_wp2_with (go_at_call 17; refine (alive_any _).mono ?_; rintro e w1 ⟨rfl, hb1⟩)
    go_ret
    exact ⟨rfl, ((Below.refl _ _).alloc (Nat.le_refl _) _).trans (hb1.mono (by simp))⟩
  · have HZ := Lib.hid hz
    clear hz
    have hlen := spanCut_length a b zs
    obtain ⟨W, hW⟩ : ∃ W, w.alloc (.cells #[.int .i64 a, .int .i64 b] 23) = W := ⟨_, rfl⟩
    have hw : Below w.heap.size w W := by rw [← hW]; exact (Below.refl _ _).alloc (Nat.le_refl _) _
    have ca0 : W.cell? ⟨w.heap.size, 0, none⟩ = some (.int .i64 a) := by rw [← hW]; simp [go_sem]
    have ca1 : W.cell? ⟨w.heap.size, 1, none⟩ = some (.int .i64 b) := by rw [← hW]; simp [go_sem]
    have mk : ∀ w', Below W.heap.size W w' → (Below W.heap.size W w' ∧ w'.cell? ⟨w.heap.size, 0, none⟩ = some (.int .i64 a) ∧ w'.cell? ⟨w.heap.size, 1, none⟩ = some (.int .i64 b)) := fun w' h => ⟨h, keepe h ca0, keepe h ca1⟩
    have MK := Lib.hid mk
    have HW := Lib.hid hW
    have HZW := Lib.hid (HZ.out.below hw)
    clear mk hW ca0 ca1
    go_enter Try.func7, Try.ntmps7
    go_wp2_with fail
    rw [HW.out]
    go_region_held3 (fun w' => Below W.heap.size W w' ∧ w'.cell? ⟨w.heap.size, 0, none⟩ = some (.int .i64 a) ∧ w'.cell? ⟨w.heap.size, 1, none⟩ = some (.int .i64 b))
      (first | exact MK.out _ ((Below.refl _ _).drew) | (go_split_ands; exact MK.out _ (chain (by assumption) hb3)))
      (first
        | (go_at_call 25; refine (cut_any _ _ _ _ _ _ (HZW.out.below (by go_split_ands; assumption)) (by omega)).mono ?_; rintro e w3 ⟨B1, c1, rfl, hsp, hb3⟩; have HSA := Lib.hid hsp; clear hsp)
        | (go_at_call 26; refine (dcut_same _ _ _ _ _ _ (HZW.out.below (by go_split_ands; assumption)) (by omega)).mono ?_; rintro e w4 ⟨B2, c2, rfl, hsp, hb3⟩; have HSB := Lib.hid hsp; clear hsp; have HSC := Lib.hid (HSA.out.below hb3))
        | (go_at_call 20; refine (same_any _ B1 B2 c1 c2 (spanCut a b zs) (spanCut a b zs) HSC.out HSB.out (by omega)).mono ?_; rintro e w5 ⟨rfl, hb3⟩)
        | (go_at_call 17; refine (alive_any _).mono ?_; rintro e w6 ⟨rfl, hb3⟩))
    have hfin : Below W.heap.size W w6 := by go_split_ands; assumption
    go_wp2_with fail
    go_ret
    exact ⟨rfl, chain hw hfin⟩

end Go.Proofs.Ytaobmlkbhdonkaa
