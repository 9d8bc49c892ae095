/-
  CoverTells gives back true for any spans and any time: Has and Long of cover are as the document says.
-/
import Derived.Test.YtmfkcbanjlmmhaaCmakes
namespace Go.Proofs.Ytmfkcbanjlmmhaa
open Go.RowKit

set_option maxHeartbeats 4000000 in
theorem tells_walk (A : Option Addr) (c : Nat) (l : List Sp) (x : Int) (w : World) (hl : Spans w A l) (hA : A = none → c = 0) :
    Calls Try.prog 5 #[.slice A l.length c, .int .i64 x] w (Yes w) := by
  by_cases hn : 120 < l.length
  · go_enter Try.func5, Try.ntmps5
    go_wp2_with (go_at_call 9; refine (alive_any _).mono ?_; rintro e w1 ⟨rfl, hb1⟩)
    go_ret
    exact ⟨rfl, hb1⟩
  · have hn' : l.length ≤ 120 := by omega
    have HL := Lib.hid hl
    clear hl
    obtain ⟨kp, hkp⟩ : ∃ kp, memB l x = kp := ⟨_, rfl⟩
    have K1 : ∀ W, Spans W A l → Calls Try.prog 19 #[.slice A l.length c, .int .i64 x] W fun e w' => e = .returned (.bool kp) ∧ Below W.heap.size W w' := fun W h => by rw [← hkp]; exact hasl_any W A c l x h (by omega)
    have K2 : ∀ W, Spans W A l → Calls Try.prog 20 #[.slice A l.length c, .int .i64 x] W fun e w' => e = .returned (.bool kp) ∧ Below W.heap.size W w' := fun W h => by rw [← hkp]; exact dhasl_any W A c l x h (by omega)
    clear hkp
    have e0 : (kp == kp) = true := by simp
    go_enter Try.func5, Try.ntmps5
    go_wp2_with fail
    (go_at_call 19; refine (K1 _ HL.out).mono ?_; rintro e w1 ⟨rfl, hb1⟩)
    have B1 := Lib.hid hb1
    clear hb1
    go_wp2_with fail
    (go_at_call 20; refine (K2 _ (HL.out.below B1.out)).mono ?_; rintro e w2 ⟨rfl, hb2⟩)
    have B2 := Lib.hid (chain B1.out hb2)
    clear hb2 K1 K2
    go_wp2_with fail
    (go_at_call 21; refine (longl_any _ _ _ l (HL.out.below B2.out) (by omega)).mono ?_; rintro e w3 ⟨m, hc1, rfl, hb3⟩)
    have B3 := Lib.hid (chain B2.out hb3)
    clear hb3
    go_wp2_with fail
    (go_at_call 22; refine (dlongl_any _ _ _ l (HL.out.below B3.out) hA (by omega)).mono ?_; rintro e w4 ⟨m2, hc2, rfl, hb4⟩)
    obtain rfl : m2 = m := hc2.eq hc1 fun _ => Iff.rfl
    have B4 := Lib.hid (chain B3.out hb4)
    clear hb4 hc1 hc2
    obtain ⟨z, hz⟩ : ∃ z, lens m2 = z := ⟨_, rfl⟩
    rw [hz]
    clear hz
    have e1 : (z == z) = true := by simp
    go_wp2_with (go_at_call 9; refine (alive_any _).mono ?_; rintro e w10 ⟨rfl, hb9⟩)
    go_ret
    exact ⟨rfl, chain B4.out hb9⟩

end Go.Proofs.Ytmfkcbanjlmmhaa
