/-
  CoverMakes gives back true for any spans: Make and Kept of cover are as the document says, and a cover stays as it is.
-/
import Derived.Test.YtmfkcbanjlmmhaaCop
namespace Go.Proofs.Ytmfkcbanjlmmhaa
open Go.RowKit

/-- The law gives back true, and turns nothing that was there. -/
def Yes (w : World) (e : Ending) (w' : World) : Prop := e = .returned (.bool true) ∧ Below w.heap.size w w'

theorem same_same (w : World) (A B : Option Addr) (c d : Nat) (l : List Sp) (hl : Spans w A l) (hm : Spans w B l) (hn : l.length ≤ 9223372036854775807) :
    Calls Try.prog 11 #[.slice A l.length c, .slice B l.length d] w fun e w' => e = .returned (.bool true) ∧ Below w.heap.size w w' := by
  refine (same_any w A B c d l l hl hm hn).mono ?_
  rintro e w' ⟨rfl, hb⟩
  exact ⟨by simp, hb⟩

set_option maxHeartbeats 4000000 in
theorem makes_walk (A : Option Addr) (c : Nat) (l : List Sp) (w : World) (hl : Spans w A l) (hA : A = none → c = 0) :
    Calls Try.prog 3 #[.slice A l.length c] w (Yes w) := by
  by_cases hn : 120 < l.length
  · go_enter Try.func3, Try.ntmps3
    go_wp2_with (go_at_call 9; refine (alive_any _).mono ?_; rintro e w1 ⟨rfl, hb1⟩)
    go_ret
    exact ⟨rfl, hb1⟩
  · have hn' : l.length ≤ 120 := by omega
    have HL := Lib.hid hl
    clear hl
    go_enter Try.func3, Try.ntmps3
    go_wp2_with fail
    (go_at_call 10; refine (make_any _ _ _ l HL.out (by omega)).mono ?_; rintro e w1 ⟨A1, c1, m, rfl, hs1, hc1, hm1, hb1⟩)
    have B1 := Lib.hid hb1
    have S1 := Lib.hid hs1
    clear hb1 hs1
    go_wp2_with fail
    (go_at_call 12; refine (dmake_any _ _ _ l (HL.out.below B1.out) hA (by omega)).mono ?_; rintro e w2 ⟨A2, c2, m2, rfl, hs2, hc2, _, hb2⟩)
    obtain rfl : m2 = m := hc2.eq hc1 fun _ => Iff.rfl
    clear hc2
    have B2 := Lib.hid (chain B1.out hb2)
    have S12 := Lib.hid (S1.out.below hb2)
    have S2 := Lib.hid hs2
    clear hb2 hs2
    go_wp2_with fail
    (go_at_call 11; refine (same_same _ A1 A2 c1 c2 m2 S12.out S2.out (by omega)).mono ?_; rintro e w3 ⟨rfl, hb3⟩)
    have B3 := Lib.hid (chain B2.out hb3)
    have S13 := Lib.hid (S12.out.below hb3)
    clear hb3
    obtain ⟨kp, hkp⟩ : ∃ kp, decide (Cov l) = kp := ⟨_, rfl⟩
    have K1 : ∀ W, Spans W A l → Calls Try.prog 13 #[.slice A l.length c] W fun e w' => e = .returned (.bool kp) ∧ Below W.heap.size W w' := fun W h => by rw [← hkp]; exact kept_any W A c l h (by omega)
    have K2 : ∀ W, Spans W A l → Calls Try.prog 14 #[.slice A l.length c] W fun e w' => e = .returned (.bool kp) ∧ Below W.heap.size W w' := fun W h => by rw [← hkp]; exact dkept_any W A c l h (by omega)
    have K3 : ∀ W, Spans W A1 m2 → Calls Try.prog 13 #[.slice A1 m2.length c1] W fun e w' => e = .returned (.bool true) ∧ Below W.heap.size W w' := fun W h => by
      rw [show true = decide (Cov m2) from (decide_eq_true hc1.1).symm]; exact kept_any W A1 c1 m2 h (by omega)
    clear hkp
    have e0 : (kp == kp) = true := by simp
    go_wp2_with fail
    (go_at_call 13; refine (K1 _ (HL.out.below B3.out)).mono ?_; rintro e w4 ⟨rfl, hb4⟩)
    have B4 := Lib.hid (chain B3.out hb4)
    have S14 := Lib.hid (S13.out.below hb4)
    clear hb4
    go_wp2_with fail
    (go_at_call 14; refine (K2 _ (HL.out.below B4.out)).mono ?_; rintro e w5 ⟨rfl, hb5⟩)
    have B5 := Lib.hid (chain B4.out hb5)
    have S15 := Lib.hid (S14.out.below hb5)
    clear hb5
    go_wp2_with fail
    (go_at_call 13; refine (K3 _ S15.out).mono ?_; rintro e w6 ⟨rfl, hb6⟩)
    have B6 := Lib.hid (chain B5.out hb6)
    have S16 := Lib.hid (S15.out.below hb6)
    clear hb6
    go_wp2_with fail
    (go_at_call 10; refine (make_any _ _ _ m2 S16.out (by omega)).mono ?_; rintro e w7 ⟨A3, c3, m3, rfl, hs3, hc3, _, hb7⟩)
    obtain rfl : m3 = m2 := cov_ext _ _ hc3.1 hc1.1 hc3.2
    have B7 := Lib.hid (chain B6.out hb7)
    have S17 := Lib.hid (S16.out.below hb7)
    have S3 := Lib.hid hs3
    clear hb7 hs3
    go_wp2_with fail
    (go_at_call 11; refine (same_same _ A3 A1 c3 c1 m3 S3.out S17.out (by omega)).mono ?_; rintro e w8 ⟨rfl, hb8⟩)
    have B8 := Lib.hid (chain B7.out hb8)
    clear hb8
    go_wp2_with (go_at_call 9; refine (alive_any _).mono ?_; rintro e w9 ⟨rfl, hb9⟩)
    go_ret
    exact ⟨rfl, chain B8.out hb9⟩

end Go.Proofs.Ytmfkcbanjlmmhaa
