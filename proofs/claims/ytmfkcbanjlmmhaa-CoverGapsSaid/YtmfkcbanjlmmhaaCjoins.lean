/-
  CoverJoins gives back true for any two lists: Or, And and Less of cover are as the document says.
-/
import Derived.Test.YtmfkcbanjlmmhaaCmakes
namespace Go.Proofs.Ytmfkcbanjlmmhaa
open Go.RowKit

theorem kind_or (a b : List Sp) (x : Int) : KindP 0 a b x ↔ PickP (fun x y => x || y) a b x := by simp [KindP, kindB, PickP]
theorem kind_and (a b : List Sp) (x : Int) : KindP 1 a b x ↔ PickP (fun x y => x && y) a b x := by simp [KindP, kindB, PickP]
theorem kind_less (a b : List Sp) (x : Int) : KindP 2 a b x ↔ PickP (fun x y => x && !y) a b x := by simp [KindP, kindB, PickP]

set_option maxHeartbeats 4000000 in
theorem joins_walk (A : Option Addr) (c : Nat) (a : List Sp) (B : Option Addr) (d : Nat) (b : List Sp) (w : World) (ha : Spans w A a) (hb : Spans w B b) (hA : A = none → c = 0) (hB : B = none → d = 0) :
    Calls Try.prog 4 #[.slice A a.length c, .slice B b.length d] w (Yes w) := by
  by_cases hn : 60 < a.length
  · go_enter Try.func4, Try.ntmps4
    go_wp2_with (go_at_call 9; refine (alive_any _).mono ?_; rintro e w1 ⟨rfl, hb1⟩)
    go_ret
    exact ⟨rfl, hb1⟩
  by_cases hn2 : 60 < b.length
  · have hn3 : a.length ≤ 60 := by omega
    go_enter Try.func4, Try.ntmps4
    go_wp2_with (go_at_call 9; refine (alive_any _).mono ?_; rintro e w1 ⟨rfl, hb1⟩)
    go_ret
    exact ⟨rfl, hb1⟩
  have hn3 : a.length ≤ 60 := by omega
  have hn4 : b.length ≤ 60 := by omega
  have HL := Lib.hid ha
  have HM := Lib.hid hb
  clear ha hb
  go_enter Try.func4, Try.ntmps4
  go_wp2_with fail
  (go_at_call 15; refine (or_any _ _ _ _ _ a b HL.out HM.out (by omega)).mono ?_; rintro e w1 ⟨A1, c1, m, rfl, hs1, hc1, hm1, hb1⟩)
  have B1 := Lib.hid hb1
  have S1 := Lib.hid hs1
  clear hb1 hs1
  go_wp2_with fail
  (go_at_call 16; refine (of_any _ _ _ _ _ a b 0 (.inl rfl) (HL.out.below B1.out) (HM.out.below B1.out) hA hB (by omega)).mono ?_; rintro e w2 ⟨A2, c2, m2, rfl, hs2, hc2, _, hb2⟩)
  obtain rfl : m2 = m := hc2.eq hc1 fun x => kind_or a b x
  have B2 := Lib.hid (chain B1.out hb2)
  have S12 := Lib.hid (S1.out.below hb2)
  have S2 := Lib.hid hs2
  clear hb2 hs2 hc1 hc2
  go_wp2_with fail
  (go_at_call 11; refine (same_same _ A1 A2 c1 c2 m2 S12.out S2.out (by omega)).mono ?_; rintro e w3 ⟨rfl, hb3⟩)
  have B3 := Lib.hid (chain B2.out hb3)
  clear hb3 S1 S12 S2
  go_wp2_with fail
  (go_at_call 17; refine (and_any _ _ _ _ _ a b (HL.out.below B3.out) (HM.out.below B3.out) (by omega)).mono ?_; rintro e w4 ⟨A3, c3, m3, rfl, hs1, hc1, hm3, hb1⟩)
  have B4 := Lib.hid (chain B3.out hb1)
  have S1 := Lib.hid hs1
  clear hb1 hs1
  go_wp2_with fail
  (go_at_call 16; refine (of_any _ _ _ _ _ a b 1 (.inr (.inl rfl)) (HL.out.below B4.out) (HM.out.below B4.out) hA hB (by omega)).mono ?_; rintro e w5 ⟨A4, c4, m4, rfl, hs2, hc2, _, hb2⟩)
  obtain rfl : m4 = m3 := hc2.eq hc1 fun x => kind_and a b x
  have B5 := Lib.hid (chain B4.out hb2)
  have S12 := Lib.hid (S1.out.below hb2)
  have S2 := Lib.hid hs2
  clear hb2 hs2 hc1 hc2
  go_wp2_with fail
  (go_at_call 11; refine (same_same _ A3 A4 c3 c4 m4 S12.out S2.out (by omega)).mono ?_; rintro e w6 ⟨rfl, hb3⟩)
  have B6 := Lib.hid (chain B5.out hb3)
  clear hb3 S1 S12 S2
  go_wp2_with fail
  (go_at_call 18; refine (less_any _ _ _ _ _ a b (HL.out.below B6.out) (HM.out.below B6.out) (by omega)).mono ?_; rintro e w7 ⟨A5, c5, m5, rfl, hs1, hc1, hm5, hb1⟩)
  have B7 := Lib.hid (chain B6.out hb1)
  have S1 := Lib.hid hs1
  clear hb1 hs1
  go_wp2_with fail
  (go_at_call 16; refine (of_any _ _ _ _ _ a b 2 (.inr (.inr rfl)) (HL.out.below B7.out) (HM.out.below B7.out) hA hB (by omega)).mono ?_; rintro e w8 ⟨A6, c6, m6, rfl, hs2, hc2, _, hb2⟩)
  obtain rfl : m6 = m5 := hc2.eq hc1 fun x => kind_less a b x
  have B8 := Lib.hid (chain B7.out hb2)
  have S12 := Lib.hid (S1.out.below hb2)
  have S2 := Lib.hid hs2
  clear hb2 hs2 hc1 hc2
  go_wp2_with fail
  (go_at_call 11; refine (same_same _ A5 A6 c5 c6 m6 S12.out S2.out (by omega)).mono ?_; rintro e w9 ⟨rfl, hb3⟩)
  have B9 := Lib.hid (chain B8.out hb3)
  clear hb3 S1 S12 S2
  go_wp2_with (go_at_call 9; refine (alive_any _).mono ?_; rintro e w10 ⟨rfl, hb9⟩)
  go_ret
  exact ⟨rfl, chain B9.out hb9⟩

end Go.Proofs.Ytmfkcbanjlmmhaa
