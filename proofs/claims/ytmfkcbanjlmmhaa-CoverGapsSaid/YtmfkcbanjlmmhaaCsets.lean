/-
  CoverSets gives back true for any two lists and any time: what one list has alone, what both have, and what the other one has alone are together what one of them has.
-/
import Derived.Test.YtmfkcbanjlmmhaaCjoins
namespace Go.Proofs.Ytmfkcbanjlmmhaa
open Go.RowKit

theorem pick_mem {f : Bool → Bool → Bool} {m a b : List Sp} (h : CovOf m (PickP f a b)) (x : Int) : memB m x = f (memB a x) (memB b x) := by
  rw [Bool.eq_iff_iff, memB_iff, h.2 x, PickP]
/-- How long the four are. -/
theorem sets_long {m1 m2 m3 m4 a b : List Sp} (h1 : CovOf m1 (PickP (fun x y => x && !y) a b)) (h2 : CovOf m2 (PickP (fun x y => x && y) a b)) (h3 : CovOf m3 (PickP (fun x y => x && !y) b a)) (h4 : CovOf m4 (PickP (fun x y => x || y) a b)) : lens m1 + lens m2 + lens m3 = lens m4 := by
  rw [lens_cnt h1.1, lens_cnt h2.1, lens_cnt h3.1, lens_cnt h4.1]
  refine cnt_add (fun x => ?_) _ _
  rw [pick_mem h1, pick_mem h2, pick_mem h3, pick_mem h4]
  cases memB a x <;> cases memB b x <;> rfl
theorem sets_whole {m1 m2 m3 m4 m5 m6 a b : List Sp} (h1 : CovOf m1 (PickP (fun x y => x && !y) a b)) (h2 : CovOf m2 (PickP (fun x y => x && y) a b)) (h3 : CovOf m3 (PickP (fun x y => x && !y) b a)) (h4 : CovOf m4 (PickP (fun x y => x || y) a b))
    (h5 : CovOf m5 (PickP (fun x y => x || y) m1 m2)) (h6 : CovOf m6 (PickP (fun x y => x || y) m5 m3)) : m6 = m4 := by
  refine h6.eq h4 fun x => ?_
  simp only [PickP, pick_mem h5, pick_mem h1, pick_mem h2, pick_mem h3]
  cases memB a x <;> cases memB b x <;> simp
theorem hasl_is {A : Option Addr} {c : Nat} {l : List Sp} {x : Int} {r : Bool} (hr : memB l x = r) (hn : l.length ≤ 1000000) (W : World) (h : Spans W A l) : Calls Try.prog 19 #[.slice A l.length c, .int .i64 x] W fun e w' => e = .returned (.bool r) ∧ Below W.heap.size W w' := by
  rw [← hr]; exact hasl_any W A c l x h (by omega)
theorem longl_is {A : Option Addr} {c : Nat} {l : List Sp} {r : Int} (hc : Cov l) (hr : lens l = r) (hn : l.length ≤ 1000000) (W : World) (h : Spans W A l) : Calls Try.prog 21 #[.slice A l.length c] W fun e w' => e = .returned (.int .i64 r) ∧ Below W.heap.size W w' := by
  refine (longl_any W A c l h hn).mono ?_
  rintro e w' ⟨m, hm, rfl, hb⟩
  obtain rfl : m = l := cov_ext _ _ hm.1 hc hm.2
  exact ⟨by rw [hr], hb⟩

set_option maxRecDepth 10000 in
set_option maxHeartbeats 8000000 in
theorem sets_walk (A : Option Addr) (c : Nat) (a : List Sp) (B : Option Addr) (d : Nat) (b : List Sp) (x : Int) (w : World) (ha : Spans w A a) (hb : Spans w B b) :
    Calls Try.prog 6 #[.slice A a.length c, .slice B b.length d, .int .i64 x] w (Yes w) := by
  by_cases hn : 120 < a.length
  · go_enter Try.func6, Try.ntmps6
    go_wp2_with (go_at_call 9; refine (alive_any _).mono ?_; rintro e w1 ⟨rfl, hb1⟩)
    go_ret
    exact ⟨rfl, hb1⟩
  by_cases hn2 : 120 < b.length
  · have hn3 : a.length ≤ 120 := by omega
    go_enter Try.func6, Try.ntmps6
    go_wp2_with (go_at_call 9; refine (alive_any _).mono ?_; rintro e w1 ⟨rfl, hb1⟩)
    go_ret
    exact ⟨rfl, hb1⟩
  have hn3 : a.length ≤ 120 := by omega
  have hn4 : b.length ≤ 120 := by omega
  have HL := Lib.hid ha
  have HM := Lib.hid hb
  clear ha hb
  go_enter Try.func6, Try.ntmps6
  go_wp2_with fail
  (go_at_call 18; refine (less_any _ _ _ _ _ a b HL.out HM.out (by omega)).mono ?_; rintro e w1 ⟨A1, c1, m1, rfl, hs1, hc1, hm1, hb1⟩)
  have B1 := Lib.hid hb1
  have S1 := Lib.hid hs1
  clear hb1 hs1
  go_wp2_with fail
  (go_at_call 17; refine (and_any _ _ _ _ _ a b (HL.out.below B1.out) (HM.out.below B1.out) (by omega)).mono ?_; rintro e w2 ⟨A2, c2, m2, rfl, hs2, hc2, hm2, hb2⟩)
  have B2 := Lib.hid (chain B1.out hb2)
  have S12 := Lib.hid (S1.out.below hb2)
  have S2 := Lib.hid hs2
  clear hb2 hs2
  go_wp2_with fail
  (go_at_call 18; refine (less_any _ _ _ _ _ b a (HM.out.below B2.out) (HL.out.below B2.out) (by omega)).mono ?_; rintro e w3 ⟨A3, c3, m3, rfl, hs3, hc3, hm3, hb3⟩)
  have B3 := Lib.hid (chain B2.out hb3)
  have S13 := Lib.hid (S12.out.below hb3)
  have S23 := Lib.hid (S2.out.below hb3)
  have S3 := Lib.hid hs3
  clear hb3 hs3
  go_wp2_with fail
  (go_at_call 15; refine (or_any _ _ _ _ _ a b (HL.out.below B3.out) (HM.out.below B3.out) (by omega)).mono ?_; rintro e w4 ⟨A4, c4, m4, rfl, hs4, hc4, hm4, hb4⟩)
  have B4 := Lib.hid (chain B3.out hb4)
  have S14 := Lib.hid (S13.out.below hb4)
  have S24 := Lib.hid (S23.out.below hb4)
  have S34 := Lib.hid (S3.out.below hb4)
  have S4 := Lib.hid hs4
  clear hb4 hs4 S1 S12 S13 S2 S23 S3
  have q1 := pick_mem hc1 x
  have q2 := pick_mem hc2 x
  have q3 := pick_mem hc3 x
  have q4 := pick_mem hc4 x
  have hsum := sets_long hc1 hc2 hc3 hc4
  have r1 := lens_nonneg hc1.1
  have r2 := lens_nonneg hc2.1
  have r3 := lens_nonneg hc3.1
  obtain ⟨l1, hl1⟩ : ∃ l, lens m1 = l := ⟨_, rfl⟩
  obtain ⟨l2, hl2⟩ : ∃ l, lens m2 = l := ⟨_, rfl⟩
  obtain ⟨l3, hl3⟩ : ∃ l, lens m3 = l := ⟨_, rfl⟩
  obtain ⟨l4, hl4⟩ : ∃ l, lens m4 = l := ⟨_, rfl⟩
  rw [hl1, hl2, hl3, hl4] at hsum
  rw [hl1] at r1
  rw [hl2] at r2
  rw [hl3] at r3
  obtain ⟨s12, hs12⟩ : ∃ s, l1 + l2 = s := ⟨_, rfl⟩
  have w12 : IntKind.i64.wrap (l1 + l2) = s12 := by rw [← hs12]; exact IntWalk.i64_in _ (by omega)
  have w123 : IntKind.i64.wrap (s12 + l3) = l4 := by rw [← hs12, hsum]; exact IntWalk.i64_in _ (by omega)
  have e44 : (l4 == l4) = true := by simp
  have G1 := Lib.hid (longl_is (A := A1) (c := c1) hc1.1 hl1 (by omega))
  have G2 := Lib.hid (longl_is (A := A2) (c := c2) hc2.1 hl2 (by omega))
  have G3 := Lib.hid (longl_is (A := A3) (c := c3) hc3.1 hl3 (by omega))
  have G4 := Lib.hid (longl_is (A := A4) (c := c4) hc4.1 hl4 (by omega))
  have W6 := Lib.hid (fun m5 m6 h5 h6 => sets_whole (m5 := m5) (m6 := m6) hc1 hc2 hc3 hc4 h5 h6)
  obtain ⟨P, hP⟩ : ∃ P, memB a x = P := ⟨_, rfl⟩
  obtain ⟨Q, hQ⟩ : ∃ Q, memB b x = Q := ⟨_, rfl⟩
  rw [hP, hQ] at q1 q2 q4
  rw [hP, hQ] at q3
  have H0 := Lib.hid (hasl_is (A := A) (c := c) hP (by omega))
  have H00 := Lib.hid (hasl_is (A := B) (c := d) hQ (by omega))
  have H1 := Lib.hid (hasl_is (A := A1) (c := c1) q1 (by omega))
  have H2 := Lib.hid (hasl_is (A := A2) (c := c2) q2 (by omega))
  have H3 := Lib.hid (hasl_is (A := A3) (c := c3) q3 (by omega))
  have H4 := Lib.hid (hasl_is (A := A4) (c := c4) q4 (by omega))
  clear hs12 hsum r1 r2 r3 hl1 hl2 hl3 hl4 hP hQ q1 q2 q3 q4 hc1 hc2 hc3 hc4
  have hm5 : m1.length ≤ 480 ∧ m2.length ≤ 480 ∧ m3.length ≤ 480 ∧ m4.length ≤ 480 := by omega
  have HLEN := Lib.hid hm5
  clear hm5 hm1 hm2 hm3 hm4
  cases P
  all_goals
    cases Q
    all_goals
      simp only [Bool.not_true, Bool.not_false, Bool.and_true, Bool.and_false, Bool.or_true, Bool.or_false] at H1 H2 H3 H4
      go_wp2_with fail
      (go_at_call 19; refine (H1.out _ S14.out).mono ?_; rintro e w5 ⟨rfl, hb5⟩)
      have B5 := Lib.hid (chain B4.out hb5)
      have X1 := Lib.hid (S14.out.below hb5)
      have X2 := Lib.hid (S24.out.below hb5)
      have X3 := Lib.hid (S34.out.below hb5)
      have X4 := Lib.hid (S4.out.below hb5)
      clear hb5 S14 S24 S34 S4 H1
      go_wp2_with fail
      (go_at_call 19; refine (H2.out _ X2.out).mono ?_; rintro e w6 ⟨rfl, hb6⟩)
      have B6 := Lib.hid (chain B5.out hb6)
      have Y1 := Lib.hid (X1.out.below hb6)
      have Y2 := Lib.hid (X2.out.below hb6)
      have Y3 := Lib.hid (X3.out.below hb6)
      have Y4 := Lib.hid (X4.out.below hb6)
      clear hb6 X1 X2 X3 X4 H2
      go_wp2_with fail
      (go_at_call 19; refine (H3.out _ Y3.out).mono ?_; rintro e w7 ⟨rfl, hb7⟩)
      have B7 := Lib.hid (chain B6.out hb7)
      have Z1 := Lib.hid (Y1.out.below hb7)
      have Z2 := Lib.hid (Y2.out.below hb7)
      have Z3 := Lib.hid (Y3.out.below hb7)
      have Z4 := Lib.hid (Y4.out.below hb7)
      clear hb7 Y1 Y2 Y3 Y4 H3
      go_wp2_with fail
      (go_at_call 19; refine (H0.out _ (HL.out.below B7.out)).mono ?_; rintro e w8 ⟨rfl, hb8⟩)
      have B8 := Lib.hid (chain B7.out hb8)
      have X1 := Lib.hid (Z1.out.below hb8)
      have X2 := Lib.hid (Z2.out.below hb8)
      have X3 := Lib.hid (Z3.out.below hb8)
      have X4 := Lib.hid (Z4.out.below hb8)
      clear hb8 Z1 Z2 Z3 Z4 H0
      go_wp2_with fail
      first
        | (go_at_call 19; refine (H00.out _ (HM.out.below B8.out)).mono ?_; rintro e w9 ⟨rfl, hbb⟩; have B9 := Lib.hid (chain B8.out hbb); have Z1 := Lib.hid (X1.out.below hbb); have Z2 := Lib.hid (X2.out.below hbb); have Z3 := Lib.hid (X3.out.below hbb); have Z4 := Lib.hid (X4.out.below hbb); clear hbb X1 X2 X3 X4 H00; go_wp2_with fail)
        | (have B9 := B8; have Z1 := X1; have Z2 := X2; have Z3 := X3; have Z4 := X4; clear X1 X2 X3 X4)
      (go_at_call 19; refine (H4.out _ Z4.out).mono ?_; rintro e w10 ⟨rfl, hbb⟩)
      have B10 := Lib.hid (chain B9.out hbb)
      have X1 := Lib.hid (Z1.out.below hbb)
      have X2 := Lib.hid (Z2.out.below hbb)
      have X3 := Lib.hid (Z3.out.below hbb)
      have X4 := Lib.hid (Z4.out.below hbb)
      clear hbb Z1 Z2 Z3 Z4 H4
      go_wp2_with fail
      (go_at_call 21; refine (G1.out _ X1.out).mono ?_; rintro e w11 ⟨rfl, hbb⟩)
      have B11 := Lib.hid (chain B10.out hbb)
      have Z1 := Lib.hid (X1.out.below hbb)
      have Z2 := Lib.hid (X2.out.below hbb)
      have Z3 := Lib.hid (X3.out.below hbb)
      have Z4 := Lib.hid (X4.out.below hbb)
      clear hbb X1 X2 X3 X4 G1
      go_wp2_with fail
      (go_at_call 21; refine (G2.out _ Z2.out).mono ?_; rintro e w12 ⟨rfl, hbb⟩)
      have B12 := Lib.hid (chain B11.out hbb)
      have X1 := Lib.hid (Z1.out.below hbb)
      have X2 := Lib.hid (Z2.out.below hbb)
      have X3 := Lib.hid (Z3.out.below hbb)
      have X4 := Lib.hid (Z4.out.below hbb)
      clear hbb Z1 Z2 Z3 Z4 G2
      go_wp2_with fail
      (go_at_call 21; refine (G3.out _ X3.out).mono ?_; rintro e w13 ⟨rfl, hbb⟩)
      have B13 := Lib.hid (chain B12.out hbb)
      have Z1 := Lib.hid (X1.out.below hbb)
      have Z2 := Lib.hid (X2.out.below hbb)
      have Z3 := Lib.hid (X3.out.below hbb)
      have Z4 := Lib.hid (X4.out.below hbb)
      clear hbb X1 X2 X3 X4 G3
      go_wp2_with fail
      (go_at_call 21; refine (G4.out _ Z4.out).mono ?_; rintro e w14 ⟨rfl, hbb⟩)
      have B14 := Lib.hid (chain B13.out hbb)
      have X1 := Lib.hid (Z1.out.below hbb)
      have X2 := Lib.hid (Z2.out.below hbb)
      have X3 := Lib.hid (Z3.out.below hbb)
      have X4 := Lib.hid (Z4.out.below hbb)
      clear hbb Z1 Z2 Z3 Z4 G4
      go_wp2_with fail
      (go_at_call 15; refine (or_any _ _ _ _ _ m1 m2 X1.out X2.out (by have := HLEN.out; omega)).mono ?_; rintro e w15 ⟨A5, c5, m5, rfl, hs5, hc5, hm5, hbb⟩)
      have B15 := Lib.hid (chain B14.out hbb)
      have Z3 := Lib.hid (X3.out.below hbb)
      have Z4 := Lib.hid (X4.out.below hbb)
      have Z5 := Lib.hid hs5
      have L5 := Lib.hid hm5
      have C5 := Lib.hid hc5
      clear hbb X1 X2 X3 X4 hs5 hm5 hc5
      go_wp2_with fail
      (go_at_call 15; refine (or_any _ _ _ _ _ m5 m3 Z5.out Z3.out (by have := HLEN.out; have := L5.out; omega)).mono ?_; rintro e w16 ⟨A6, c6, m6, rfl, hs6, hc6, hm6, hbb⟩)
      obtain rfl := W6.out _ _ C5.out hc6
      have B16 := Lib.hid (chain B15.out hbb)
      have X4 := Lib.hid (Z4.out.below hbb)
      have X6 := Lib.hid hs6
      clear hbb Z3 Z4 Z5 hs6 hm6 hc6 W6 C5
      go_wp2_with fail
      (go_at_call 11; refine (same_same _ A6 A4 c6 c4 _ X6.out X4.out (by have := HLEN.out; omega)).mono ?_; rintro e w17 ⟨rfl, hbb⟩)
      have B17 := Lib.hid (chain B16.out hbb)
      clear hbb X4 X6
      go_wp2_with (go_at_call 9; refine (alive_any _).mono ?_; rintro e w18 ⟨rfl, hb9⟩)
      go_ret
      exact ⟨rfl, chain B17.out hb9⟩

end Go.Proofs.Ytmfkcbanjlmmhaa
