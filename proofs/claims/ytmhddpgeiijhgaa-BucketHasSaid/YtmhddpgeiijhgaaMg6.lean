/-
  Texts joined into one: what the program's and the document's calls give back, piece by piece.
-/
import Derived.Test.YtmhddpgeiijhgaaMg1
import Derived.Test.YtmhddpgeiijhgaaMg2
import Derived.Test.YtmhddpgeiijhgaaMg3
import Derived.Test.YtmhddpgeiijhgaaMg4
import Derived.Test.YtmhddpgeiijhgaaMg5
import Derived.Test.YtmhddpgeiijhgaaRows
import Derived.BigQuiet
import Derived.ChangeAlike
import Derived.ChangeKeysEq
import Derived.Deep.AppendLies
import Derived.Deep.CutBlock
import Derived.Deep.CutRange
import Derived.Deep.Light
import Derived.Deep.OwnRows
import Derived.Deep.QuietTactic
import Derived.Deep.RegionHeld3
import Derived.Deep.RegionLaw
import Derived.Handy
import Derived.Laws.BytesArg
import Derived.Laws.OwnMore
import Derived.Laws.Strings
import Derived.Laws.StructEq
import Derived.Lib.Hide
import Derived.Lib.SmallJoins
import Derived.Maps.AppendAt
import Derived.OneCell
import Derived.OwnWalk
import Derived.ProofKit
import Derived.RegionTactic
import Derived.StillTailTactics
import Derived.WalkArith
import Derived.WalkKit
import Derived.WalkLawsBesides
import Derived.WalkSpells

/-
  The statements of buckets' times, walked.
-/
namespace Go.Proofs.Ytmhddpgeiijhgaa
open Go.RowKit

theorem shl_box (w : World) (a : Int × Int) : Below w.heap.size w (w.alloc (ocS a.1 a.2)) := (bl w).alloc (Nat.le_refl _) _
set_option maxHeartbeats 4000000 in
set_option maxRecDepth 100000 in
theorem floors13_walk (t k x : Int) (W : World) : Ret 3 #[.int .i64 t, .int .i64 k, .int .i64 x] W (.bool true) := by
  have CF := Lib.hid (fun w => pbfloor_any t x w)
  have DF := Lib.hid (fun w => dfloor13_any t x w)
  have CS := Lib.hid (fun w => pbspan_any k x w)
  have DS := Lib.hid (fun w => dspan13_any k x w)
  have CA := Lib.hid (fun w => alive13_any w)
  have h' := eql_spanB (spanV k x).1 (spanV k x).2
  generalize (spanV k x).1 = y1 at *
  generalize (spanV k x).2 = y2 at *
  generalize spanB k x = b at *
  generalize floorV t x = v at *
  generalize floorE t x = e0 at *
  cases b
  all_goals
    go_enter Try.func3, Try.ntmps3
    go_wp2_with (first
      | (go_at_call 8; (with_reducible refine (CF.out _).mono ?_); rintro e w2 ⟨rfl, hb2⟩; have HB2 := Lib.hid hb2; clear hb2)
      | (go_at_call 9; (with_reducible refine (DF.out _).mono ?_); rintro e w3 ⟨rfl, rfl⟩)
      | (go_at_call 10; (with_reducible refine (CS.out _).mono ?_); rintro e w4 ⟨rfl, hb4⟩; have HB4 := Lib.hid hb4; clear hb4)
      | (go_at_call 11; (with_reducible refine (DS.out _).mono ?_); rintro e w5 ⟨rfl, hb5⟩; have HB5 := Lib.hid hb5; have k0 := keepc hb5 (show (w4.alloc (ocS y1 y2)).cell? ⟨w4.heap.size, 0, none⟩ = some (.int .i64 y1) by simp [go_sem]); have k1 := keepc hb5 (show (w4.alloc (ocS y1 y2)).cell? ⟨w4.heap.size, 1, none⟩ = some (.int .i64 y2) by simp [go_sem]); have k2 := keepc ((bl w5).alloc (Nat.le_refl _) (ocS y1 y2)) k0; have k3 := keepc ((bl w5).alloc (Nat.le_refl _) (ocS y1 y2)) k1; clear hb5)
      | (go_at_call 12; (with_reducible refine (CA.out _).mono ?_); rintro e w6 ⟨rfl, hb6⟩; have HB6 := Lib.hid hb6; clear hb6))
    go_ret
    exact ⟨rfl, chain HB2.out (chain HB4.out (chain ((bl w4).alloc (Nat.le_refl _) (ocS y1 y2)) (chain HB5.out (chain ((bl w5).alloc (Nat.le_refl _) (ocS y1 y2)) HB6.out))))⟩


set_option maxHeartbeats 4000000 in
set_option maxRecDepth 100000 in
theorem has13_walk (t k x : Int) (W : World) : Ret 4 #[.int .i64 t, .int .i64 k, .int .i64 x] W (.bool true) := by
  have CF := Lib.hid (fun w => pbfloor_any t x w)
  have CS := Lib.hid (fun w => pbspan_any k x w)
  have CA := Lib.hid (fun w => alive13_any w)
  by_cases hok : (widthB x && timeB t) = true
  · have hok2 := hok
    rw [Bool.and_eq_true] at hok2
    obtain ⟨hw, ht⟩ := hok2
    have e1 : floorE t x = 0 ∧ floorV t x = t / x := ⟨by rw [floorE, if_pos hok], by rw [floorV, if_pos hok]⟩
    rw [e1.1, e1.2] at CF
    obtain ⟨g1, g2, g3⟩ := (bucket_has (k := t / x) hw ht).2 rfl
    have hk := bucket_has (k := k) hw ht
    have CT := Lib.hid (fun w => pbspan_any (t / x) x w)
    rw [g1] at CT
    have CH := Lib.hid (fun w => dhas01_any (spanV (t / x) x).1 (spanV (t / x) x).2 t w)
    have e2 : hasS (spanV (t / x) x).1 (spanV (t / x) x).2 t = true := by unfold hasS; rw [decide_eq_true g2, decide_eq_true g3]; rfl
    rw [e2] at CH
    have CG := Lib.hid (fun w => dhas01_any (spanV k x).1 (spanV k x).2 t w)
    have HEQ := Lib.hid (show (spanB k x && hasS (spanV k x).1 (spanV k x).2 t) = (k == t / x) by
      rw [Bool.eq_iff_iff, Bool.and_eq_true, beq_iff_eq, ← hk]
      unfold hasS
      rw [Bool.and_eq_true, decide_eq_true_eq, decide_eq_true_eq])
    clear hok hw ht e1 g1 g2 g3 hk e2
    generalize (spanV (t / x) x).1 = y1 at *
    generalize (spanV (t / x) x).2 = y2 at *
    generalize (spanV k x).1 = z1 at *
    generalize (spanV k x).2 = z2 at *
    generalize hasS z1 z2 t = h at *
    generalize spanB k x = b at *
    generalize hd : (k == t / x) = d at *
    generalize t / x = q at *
    cases b
    · have hd2 : d = false := by have := HEQ.out; simpa using this.symm
      subst hd2
      go_enter Try.func4, Try.ntmps4
      go_wp2_with (first
        | (go_at_call 8; (with_reducible refine (CF.out _).mono ?_); rintro e w2 ⟨rfl, hb2⟩; have HB2 := Lib.hid hb2; clear hb2)
        | (go_at_call 10; (with_reducible refine (CS.out _).mono ?_); rintro e w4 ⟨rfl, hb4⟩; have HB4 := Lib.hid hb4; clear hb4)
        | (go_at_call 10; (with_reducible refine (CT.out _).mono ?_); rintro e w5 ⟨rfl, hb5⟩; have HB5 := Lib.hid hb5; have k0 := keepc hb5 (show (w4.alloc (ocS z1 z2)).cell? ⟨w4.heap.size, 0, none⟩ = some (.int .i64 z1) by simp [go_sem]); have k1 := keepc hb5 (show (w4.alloc (ocS z1 z2)).cell? ⟨w4.heap.size, 1, none⟩ = some (.int .i64 z2) by simp [go_sem]); have k2 := keepc ((bl w5).alloc (Nat.le_refl _) (ocS y1 y2)) k0; have k3 := keepc ((bl w5).alloc (Nat.le_refl _) (ocS y1 y2)) k1; clear hb5)
        | (go_at_call 13; (with_reducible refine (CH.out _).mono ?_); rintro e w6 ⟨rfl, hb6⟩; have HB6 := Lib.hid hb6; have k4 := keepc hb6 k2; have k5 := keepc hb6 k3; clear hb6)
        | (go_at_call 12; (with_reducible refine (CA.out _).mono ?_); rintro e w7 ⟨rfl, hb7⟩; have HB7 := Lib.hid hb7; clear hb7))
      go_ret
      exact ⟨rfl, chain HB2.out (chain HB4.out (chain ((bl w4).alloc (Nat.le_refl _) (ocS z1 z2)) (chain HB5.out (chain ((bl w5).alloc (Nat.le_refl _) (ocS y1 y2)) (chain HB6.out HB7.out)))))⟩
    · have hd2 : h = d := by have := HEQ.out; simpa using this
      subst hd2
      go_enter Try.func4, Try.ntmps4
      go_wp2_with (first
        | (go_at_call 8; (with_reducible refine (CF.out _).mono ?_); rintro e w2 ⟨rfl, hb2⟩; have HB2 := Lib.hid hb2; clear hb2)
        | (go_at_call 10; (with_reducible refine (CS.out _).mono ?_); rintro e w4 ⟨rfl, hb4⟩; have HB4 := Lib.hid hb4; clear hb4)
        | (go_at_call 10; (with_reducible refine (CT.out _).mono ?_); rintro e w5 ⟨rfl, hb5⟩; have HB5 := Lib.hid hb5; have k0 := keepc hb5 (show (w4.alloc (ocS z1 z2)).cell? ⟨w4.heap.size, 0, none⟩ = some (.int .i64 z1) by simp [go_sem]); have k1 := keepc hb5 (show (w4.alloc (ocS z1 z2)).cell? ⟨w4.heap.size, 1, none⟩ = some (.int .i64 z2) by simp [go_sem]); have k2 := keepc ((bl w5).alloc (Nat.le_refl _) (ocS y1 y2)) k0; have k3 := keepc ((bl w5).alloc (Nat.le_refl _) (ocS y1 y2)) k1; clear hb5)
        | (go_at_call 13; (with_reducible refine (CH.out _).mono ?_); rintro e w6 ⟨rfl, hb6⟩; have HB6 := Lib.hid hb6; have k4 := keepc hb6 k2; have k5 := keepc hb6 k3; clear hb6)
        | (go_at_call 13; (with_reducible refine (CG.out _).mono ?_); rintro e w8 ⟨rfl, hb8⟩; have HB8 := Lib.hid hb8; clear hb8)
        | (go_at_call 12; (with_reducible refine (CA.out _).mono ?_); rintro e w7 ⟨rfl, hb7⟩; have HB7 := Lib.hid hb7; clear hb7))
      go_ret
      exact ⟨rfl, chain HB2.out (chain HB4.out (chain ((bl w4).alloc (Nat.le_refl _) (ocS z1 z2)) (chain HB5.out (chain ((bl w5).alloc (Nat.le_refl _) (ocS y1 y2)) (chain HB6.out (chain HB8.out HB7.out))))))⟩
  · have e1 : floorE t x = 2 ∧ floorV t x = 0 := ⟨by rw [floorE, if_neg hok], by rw [floorV, if_neg hok]⟩
    rw [e1.1, e1.2] at CF
    clear e1 hok
    generalize (spanV k x).1 = z1 at *
    generalize (spanV k x).2 = z2 at *
    generalize spanB k x = b at *
    go_enter Try.func4, Try.ntmps4
    go_wp2_with (first
      | (go_at_call 8; (with_reducible refine (CF.out _).mono ?_); rintro e w2 ⟨rfl, hb2⟩; have HB2 := Lib.hid hb2; clear hb2)
      | (go_at_call 10; (with_reducible refine (CS.out _).mono ?_); rintro e w4 ⟨rfl, hb4⟩; have HB4 := Lib.hid hb4; clear hb4)
      | (go_at_call 12; (with_reducible refine (CA.out _).mono ?_); rintro e w7 ⟨rfl, hb7⟩; have HB7 := Lib.hid hb7; clear hb7))
    go_ret
    exact ⟨rfl, chain HB2.out (chain HB4.out (chain ((bl w4).alloc (Nat.le_refl _) (ocS z1 z2)) HB7.out))⟩
end Go.Proofs.Ytmhddpgeiijhgaa
