/-
  Texts joined into one: what the program's and the document's calls give back, piece by piece.
-/
import Derived.Test.YtmhddpgeiijhgaaMg1
import Derived.Test.YtmhddpgeiijhgaaRows
import Derived.BigQuiet
import Derived.ChangeAlike
import Derived.ChangeKeysEq
import Derived.Deep.AppendLies
import Derived.Deep.CutBlock
import Derived.Deep.CutRange
import Derived.Deep.Light
import Derived.Deep.QuietTactic
import Derived.Deep.RegionHeld3
import Derived.Deep.RegionLaw
import Derived.Handy
import Derived.Laws.BytesArg
import Derived.Laws.OwnMore
import Derived.Laws.Strings
import Derived.Laws.StructEq
import Derived.Lib.Hide
import Derived.Maps.AppendAt
import Derived.OneCell
import Derived.OwnWalk
import Derived.RegionTactic
import Derived.StillTailTactics
import Derived.WalkArith
import Derived.WalkKit
import Derived.WalkLawsBesides
import Derived.WalkSpells
import Derived.Test.YtmhddpgeiijhgaaChecked
import Derived.ChangeMaps5
import Derived.Deep.SlicePairs
import Derived.DeepKeys4
import Derived.Lib.SmallJoins
import Derived.Maps.OwnSet
import Derived.Maps.RangeWalk
import Derived.OpenShut
import Derived.ProofKit
import Derived.SizedLaws
import Derived.Lib.Bytealg
import Derived.RangeFuncOwn

/-
  The document's Covers and At of versions.
-/
namespace Go.Proofs.Ytmhddpgeiijhgaa
open Go.RowKit

def rightS (f t : Int) : Bool := decide (-1099511627776 ≤ f) && decide (t ≤ 1099511627776) && decide (f < t)
def hasS (f t x : Int) : Bool := decide (f ≤ x) && decide (x < t)
theorem coversB_eq (v : Vr) (t : Int) : coversB v t = (!v.gone && rightS v.sf v.se && hasS v.sf v.se t) := rfl

set_option maxHeartbeats 1000000 in
theorem dright01_any (f t : Int) (w : World) : Ret 31 #[.agg #[.int .i64 f, .int .i64 t]] w (.bool (rightS f t)) := by
  by_cases h1 : -1099511627776 ≤ f
  · by_cases h2 : t ≤ 1099511627776
    · by_cases h3 : f < t
      · have HE := Lib.hid (show rightS f t = true by simp [rightS, h1, h2, h3])
        go_enter Try.func31, Try.ntmps31
        go_wp2_with fail
        go_ret
        exact ⟨ret_bool HE.out.symm, (bl w).alloc (Nat.le_refl _) _⟩
      · have HE := Lib.hid (show rightS f t = false by simp [rightS, h3])
        go_enter Try.func31, Try.ntmps31
        go_wp2_with fail
        go_ret
        exact ⟨ret_bool HE.out.symm, (bl w).alloc (Nat.le_refl _) _⟩
    · have HE := Lib.hid (show rightS f t = false by simp [rightS, h2])
      go_enter Try.func31, Try.ntmps31
      go_wp2_with fail
      go_ret
      exact ⟨ret_bool HE.out.symm, (bl w).alloc (Nat.le_refl _) _⟩
  · have HE := Lib.hid (show rightS f t = false by simp [rightS, h1])
    go_enter Try.func31, Try.ntmps31
    go_wp2_with fail
    go_ret
    exact ⟨ret_bool HE.out.symm, (bl w).alloc (Nat.le_refl _) _⟩
set_option maxHeartbeats 1000000 in
theorem dhas01_any (f t x : Int) (w : World) : Ret 13 #[.agg #[.int .i64 f, .int .i64 t], .int .i64 x] w (.bool (hasS f t x)) := by
  by_cases h1 : f ≤ x
  · by_cases h2 : x < t
    · have HE := Lib.hid (show hasS f t x = true by simp [hasS, h1, h2])
      go_enter Try.func13, Try.ntmps13
      go_wp2_with fail
      go_ret
      exact ⟨ret_bool HE.out.symm, (bl w).alloc (Nat.le_refl _) _⟩
    · have HE := Lib.hid (show hasS f t x = false by simp [hasS, h2])
      go_enter Try.func13, Try.ntmps13
      go_wp2_with fail
      go_ret
      exact ⟨ret_bool HE.out.symm, (bl w).alloc (Nat.le_refl _) _⟩
  · have HE := Lib.hid (show hasS f t x = false by simp [hasS, h1])
    go_enter Try.func13, Try.ntmps13
    go_wp2_with fail
    go_ret
    exact ⟨ret_bool HE.out.symm, (bl w).alloc (Nat.le_refl _) _⟩

theorem few_filter {l : List Vr} (p : Vr → Bool) (h : fewV l) : fewV (l.filter p) := ⟨by have := List.length_filter_le p l; have := h.1; omega, fun v hv => h.2 v (List.mem_filter.1 hv).1⟩

end Go.Proofs.Ytmhddpgeiijhgaa

/-
  The document's small words of buckets: Width, Floor, Span, Counts.
-/
namespace Go.Proofs.Ytmhddpgeiijhgaa
open Go.RowKit

set_option maxHeartbeats 1000000 in
theorem dwidth13_any (x : Int) (w : World) : Same 18 #[.int .i64 x] w (.bool (widthB x)) := by
  by_cases h1 : 1 ≤ x
  · have h1' : decide (1 ≤ x) = true := by simpa using h1
    by_cases h2 : x ≤ 1099511627776
    · have h2' : decide (x ≤ 1099511627776) = true := by simpa using h2
      have HE := Lib.hid (show widthB x = true by simp [widthB, h1, h2])
      go_enter Try.func18, Try.ntmps18
      go_wp2_with fail
      go_ret
      exact ⟨ret_bool HE.out.symm, rfl⟩
    · have h2' : decide (x ≤ 1099511627776) = false := by simpa using h2
      have HE := Lib.hid (show widthB x = false by simp [widthB, h2])
      go_enter Try.func18, Try.ntmps18
      go_wp2_with fail
      go_ret
      exact ⟨ret_bool HE.out.symm, rfl⟩
  · have h1' : decide (1 ≤ x) = false := by simpa using h1
    have HE := Lib.hid (show widthB x = false by simp [widthB, h1])
    go_enter Try.func18, Try.ntmps18
    go_wp2_with fail
    go_ret
    exact ⟨ret_bool HE.out.symm, rfl⟩

set_option maxHeartbeats 2000000 in
theorem dfloor13_any (t x : Int) (w : World) : Same 9 #[.int .i64 t, .int .i64 x] w (.tuple #[.int .i64 (floorV t x), .int .i64 ((floorE t x : Nat) : Int)]) := by
  have CW := Lib.hid (dwidth13_any x)
  by_cases hw : widthB x = true
  · rw [hw] at CW
    have hw2 := (widthB_iff x).1 hw
    by_cases h1 : t < -1099511627776
    · have h1' : decide (t < -1099511627776) = true := by simpa using h1
      have HE := Lib.hid (show floorE t x = 2 ∧ floorV t x = 0 from ⟨by rw [floorE, if_neg]; rw [Bool.and_eq_true, timeB_iff]; omega, by rw [floorV, if_neg]; rw [Bool.and_eq_true, timeB_iff]; omega⟩)
      rw [HE.out.1, HE.out.2]
      clear hw hw2 h1
      go_enter Try.func9, Try.ntmps9
      go_wp2_with (go_at_call 18; (with_reducible refine (CW.out _).mono ?_); rintro e w2 ⟨rfl, rfl⟩)
      go_ret2
      exact ⟨rfl, rfl⟩
    · have h1' : decide (t < -1099511627776) = false := by simpa using h1
      by_cases h2 : 1099511627776 ≤ t
      · have h2' : decide (1099511627776 ≤ t) = true := by simpa using h2
        have HE := Lib.hid (show floorE t x = 2 ∧ floorV t x = 0 from ⟨by rw [floorE, if_neg]; rw [Bool.and_eq_true, timeB_iff]; omega, by rw [floorV, if_neg]; rw [Bool.and_eq_true, timeB_iff]; omega⟩)
        rw [HE.out.1, HE.out.2]
        clear hw hw2 h1 h2
        go_enter Try.func9, Try.ntmps9
        go_wp2_with (go_at_call 18; (with_reducible refine (CW.out _).mono ?_); rintro e w2 ⟨rfl, rfl⟩)
        go_ret2
        exact ⟨rfl, rfl⟩
      · have h2' : decide (1099511627776 ≤ t) = false := by simpa using h2
        have ht : timeB t = true := (timeB_iff t).2 (by omega)
        have HE := Lib.hid (show floorE t x = 0 ∧ floorV t x = t / x from ⟨by rw [floorE, hw, ht]; rfl, by rw [floorV, hw, ht]; rfl⟩)
        rw [HE.out.1, HE.out.2]
        obtain ⟨s1, s2, s3, s4⟩ := tdiv_small hw2.1 (t := t) (by omega) (by omega)
        obtain ⟨f1, f2⟩ := tdiv_floor (t := t) hw2.1
        have hx0 : ¬ x = 0 := by omega
        have hx0' : (x == 0) = false := by simpa using hx0
        have q1 : wrap64 (t.tdiv x) = t.tdiv x := IntWalk.wrap64_in _ (by omega)
        have q2 : wrap64 (t.tdiv x * x) = t.tdiv x * x := IntWalk.wrap64_in _ (by omega)
        have q3 : wrap64 (t.tdiv x - 1) = t.tdiv x - 1 := IntWalk.wrap64_in _ (by omega)
        by_cases h3 : t < t.tdiv x * x
        · have h3' : decide (t < t.tdiv x * x) = true := by simpa using h3
          have HV := Lib.hid (f1 h3)
          rw [HV.out]
          clear f1 f2 s1 s2 s3 s4 hw hw2 ht h1 h2 h3
          go_enter Try.func9, Try.ntmps9
          go_wp2_with (go_at_call 18; (with_reducible refine (CW.out _).mono ?_); rintro e w2 ⟨rfl, rfl⟩)
          go_ret2
          exact ⟨by show Ending.returned (.tuple #[.int .i64 (wrap64 (t.tdiv x - 1)), .int .i64 0]) = _; rw [q3]; rfl, rfl⟩
        · have h3' : decide (t < t.tdiv x * x) = false := by simpa using h3
          have HV := Lib.hid (f2 h3)
          rw [HV.out]
          clear f1 f2 s1 s2 s3 s4 hw hw2 ht h1 h2 h3
          go_enter Try.func9, Try.ntmps9
          go_wp2_with (go_at_call 18; (with_reducible refine (CW.out _).mono ?_); rintro e w2 ⟨rfl, rfl⟩)
          go_ret2
          exact ⟨by show Ending.returned (.tuple #[.int .i64 (wrap64 (t.tdiv x)), .int .i64 0]) = _; rw [q1]; rfl, rfl⟩
  · have hw' : widthB x = false := by simpa using hw
    rw [hw'] at CW
    have HE := Lib.hid (show floorE t x = 2 ∧ floorV t x = 0 from ⟨by rw [floorE, hw', Bool.false_and]; rfl, by rw [floorV, hw', Bool.false_and]; rfl⟩)
    rw [HE.out.1, HE.out.2]
    clear hw hw'
    go_enter Try.func9, Try.ntmps9
    go_wp2_with (go_at_call 18; (with_reducible refine (CW.out _).mono ?_); rintro e w2 ⟨rfl, rfl⟩)
    go_ret2
    exact ⟨rfl, rfl⟩

/-- A span in a box. -/
theorem boxS_facts (w : World) : (w.alloc (.cells #[.int .i64 0, .int .i64 0] 26)).cell? ⟨w.heap.size, 0, none⟩ = some (.int .i64 0) ∧ (w.alloc (.cells #[.int .i64 0, .int .i64 0] 26)).cell? ⟨w.heap.size, 1, none⟩ = some (.int .i64 0) := ⟨by simp [go_sem], by simp [go_sem]⟩
set_option maxHeartbeats 4000000 in
set_option maxRecDepth 10000 in
theorem dspan13_any (k x : Int) (w : World) : Ret 11 #[.int .i64 k, .int .i64 x] w (.tuple #[.agg #[.int .i64 (spanV k x).1, .int .i64 (spanV k x).2], .bool (spanB k x)]) := by
  have CW := Lib.hid (dwidth13_any x)
  have HB0 := Lib.hid (show ∀ u v : Value, Below w.heap.size w (((w.alloc (.cells #[.int .i64 0, .int .i64 0] 26)).setCell ⟨w.heap.size, 0, none⟩ u).setCell ⟨w.heap.size, 1, none⟩ v) from fun u v => (((bl w).alloc (Nat.le_refl _) _).setCell (p := ⟨w.heap.size, 0, none⟩) (Nat.le_refl _) u).setCell (p := ⟨w.heap.size, 1, none⟩) (Nat.le_refl _) v)
  by_cases hw : widthB x = true
  · rw [hw] at CW
    have hw2 := (widthB_iff x).1 hw
    have hx0 : ¬ x = 0 := by omega
    have hx0' : (x == 0) = false := by simpa using hx0
    have hq : (1099511627776 : Int).tdiv x = 1099511627776 / x := Int.tdiv_eq_ediv_of_nonneg (by decide)
    obtain ⟨m1, m2⟩ := max_ediv hw2.1
    by_cases h1 : k < -1099511627776
    · have h1' : decide (k < -1099511627776) = true := by simpa using h1
      have hb := spanB_out hw2.1 (.inl h1) hw2.2
      have HE := Lib.hid (show (spanV k x).1 = 0 ∧ (spanV k x).2 = 0 ∧ spanB k x = false by unfold spanV; rw [hb]; exact ⟨rfl, rfl, rfl⟩)
      clear hb hw hw2 h1 hx0 hx0' hq m1 m2
      go_enter Try.func11, Try.ntmps11
      go_wp2_with (go_at_call 18; (with_reducible refine (CW.out _).mono ?_); rintro e w2 ⟨rfl, rfl⟩)
      refine bodyPost_ret (v := .tuple #[.agg #[.int .i64 0, .int .i64 0], .bool false]) (by simp [results, Try.results11, go_sem]) rfl ⟨by rw [HE.out.1, HE.out.2.1, HE.out.2.2], ?_⟩
      exact (bl w).alloc (Nat.le_refl _) _
    · have h1' : decide (k < -1099511627776) = false := by simpa using h1
      by_cases h2 : 1099511627776 < k
      · have h2' : decide (1099511627776 < k) = true := by simpa using h2
        have hb := spanB_out hw2.1 (.inr h2) hw2.2
        have HE := Lib.hid (show (spanV k x).1 = 0 ∧ (spanV k x).2 = 0 ∧ spanB k x = false by unfold spanV; rw [hb]; exact ⟨rfl, rfl, rfl⟩)
        clear hb hw hw2 h1 h2 hx0 hx0' hq m1 m2
        go_enter Try.func11, Try.ntmps11
        go_wp2_with (go_at_call 18; (with_reducible refine (CW.out _).mono ?_); rintro e w2 ⟨rfl, rfl⟩)
        refine bodyPost_ret (v := .tuple #[.agg #[.int .i64 0, .int .i64 0], .bool false]) (by simp [results, Try.results11, go_sem]) rfl ⟨by rw [HE.out.1, HE.out.2.1, HE.out.2.2], ?_⟩
        exact (bl w).alloc (Nat.le_refl _) _
      · have h2' : decide (1099511627776 < k) = false := by simpa using h2
        have q1 : wrap64 ((1099511627776 : Int).tdiv x) = 1099511627776 / x := by rw [hq]; exact IntWalk.wrap64_in _ (by omega)
        have q2 : wrap64 (-(1099511627776 / x)) = -(1099511627776 / x) := IntWalk.wrap64_in _ (by omega)
        have q2' : wrap64 (0 - 1099511627776 / x) = -(1099511627776 / x) := by rw [Int.zero_sub]; exact q2
        have q3 : wrap64 (-(1099511627776 / x) - 1) = -(1099511627776 / x) - 1 := IntWalk.wrap64_in _ (by omega)
        by_cases h3 : 1099511627776 / x < k
        · have h3' : decide (1099511627776 / x < k) = true := by simpa using h3
          have hb := spanB_far hw2.1 (.inl h3)
          have HE := Lib.hid (show (spanV k x).1 = 0 ∧ (spanV k x).2 = 0 ∧ spanB k x = false by unfold spanV; rw [hb]; exact ⟨rfl, rfl, rfl⟩)
          generalize (1099511627776 : Int) / x = M at *
          clear hb hw hw2 h1 h2 h3 hq m1 m2
          go_enter Try.func11, Try.ntmps11
          go_wp2_with (go_at_call 18; (with_reducible refine (CW.out _).mono ?_); rintro e w2 ⟨rfl, rfl⟩)
          refine bodyPost_ret (v := .tuple #[.agg #[.int .i64 0, .int .i64 0], .bool false]) (by simp [results, Try.results11, go_sem]) rfl ⟨by rw [HE.out.1, HE.out.2.1, HE.out.2.2], ?_⟩
          exact (bl w).alloc (Nat.le_refl _) _
        · have h3' : decide (1099511627776 / x < k) = false := by simpa using h3
          by_cases h4 : k < -(1099511627776 / x) - 1
          · have h4' : decide (k < -(1099511627776 / x) - 1) = true := by simpa using h4
            have hb := spanB_far (k := k) hw2.1 (.inr (by omega))
            have HE := Lib.hid (show (spanV k x).1 = 0 ∧ (spanV k x).2 = 0 ∧ spanB k x = false by unfold spanV; rw [hb]; exact ⟨rfl, rfl, rfl⟩)
            generalize (1099511627776 : Int) / x = M at *
            clear hb hw hw2 h1 h2 h3 h4 hq m1 m2
            go_enter Try.func11, Try.ntmps11
            go_wp2_with (go_at_call 18; (with_reducible refine (CW.out _).mono ?_); rintro e w2 ⟨rfl, rfl⟩)
            refine bodyPost_ret (v := .tuple #[.agg #[.int .i64 0, .int .i64 0], .bool false]) (by simp [results, Try.results11, go_sem]) rfl ⟨by rw [HE.out.1, HE.out.2.1, HE.out.2.2], ?_⟩
            exact (bl w).alloc (Nat.le_refl _) _
          · have h4' : decide (k < -(1099511627776 / x) - 1) = false := by simpa using h4
            obtain ⟨n1, n2⟩ := near_small (k := k) hw2.1 hw2.2 (by omega) (by omega)
            have r1 : wrap64 (k * x) = k * x := IntWalk.wrap64_in _ (by omega)
            have r2 : wrap64 (k * x + x) = k * x + x := IntWalk.wrap64_in _ (by omega)
            have HSB := Lib.hid (show spanB k x = decide (max (k * x) (-1099511627776) < min (k * x + x) 1099511627776) by unfold spanB; rw [hw, Bool.true_and])
            have HSV := Lib.hid (show ∀ f t : Int, max (k * x) (-1099511627776) = f → min (k * x + x) 1099511627776 = t → (spanV k x, spanB k x) = if f < t then ((f, t), true) else ((0, 0), false) from fun f t hf ht => by
              have h := HSB.out
              rw [hf, ht] at h
              unfold spanV
              by_cases c : f < t
              · rw [h, decide_eq_true c, if_pos rfl, if_pos c, hf, ht]
              · rw [h, decide_eq_false c, if_neg (by simp), if_neg c])
            generalize (1099511627776 : Int) / x = M at *
            have key : ∀ f t : Int, max (k * x) (-1099511627776) = f → min (k * x + x) 1099511627776 = t → (f < t → (spanV k x).1 = f ∧ (spanV k x).2 = t ∧ spanB k x = true) ∧ (¬ f < t → (spanV k x).1 = 0 ∧ (spanV k x).2 = 0 ∧ spanB k x = false) := fun f t hf ht => by
              have h := HSV.out f t hf ht
              constructor
              · intro c
                rw [if_pos c] at h
                injection h with h5 h6
                rw [h5, h6]; exact ⟨rfl, rfl, rfl⟩
              · intro c
                rw [if_neg c] at h
                injection h with h5 h6
                rw [h5, h6]; exact ⟨rfl, rfl, rfl⟩
            have KEY := Lib.hid key
            have hx1 := hw2.1
            clear key hw hw2 h1 h2 h3 h4 hq m1 m2
            by_cases c1 : k * x < -1099511627776
            · have d1 : decide (k * x < -1099511627776) = true := by simpa using c1
              by_cases c2 : 1099511627776 < k * x + x
              · have d2 : decide (1099511627776 < k * x + x) = true := by simpa using c2
                obtain ⟨k1, k2⟩ := KEY.out (-1099511627776) (1099511627776) (by omega) (by omega)
                have c3 : (-1099511627776 : Int) < 1099511627776 := by decide
                have d3 : decide (1099511627776 ≤ -1099511627776) = false := by rw [decide_eq_false_iff_not]; omega
                have HE := Lib.hid (k1 c3)
                clear k1 k2 c1 c2 c3 n1 n2 hx1 HSB HSV KEY
                go_enter Try.func11, Try.ntmps11
                go_wp2_with (go_at_call 18; (with_reducible refine (CW.out _).mono ?_); rintro e w2 ⟨rfl, rfl⟩)
                refine bodyPost_ret (v := .tuple #[.agg #[.int .i64 (-1099511627776), .int .i64 (1099511627776)], .bool true]) (by simp [results, Try.results11, go_sem, r1, r2]) rfl ⟨by rw [HE.out.1, HE.out.2.1, HE.out.2.2], ?_⟩
                (repeat (first | exact bl _ | (refine Go.RowKit.Below.setCell (p := ⟨_, _, none⟩) ?_ (by first | exact Nat.le_refl _ | simp | (simp; omega)) _) | (refine Go.RowKit.Below.alloc ?_ (by first | exact Nat.le_refl _ | simp | (simp; omega)) _)))
              · have d2 : decide (1099511627776 < k * x + x) = false := by simpa using c2
                obtain ⟨k1, k2⟩ := KEY.out (-1099511627776) (k * x + x) (by omega) (by omega)
                by_cases c3 : -1099511627776 < k * x + x
                · have d3 : decide (k * x + x ≤ -1099511627776) = false := by rw [decide_eq_false_iff_not]; omega
                  have HE := Lib.hid (k1 c3)
                  clear k1 k2 c1 c2 c3 n1 n2 hx1 HSB HSV KEY
                  go_enter Try.func11, Try.ntmps11
                  go_wp2_with (go_at_call 18; (with_reducible refine (CW.out _).mono ?_); rintro e w2 ⟨rfl, rfl⟩)
                  refine bodyPost_ret (v := .tuple #[.agg #[.int .i64 (-1099511627776), .int .i64 (k * x + x)], .bool true]) (by simp [results, Try.results11, go_sem, r1, r2]) rfl ⟨by rw [HE.out.1, HE.out.2.1, HE.out.2.2], ?_⟩
                  (repeat (first | exact bl _ | (refine Go.RowKit.Below.setCell (p := ⟨_, _, none⟩) ?_ (by first | exact Nat.le_refl _ | simp | (simp; omega)) _) | (refine Go.RowKit.Below.alloc ?_ (by first | exact Nat.le_refl _ | simp | (simp; omega)) _)))
                · have d3 : decide (k * x + x ≤ -1099511627776) = true := by rw [decide_eq_true_eq]; omega
                  have HE := Lib.hid (k2 c3)
                  clear k1 k2 c1 c2 c3 n1 n2 hx1 HSB HSV KEY
                  go_enter Try.func11, Try.ntmps11
                  go_wp2_with (go_at_call 18; (with_reducible refine (CW.out _).mono ?_); rintro e w2 ⟨rfl, rfl⟩)
                  refine bodyPost_ret (v := .tuple #[.agg #[.int .i64 0, .int .i64 0], .bool false]) (by simp [results, Try.results11, go_sem]) rfl ⟨by rw [HE.out.1, HE.out.2.1, HE.out.2.2], ?_⟩
                  (repeat (first | exact bl _ | (refine Go.RowKit.Below.setCell (p := ⟨_, _, none⟩) ?_ (by first | exact Nat.le_refl _ | simp | (simp; omega)) _) | (refine Go.RowKit.Below.alloc ?_ (by first | exact Nat.le_refl _ | simp | (simp; omega)) _)))
            · have d1 : decide (k * x < -1099511627776) = false := by simpa using c1
              by_cases c2 : 1099511627776 < k * x + x
              · have d2 : decide (1099511627776 < k * x + x) = true := by simpa using c2
                obtain ⟨k1, k2⟩ := KEY.out (k * x) (1099511627776) (by omega) (by omega)
                by_cases c3 : k * x < 1099511627776
                · have d3 : decide (1099511627776 ≤ k * x) = false := by rw [decide_eq_false_iff_not]; omega
                  have HE := Lib.hid (k1 c3)
                  clear k1 k2 c1 c2 c3 n1 n2 hx1 HSB HSV KEY
                  go_enter Try.func11, Try.ntmps11
                  go_wp2_with (go_at_call 18; (with_reducible refine (CW.out _).mono ?_); rintro e w2 ⟨rfl, rfl⟩)
                  refine bodyPost_ret (v := .tuple #[.agg #[.int .i64 (k * x), .int .i64 (1099511627776)], .bool true]) (by simp [results, Try.results11, go_sem, r1, r2]) rfl ⟨by rw [HE.out.1, HE.out.2.1, HE.out.2.2], ?_⟩
                  (repeat (first | exact bl _ | (refine Go.RowKit.Below.setCell (p := ⟨_, _, none⟩) ?_ (by first | exact Nat.le_refl _ | simp | (simp; omega)) _) | (refine Go.RowKit.Below.alloc ?_ (by first | exact Nat.le_refl _ | simp | (simp; omega)) _)))
                · have d3 : decide (1099511627776 ≤ k * x) = true := by rw [decide_eq_true_eq]; omega
                  have HE := Lib.hid (k2 c3)
                  clear k1 k2 c1 c2 c3 n1 n2 hx1 HSB HSV KEY
                  go_enter Try.func11, Try.ntmps11
                  go_wp2_with (go_at_call 18; (with_reducible refine (CW.out _).mono ?_); rintro e w2 ⟨rfl, rfl⟩)
                  refine bodyPost_ret (v := .tuple #[.agg #[.int .i64 0, .int .i64 0], .bool false]) (by simp [results, Try.results11, go_sem]) rfl ⟨by rw [HE.out.1, HE.out.2.1, HE.out.2.2], ?_⟩
                  (repeat (first | exact bl _ | (refine Go.RowKit.Below.setCell (p := ⟨_, _, none⟩) ?_ (by first | exact Nat.le_refl _ | simp | (simp; omega)) _) | (refine Go.RowKit.Below.alloc ?_ (by first | exact Nat.le_refl _ | simp | (simp; omega)) _)))
              · have d2 : decide (1099511627776 < k * x + x) = false := by simpa using c2
                obtain ⟨k1, k2⟩ := KEY.out (k * x) (k * x + x) (by omega) (by omega)
                by_cases c3 : k * x < k * x + x
                · have d3 : decide (k * x + x ≤ k * x) = false := by rw [decide_eq_false_iff_not]; omega
                  have HE := Lib.hid (k1 c3)
                  clear k1 k2 c1 c2 c3 n1 n2 hx1 HSB HSV KEY
                  go_enter Try.func11, Try.ntmps11
                  go_wp2_with (go_at_call 18; (with_reducible refine (CW.out _).mono ?_); rintro e w2 ⟨rfl, rfl⟩)
                  refine bodyPost_ret (v := .tuple #[.agg #[.int .i64 (k * x), .int .i64 (k * x + x)], .bool true]) (by simp [results, Try.results11, go_sem, r1, r2]) rfl ⟨by rw [HE.out.1, HE.out.2.1, HE.out.2.2], ?_⟩
                  (repeat (first | exact bl _ | (refine Go.RowKit.Below.setCell (p := ⟨_, _, none⟩) ?_ (by first | exact Nat.le_refl _ | simp | (simp; omega)) _) | (refine Go.RowKit.Below.alloc ?_ (by first | exact Nat.le_refl _ | simp | (simp; omega)) _)))
                · have d3 : decide (k * x + x ≤ k * x) = true := by rw [decide_eq_true_eq]; omega
                  have HE := Lib.hid (k2 c3)
                  clear k1 k2 c1 c2 c3 n1 n2 hx1 HSB HSV KEY
                  go_enter Try.func11, Try.ntmps11
                  go_wp2_with (go_at_call 18; (with_reducible refine (CW.out _).mono ?_); rintro e w2 ⟨rfl, rfl⟩)
                  refine bodyPost_ret (v := .tuple #[.agg #[.int .i64 0, .int .i64 0], .bool false]) (by simp [results, Try.results11, go_sem]) rfl ⟨by rw [HE.out.1, HE.out.2.1, HE.out.2.2], ?_⟩
                  (repeat (first | exact bl _ | (refine Go.RowKit.Below.setCell (p := ⟨_, _, none⟩) ?_ (by first | exact Nat.le_refl _ | simp | (simp; omega)) _) | (refine Go.RowKit.Below.alloc ?_ (by first | exact Nat.le_refl _ | simp | (simp; omega)) _)))
  · have hw' : widthB x = false := by simpa using hw
    rw [hw'] at CW
    have HE := Lib.hid (show (spanV k x).1 = 0 ∧ (spanV k x).2 = 0 ∧ spanB k x = false by unfold spanV; rw [spanB_wide hw']; exact ⟨rfl, rfl, rfl⟩)
    clear hw hw'
    go_enter Try.func11, Try.ntmps11
    go_wp2_with (go_at_call 18; (with_reducible refine (CW.out _).mono ?_); rintro e w2 ⟨rfl, rfl⟩)
    refine bodyPost_ret (v := .tuple #[.agg #[.int .i64 0, .int .i64 0], .bool false]) (by simp [results, Try.results11, go_sem]) rfl ⟨by rw [HE.out.1, HE.out.2.1, HE.out.2.2], ?_⟩
    exact (bl w).alloc (Nat.le_refl _) _

end Go.Proofs.Ytmhddpgeiijhgaa

/-
  The world behind a stretch of a walk, named by what is known of it.
-/
namespace Go.Proofs.Ytmhddpgeiijhgaa
open Go.RowKit

theorem abstract_worldW {P : Program} {code : Code} {Q : Exit → Act → World → Prop} {a : Act} {w : World} (R : World → Prop) (h0 : R w) (h : ∀ W, R W → Code.wp P code Q a W) : Code.wp P code Q a w := h w h0
theorem abstract_then {next : Act → World → Prop} {Q : Exit → Act → World → Prop} {a : Act} {w : World} (R : World → Prop) (h0 : R w) (h : ∀ W, R W → Exit.then next Q .normal a W) : Exit.then next Q .normal a w := h w h0

end Go.Proofs.Ytmhddpgeiijhgaa

/-
  The document's Add of totals.
-/
namespace Go.Proofs.Ytmhddpgeiijhgaa
open Go.RowKit

def Add13Post (l : List Tt) (n : ByteArray) (k c s : Int) (w : World) (e : Ending) (w' : World) : Prop := ∃ u, e = .returned u ∧ OE ETr w (addT l n k c s) u w'
theorem rowE_from {α : Type} {E : El α} {w : World} {A : Option Addr} {l : List α} (h : RowE E w A l) (k : Nat) : RowE E w (A.map (·.add (k * E.sz))) (l.drop k) := by
  cases A with
  | none =>
    intro i x hx
    rw [List.getElem?_drop] at hx
    obtain ⟨g, off, e, _⟩ := h _ x hx
    cases e
  | some a =>
    intro i x hx
    rw [List.getElem?_drop] at hx
    obtain ⟨g, off, e, hc⟩ := h _ x hx
    injection e with e
    subst e
    refine ⟨g, off + k * E.sz, by simp [Addr.add], fun j u hu => ?_⟩
    have := hc j u hu
    rwa [Nat.add_mul, ← Nat.add_assoc off] at this
theorem own0_13 (w : World) (o : Obj) : ownE ETr ((w.alloc o).alloc (.cells #[] 77)) (w.alloc o).heap.size (.slice (some ⟨w.heap.size + 1, 0, none⟩) 0 0) ([] : List Tt) :=
  show ownE ETr ((w.alloc o).alloc (.cells #[] ETr.e)) (w.alloc o).heap.size (.slice (some ⟨w.heap.size + 1, 0, none⟩) 0 0) ([] : List Tt) from ownE_empty (E := ETr) (by have := heap_alloc_new (w.alloc o) (.cells #[] ETr.e); simpa using this) (by simp)
theorem own1_13 (Z : World) : ownE ETr (Z.alloc (.cells #[] 77)) Z.heap.size (.slice (some ⟨Z.heap.size, 0, none⟩) 0 0) ([] : List Tt) :=
  show ownE ETr (Z.alloc (.cells #[] ETr.e)) Z.heap.size (.slice (some ⟨Z.heap.size, 0, none⟩) 0 0) ([] : List Tt) from ownE_empty (E := ETr) (heap_alloc_new Z _) (Nat.le_refl _)
set_option linter.unusedSimpArgs false in
set_option maxHeartbeats 4000000 in
set_option maxRecDepth 10000 in
theorem dadd13_any (w : World) (A : Option Addr) (cp : Nat) (l : List Tt) (n : ByteArray) (k c s : Int) (hl : RowE ETr w A l) (hn : l.length ≤ 100000) (hcp : l.length ≤ cp) (hnc : A = none → cp = 0) (hc : wrap64 c = c) (hs : wrap64 s = s) :
    Calls Try.prog 34 #[.slice A l.length cp, .string n, .int .i64 k, .int .i64 c, .int .i64 s] w (Add13Post l n k c s w) := by
  have CP := Lib.hid (dplace13_any w A cp l n k hl (by omega))
  have HL := Lib.hid hl
  obtain ⟨m, hm⟩ : ∃ m, l.length = m := ⟨_, rfl⟩
  have HPL := Lib.hid (show posT l n k ≤ m by rw [← hm]; exact posT_le l n k)
  rw [hm] at hn hcp CP ⊢
  cases hb : isT l n k with
  | false =>
    rw [hb] at CP
    have HA := Lib.hid (show addT l n k c s = l.take (posT l n k) ++ newT n k c s ++ l.drop (posT l n k) by
      unfold addT; rw [getT_none hb, Int.add_zero, Int.add_zero, hc, hs, if_neg (by rw [hb]; simp)])
    generalize posT l n k = p at *
    have hp1 : (p : Int) ≤ (m : Int) := by have := HPL.out; omega
    have hp2 : (p : Int) ≤ (cp : Int) := by have := HPL.out; omega
    have hp3 : p ≤ m := HPL.out
    have hp4 : p ≤ cp := by omega
    have HM := Lib.hid hm
    clear hl hm hb hc hs
    by_cases h0 : cp = 0
    · skip
      obtain rfl := h0
      obtain rfl : m = 0 := by omega
      obtain rfl : p = 0 := by omega
      have HDR := Lib.hid (show ∀ w', Below w.heap.size w w' → RowE ETr w' A (l.drop 0) from fun w' h => by rw [List.drop_of_length_le (by have := HM.out; omega)]; exact RowE.nil _ _)
      by_cases hcs : c = 0 ∧ s = 0
      · obtain ⟨rfl, rfl⟩ := hcs
        have HNW := Lib.hid (show newT n k 0 0 = [] from rfl)
        go_enter Try.func34, Try.ntmps34
        go_wp2_with (first
        | (go_at_call 36; (with_reducible refine CP.out.mono ?_); rintro e w2 ⟨rfl, hb2⟩; have HB2 := Lib.hid hb2; have HZB := Lib.hid (hb2.alloc hb2.size (.cells #[.string n, .int .i64 k, .int .i64 0, .int .i64 0] 77)); have HZR := Lib.hid (HL.out.below HZB.out); clear hb2)
        | (at_builtin; refine wpList_appE (E := ETr) (xs := l.take 0) rfl (.tmp 54) (.tmp 57) rfl rfl (base := (w2.alloc (.cells #[.string n, .int .i64 k, .int .i64 0, .int .i64 0] 77)).heap.size) rfl (own0_13 w2 _) rfl (by have h := HM.out; simp only [List.length_take]; omega) ((HZR.out.take _).below ((bl (w2.alloc (.cells #[.string n, .int .i64 k, .int .i64 0, .int .i64 0] 77))).alloc (Nat.le_refl _) _)) (by intro h; first | (cases h; done) | rfl) (by have h := HM.out; simp only [List.length_take, List.length_nil]; omega) (by simp) ?_; intro v1 w3 own1 hg1; have HZ3 := Lib.hid (below_grownE (a := (w2.alloc (.cells #[.string n, .int .i64 k, .int .i64 0, .int .i64 0] 77))) ((bl (w2.alloc (.cells #[.string n, .int .i64 k, .int .i64 0, .int .i64 0] 77))).alloc (Nat.le_refl _) (.cells #[] 77)) hg1 (fun r hr => ((own0_13 w2 (.cells #[.string n, .int .i64 k, .int .i64 0, .int .i64 0] 77)).lt r hr).1)); have HO1 := Lib.hid own1; have z2 := keepc HZ3.out (show (w2.alloc (.cells #[.string n, .int .i64 k, .int .i64 0, .int .i64 0] 77)).cell? ⟨w2.heap.size, 2, none⟩ = some (.int .i64 0) by simp [go_sem]); have z3 := keepc HZ3.out (show (w2.alloc (.cells #[.string n, .int .i64 k, .int .i64 0, .int .i64 0] 77)).cell? ⟨w2.heap.size, 3, none⟩ = some (.int .i64 0) by simp [go_sem]); clear own1 hg1)
        | (at_builtin; refine wpList_appE (E := ETr) (xs := l.drop 0) rfl (.tmp 71) (.tmp 72) rfl rfl (base := (w2.alloc (.cells #[.string n, .int .i64 k, .int .i64 0, .int .i64 0] 77)).heap.size) rfl HO1.out rfl (by have h := HM.out; rw [List.length_drop]; omega) (HDR.out _ (chain HZB.out HZ3.out)) (by intro h; first | (cases h; done) | rfl) (by have h := HM.out; simp only [List.length_append, List.length_take, List.length_drop, List.length_nil]; omega) (by have := HZ3.out.size; omega) ?_; intro v5 w5 own5 hg5; have HZ5 := Lib.hid (below_grownE (a := (w2.alloc (.cells #[.string n, .int .i64 k, .int .i64 0, .int .i64 0] 77))) HZ3.out hg5 (fun r hr => (HO1.out.lt r hr).1)); have HO5 := Lib.hid own5; clear own5 hg5))
        go_ret
        exact ⟨_, rfl, ⟨ownE_lower HZB.out.size (by have h := HO5.out; rw [HA.out, HNW.out]; simpa using h), chain HZB.out HZ5.out⟩⟩
      · have HNW := Lib.hid (show newT n k c s = [⟨n, k, c, s⟩] by unfold newT; rw [if_neg (by simpa using hcs)])
        by_cases hc0 : c = 0
        · have hs0 : (s != 0) = true := by simp; exact fun h => hcs ⟨hc0, h⟩
          have hc1 : (c != 0) = false := by simp [hc0]
          clear hcs hc0
          go_enter Try.func34, Try.ntmps34
          go_wp2_with (first
        | (go_at_call 36; (with_reducible refine CP.out.mono ?_); rintro e w2 ⟨rfl, hb2⟩; have HB2 := Lib.hid hb2; have HZB := Lib.hid (hb2.alloc hb2.size (.cells #[.string n, .int .i64 k, .int .i64 c, .int .i64 s] 77)); have HZR := Lib.hid (HL.out.below HZB.out); clear hb2)
        | (at_builtin; refine wpList_appE (E := ETr) (xs := l.take 0) rfl (.tmp 54) (.tmp 57) rfl rfl (base := (w2.alloc (.cells #[.string n, .int .i64 k, .int .i64 c, .int .i64 s] 77)).heap.size) rfl (own0_13 w2 _) rfl (by have h := HM.out; simp only [List.length_take]; omega) ((HZR.out.take _).below ((bl (w2.alloc (.cells #[.string n, .int .i64 k, .int .i64 c, .int .i64 s] 77))).alloc (Nat.le_refl _) _)) (by intro h; first | (cases h; done) | rfl) (by have h := HM.out; simp only [List.length_take, List.length_nil]; omega) (by simp) ?_; intro v1 w3 own1 hg1; have HZ3 := Lib.hid (below_grownE (a := (w2.alloc (.cells #[.string n, .int .i64 k, .int .i64 c, .int .i64 s] 77))) ((bl (w2.alloc (.cells #[.string n, .int .i64 k, .int .i64 c, .int .i64 s] 77))).alloc (Nat.le_refl _) (.cells #[] 77)) hg1 (fun r hr => ((own0_13 w2 (.cells #[.string n, .int .i64 k, .int .i64 c, .int .i64 s] 77)).lt r hr).1)); have HO1 := Lib.hid own1; have z0 := keepc HZ3.out (show (w2.alloc (.cells #[.string n, .int .i64 k, .int .i64 c, .int .i64 s] 77)).cell? ⟨w2.heap.size, 0, none⟩ = some (.string n) by simp [go_sem]); have z1 := keepc HZ3.out (show (w2.alloc (.cells #[.string n, .int .i64 k, .int .i64 c, .int .i64 s] 77)).cell? ⟨w2.heap.size, 1, none⟩ = some (.int .i64 k) by simp [go_sem]); have z2 := keepc HZ3.out (show (w2.alloc (.cells #[.string n, .int .i64 k, .int .i64 c, .int .i64 s] 77)).cell? ⟨w2.heap.size, 2, none⟩ = some (.int .i64 c) by simp [go_sem]); have z3 := keepc HZ3.out (show (w2.alloc (.cells #[.string n, .int .i64 k, .int .i64 c, .int .i64 s] 77)).cell? ⟨w2.heap.size, 3, none⟩ = some (.int .i64 s) by simp [go_sem]); clear own1 hg1)
        | (at_builtin; refine wpList_appE (E := ETr) (xs := [(⟨n, k, c, s⟩ : Tt)]) rfl (.tmp 67) (.tmp 69) rfl rfl (base := (w2.alloc (.cells #[.string n, .int .i64 k, .int .i64 c, .int .i64 s] 77)).heap.size) rfl (World.ownsRow.alloc HO1.out _) rfl rfl (by have hrow := rowE_one (E := ETr) w3 (⟨n, k, c, s⟩ : Tt) #[.string n, .int .i64 k, .int .i64 c, .int .i64 s] rfl 77; first | exact hrow | (simp at hrow ⊢; exact hrow)) (fun h => by cases h) (by have h := HM.out; simp only [List.length_append, List.length_take, List.length_drop, List.length_nil, List.length_cons]; omega) (by have := HZ3.out.size; simp at this ⊢; omega) ?_; intro v4 w4 own4 hg4; have HZ4 := Lib.hid (below_grownE (a := (w2.alloc (.cells #[.string n, .int .i64 k, .int .i64 c, .int .i64 s] 77))) (HZ3.out.alloc HZ3.out.size _) hg4 (fun r hr => (HO1.out.lt r hr).1)); have HO4 := Lib.hid own4; clear own4 hg4)
        | (at_builtin; refine wpList_appE (E := ETr) (xs := l.drop 0) rfl (.tmp 71) (.tmp 72) rfl rfl (base := (w2.alloc (.cells #[.string n, .int .i64 k, .int .i64 c, .int .i64 s] 77)).heap.size) rfl HO4.out rfl (by have h := HM.out; rw [List.length_drop]; omega) (HDR.out _ (chain HZB.out HZ4.out)) (by intro h; first | (cases h; done) | rfl) (by have h := HM.out; simp only [List.length_append, List.length_take, List.length_drop, List.length_nil, List.length_cons]; omega) (by have := HZ4.out.size; omega) ?_; intro v5 w5 own5 hg5; have HZ5 := Lib.hid (below_grownE (a := (w2.alloc (.cells #[.string n, .int .i64 k, .int .i64 c, .int .i64 s] 77))) HZ4.out hg5 (fun r hr => (HO4.out.lt r hr).1)); have HO5 := Lib.hid own5; clear own5 hg5))
          go_ret
          exact ⟨_, rfl, ⟨ownE_lower HZB.out.size (by have h := HO5.out; rw [HA.out, HNW.out]; simpa using h), chain HZB.out HZ5.out⟩⟩
        · have hc1 : (c != 0) = true := by simp [hc0]
          clear hcs hc0
          go_enter Try.func34, Try.ntmps34
          go_wp2_with (first
        | (go_at_call 36; (with_reducible refine CP.out.mono ?_); rintro e w2 ⟨rfl, hb2⟩; have HB2 := Lib.hid hb2; have HZB := Lib.hid (hb2.alloc hb2.size (.cells #[.string n, .int .i64 k, .int .i64 c, .int .i64 s] 77)); have HZR := Lib.hid (HL.out.below HZB.out); clear hb2)
        | (at_builtin; refine wpList_appE (E := ETr) (xs := l.take 0) rfl (.tmp 54) (.tmp 57) rfl rfl (base := (w2.alloc (.cells #[.string n, .int .i64 k, .int .i64 c, .int .i64 s] 77)).heap.size) rfl (own0_13 w2 _) rfl (by have h := HM.out; simp only [List.length_take]; omega) ((HZR.out.take _).below ((bl (w2.alloc (.cells #[.string n, .int .i64 k, .int .i64 c, .int .i64 s] 77))).alloc (Nat.le_refl _) _)) (by intro h; first | (cases h; done) | rfl) (by have h := HM.out; simp only [List.length_take, List.length_nil]; omega) (by simp) ?_; intro v1 w3 own1 hg1; have HZ3 := Lib.hid (below_grownE (a := (w2.alloc (.cells #[.string n, .int .i64 k, .int .i64 c, .int .i64 s] 77))) ((bl (w2.alloc (.cells #[.string n, .int .i64 k, .int .i64 c, .int .i64 s] 77))).alloc (Nat.le_refl _) (.cells #[] 77)) hg1 (fun r hr => ((own0_13 w2 (.cells #[.string n, .int .i64 k, .int .i64 c, .int .i64 s] 77)).lt r hr).1)); have HO1 := Lib.hid own1; have z0 := keepc HZ3.out (show (w2.alloc (.cells #[.string n, .int .i64 k, .int .i64 c, .int .i64 s] 77)).cell? ⟨w2.heap.size, 0, none⟩ = some (.string n) by simp [go_sem]); have z1 := keepc HZ3.out (show (w2.alloc (.cells #[.string n, .int .i64 k, .int .i64 c, .int .i64 s] 77)).cell? ⟨w2.heap.size, 1, none⟩ = some (.int .i64 k) by simp [go_sem]); have z2 := keepc HZ3.out (show (w2.alloc (.cells #[.string n, .int .i64 k, .int .i64 c, .int .i64 s] 77)).cell? ⟨w2.heap.size, 2, none⟩ = some (.int .i64 c) by simp [go_sem]); have z3 := keepc HZ3.out (show (w2.alloc (.cells #[.string n, .int .i64 k, .int .i64 c, .int .i64 s] 77)).cell? ⟨w2.heap.size, 3, none⟩ = some (.int .i64 s) by simp [go_sem]); clear own1 hg1)
        | (at_builtin; refine wpList_appE (E := ETr) (xs := [(⟨n, k, c, s⟩ : Tt)]) rfl (.tmp 67) (.tmp 69) rfl rfl (base := (w2.alloc (.cells #[.string n, .int .i64 k, .int .i64 c, .int .i64 s] 77)).heap.size) rfl (World.ownsRow.alloc HO1.out _) rfl rfl (by have hrow := rowE_one (E := ETr) w3 (⟨n, k, c, s⟩ : Tt) #[.string n, .int .i64 k, .int .i64 c, .int .i64 s] rfl 77; first | exact hrow | (simp at hrow ⊢; exact hrow)) (fun h => by cases h) (by have h := HM.out; simp only [List.length_append, List.length_take, List.length_drop, List.length_nil, List.length_cons]; omega) (by have := HZ3.out.size; simp at this ⊢; omega) ?_; intro v4 w4 own4 hg4; have HZ4 := Lib.hid (below_grownE (a := (w2.alloc (.cells #[.string n, .int .i64 k, .int .i64 c, .int .i64 s] 77))) (HZ3.out.alloc HZ3.out.size _) hg4 (fun r hr => (HO1.out.lt r hr).1)); have HO4 := Lib.hid own4; clear own4 hg4)
        | (at_builtin; refine wpList_appE (E := ETr) (xs := l.drop 0) rfl (.tmp 71) (.tmp 72) rfl rfl (base := (w2.alloc (.cells #[.string n, .int .i64 k, .int .i64 c, .int .i64 s] 77)).heap.size) rfl HO4.out rfl (by have h := HM.out; rw [List.length_drop]; omega) (HDR.out _ (chain HZB.out HZ4.out)) (by intro h; first | (cases h; done) | rfl) (by have h := HM.out; simp only [List.length_append, List.length_take, List.length_drop, List.length_nil, List.length_cons]; omega) (by have := HZ4.out.size; omega) ?_; intro v5 w5 own5 hg5; have HZ5 := Lib.hid (below_grownE (a := (w2.alloc (.cells #[.string n, .int .i64 k, .int .i64 c, .int .i64 s] 77))) HZ4.out hg5 (fun r hr => (HO4.out.lt r hr).1)); have HO5 := Lib.hid own5; clear own5 hg5))
          go_ret
          exact ⟨_, rfl, ⟨ownE_lower HZB.out.size (by have h := HO5.out; rw [HA.out, HNW.out]; simpa using h), chain HZB.out HZ5.out⟩⟩
    · by_cases h1 : cp = p
      · skip
        obtain ⟨ad, rfl⟩ : ∃ ad, A = some ad := by
          cases A with
          | none => exact absurd (hnc rfl) h0
          | some ad => exact ⟨ad, rfl⟩
        clear hnc
        obtain rfl : p = m := by omega
        obtain rfl := h1
        have h2 : ¬ cp = 0 := h0
        have HDR := Lib.hid (show ∀ w', Below w.heap.size w w' → RowE ETr w' (some ad) (l.drop cp) from fun w' h => by rw [List.drop_of_length_le (by have := HM.out; omega)]; exact RowE.nil _ _)
        by_cases hcs : c = 0 ∧ s = 0
        · obtain ⟨rfl, rfl⟩ := hcs
          have HNW := Lib.hid (show newT n k 0 0 = [] from rfl)
          go_enter Try.func34, Try.ntmps34
          go_wp2_with (first
          | (go_at_call 36; (with_reducible refine CP.out.mono ?_); rintro e w2 ⟨rfl, hb2⟩; have HB2 := Lib.hid hb2; have HZB := Lib.hid (hb2.alloc hb2.size (.cells #[.string n, .int .i64 k, .int .i64 0, .int .i64 0] 77)); have HZR := Lib.hid (HL.out.below HZB.out); clear hb2)
          | (at_builtin; refine wpList_appE (E := ETr) (xs := l.take cp) rfl (.tmp 54) (.tmp 57) rfl rfl (base := (w2.alloc (.cells #[.string n, .int .i64 k, .int .i64 0, .int .i64 0] 77)).heap.size) rfl (own0_13 w2 _) rfl (by have h := HM.out; simp only [List.length_take]; omega) ((HZR.out.take _).below ((bl (w2.alloc (.cells #[.string n, .int .i64 k, .int .i64 0, .int .i64 0] 77))).alloc (Nat.le_refl _) _)) (by intro h; first | (cases h; done) | rfl) (by have h := HM.out; simp only [List.length_take, List.length_nil]; omega) (by simp) ?_; intro v1 w3 own1 hg1; have HZ3 := Lib.hid (below_grownE (a := (w2.alloc (.cells #[.string n, .int .i64 k, .int .i64 0, .int .i64 0] 77))) ((bl (w2.alloc (.cells #[.string n, .int .i64 k, .int .i64 0, .int .i64 0] 77))).alloc (Nat.le_refl _) (.cells #[] 77)) hg1 (fun r hr => ((own0_13 w2 (.cells #[.string n, .int .i64 k, .int .i64 0, .int .i64 0] 77)).lt r hr).1)); have HO1 := Lib.hid own1; have z2 := keepc HZ3.out (show (w2.alloc (.cells #[.string n, .int .i64 k, .int .i64 0, .int .i64 0] 77)).cell? ⟨w2.heap.size, 2, none⟩ = some (.int .i64 0) by simp [go_sem]); have z3 := keepc HZ3.out (show (w2.alloc (.cells #[.string n, .int .i64 k, .int .i64 0, .int .i64 0] 77)).cell? ⟨w2.heap.size, 3, none⟩ = some (.int .i64 0) by simp [go_sem]); clear own1 hg1)
          | (at_builtin; refine wpList_appE (E := ETr) (xs := l.drop cp) rfl (.tmp 71) (.tmp 72) rfl rfl (base := (w2.alloc (.cells #[.string n, .int .i64 k, .int .i64 0, .int .i64 0] 77)).heap.size) rfl HO1.out rfl (by have h := HM.out; rw [List.length_drop]; omega) (HDR.out _ (chain HZB.out HZ3.out)) (by intro h; first | (cases h; done) | rfl) (by have h := HM.out; simp only [List.length_append, List.length_take, List.length_drop, List.length_nil]; omega) (by have := HZ3.out.size; omega) ?_; intro v5 w5 own5 hg5; have HZ5 := Lib.hid (below_grownE (a := (w2.alloc (.cells #[.string n, .int .i64 k, .int .i64 0, .int .i64 0] 77))) HZ3.out hg5 (fun r hr => (HO1.out.lt r hr).1)); have HO5 := Lib.hid own5; clear own5 hg5))
          go_ret
          exact ⟨_, rfl, ⟨ownE_lower HZB.out.size (by have h := HO5.out; rw [HA.out, HNW.out]; simpa using h), chain HZB.out HZ5.out⟩⟩
        · have HNW := Lib.hid (show newT n k c s = [⟨n, k, c, s⟩] by unfold newT; rw [if_neg (by simpa using hcs)])
          by_cases hc0 : c = 0
          · have hs0 : (s != 0) = true := by simp; exact fun h => hcs ⟨hc0, h⟩
            have hc1 : (c != 0) = false := by simp [hc0]
            clear hcs hc0
            go_enter Try.func34, Try.ntmps34
            go_wp2_with (first
          | (go_at_call 36; (with_reducible refine CP.out.mono ?_); rintro e w2 ⟨rfl, hb2⟩; have HB2 := Lib.hid hb2; have HZB := Lib.hid (hb2.alloc hb2.size (.cells #[.string n, .int .i64 k, .int .i64 c, .int .i64 s] 77)); have HZR := Lib.hid (HL.out.below HZB.out); clear hb2)
          | (at_builtin; refine wpList_appE (E := ETr) (xs := l.take cp) rfl (.tmp 54) (.tmp 57) rfl rfl (base := (w2.alloc (.cells #[.string n, .int .i64 k, .int .i64 c, .int .i64 s] 77)).heap.size) rfl (own0_13 w2 _) rfl (by have h := HM.out; simp only [List.length_take]; omega) ((HZR.out.take _).below ((bl (w2.alloc (.cells #[.string n, .int .i64 k, .int .i64 c, .int .i64 s] 77))).alloc (Nat.le_refl _) _)) (by intro h; first | (cases h; done) | rfl) (by have h := HM.out; simp only [List.length_take, List.length_nil]; omega) (by simp) ?_; intro v1 w3 own1 hg1; have HZ3 := Lib.hid (below_grownE (a := (w2.alloc (.cells #[.string n, .int .i64 k, .int .i64 c, .int .i64 s] 77))) ((bl (w2.alloc (.cells #[.string n, .int .i64 k, .int .i64 c, .int .i64 s] 77))).alloc (Nat.le_refl _) (.cells #[] 77)) hg1 (fun r hr => ((own0_13 w2 (.cells #[.string n, .int .i64 k, .int .i64 c, .int .i64 s] 77)).lt r hr).1)); have HO1 := Lib.hid own1; have z0 := keepc HZ3.out (show (w2.alloc (.cells #[.string n, .int .i64 k, .int .i64 c, .int .i64 s] 77)).cell? ⟨w2.heap.size, 0, none⟩ = some (.string n) by simp [go_sem]); have z1 := keepc HZ3.out (show (w2.alloc (.cells #[.string n, .int .i64 k, .int .i64 c, .int .i64 s] 77)).cell? ⟨w2.heap.size, 1, none⟩ = some (.int .i64 k) by simp [go_sem]); have z2 := keepc HZ3.out (show (w2.alloc (.cells #[.string n, .int .i64 k, .int .i64 c, .int .i64 s] 77)).cell? ⟨w2.heap.size, 2, none⟩ = some (.int .i64 c) by simp [go_sem]); have z3 := keepc HZ3.out (show (w2.alloc (.cells #[.string n, .int .i64 k, .int .i64 c, .int .i64 s] 77)).cell? ⟨w2.heap.size, 3, none⟩ = some (.int .i64 s) by simp [go_sem]); clear own1 hg1)
          | (at_builtin; refine wpList_appE (E := ETr) (xs := [(⟨n, k, c, s⟩ : Tt)]) rfl (.tmp 67) (.tmp 69) rfl rfl (base := (w2.alloc (.cells #[.string n, .int .i64 k, .int .i64 c, .int .i64 s] 77)).heap.size) rfl (World.ownsRow.alloc HO1.out _) rfl rfl (by have hrow := rowE_one (E := ETr) w3 (⟨n, k, c, s⟩ : Tt) #[.string n, .int .i64 k, .int .i64 c, .int .i64 s] rfl 77; first | exact hrow | (simp at hrow ⊢; exact hrow)) (fun h => by cases h) (by have h := HM.out; simp only [List.length_append, List.length_take, List.length_drop, List.length_nil, List.length_cons]; omega) (by have := HZ3.out.size; simp at this ⊢; omega) ?_; intro v4 w4 own4 hg4; have HZ4 := Lib.hid (below_grownE (a := (w2.alloc (.cells #[.string n, .int .i64 k, .int .i64 c, .int .i64 s] 77))) (HZ3.out.alloc HZ3.out.size _) hg4 (fun r hr => (HO1.out.lt r hr).1)); have HO4 := Lib.hid own4; clear own4 hg4)
          | (at_builtin; refine wpList_appE (E := ETr) (xs := l.drop cp) rfl (.tmp 71) (.tmp 72) rfl rfl (base := (w2.alloc (.cells #[.string n, .int .i64 k, .int .i64 c, .int .i64 s] 77)).heap.size) rfl HO4.out rfl (by have h := HM.out; rw [List.length_drop]; omega) (HDR.out _ (chain HZB.out HZ4.out)) (by intro h; first | (cases h; done) | rfl) (by have h := HM.out; simp only [List.length_append, List.length_take, List.length_drop, List.length_nil, List.length_cons]; omega) (by have := HZ4.out.size; omega) ?_; intro v5 w5 own5 hg5; have HZ5 := Lib.hid (below_grownE (a := (w2.alloc (.cells #[.string n, .int .i64 k, .int .i64 c, .int .i64 s] 77))) HZ4.out hg5 (fun r hr => (HO4.out.lt r hr).1)); have HO5 := Lib.hid own5; clear own5 hg5))
            go_ret
            exact ⟨_, rfl, ⟨ownE_lower HZB.out.size (by have h := HO5.out; rw [HA.out, HNW.out]; simpa using h), chain HZB.out HZ5.out⟩⟩
          · have hc1 : (c != 0) = true := by simp [hc0]
            clear hcs hc0
            go_enter Try.func34, Try.ntmps34
            go_wp2_with (first
          | (go_at_call 36; (with_reducible refine CP.out.mono ?_); rintro e w2 ⟨rfl, hb2⟩; have HB2 := Lib.hid hb2; have HZB := Lib.hid (hb2.alloc hb2.size (.cells #[.string n, .int .i64 k, .int .i64 c, .int .i64 s] 77)); have HZR := Lib.hid (HL.out.below HZB.out); clear hb2)
          | (at_builtin; refine wpList_appE (E := ETr) (xs := l.take cp) rfl (.tmp 54) (.tmp 57) rfl rfl (base := (w2.alloc (.cells #[.string n, .int .i64 k, .int .i64 c, .int .i64 s] 77)).heap.size) rfl (own0_13 w2 _) rfl (by have h := HM.out; simp only [List.length_take]; omega) ((HZR.out.take _).below ((bl (w2.alloc (.cells #[.string n, .int .i64 k, .int .i64 c, .int .i64 s] 77))).alloc (Nat.le_refl _) _)) (by intro h; first | (cases h; done) | rfl) (by have h := HM.out; simp only [List.length_take, List.length_nil]; omega) (by simp) ?_; intro v1 w3 own1 hg1; have HZ3 := Lib.hid (below_grownE (a := (w2.alloc (.cells #[.string n, .int .i64 k, .int .i64 c, .int .i64 s] 77))) ((bl (w2.alloc (.cells #[.string n, .int .i64 k, .int .i64 c, .int .i64 s] 77))).alloc (Nat.le_refl _) (.cells #[] 77)) hg1 (fun r hr => ((own0_13 w2 (.cells #[.string n, .int .i64 k, .int .i64 c, .int .i64 s] 77)).lt r hr).1)); have HO1 := Lib.hid own1; have z0 := keepc HZ3.out (show (w2.alloc (.cells #[.string n, .int .i64 k, .int .i64 c, .int .i64 s] 77)).cell? ⟨w2.heap.size, 0, none⟩ = some (.string n) by simp [go_sem]); have z1 := keepc HZ3.out (show (w2.alloc (.cells #[.string n, .int .i64 k, .int .i64 c, .int .i64 s] 77)).cell? ⟨w2.heap.size, 1, none⟩ = some (.int .i64 k) by simp [go_sem]); have z2 := keepc HZ3.out (show (w2.alloc (.cells #[.string n, .int .i64 k, .int .i64 c, .int .i64 s] 77)).cell? ⟨w2.heap.size, 2, none⟩ = some (.int .i64 c) by simp [go_sem]); have z3 := keepc HZ3.out (show (w2.alloc (.cells #[.string n, .int .i64 k, .int .i64 c, .int .i64 s] 77)).cell? ⟨w2.heap.size, 3, none⟩ = some (.int .i64 s) by simp [go_sem]); clear own1 hg1)
          | (at_builtin; refine wpList_appE (E := ETr) (xs := [(⟨n, k, c, s⟩ : Tt)]) rfl (.tmp 67) (.tmp 69) rfl rfl (base := (w2.alloc (.cells #[.string n, .int .i64 k, .int .i64 c, .int .i64 s] 77)).heap.size) rfl (World.ownsRow.alloc HO1.out _) rfl rfl (by have hrow := rowE_one (E := ETr) w3 (⟨n, k, c, s⟩ : Tt) #[.string n, .int .i64 k, .int .i64 c, .int .i64 s] rfl 77; first | exact hrow | (simp at hrow ⊢; exact hrow)) (fun h => by cases h) (by have h := HM.out; simp only [List.length_append, List.length_take, List.length_drop, List.length_nil, List.length_cons]; omega) (by have := HZ3.out.size; simp at this ⊢; omega) ?_; intro v4 w4 own4 hg4; have HZ4 := Lib.hid (below_grownE (a := (w2.alloc (.cells #[.string n, .int .i64 k, .int .i64 c, .int .i64 s] 77))) (HZ3.out.alloc HZ3.out.size _) hg4 (fun r hr => (HO1.out.lt r hr).1)); have HO4 := Lib.hid own4; clear own4 hg4)
          | (at_builtin; refine wpList_appE (E := ETr) (xs := l.drop cp) rfl (.tmp 71) (.tmp 72) rfl rfl (base := (w2.alloc (.cells #[.string n, .int .i64 k, .int .i64 c, .int .i64 s] 77)).heap.size) rfl HO4.out rfl (by have h := HM.out; rw [List.length_drop]; omega) (HDR.out _ (chain HZB.out HZ4.out)) (by intro h; first | (cases h; done) | rfl) (by have h := HM.out; simp only [List.length_append, List.length_take, List.length_drop, List.length_nil, List.length_cons]; omega) (by have := HZ4.out.size; omega) ?_; intro v5 w5 own5 hg5; have HZ5 := Lib.hid (below_grownE (a := (w2.alloc (.cells #[.string n, .int .i64 k, .int .i64 c, .int .i64 s] 77))) HZ4.out hg5 (fun r hr => (HO4.out.lt r hr).1)); have HO5 := Lib.hid own5; clear own5 hg5))
            go_ret
            exact ⟨_, rfl, ⟨ownE_lower HZB.out.size (by have h := HO5.out; rw [HA.out, HNW.out]; simpa using h), chain HZB.out HZ5.out⟩⟩
      · skip
        obtain ⟨ad, rfl⟩ : ∃ ad, A = some ad := by
          cases A with
          | none => exact absurd (hnc rfl) h0
          | some ad => exact ⟨ad, rfl⟩
        clear hnc
        have HDR := Lib.hid (show ∀ w', Below w.heap.size w w' → RowE ETr w' (some (ad.add (p * 4))) (l.drop p) from fun w' h => rowE_from (HL.out.below h) p)
        by_cases hcs : c = 0 ∧ s = 0
        · obtain ⟨rfl, rfl⟩ := hcs
          have HNW := Lib.hid (show newT n k 0 0 = [] from rfl)
          go_enter Try.func34, Try.ntmps34
          go_wp2_with (first
          | (go_at_call 36; (with_reducible refine CP.out.mono ?_); rintro e w2 ⟨rfl, hb2⟩; have HB2 := Lib.hid hb2; have HZB := Lib.hid (hb2.alloc hb2.size (.cells #[.string n, .int .i64 k, .int .i64 0, .int .i64 0] 77)); have HZR := Lib.hid (HL.out.below HZB.out); clear hb2)
          | (at_builtin; refine wpList_appE (E := ETr) (xs := l.take p) rfl (.tmp 54) (.tmp 57) rfl rfl (base := (w2.alloc (.cells #[.string n, .int .i64 k, .int .i64 0, .int .i64 0] 77)).heap.size) rfl (own0_13 w2 _) rfl (by have h := HM.out; simp only [List.length_take]; omega) ((HZR.out.take _).below ((bl (w2.alloc (.cells #[.string n, .int .i64 k, .int .i64 0, .int .i64 0] 77))).alloc (Nat.le_refl _) _)) (by intro h; first | (cases h; done) | rfl) (by have h := HM.out; simp only [List.length_take, List.length_nil]; omega) (by simp) ?_; intro v1 w3 own1 hg1; have HZ3 := Lib.hid (below_grownE (a := (w2.alloc (.cells #[.string n, .int .i64 k, .int .i64 0, .int .i64 0] 77))) ((bl (w2.alloc (.cells #[.string n, .int .i64 k, .int .i64 0, .int .i64 0] 77))).alloc (Nat.le_refl _) (.cells #[] 77)) hg1 (fun r hr => ((own0_13 w2 (.cells #[.string n, .int .i64 k, .int .i64 0, .int .i64 0] 77)).lt r hr).1)); have HO1 := Lib.hid own1; have z2 := keepc HZ3.out (show (w2.alloc (.cells #[.string n, .int .i64 k, .int .i64 0, .int .i64 0] 77)).cell? ⟨w2.heap.size, 2, none⟩ = some (.int .i64 0) by simp [go_sem]); have z3 := keepc HZ3.out (show (w2.alloc (.cells #[.string n, .int .i64 k, .int .i64 0, .int .i64 0] 77)).cell? ⟨w2.heap.size, 3, none⟩ = some (.int .i64 0) by simp [go_sem]); clear own1 hg1)
          | (at_builtin; refine wpList_appE (E := ETr) (xs := l.drop p) rfl (.tmp 71) (.tmp 72) rfl rfl (base := (w2.alloc (.cells #[.string n, .int .i64 k, .int .i64 0, .int .i64 0] 77)).heap.size) rfl HO1.out rfl (by have h := HM.out; rw [List.length_drop]; omega) (HDR.out _ (chain HZB.out HZ3.out)) (by intro h; first | (cases h; done) | rfl) (by have h := HM.out; simp only [List.length_append, List.length_take, List.length_drop, List.length_nil]; omega) (by have := HZ3.out.size; omega) ?_; intro v5 w5 own5 hg5; have HZ5 := Lib.hid (below_grownE (a := (w2.alloc (.cells #[.string n, .int .i64 k, .int .i64 0, .int .i64 0] 77))) HZ3.out hg5 (fun r hr => (HO1.out.lt r hr).1)); have HO5 := Lib.hid own5; clear own5 hg5))
          go_ret
          exact ⟨_, rfl, ⟨ownE_lower HZB.out.size (by have h := HO5.out; rw [HA.out, HNW.out]; simpa using h), chain HZB.out HZ5.out⟩⟩
        · have HNW := Lib.hid (show newT n k c s = [⟨n, k, c, s⟩] by unfold newT; rw [if_neg (by simpa using hcs)])
          by_cases hc0 : c = 0
          · have hs0 : (s != 0) = true := by simp; exact fun h => hcs ⟨hc0, h⟩
            have hc1 : (c != 0) = false := by simp [hc0]
            clear hcs hc0
            go_enter Try.func34, Try.ntmps34
            go_wp2_with (first
          | (go_at_call 36; (with_reducible refine CP.out.mono ?_); rintro e w2 ⟨rfl, hb2⟩; have HB2 := Lib.hid hb2; have HZB := Lib.hid (hb2.alloc hb2.size (.cells #[.string n, .int .i64 k, .int .i64 c, .int .i64 s] 77)); have HZR := Lib.hid (HL.out.below HZB.out); clear hb2)
          | (at_builtin; refine wpList_appE (E := ETr) (xs := l.take p) rfl (.tmp 54) (.tmp 57) rfl rfl (base := (w2.alloc (.cells #[.string n, .int .i64 k, .int .i64 c, .int .i64 s] 77)).heap.size) rfl (own0_13 w2 _) rfl (by have h := HM.out; simp only [List.length_take]; omega) ((HZR.out.take _).below ((bl (w2.alloc (.cells #[.string n, .int .i64 k, .int .i64 c, .int .i64 s] 77))).alloc (Nat.le_refl _) _)) (by intro h; first | (cases h; done) | rfl) (by have h := HM.out; simp only [List.length_take, List.length_nil]; omega) (by simp) ?_; intro v1 w3 own1 hg1; have HZ3 := Lib.hid (below_grownE (a := (w2.alloc (.cells #[.string n, .int .i64 k, .int .i64 c, .int .i64 s] 77))) ((bl (w2.alloc (.cells #[.string n, .int .i64 k, .int .i64 c, .int .i64 s] 77))).alloc (Nat.le_refl _) (.cells #[] 77)) hg1 (fun r hr => ((own0_13 w2 (.cells #[.string n, .int .i64 k, .int .i64 c, .int .i64 s] 77)).lt r hr).1)); have HO1 := Lib.hid own1; have z0 := keepc HZ3.out (show (w2.alloc (.cells #[.string n, .int .i64 k, .int .i64 c, .int .i64 s] 77)).cell? ⟨w2.heap.size, 0, none⟩ = some (.string n) by simp [go_sem]); have z1 := keepc HZ3.out (show (w2.alloc (.cells #[.string n, .int .i64 k, .int .i64 c, .int .i64 s] 77)).cell? ⟨w2.heap.size, 1, none⟩ = some (.int .i64 k) by simp [go_sem]); have z2 := keepc HZ3.out (show (w2.alloc (.cells #[.string n, .int .i64 k, .int .i64 c, .int .i64 s] 77)).cell? ⟨w2.heap.size, 2, none⟩ = some (.int .i64 c) by simp [go_sem]); have z3 := keepc HZ3.out (show (w2.alloc (.cells #[.string n, .int .i64 k, .int .i64 c, .int .i64 s] 77)).cell? ⟨w2.heap.size, 3, none⟩ = some (.int .i64 s) by simp [go_sem]); clear own1 hg1)
          | (at_builtin; refine wpList_appE (E := ETr) (xs := [(⟨n, k, c, s⟩ : Tt)]) rfl (.tmp 67) (.tmp 69) rfl rfl (base := (w2.alloc (.cells #[.string n, .int .i64 k, .int .i64 c, .int .i64 s] 77)).heap.size) rfl (World.ownsRow.alloc HO1.out _) rfl rfl (by have hrow := rowE_one (E := ETr) w3 (⟨n, k, c, s⟩ : Tt) #[.string n, .int .i64 k, .int .i64 c, .int .i64 s] rfl 77; first | exact hrow | (simp at hrow ⊢; exact hrow)) (fun h => by cases h) (by have h := HM.out; simp only [List.length_append, List.length_take, List.length_drop, List.length_nil, List.length_cons]; omega) (by have := HZ3.out.size; simp at this ⊢; omega) ?_; intro v4 w4 own4 hg4; have HZ4 := Lib.hid (below_grownE (a := (w2.alloc (.cells #[.string n, .int .i64 k, .int .i64 c, .int .i64 s] 77))) (HZ3.out.alloc HZ3.out.size _) hg4 (fun r hr => (HO1.out.lt r hr).1)); have HO4 := Lib.hid own4; clear own4 hg4)
          | (at_builtin; refine wpList_appE (E := ETr) (xs := l.drop p) rfl (.tmp 71) (.tmp 72) rfl rfl (base := (w2.alloc (.cells #[.string n, .int .i64 k, .int .i64 c, .int .i64 s] 77)).heap.size) rfl HO4.out rfl (by have h := HM.out; rw [List.length_drop]; omega) (HDR.out _ (chain HZB.out HZ4.out)) (by intro h; first | (cases h; done) | rfl) (by have h := HM.out; simp only [List.length_append, List.length_take, List.length_drop, List.length_nil, List.length_cons]; omega) (by have := HZ4.out.size; omega) ?_; intro v5 w5 own5 hg5; have HZ5 := Lib.hid (below_grownE (a := (w2.alloc (.cells #[.string n, .int .i64 k, .int .i64 c, .int .i64 s] 77))) HZ4.out hg5 (fun r hr => (HO4.out.lt r hr).1)); have HO5 := Lib.hid own5; clear own5 hg5))
            go_ret
            exact ⟨_, rfl, ⟨ownE_lower HZB.out.size (by have h := HO5.out; rw [HA.out, HNW.out]; simpa using h), chain HZB.out HZ5.out⟩⟩
          · have hc1 : (c != 0) = true := by simp [hc0]
            clear hcs hc0
            go_enter Try.func34, Try.ntmps34
            go_wp2_with (first
          | (go_at_call 36; (with_reducible refine CP.out.mono ?_); rintro e w2 ⟨rfl, hb2⟩; have HB2 := Lib.hid hb2; have HZB := Lib.hid (hb2.alloc hb2.size (.cells #[.string n, .int .i64 k, .int .i64 c, .int .i64 s] 77)); have HZR := Lib.hid (HL.out.below HZB.out); clear hb2)
          | (at_builtin; refine wpList_appE (E := ETr) (xs := l.take p) rfl (.tmp 54) (.tmp 57) rfl rfl (base := (w2.alloc (.cells #[.string n, .int .i64 k, .int .i64 c, .int .i64 s] 77)).heap.size) rfl (own0_13 w2 _) rfl (by have h := HM.out; simp only [List.length_take]; omega) ((HZR.out.take _).below ((bl (w2.alloc (.cells #[.string n, .int .i64 k, .int .i64 c, .int .i64 s] 77))).alloc (Nat.le_refl _) _)) (by intro h; first | (cases h; done) | rfl) (by have h := HM.out; simp only [List.length_take, List.length_nil]; omega) (by simp) ?_; intro v1 w3 own1 hg1; have HZ3 := Lib.hid (below_grownE (a := (w2.alloc (.cells #[.string n, .int .i64 k, .int .i64 c, .int .i64 s] 77))) ((bl (w2.alloc (.cells #[.string n, .int .i64 k, .int .i64 c, .int .i64 s] 77))).alloc (Nat.le_refl _) (.cells #[] 77)) hg1 (fun r hr => ((own0_13 w2 (.cells #[.string n, .int .i64 k, .int .i64 c, .int .i64 s] 77)).lt r hr).1)); have HO1 := Lib.hid own1; have z0 := keepc HZ3.out (show (w2.alloc (.cells #[.string n, .int .i64 k, .int .i64 c, .int .i64 s] 77)).cell? ⟨w2.heap.size, 0, none⟩ = some (.string n) by simp [go_sem]); have z1 := keepc HZ3.out (show (w2.alloc (.cells #[.string n, .int .i64 k, .int .i64 c, .int .i64 s] 77)).cell? ⟨w2.heap.size, 1, none⟩ = some (.int .i64 k) by simp [go_sem]); have z2 := keepc HZ3.out (show (w2.alloc (.cells #[.string n, .int .i64 k, .int .i64 c, .int .i64 s] 77)).cell? ⟨w2.heap.size, 2, none⟩ = some (.int .i64 c) by simp [go_sem]); have z3 := keepc HZ3.out (show (w2.alloc (.cells #[.string n, .int .i64 k, .int .i64 c, .int .i64 s] 77)).cell? ⟨w2.heap.size, 3, none⟩ = some (.int .i64 s) by simp [go_sem]); clear own1 hg1)
          | (at_builtin; refine wpList_appE (E := ETr) (xs := [(⟨n, k, c, s⟩ : Tt)]) rfl (.tmp 67) (.tmp 69) rfl rfl (base := (w2.alloc (.cells #[.string n, .int .i64 k, .int .i64 c, .int .i64 s] 77)).heap.size) rfl (World.ownsRow.alloc HO1.out _) rfl rfl (by have hrow := rowE_one (E := ETr) w3 (⟨n, k, c, s⟩ : Tt) #[.string n, .int .i64 k, .int .i64 c, .int .i64 s] rfl 77; first | exact hrow | (simp at hrow ⊢; exact hrow)) (fun h => by cases h) (by have h := HM.out; simp only [List.length_append, List.length_take, List.length_drop, List.length_nil, List.length_cons]; omega) (by have := HZ3.out.size; simp at this ⊢; omega) ?_; intro v4 w4 own4 hg4; have HZ4 := Lib.hid (below_grownE (a := (w2.alloc (.cells #[.string n, .int .i64 k, .int .i64 c, .int .i64 s] 77))) (HZ3.out.alloc HZ3.out.size _) hg4 (fun r hr => (HO1.out.lt r hr).1)); have HO4 := Lib.hid own4; clear own4 hg4)
          | (at_builtin; refine wpList_appE (E := ETr) (xs := l.drop p) rfl (.tmp 71) (.tmp 72) rfl rfl (base := (w2.alloc (.cells #[.string n, .int .i64 k, .int .i64 c, .int .i64 s] 77)).heap.size) rfl HO4.out rfl (by have h := HM.out; rw [List.length_drop]; omega) (HDR.out _ (chain HZB.out HZ4.out)) (by intro h; first | (cases h; done) | rfl) (by have h := HM.out; simp only [List.length_append, List.length_take, List.length_drop, List.length_nil, List.length_cons]; omega) (by have := HZ4.out.size; omega) ?_; intro v5 w5 own5 hg5; have HZ5 := Lib.hid (below_grownE (a := (w2.alloc (.cells #[.string n, .int .i64 k, .int .i64 c, .int .i64 s] 77))) HZ4.out hg5 (fun r hr => (HO4.out.lt r hr).1)); have HO5 := Lib.hid own5; clear own5 hg5))
            go_ret
            exact ⟨_, rfl, ⟨ownE_lower HZB.out.size (by have h := HO5.out; rw [HA.out, HNW.out]; simpa using h), chain HZB.out HZ5.out⟩⟩
  | true =>
    have hm0 := hm
    rw [hb] at CP
    obtain ⟨t, ht⟩ := isT_some hb
    have HA := Lib.hid (show addT l n k c s = l.take (posT l n k) ++ newT n k (wrap64 (c + t.c)) (wrap64 (s + t.s)) ++ l.drop (posT l n k + 1) by
      unfold addT; rw [getT_at ht hb, if_pos hb])
    have hlt : posT l n k < m := by
      rcases Nat.lt_or_ge (posT l n k) l.length with h | h
      · rw [← hm]; exact h
      · rw [List.getElem?_eq_none h] at ht; cases ht
    obtain ⟨g, off, rfl, _, _, c2, c3⟩ := HL.out.cellsT ht
    generalize posT l n k = p at *
    have hp1 : (p : Int) ≤ (m : Int) := by have := HPL.out; omega
    have hp2 : (p : Int) ≤ (cp : Int) := by have := HPL.out; omega
    have hp3 : (p : Int) < (m : Int) := by omega
    have q1 : wrap64 ((p : Int) + 1) = ((p + 1 : Nat) : Int) := by rw [IntWalk.wrap64_in _ (by omega)]; omega
    have hp5 : ((p + 1 : Nat) : Int) ≤ (m : Int) := by omega
    clear hl hm hb ht hc hs
    have HM := Lib.hid (show l.length = m from hm0)
    have HLA := HL
    have hlt2 : p < m := hlt
    go_enter Try.func34, Try.ntmps34
    go_wp2_with (first | (go_at_call 36; (with_reducible refine CP.out.mono ?_); rintro e w2 ⟨rfl, hb2⟩; have HB2 := Lib.hid hb2; have HZ0 := Lib.hid (fun cs : Array Value => hb2.alloc hb2.size (.cells cs 77)); have d2 := keepc (HZ0.out #[.string n, .int .i64 k, .int .i64 c, .int .i64 s]) c2; have d3 := keepc (HZ0.out #[.string n, .int .i64 k, .int .i64 (wrap64 (c + t.c)), .int .i64 s]) c3; have x2 : (w2.alloc (.cells #[.string n, .int .i64 k, .int .i64 c, .int .i64 s] 77)).cell? ⟨w2.heap.size, 2, none⟩ = some (.int .i64 c) := (by simp [go_sem]); have x3 : (w2.alloc (.cells #[.string n, .int .i64 k, .int .i64 (wrap64 (c + t.c)), .int .i64 s] 77)).cell? ⟨w2.heap.size, 3, none⟩ = some (.int .i64 s) := (by simp [go_sem]); clear hb2))
    go_region
    go_wp2_with fail
    go_region
    refine abstract_then (fun W => Below w.heap.size w W ∧ W.cell? ⟨w2.heap.size, 0, none⟩ = some (.string n) ∧ W.cell? ⟨w2.heap.size, 1, none⟩ = some (.int .i64 k) ∧ W.cell? ⟨w2.heap.size, 2, none⟩ = some (.int .i64 (wrap64 (c + t.c))) ∧ W.cell? ⟨w2.heap.size, 3, none⟩ = some (.int .i64 (wrap64 (s + t.s)))) ⟨by first | exact ((HZ0.out _).drew).drew | exact belowN (HZ0.out _) _ | exact (belowN (HZ0.out _) _).drew, by simp [go_sem], by simp [go_sem], by simp [go_sem], by simp [go_sem]⟩ ?_
    clear d2 d3 x2 x3
    rintro Z ⟨hzb, z0, z1, z2, z3⟩
    have HZB := Lib.hid hzb
    have HZR := Lib.hid (HLA.out.below hzb)
    clear hzb
    generalize (wrap64 (c + t.c)) = c1 at *
    generalize (wrap64 (s + t.s)) = s1 at *
    by_cases h1 : cp = p + 1
    · skip
      have HDR := Lib.hid (show ∀ w', Below w.heap.size w w' → RowE ETr w' (some ⟨g, off, none⟩) (l.drop (p + 1)) from fun w' h => by rw [List.drop_of_length_le (by have := HM.out; omega)]; exact RowE.nil _ _)
      by_cases hcs : c1 = 0 ∧ s1 = 0
      · obtain ⟨rfl, rfl⟩ := hcs
        have HNW := Lib.hid (show newT n k 0 0 = [] from rfl)
        go_wp2_with (first
          | (at_builtin; refine wpList_appE (E := ETr) (xs := l.take p) rfl (.tmp 54) (.tmp 57) rfl rfl (base := Z.heap.size) rfl (own1_13 Z) rfl (by have h := HM.out; simp only [List.length_take]; omega) ((HZR.out.take _).below ((bl Z).alloc (Nat.le_refl _) _)) (by intro h; first | (cases h; done) | rfl) (by have h := HM.out; simp only [List.length_take, List.length_nil]; omega) (by simp) ?_; intro v1 w3 own1 hg1; have HZ3 := Lib.hid (below_grownE (a := Z) ((bl Z).alloc (Nat.le_refl _) (.cells #[] 77)) hg1 (fun r hr => ((own1_13 Z).lt r hr).1)); have HO1 := Lib.hid own1; have y0 := keepc HZ3.out z0; have y1 := keepc HZ3.out z1; have y2 := keepc HZ3.out z2; have y3 := keepc HZ3.out z3; clear own1 hg1)
          | (at_builtin; refine wpList_appE (E := ETr) (xs := l.drop (p + 1)) rfl (.tmp 71) (.tmp 72) rfl rfl (base := Z.heap.size) rfl HO1.out rfl (by have h := HM.out; rw [List.length_drop]; omega) (HDR.out _ (chain HZB.out HZ3.out)) (by intro h; first | (cases h; done) | rfl) (by have h := HM.out; simp only [List.length_append, List.length_take, List.length_drop, List.length_nil, List.length_cons]; omega) (by have := HZ3.out.size; omega) ?_; intro v5 w5 own5 hg5; have HZ5 := Lib.hid (below_grownE (a := Z) HZ3.out hg5 (fun r hr => (HO1.out.lt r hr).1)); have HO5 := Lib.hid own5; clear own5 hg5))
        go_ret
        exact ⟨_, rfl, ⟨ownE_lower HZB.out.size (by have h := HO5.out; rw [HA.out, HNW.out]; simpa using h), chain HZB.out HZ5.out⟩⟩
      · have HNW := Lib.hid (show newT n k c1 s1 = [⟨n, k, c1, s1⟩] by unfold newT; rw [if_neg (by simpa using hcs)])
        by_cases hc0 : c1 = 0
        · have hs0 : (s1 != 0) = true := by simp; exact fun h => hcs ⟨hc0, h⟩
          have hc1 : (c1 != 0) = false := by simp [hc0]
          clear hcs hc0
          go_wp2_with (first
            | (at_builtin; refine wpList_appE (E := ETr) (xs := l.take p) rfl (.tmp 54) (.tmp 57) rfl rfl (base := Z.heap.size) rfl (own1_13 Z) rfl (by have h := HM.out; simp only [List.length_take]; omega) ((HZR.out.take _).below ((bl Z).alloc (Nat.le_refl _) _)) (by intro h; first | (cases h; done) | rfl) (by have h := HM.out; simp only [List.length_take, List.length_nil]; omega) (by simp) ?_; intro v1 w3 own1 hg1; have HZ3 := Lib.hid (below_grownE (a := Z) ((bl Z).alloc (Nat.le_refl _) (.cells #[] 77)) hg1 (fun r hr => ((own1_13 Z).lt r hr).1)); have HO1 := Lib.hid own1; have y0 := keepc HZ3.out z0; have y1 := keepc HZ3.out z1; have y2 := keepc HZ3.out z2; have y3 := keepc HZ3.out z3; clear own1 hg1)
            | (at_builtin; refine wpList_appE (E := ETr) (xs := [(⟨n, k, c1, s1⟩ : Tt)]) rfl (.tmp 67) (.tmp 69) rfl rfl (base := Z.heap.size) rfl (World.ownsRow.alloc HO1.out _) rfl rfl (by have hrow := rowE_one (E := ETr) w3 (⟨n, k, c1, s1⟩ : Tt) #[.string n, .int .i64 k, .int .i64 c1, .int .i64 s1] rfl 77; first | exact hrow | (simp at hrow ⊢; exact hrow)) (fun h => by cases h) (by have h := HM.out; simp only [List.length_append, List.length_take, List.length_drop, List.length_nil, List.length_cons]; omega) (by have := HZ3.out.size; simp at this ⊢; omega) ?_; intro v4 w4 own4 hg4; have HZ4 := Lib.hid (below_grownE (a := Z) (HZ3.out.alloc HZ3.out.size _) hg4 (fun r hr => (HO1.out.lt r hr).1)); have HO4 := Lib.hid own4; clear own4 hg4)
            | (at_builtin; refine wpList_appE (E := ETr) (xs := l.drop (p + 1)) rfl (.tmp 71) (.tmp 72) rfl rfl (base := Z.heap.size) rfl HO4.out rfl (by have h := HM.out; rw [List.length_drop]; omega) (HDR.out _ (chain HZB.out HZ4.out)) (by intro h; first | (cases h; done) | rfl) (by have h := HM.out; simp only [List.length_append, List.length_take, List.length_drop, List.length_nil, List.length_cons]; omega) (by have := HZ4.out.size; omega) ?_; intro v5 w5 own5 hg5; have HZ5 := Lib.hid (below_grownE (a := Z) HZ4.out hg5 (fun r hr => (HO4.out.lt r hr).1)); have HO5 := Lib.hid own5; clear own5 hg5))
          go_ret
          exact ⟨_, rfl, ⟨ownE_lower HZB.out.size (by have h := HO5.out; rw [HA.out, HNW.out]; simpa using h), chain HZB.out HZ5.out⟩⟩
        · have hc1 : (c1 != 0) = true := by simp [hc0]
          clear hcs hc0
          go_wp2_with (first
            | (at_builtin; refine wpList_appE (E := ETr) (xs := l.take p) rfl (.tmp 54) (.tmp 57) rfl rfl (base := Z.heap.size) rfl (own1_13 Z) rfl (by have h := HM.out; simp only [List.length_take]; omega) ((HZR.out.take _).below ((bl Z).alloc (Nat.le_refl _) _)) (by intro h; first | (cases h; done) | rfl) (by have h := HM.out; simp only [List.length_take, List.length_nil]; omega) (by simp) ?_; intro v1 w3 own1 hg1; have HZ3 := Lib.hid (below_grownE (a := Z) ((bl Z).alloc (Nat.le_refl _) (.cells #[] 77)) hg1 (fun r hr => ((own1_13 Z).lt r hr).1)); have HO1 := Lib.hid own1; have y0 := keepc HZ3.out z0; have y1 := keepc HZ3.out z1; have y2 := keepc HZ3.out z2; have y3 := keepc HZ3.out z3; clear own1 hg1)
            | (at_builtin; refine wpList_appE (E := ETr) (xs := [(⟨n, k, c1, s1⟩ : Tt)]) rfl (.tmp 67) (.tmp 69) rfl rfl (base := Z.heap.size) rfl (World.ownsRow.alloc HO1.out _) rfl rfl (by have hrow := rowE_one (E := ETr) w3 (⟨n, k, c1, s1⟩ : Tt) #[.string n, .int .i64 k, .int .i64 c1, .int .i64 s1] rfl 77; first | exact hrow | (simp at hrow ⊢; exact hrow)) (fun h => by cases h) (by have h := HM.out; simp only [List.length_append, List.length_take, List.length_drop, List.length_nil, List.length_cons]; omega) (by have := HZ3.out.size; simp at this ⊢; omega) ?_; intro v4 w4 own4 hg4; have HZ4 := Lib.hid (below_grownE (a := Z) (HZ3.out.alloc HZ3.out.size _) hg4 (fun r hr => (HO1.out.lt r hr).1)); have HO4 := Lib.hid own4; clear own4 hg4)
            | (at_builtin; refine wpList_appE (E := ETr) (xs := l.drop (p + 1)) rfl (.tmp 71) (.tmp 72) rfl rfl (base := Z.heap.size) rfl HO4.out rfl (by have h := HM.out; rw [List.length_drop]; omega) (HDR.out _ (chain HZB.out HZ4.out)) (by intro h; first | (cases h; done) | rfl) (by have h := HM.out; simp only [List.length_append, List.length_take, List.length_drop, List.length_nil, List.length_cons]; omega) (by have := HZ4.out.size; omega) ?_; intro v5 w5 own5 hg5; have HZ5 := Lib.hid (below_grownE (a := Z) HZ4.out hg5 (fun r hr => (HO4.out.lt r hr).1)); have HO5 := Lib.hid own5; clear own5 hg5))
          go_ret
          exact ⟨_, rfl, ⟨ownE_lower HZB.out.size (by have h := HO5.out; rw [HA.out, HNW.out]; simpa using h), chain HZB.out HZ5.out⟩⟩
    · skip
      have HDR := Lib.hid (show ∀ w', Below w.heap.size w w' → RowE ETr w' (some ⟨g, off + (p + 1) * 4, none⟩) (l.drop (p + 1)) from fun w' h => by exact rowE_from (HLA.out.below h) (p + 1))
      by_cases hcs : c1 = 0 ∧ s1 = 0
      · obtain ⟨rfl, rfl⟩ := hcs
        have HNW := Lib.hid (show newT n k 0 0 = [] from rfl)
        go_wp2_with (first
          | (at_builtin; refine wpList_appE (E := ETr) (xs := l.take p) rfl (.tmp 54) (.tmp 57) rfl rfl (base := Z.heap.size) rfl (own1_13 Z) rfl (by have h := HM.out; simp only [List.length_take]; omega) ((HZR.out.take _).below ((bl Z).alloc (Nat.le_refl _) _)) (by intro h; first | (cases h; done) | rfl) (by have h := HM.out; simp only [List.length_take, List.length_nil]; omega) (by simp) ?_; intro v1 w3 own1 hg1; have HZ3 := Lib.hid (below_grownE (a := Z) ((bl Z).alloc (Nat.le_refl _) (.cells #[] 77)) hg1 (fun r hr => ((own1_13 Z).lt r hr).1)); have HO1 := Lib.hid own1; have y0 := keepc HZ3.out z0; have y1 := keepc HZ3.out z1; have y2 := keepc HZ3.out z2; have y3 := keepc HZ3.out z3; clear own1 hg1)
          | (at_builtin; refine wpList_appE (E := ETr) (xs := l.drop (p + 1)) rfl (.tmp 71) (.tmp 72) rfl rfl (base := Z.heap.size) rfl HO1.out rfl (by have h := HM.out; rw [List.length_drop]; omega) (HDR.out _ (chain HZB.out HZ3.out)) (by intro h; first | (cases h; done) | rfl) (by have h := HM.out; simp only [List.length_append, List.length_take, List.length_drop, List.length_nil, List.length_cons]; omega) (by have := HZ3.out.size; omega) ?_; intro v5 w5 own5 hg5; have HZ5 := Lib.hid (below_grownE (a := Z) HZ3.out hg5 (fun r hr => (HO1.out.lt r hr).1)); have HO5 := Lib.hid own5; clear own5 hg5))
        go_ret
        exact ⟨_, rfl, ⟨ownE_lower HZB.out.size (by have h := HO5.out; rw [HA.out, HNW.out]; simpa using h), chain HZB.out HZ5.out⟩⟩
      · have HNW := Lib.hid (show newT n k c1 s1 = [⟨n, k, c1, s1⟩] by unfold newT; rw [if_neg (by simpa using hcs)])
        by_cases hc0 : c1 = 0
        · have hs0 : (s1 != 0) = true := by simp; exact fun h => hcs ⟨hc0, h⟩
          have hc1 : (c1 != 0) = false := by simp [hc0]
          clear hcs hc0
          go_wp2_with (first
            | (at_builtin; refine wpList_appE (E := ETr) (xs := l.take p) rfl (.tmp 54) (.tmp 57) rfl rfl (base := Z.heap.size) rfl (own1_13 Z) rfl (by have h := HM.out; simp only [List.length_take]; omega) ((HZR.out.take _).below ((bl Z).alloc (Nat.le_refl _) _)) (by intro h; first | (cases h; done) | rfl) (by have h := HM.out; simp only [List.length_take, List.length_nil]; omega) (by simp) ?_; intro v1 w3 own1 hg1; have HZ3 := Lib.hid (below_grownE (a := Z) ((bl Z).alloc (Nat.le_refl _) (.cells #[] 77)) hg1 (fun r hr => ((own1_13 Z).lt r hr).1)); have HO1 := Lib.hid own1; have y0 := keepc HZ3.out z0; have y1 := keepc HZ3.out z1; have y2 := keepc HZ3.out z2; have y3 := keepc HZ3.out z3; clear own1 hg1)
            | (at_builtin; refine wpList_appE (E := ETr) (xs := [(⟨n, k, c1, s1⟩ : Tt)]) rfl (.tmp 67) (.tmp 69) rfl rfl (base := Z.heap.size) rfl (World.ownsRow.alloc HO1.out _) rfl rfl (by have hrow := rowE_one (E := ETr) w3 (⟨n, k, c1, s1⟩ : Tt) #[.string n, .int .i64 k, .int .i64 c1, .int .i64 s1] rfl 77; first | exact hrow | (simp at hrow ⊢; exact hrow)) (fun h => by cases h) (by have h := HM.out; simp only [List.length_append, List.length_take, List.length_drop, List.length_nil, List.length_cons]; omega) (by have := HZ3.out.size; simp at this ⊢; omega) ?_; intro v4 w4 own4 hg4; have HZ4 := Lib.hid (below_grownE (a := Z) (HZ3.out.alloc HZ3.out.size _) hg4 (fun r hr => (HO1.out.lt r hr).1)); have HO4 := Lib.hid own4; clear own4 hg4)
            | (at_builtin; refine wpList_appE (E := ETr) (xs := l.drop (p + 1)) rfl (.tmp 71) (.tmp 72) rfl rfl (base := Z.heap.size) rfl HO4.out rfl (by have h := HM.out; rw [List.length_drop]; omega) (HDR.out _ (chain HZB.out HZ4.out)) (by intro h; first | (cases h; done) | rfl) (by have h := HM.out; simp only [List.length_append, List.length_take, List.length_drop, List.length_nil, List.length_cons]; omega) (by have := HZ4.out.size; omega) ?_; intro v5 w5 own5 hg5; have HZ5 := Lib.hid (below_grownE (a := Z) HZ4.out hg5 (fun r hr => (HO4.out.lt r hr).1)); have HO5 := Lib.hid own5; clear own5 hg5))
          go_ret
          exact ⟨_, rfl, ⟨ownE_lower HZB.out.size (by have h := HO5.out; rw [HA.out, HNW.out]; simpa using h), chain HZB.out HZ5.out⟩⟩
        · have hc1 : (c1 != 0) = true := by simp [hc0]
          clear hcs hc0
          go_wp2_with (first
            | (at_builtin; refine wpList_appE (E := ETr) (xs := l.take p) rfl (.tmp 54) (.tmp 57) rfl rfl (base := Z.heap.size) rfl (own1_13 Z) rfl (by have h := HM.out; simp only [List.length_take]; omega) ((HZR.out.take _).below ((bl Z).alloc (Nat.le_refl _) _)) (by intro h; first | (cases h; done) | rfl) (by have h := HM.out; simp only [List.length_take, List.length_nil]; omega) (by simp) ?_; intro v1 w3 own1 hg1; have HZ3 := Lib.hid (below_grownE (a := Z) ((bl Z).alloc (Nat.le_refl _) (.cells #[] 77)) hg1 (fun r hr => ((own1_13 Z).lt r hr).1)); have HO1 := Lib.hid own1; have y0 := keepc HZ3.out z0; have y1 := keepc HZ3.out z1; have y2 := keepc HZ3.out z2; have y3 := keepc HZ3.out z3; clear own1 hg1)
            | (at_builtin; refine wpList_appE (E := ETr) (xs := [(⟨n, k, c1, s1⟩ : Tt)]) rfl (.tmp 67) (.tmp 69) rfl rfl (base := Z.heap.size) rfl (World.ownsRow.alloc HO1.out _) rfl rfl (by have hrow := rowE_one (E := ETr) w3 (⟨n, k, c1, s1⟩ : Tt) #[.string n, .int .i64 k, .int .i64 c1, .int .i64 s1] rfl 77; first | exact hrow | (simp at hrow ⊢; exact hrow)) (fun h => by cases h) (by have h := HM.out; simp only [List.length_append, List.length_take, List.length_drop, List.length_nil, List.length_cons]; omega) (by have := HZ3.out.size; simp at this ⊢; omega) ?_; intro v4 w4 own4 hg4; have HZ4 := Lib.hid (below_grownE (a := Z) (HZ3.out.alloc HZ3.out.size _) hg4 (fun r hr => (HO1.out.lt r hr).1)); have HO4 := Lib.hid own4; clear own4 hg4)
            | (at_builtin; refine wpList_appE (E := ETr) (xs := l.drop (p + 1)) rfl (.tmp 71) (.tmp 72) rfl rfl (base := Z.heap.size) rfl HO4.out rfl (by have h := HM.out; rw [List.length_drop]; omega) (HDR.out _ (chain HZB.out HZ4.out)) (by intro h; first | (cases h; done) | rfl) (by have h := HM.out; simp only [List.length_append, List.length_take, List.length_drop, List.length_nil, List.length_cons]; omega) (by have := HZ4.out.size; omega) ?_; intro v5 w5 own5 hg5; have HZ5 := Lib.hid (below_grownE (a := Z) HZ4.out hg5 (fun r hr => (HO4.out.lt r hr).1)); have HO5 := Lib.hid own5; clear own5 hg5))
          go_ret
          exact ⟨_, rfl, ⟨ownE_lower HZB.out.size (by have h := HO5.out; rw [HA.out, HNW.out]; simpa using h), chain HZB.out HZ5.out⟩⟩
end Go.Proofs.Ytmhddpgeiijhgaa

/-
  The document's Counts and Put of totals.
-/
namespace Go.Proofs.Ytmhddpgeiijhgaa
open Go.RowKit

def countsB (v : Vr) : Bool := !v.gone && rightS v.sf v.se
def putT (l : List Tt) (v : Vr) (x sg : Int) : List Tt := if countsB v = true then v.fs.foldl (fun l f => addT l f.n (floorV v.sf x) sg (wrap64 (sg * f.v))) l else l
set_option maxHeartbeats 1000000 in
theorem dcounts13_any (v : Vr) (w : World) : Ret 33 #[vv v] w (.bool (countsB v)) := by
  obtain ⟨id, st, ent, sf, se, fa, fc, fs, gone⟩ := v
  have CR := Lib.hid (fun w => dright01_any sf se w)
  cases gone with
  | true =>
    have HE := Lib.hid (show countsB ⟨id, st, ent, sf, se, fa, fc, fs, true⟩ = false from rfl)
    go_enter Try.func33, Try.ntmps33
    go_wp2_with fail
    go_ret
    exact ⟨ret_bool HE.out.symm, (bl w).alloc (Nat.le_refl _) _⟩
  | false =>
    have HE := Lib.hid (show countsB ⟨id, st, ent, sf, se, fa, fc, fs, false⟩ = rightS sf se from by simp [countsB])
    generalize rightS sf se = r at *
    go_enter Try.func33, Try.ntmps33
    go_wp2_with (first
      | (go_at_call 31; (with_reducible refine (CR.out _).mono ?_); rintro e w2 ⟨rfl, hb2⟩))
    go_ret
    exact ⟨ret_bool HE.out.symm, chain ((bl w).alloc (Nat.le_refl _) _) hb2⟩

def putsT (l : List Tt) (k sg : Int) (fs : List Fd) : List Tt := fs.foldl (fun l f => addT l f.n k sg (wrap64 (sg * f.v))) l
theorem putsT_next {l : List Tt} {k sg : Int} {fs : List Fd} {j : Nat} {f : Fd} (h : fs[j]? = some f) : putsT l k sg (fs.take (j + 1)) = addT (putsT l k sg (fs.take j)) f.n k sg (wrap64 (sg * f.v)) := by
  unfold putsT
  rw [List.take_add_one, h, Option.toList_some, List.foldl_append]; rfl
theorem addT_len (l : List Tt) (n : ByteArray) (k c s : Int) : (addT l n k c s).length ≤ l.length + 1 := by
  unfold addT newT
  have := posT_le l n k
  split <;> split <;> simp [List.length_append, List.length_take, List.length_drop] <;> omega
theorem putsT_len (l : List Tt) (k sg : Int) : ∀ fs : List Fd, (putsT l k sg fs).length ≤ l.length + fs.length := fun fs => by
  unfold putsT
  induction fs generalizing l with
  | nil => exact Nat.le_refl _
  | cons f fs ih =>
    rw [List.foldl_cons, List.length_cons]
    have h1 := ih (addT l f.n k sg (wrap64 (sg * f.v)))
    have h2 := addT_len l f.n k sg (wrap64 (sg * f.v))
    omega
def Put13Post (l : List Tt) (v : Vr) (x sg : Int) (w : World) (e : Ending) (w' : World) : Prop := ∃ u, e = .returned u ∧ ListE ETr w' u (putT l v x sg) ∧ Below w.heap.size w w'
theorem wrap_wrap (x : Int) : wrap64 (wrap64 x) = wrap64 x := by
  refine IntWalk.wrap64_in _ ?_
  unfold wrap64
  omega
set_option maxHeartbeats 4000000 in
set_option maxRecDepth 10000 in
theorem dput13_any (w : World) (u : Value) (l : List Tt) (v : Vr) (x sg : Int) (hu : ListE ETr w u l) (hv : VF w v) (hn : l.length + v.fs.length ≤ 100000) (hsg : wrap64 sg = sg) :
    Calls Try.prog 22 #[u, vv v, .int .i64 x, .int .i64 sg] w (Put13Post l v x sg w) := by
  have CC := Lib.hid (fun w => dcounts13_any v w)
  have CF := Lib.hid (fun w => dfloor13_any v.sf x w)
  have HU := Lib.hid hu
  have hu0 := hu
  have HV := Lib.hid hv
  have HB1 := Lib.hid (show Below w.heap.size w (w.alloc (ocV v)) from (bl w).alloc (Nat.le_refl _) _)
  obtain ⟨m, hm⟩ : ∃ m, v.fs.length = m := ⟨_, rfl⟩
  have HM := Lib.hid hm
  have HPT := Lib.hid (show putT l v x sg = if countsB v = true then putsT l (floorV v.sf x) sg v.fs else l from rfl)
  generalize floorV v.sf x = k at *
  generalize ((floorE v.sf x : Nat) : Int) = e0 at *
  clear hu hv hm
  obtain ⟨id, st, ent, sf, se, fa, fc, fs, gone⟩ := v
  generalize hcb : countsB _ = b at *
  clear hcb
  have kk : ∀ {w1 : World} {q : Nat} {z : Value}, Below (w.alloc (ocV ⟨id, st, ent, sf, se, fa, fc, fs, gone⟩)).heap.size (w.alloc (ocV ⟨id, st, ent, sf, se, fa, fc, fs, gone⟩)) w1 → (w.alloc (ocV ⟨id, st, ent, sf, se, fa, fc, fs, gone⟩)).cell? ⟨w.heap.size, q, none⟩ = some z → w1.cell? ⟨w.heap.size, q, none⟩ = some z := fun h1 h2 => keepc h1 h2
  obtain ⟨A, cp, rfl, hA, hAc, hAn⟩ := hu0
  cases b with
  | false =>
    go_enter Try.func22, Try.ntmps22
    go_wp2_with (first | (go_at_call 33; (with_reducible refine (CC.out _).mono ?_); rintro e w2 ⟨rfl, hb2⟩; have HB2 := Lib.hid (chain HB1.out hb2); clear hb2))
    go_ret
    exact ⟨_, rfl, by rw [HPT.out, if_neg (by simp)]; exact HU.out.below HB2.out, HB2.out⟩
  | true =>
    have HPT2 := Lib.hid (show putT l ⟨id, st, ent, sf, se, fa, fc, fs, gone⟩ x sg = putsT l k sg fs from by have h := HPT.out; simpa using h)
    go_enter Try.func22, Try.ntmps22
    go_wp2_with (first
      | (go_at_call 33; (with_reducible refine (CC.out _).mono ?_); rintro e w2 ⟨rfl, hb2⟩; have HB2 := Lib.hid hb2; have z3 := kk hb2 (z := .int .i64 sf) (q := 3) (by simp [go_sem]); have z5 := kk hb2 (z := .slice fa fs.length fc) (q := 5) (by simp [go_sem]); clear hb2)
      | (go_at_call 9; (with_reducible refine (CF.out _).mono ?_); rintro e w3 ⟨rfl, rfl⟩))
    go_loopw [0, 11] (fun t i wr => ∃ (j : Nat) (L : List Tt), j ≤ fs.length ∧ i = .int .i64 j ∧ L = putsT l k sg (fs.take j) ∧ ListE ETr wr t L ∧ Below (w.alloc (ocV ⟨id, st, ent, sf, se, fa, fc, fs, gone⟩)).heap.size (w.alloc (ocV ⟨id, st, ent, sf, se, fa, fc, fs, gone⟩)) wr) (fun _ i _ => fs.length - (intOf i).toNat)
    case atStart => exact ⟨0, l, Nat.zero_le _, rfl, rfl, HU.out.below (chain HB1.out HB2.out), HB2.out⟩
    case round =>
      obtain ⟨j, L, hj, rfl, hL, hlst, hB⟩ := hrel
      have HLS := Lib.hid hlst
      have HB := Lib.hid hB
      have HLE := Lib.hid hL
      have x5 := kk hB (z := .slice fa fs.length fc) (q := 5) (by simp [go_sem])
      clear hL hB
      by_cases hlt : j < fs.length
      · have hlt2 : (j : Int) < (fs.length : Int) := by omega
        obtain ⟨f, hf⟩ : ∃ f, fs[j]? = some f := ⟨_, List.getElem?_eq_getElem hlt⟩
        have HNX := Lib.hid (putsT_next (l := l) (k := k) (sg := sg) hf)
        have hlen : L.length ≤ 100000 := by
          have := putsT_len l k sg (fs.take j)
          rw [← HLE.out, List.length_take] at this
          have h2 : l.length + fs.length ≤ 100000 := hn
          omega
        obtain ⟨A2, cp2, rfl, r2, h2c, h2n⟩ := hlst
        obtain ⟨g, off, hfa, c0, c1⟩ := (HV.out.1.below (chain HB1.out HB.out)) j f hf
        have hfa2 : fa = some ⟨g, off, none⟩ := hfa
        clear hfa
        subst hfa2
        have hw : wrap64 (sg * f.v) = IntKind.i64.wrap (sg * f.v) := by unfold wrap64; rw [IntKind.wrap_i64]
        have CA := Lib.hid (show ∀ w', Below wr.heap.size wr w' → Calls Try.prog 34 #[.slice A2 L.length cp2, .string f.n, .int .i64 k, .int .i64 sg, .int .i64 (IntKind.i64.wrap (sg * f.v))] w' (Add13Post L f.n k sg (wrap64 (sg * f.v)) w') from fun w' h => by
          rw [← hw]; exact dadd13_any w' A2 cp2 L f.n k sg (wrap64 (sg * f.v)) (r2.below h) hlen h2c h2n hsg (wrap_wrap _))
        clear hw
        clear hf r2 h2c h2n hlen
        go_wp2_with fail
        go_region_with (go_at_call 34; (with_reducible refine (CA.out _ ((bl wr).drew)).mono ?_); rintro e w4 ⟨u4, rfl, ho4⟩; have HO4 := Lib.hid ho4; clear ho4)
        all_goals go_wp2_with fail
        all_goals exact ⟨⟨j + 1, _, by omega, by go_num, by rw [HNX.out, ← HLE.out], HO4.out.list, chain HB.out (chain ((bl wr).drew) HO4.out.bel)⟩, by simp [intOf] <;> omega⟩
      · obtain rfl : j = fs.length := by omega
        have hlt2 : ¬ (fs.length : Int) < (fs.length : Int) := by omega
        go_wp2_with fail
        go_ret
        exact ⟨_, rfl, by have h := HLE.out; rw [List.take_length] at h; rw [HPT2.out, ← h]; exact HLS.out, chain HB1.out HB.out⟩
end Go.Proofs.Ytmhddpgeiijhgaa

/-
  Totals as a sorted list: plain facts of what is added and what is got; the order in which one adds does not matter.
-/
namespace Go.Proofs.Ytmhddpgeiijhgaa
open Go.RowKit

/-- Does a name and a bucket stand ahead of another name and bucket? -/
def ltK (a : ByteArray) (i : Int) (b : ByteArray) (j : Int) : Prop := lessN (nats a) (nats b) = true ∨ (a = b ∧ i < j)
theorem ltK_irrefl {a : ByteArray} {i : Int} (h : ltK a i a i) : False := by
  rcases h with h | ⟨_, h⟩
  · rw [lessN_self] at h; cases h
  · omega
theorem ltK_trans {a b c : ByteArray} {i j k : Int} (h1 : ltK a i b j) (h2 : ltK b j c k) : ltK a i c k := by
  rcases h1 with h1 | ⟨rfl, h1⟩
  · rcases h2 with h2 | ⟨rfl, _⟩
    · exact .inl (lessN_trans _ _ _ h1 h2)
    · exact .inl h1
  · rcases h2 with h2 | ⟨rfl, h2⟩
    · exact .inl h2
    · exact .inr ⟨rfl, by omega⟩
theorem ltK_or (a b : ByteArray) (i j : Int) : ltK a i b j ∨ ltK b j a i ∨ (a = b ∧ i = j) := by
  rcases lessN_or (nats a) (nats b) with h | h | h
  · exact .inl (.inl h)
  · exact .inr (.inl (.inl h))
  · have e := nats_inj h
    rcases Int.lt_trichotomy i j with h | h | h
    · exact .inl (.inr ⟨e, h⟩)
    · exact .inr (.inr ⟨e, h⟩)
    · exact .inr (.inl (.inr ⟨e.symm, h⟩))
theorem sameN_iff {a b : ByteArray} : sameN a b = true ↔ a = b := by
  unfold sameN
  rw [beq_iff_eq, bytes_is]
  exact ⟨nats_inj, fun h => by rw [h]⟩
theorem isAt_iff {t : Tt} {n : ByteArray} {k : Int} : isAt t n k = true ↔ t.n = n ∧ t.k = k := by
  unfold isAt
  rw [Bool.and_eq_true, sameN_iff, beq_iff_eq]
theorem ltT_iff {t : Tt} {n : ByteArray} {k : Int} : ltT t n k = true ↔ ltK t.n t.k n k := by
  unfold ltT ltK
  rw [Bool.or_eq_true, Bool.and_eq_true, sameN_iff, decide_eq_true_eq]
  exact Iff.rfl
/-- Sorted, each name and bucket once, none without anything. -/
structure WfT (L : List Tt) : Prop where
  up : L.Pairwise (fun a b => ltK a.n a.k b.n b.k)
  no0 : ∀ t ∈ L, ¬ (t.c = 0 ∧ t.s = 0)
  wrap : ∀ t ∈ L, wrap64 t.c = t.c ∧ wrap64 t.s = t.s
theorem WfT.nil : WfT [] := ⟨List.Pairwise.nil, fun t h => by simp at h, fun t h => by simp at h⟩

theorem splitT : ∀ (L : List Tt) (n : ByteArray) (k : Int), L.Pairwise (fun a b => ltK a.n a.k b.n b.k) → ∃ A M B, L = A ++ (M ++ B) ∧ L.take (posT L n k) = A ∧ L.drop (if isT L n k = true then posT L n k + 1 else posT L n k) = B ∧
    (∀ t ∈ A, ltK t.n t.k n k) ∧ (∀ t ∈ B, ltK n k t.n t.k) ∧ ((M = [] ∧ getT L n k = (0, 0)) ∨ ∃ t, M = [t] ∧ t.n = n ∧ t.k = k ∧ getT L n k = (t.c, t.s))
  | [], n, k, _ => ⟨[], [], [], rfl, by simp, by simp, fun t h => by simp at h, fun t h => by simp at h, .inl ⟨rfl, getT_none (isT_end (by simp [posT]))⟩⟩
  | x :: l, n, k, h => by
    obtain ⟨h1, h2⟩ := List.pairwise_cons.1 h
    by_cases hx : ltT x n k = true
    · have hp : posT (x :: l) n k = posT l n k + 1 := by rw [posT, if_pos hx]
      have hi : isT (x :: l) n k = isT l n k := by unfold isT; rw [hp, List.getElem?_cons_succ]
      have hg : getT (x :: l) n k = getT l n k := by unfold getT; rw [hi, hp, List.getElem?_cons_succ]
      obtain ⟨A, M, B, e, eA, eB, hA, hB, hM⟩ := splitT l n k h2
      refine ⟨x :: A, M, B, by rw [List.cons_append, ← e], by rw [hp, List.take_succ_cons, eA], ?_, fun t ht => ?_, hB, ?_⟩
      · rw [hi, hp, ← eB]
        split
        · rw [List.drop_succ_cons]
        · rw [List.drop_succ_cons]
      · rcases List.mem_cons.1 ht with rfl | ht
        · exact ltT_iff.1 hx
        · exact hA t ht
      · rw [hg]; exact hM
    · have hp : posT (x :: l) n k = 0 := by rw [posT, if_neg hx]
      have hx0 : (x :: l)[posT (x :: l) n k]? = some x := by rw [hp]; rfl
      have hi := isT_at hx0
      by_cases hs : isAt x n k = true
      · rw [hs] at hi
        have hs2 := isAt_iff.1 hs
        refine ⟨[], [x], l, rfl, by rw [hp]; rfl, by rw [hi, hp]; rfl, fun t h => by simp at h, fun t ht => ?_, .inr ⟨x, rfl, hs2.1, hs2.2, getT_at hx0 hi⟩⟩
        rw [← hs2.1, ← hs2.2]
        exact h1 t ht
      · have hs' : isAt x n k = false := by simpa using hs
        rw [hs'] at hi
        have hgt : ltK n k x.n x.k := by
          rcases ltK_or x.n n x.k k with h' | h' | h'
          · exact absurd (ltT_iff.2 h') hx
          · exact h'
          · exact absurd (isAt_iff.2 h') hs
        refine ⟨[], [], x :: l, rfl, by rw [hp]; rfl, by rw [hi, hp]; rfl, fun t h => by simp at h, fun t ht => ?_, .inl ⟨rfl, getT_none hi⟩⟩
        rcases List.mem_cons.1 ht with rfl | ht
        · exact hgt
        · exact ltK_trans hgt (h1 t ht)
theorem getT_mem {L : List Tt} (h : WfT L) {t : Tt} (ht : t ∈ L) : getT L t.n t.k = (t.c, t.s) := by
  obtain ⟨A, M, B, e, _, _, hA, hB, hM⟩ := splitT L t.n t.k h.up
  rw [e] at ht
  rcases List.mem_append.1 ht with ht | ht
  · exact (ltK_irrefl (hA t ht)).elim
  · rcases List.mem_append.1 ht with ht | ht
    · rcases hM with ⟨rfl, _⟩ | ⟨t', rfl, _, _, hg⟩
      · simp at ht
      · obtain rfl : t = t' := by simpa using ht
        exact hg
    · exact (ltK_irrefl (hB t ht)).elim
theorem getT_no {L : List Tt} (h : WfT L) {n : ByteArray} {k : Int} (hno : ∀ t ∈ L, ¬ (t.n = n ∧ t.k = k)) : getT L n k = (0, 0) := by
  obtain ⟨A, M, B, e, _, _, _, _, hM⟩ := splitT L n k h.up
  rcases hM with ⟨_, hg⟩ | ⟨t, rfl, h1, h2, _⟩
  · exact hg
  · exact absurd ⟨h1, h2⟩ (hno t (by rw [e]; simp))
theorem getT_some {L : List Tt} (h : WfT L) {n : ByteArray} {k : Int} (h0 : getT L n k ≠ (0, 0)) : ∃ t ∈ L, t.n = n ∧ t.k = k ∧ getT L n k = (t.c, t.s) := by
  obtain ⟨A, M, B, e, _, _, _, _, hM⟩ := splitT L n k h.up
  rcases hM with ⟨_, hg⟩ | ⟨t, rfl, h1, h2, hg⟩
  · exact absurd hg h0
  · exact ⟨t, by rw [e]; simp, h1, h2, hg⟩
theorem wrap_0 : wrap64 0 = 0 := IntWalk.wrap64_in _ (by decide)
theorem getT_wrap {L : List Tt} (h : WfT L) (n : ByteArray) (k : Int) : wrap64 (getT L n k).1 = (getT L n k).1 ∧ wrap64 (getT L n k).2 = (getT L n k).2 := by
  by_cases h0 : getT L n k = (0, 0)
  · rw [h0]; exact ⟨wrap_0, wrap_0⟩
  · obtain ⟨t, ht, _, _, hg⟩ := getT_some h h0
    rw [hg]; exact h.wrap t ht
/-- Of a list without anything, nothing is got; and the other way round. -/
theorem wfT_empty {L : List Tt} (h : WfT L) (h0 : ∀ n k, getT L n k = (0, 0)) : L = [] := by
  rcases L with _ | ⟨t, l⟩
  · rfl
  · exfalso
    have h1 := getT_mem h (t := t) (by simp)
    rw [h0] at h1
    injection h1 with h1 h2
    exact h.no0 t (by simp) ⟨h1.symm, h2.symm⟩
theorem newT_mem {n : ByteArray} {k c s : Int} {t : Tt} : t ∈ newT n k c s ↔ t = ⟨n, k, c, s⟩ ∧ ¬ (c = 0 ∧ s = 0) := by
  unfold newT
  split
  · rename_i h
    simp only [Bool.and_eq_true, beq_iff_eq] at h
    simp [h]
  · rename_i h
    simp only [Bool.and_eq_true, beq_iff_eq] at h
    simp [h]
theorem newT_short (n : ByteArray) (k c s : Int) : newT n k c s = [] ∨ newT n k c s = [⟨n, k, c, s⟩] := by
  unfold newT
  split
  · exact .inl rfl
  · exact .inr rfl
theorem mem_addT {L : List Tt} (h : WfT L) (n : ByteArray) (k c s : Int) (t : Tt) : t ∈ addT L n k c s ↔ (t ∈ L ∧ ¬ (t.n = n ∧ t.k = k)) ∨ t ∈ newT n k (wrap64 (c + (getT L n k).1)) (wrap64 (s + (getT L n k).2)) := by
  obtain ⟨A, M, B, e, eA, eB, hA, hB, hM⟩ := splitT L n k h.up
  unfold addT
  rw [eA, eB, List.mem_append, List.mem_append]
  have kA : ∀ t ∈ A, ¬ (t.n = n ∧ t.k = k) := fun t ht ⟨e1, e2⟩ => by
    have := hA t ht
    rw [e1, e2] at this
    exact ltK_irrefl this
  have kB : ∀ t ∈ B, ¬ (t.n = n ∧ t.k = k) := fun t ht ⟨e1, e2⟩ => by
    have := hB t ht
    rw [e1, e2] at this
    exact ltK_irrefl this
  constructor
  · rintro ((ht | ht) | ht)
    · exact .inl ⟨by rw [e]; simp [ht], kA t ht⟩
    · exact .inr ht
    · exact .inl ⟨by rw [e]; simp [ht], kB t ht⟩
  · rintro (⟨ht, hne⟩ | ht)
    · rw [e] at ht
      rcases List.mem_append.1 ht with ht | ht
      · exact .inl (.inl ht)
      · rcases List.mem_append.1 ht with ht | ht
        · rcases hM with ⟨rfl, _⟩ | ⟨t', rfl, h1, h2, _⟩
          · simp at ht
          · obtain rfl : t = t' := by simpa using ht
            exact absurd ⟨h1, h2⟩ hne
        · exact .inr ht
    · exact .inl (.inr ht)
theorem wfT_addT {L : List Tt} (h : WfT L) (n : ByteArray) (k c s : Int) : WfT (addT L n k c s) := by
  refine ⟨?_, fun t ht => ?_, fun t ht => ?_⟩
  · obtain ⟨A, M, B, e, eA, eB, hA, hB, _⟩ := splitT L n k h.up
    have hu := h.up
    rw [e] at hu
    obtain ⟨uA, uMB, uX⟩ := List.pairwise_append.1 hu
    obtain ⟨_, uB, _⟩ := List.pairwise_append.1 uMB
    unfold addT
    rw [eA, eB, List.append_assoc]
    refine List.pairwise_append.2 ⟨uA, List.pairwise_append.2 ⟨?_, uB, fun a ha b hb => ?_⟩, fun a ha b hb => ?_⟩
    · rcases newT_short n k (wrap64 (c + (getT L n k).1)) (wrap64 (s + (getT L n k).2)) with e | e
      · rw [e]; exact List.Pairwise.nil
      · rw [e]; simp
    · obtain ⟨rfl, _⟩ := newT_mem.1 ha
      exact hB b hb
    · rcases List.mem_append.1 hb with hb | hb
      · obtain ⟨rfl, _⟩ := newT_mem.1 hb
        exact hA a ha
      · exact uX a ha b (List.mem_append_right _ hb)
  · rcases (mem_addT h n k c s t).1 ht with ⟨h1, _⟩ | h1
    · exact h.no0 t h1
    · obtain ⟨rfl, h2⟩ := newT_mem.1 h1
      exact h2
  · rcases (mem_addT h n k c s t).1 ht with ⟨h1, _⟩ | h1
    · exact h.wrap t h1
    · obtain ⟨rfl, _⟩ := newT_mem.1 h1
      exact ⟨wrap_wrap _, wrap_wrap _⟩
theorem getT_addT_same {L : List Tt} (h : WfT L) (n : ByteArray) (k c s : Int) : getT (addT L n k c s) n k = (wrap64 (c + (getT L n k).1), wrap64 (s + (getT L n k).2)) := by
  have hw := wfT_addT h n k c s
  by_cases h0 : wrap64 (c + (getT L n k).1) = 0 ∧ wrap64 (s + (getT L n k).2) = 0
  · rw [h0.1, h0.2]
    refine getT_no hw fun t ht => ?_
    rcases (mem_addT h n k c s t).1 ht with ⟨_, h1⟩ | h1
    · exact h1
    · exact absurd h0 (newT_mem.1 h1).2
  · exact getT_mem hw (t := ⟨n, k, wrap64 (c + (getT L n k).1), wrap64 (s + (getT L n k).2)⟩) ((mem_addT h n k c s _).2 (.inr (newT_mem.2 ⟨rfl, h0⟩)))
theorem getT_addT_other {L : List Tt} (h : WfT L) (n : ByteArray) (k c s : Int) {n' : ByteArray} {k' : Int} (hne : ¬ (n' = n ∧ k' = k)) : getT (addT L n k c s) n' k' = getT L n' k' := by
  have hw := wfT_addT h n k c s
  by_cases h0 : getT L n' k' = (0, 0)
  · rw [h0]
    refine getT_no hw fun t ht => ?_
    rcases (mem_addT h n k c s t).1 ht with ⟨h1, _⟩ | h1
    · rintro ⟨rfl, rfl⟩
      have := getT_mem h h1
      rw [h0] at this
      injection this with e1 e2
      exact h.no0 t h1 ⟨e1.symm, e2.symm⟩
    · obtain ⟨rfl, _⟩ := newT_mem.1 h1
      exact fun ⟨e1, e2⟩ => hne ⟨e1.symm, e2.symm⟩
  · obtain ⟨t, ht, rfl, rfl, hg⟩ := getT_some h h0
    rw [hg]
    exact getT_mem hw ((mem_addT h n k c s t).2 (.inl ⟨ht, hne⟩))
/-- Two rising lists with the same members are one list. -/
theorem eq_of_memT : ∀ {l m : List Tt}, l.Pairwise (fun a b => ltK a.n a.k b.n b.k) → m.Pairwise (fun a b => ltK a.n a.k b.n b.k) → (∀ p, p ∈ l ↔ p ∈ m) → l = m
  | [], [], _, _, _ => rfl
  | [], b :: s, _, _, h => by have := (h b).2 (by simp); simp at this
  | a :: r, [], _, _, h => by have := (h a).1 (by simp); simp at this
  | a :: r, b :: s, h1, h2, h => by
    obtain ⟨a1, a2⟩ := List.pairwise_cons.1 h1
    obtain ⟨b1, b2⟩ := List.pairwise_cons.1 h2
    have hab : a = b := by
      rcases List.mem_cons.1 ((h a).1 (by simp)) with e | ha
      · exact e
      · rcases List.mem_cons.1 ((h b).2 (by simp)) with e | hb
        · exact e.symm
        · exact (ltK_irrefl (ltK_trans (a1 b hb) (b1 a ha))).elim
    subst hab
    rw [eq_of_memT a2 b2 (fun p => ⟨fun hp => by
      rcases List.mem_cons.1 ((h p).1 (by simp [hp])) with e | hp'
      · have := a1 p hp
        rw [e] at this
        exact (ltK_irrefl this).elim
      · exact hp', fun hp => by
      rcases List.mem_cons.1 ((h p).2 (by simp [hp])) with e | hp'
      · have := b1 p hp
        rw [e] at this
        exact (ltK_irrefl this).elim
      · exact hp'⟩)]
/-- What has come of a sorted list in whatever order, and was sorted, is the list. -/
theorem sorted_is {L acc m : List Tt} (h : WfT L) (hn : acc.Nodup) (hmem : ∀ t, t ∈ acc ↔ t ∈ L) (hp : acc.Perm m) (hs : m.Pairwise (fun a b => ¬ ltK b.n b.k a.n a.k)) : m = L := by
  have hmL : ∀ t, t ∈ m ↔ t ∈ L := fun t => (hp.mem_iff).symm.trans (hmem t)
  refine eq_of_memT ?_ h.up hmL
  have hnm : m.Nodup := (hp.nodup_iff).1 hn
  have h2 : m.Pairwise (fun a b => ¬ ltK b.n b.k a.n a.k ∧ a ≠ b) := hs.and hnm
  refine h2.imp_of_mem fun {a b} ha hb hab => ?_
  rcases ltK_or a.n b.n a.k b.k with h' | h' | h'
  · exact h'
  · exact absurd h' hab.1
  · exfalso
    have g1 := getT_mem h ((hmL a).1 ha)
    have g2 := getT_mem h ((hmL b).1 hb)
    rw [h'.1, h'.2, g2] at g1
    injection g1 with e1 e2
    obtain ⟨an, ak, ac, as'⟩ := a
    obtain ⟨bn, bk, bc, bs'⟩ := b
    obtain ⟨e3, e4⟩ := h'
    simp only at e1 e2 e3 e4
    subst e1 e2 e3 e4
    exact hab.2 rfl

/-! ### Much that is added: sums -/
def addsT (L l : List Tt) : List Tt := l.foldl (fun L o => addT L o.n o.k o.c o.s) L
def sumT : List Tt → ByteArray → Int → Int × Int
  | [], _, _ => (0, 0)
  | o :: l, n, k => if isAt o n k = true then (o.c + (sumT l n k).1, o.s + (sumT l n k).2) else sumT l n k
theorem wfT_addsT : ∀ {l L : List Tt}, WfT L → WfT (addsT L l)
  | [], _, h => h
  | o :: l, _, h => wfT_addsT (l := l) (wfT_addT h o.n o.k o.c o.s)
theorem wrap_add_left (a b : Int) : wrap64 (wrap64 a + b) = wrap64 (a + b) := by unfold wrap64; omega
theorem wrap_add_right (a b : Int) : wrap64 (a + wrap64 b) = wrap64 (a + b) := by unfold wrap64; omega
theorem getT_addsT : ∀ (l : List Tt) {L : List Tt} (_ : WfT L) (n : ByteArray) (k : Int), getT (addsT L l) n k = (wrap64 ((getT L n k).1 + (sumT l n k).1), wrap64 ((getT L n k).2 + (sumT l n k).2))
  | [], L, h, n, k => by
    obtain ⟨h1, h2⟩ := getT_wrap h n k
    show getT L n k = (wrap64 ((getT L n k).1 + 0), wrap64 ((getT L n k).2 + 0))
    rw [Int.add_zero, Int.add_zero, h1, h2]
  | o :: l, L, h, n, k => by
    have ih := getT_addsT l (wfT_addT h o.n o.k o.c o.s) n k
    show getT (addsT (addT L o.n o.k o.c o.s) l) n k = _
    rw [ih, sumT]
    by_cases ha : isAt o n k = true
    · obtain ⟨rfl, rfl⟩ := isAt_iff.1 ha
      rw [getT_addT_same h, if_pos ha]
      simp only
      rw [wrap_add_left, wrap_add_left]
      rw [show o.c + (getT L o.n o.k).1 + (sumT l o.n o.k).1 = (getT L o.n o.k).1 + (o.c + (sumT l o.n o.k).1) by omega, show o.s + (getT L o.n o.k).2 + (sumT l o.n o.k).2 = (getT L o.n o.k).2 + (o.s + (sumT l o.n o.k).2) by omega]
    · rw [getT_addT_other h o.n o.k o.c o.s (fun e => ha (isAt_iff.2 ⟨e.1.symm, e.2.symm⟩)), if_neg ha]
theorem sumT_append : ∀ (l m : List Tt) (n : ByteArray) (k : Int), sumT (l ++ m) n k = ((sumT l n k).1 + (sumT m n k).1, (sumT l n k).2 + (sumT m n k).2)
  | [], m, n, k => by simp [sumT]
  | o :: l, m, n, k => by
    rw [List.cons_append, sumT, sumT, sumT_append l m n k]
    split
    · simp only [Int.add_assoc]
    · rfl
def negT (t : Tt) : Tt := ⟨t.n, t.k, -t.c, -t.s⟩
theorem sumT_neg : ∀ (l : List Tt) (n : ByteArray) (k : Int), sumT (l.map negT) n k = (-(sumT l n k).1, -(sumT l n k).2)
  | [], n, k => by simp [sumT]
  | o :: l, n, k => by
    rw [List.map_cons, sumT, sumT, sumT_neg l n k]
    have e : isAt (negT o) n k = isAt o n k := rfl
    rw [e]
    split
    · simp only [negT, Int.neg_add]
    · rfl
/-- What a version adds. -/
def opsV (x sg : Int) (v : Vr) : List Tt := if countsB v = true then v.fs.map (fun f => ⟨f.n, floorV v.sf x, sg, sg * f.v⟩) else []
theorem addT_wrap (L : List Tt) (n : ByteArray) (k c s : Int) : addT L n k c (wrap64 s) = addT L n k c s := by
  unfold addT
  rw [wrap_add_left]
theorem putT_ops (L : List Tt) (v : Vr) (x sg : Int) : putT L v x sg = addsT L (opsV x sg v) := by
  unfold putT opsV addsT
  split
  · rw [List.foldl_map]
    congr 1
    funext L f
    exact addT_wrap L f.n _ sg _
  · rfl
def putVs (L : List Tt) (l : List Vr) (x sg : Int) : List Tt := l.foldl (fun L v => putT L v x sg) L
theorem addsT_append (L l m : List Tt) : addsT L (l ++ m) = addsT (addsT L l) m := List.foldl_append
theorem putVs_ops : ∀ (l : List Vr) (L : List Tt) (x sg : Int), putVs L l x sg = addsT L (l.flatMap (opsV x sg))
  | [], _, _, _ => rfl
  | v :: l, L, x, sg => by
    rw [List.flatMap_cons, addsT_append, ← putT_ops]
    exact putVs_ops l _ x sg
theorem opsV_neg (x : Int) (v : Vr) : opsV x (-1) v = (opsV x 1 v).map negT := by
  unfold opsV
  split
  · rw [List.map_map]
    refine List.map_congr_left fun f _ => ?_
    simp [negT]
  · rfl
theorem ops_neg (x : Int) : ∀ l : List Vr, l.flatMap (opsV x (-1)) = (l.flatMap (opsV x 1)).map negT
  | [] => rfl
  | v :: l => by rw [List.flatMap_cons, List.flatMap_cons, List.map_append, opsV_neg, ops_neg x l]
theorem wfT_putVs {L : List Tt} (h : WfT L) (l : List Vr) (x sg : Int) : WfT (putVs L l x sg) := by
  rw [putVs_ops]; exact wfT_addsT h
/-- When all that was put is dropped, in another order, nothing is there. -/
theorem back_none (l : List Vr) (x : Int) (k : Nat) : putVs (putVs (putVs [] l x 1) (l.drop k) x (-1)) (l.take k) x (-1) = [] := by
  refine wfT_empty (wfT_putVs (wfT_putVs (wfT_putVs WfT.nil _ _ _) _ _ _) _ _ _) fun n j => ?_
  rw [putVs_ops, putVs_ops, putVs_ops, ← addsT_append, ← addsT_append, getT_addsT _ WfT.nil, ops_neg, ops_neg, sumT_append, sumT_append, sumT_neg, sumT_neg]
  have e : l.flatMap (opsV x 1) = (l.take k).flatMap (opsV x 1) ++ (l.drop k).flatMap (opsV x 1) := by rw [← List.flatMap_append, List.take_append_drop]
  rw [e, sumT_append]
  have g : getT [] n j = (0, 0) := getT_no WfT.nil fun t ht => by simp at ht
  rw [g]
  generalize sumT ((l.take k).flatMap (opsV x 1)) n j = P
  generalize sumT ((l.drop k).flatMap (opsV x 1)) n j = Q
  have e1 : (0 : Int) + (P.1 + Q.1 + -Q.1 + -P.1) = 0 := by omega
  have e2 : (0 : Int) + (P.2 + Q.2 + -Q.2 + -P.2) = 0 := by omega
  simp only [← Int.add_assoc] at e1 e2 ⊢
  rw [e1, e2, wrap_0]
end Go.Proofs.Ytmhddpgeiijhgaa

/-
  A map from names and buckets to totals: how its keys read.
-/
namespace Go.Proofs.Ytmhddpgeiijhgaa
open Go.RowKit
open Go.Maps (Keyed)

abbrev TPl : TypeId := 73
abbrev TTa : TypeId := 71
abbrev TTo : TypeId := 64
abbrev TPm : TypeId := 62
theorem keyTy13 : Try.prog.keyType TPl = true := by kernel_rfl
theorem wide13 : (match Try.prog.underlying TPl with | some (.array _ _) | some (.struct _) => true | _ => false) = true := by kernel_rfl
theorem rowP13 : TPl < Try.prog.types.size := of_decide_eq_true (by kernel_rfl)
theorem cellsP13 : Try.prog.cellsOf TPl = 2 := by kernel_rfl
theorem cellsP13i : Try.prog.cellsOf 3 = 1 := by kernel_rfl
theorem cellsP13s : Try.prog.cellsOf 9 = 1 := by kernel_rfl
set_option maxRecDepth 100000 in
theorem keyP : Keyed Try.prog TPl := Keyed.of_law (deep_law_laid Try.laidOut (m := 2) (by omega) rowP13 (by kernel_rfl) wide13)
/-- What a name and a bucket read as. -/
def kl13 (n : ByteArray) (k : Int) : Lit := .string (keyBytes [.string n.data.toList, .int .i64 k])
abbrev okI13 (k : Int) : Prop := -9223372036854775808 ≤ k ∧ k ≤ 9223372036854775807
theorem wf13 {k : Int} (h : okI13 k) : (Lit.int .i64 k).wf = true := by
  have h1 : IntKind.i64.min = -9223372036854775808 := rfl
  have h2 : IntKind.i64.max = 9223372036854775807 := rfl
  simp only [Lit.wf, Bool.and_eq_true, decide_eq_true_eq]
  have := h.1; have := h.2
  omega
theorem types13 : ∃ d, Try.prog.types.size = d + 1 := ⟨Try.prog.types.size - 1, by have : 0 < Try.prog.types.size := of_decide_eq_true (by kernel_rfl); omega⟩
theorem lits13_s (d : Nat) (s : ByteArray) (h : s.size ≤ maxLen) : Try.prog.keyLits (d + 1) 9 [.string s] = some [.string s.data.toList] := by
  unfold Program.keyLits
  rw [Try.underlying9]
  simp [h]
theorem lits13_i (d : Nat) (k : Int) (h : okI13 k) : Try.prog.keyLits (d + 1) 3 [.int .i64 k] = some [.int .i64 k] := by
  unfold Program.keyLits
  rw [Try.underlying3]
  simp [wf13 h]
set_option maxRecDepth 100000 in
theorem lits13_s_inv {d : Nat} {a : Value} {l : List Lit} (h : Try.prog.keyLits (d + 1) 9 [a] = some l) : ∃ s : ByteArray, a = .string s ∧ s.size ≤ maxLen ∧ l = [.string s.data.toList] := by
  unfold Program.keyLits at h
  rw [Try.underlying9] at h
  cases a <;> simp at h
  exact ⟨_, rfl, h.1, h.2.symm⟩
set_option maxRecDepth 100000 in
theorem lits13_i_inv {d : Nat} {a : Value} {l : List Lit} (h : Try.prog.keyLits (d + 1) 3 [a] = some l) : ∃ k : Int, a = .int .i64 k ∧ okI13 k ∧ l = [.int .i64 k] := by
  unfold Program.keyLits at h
  rw [Try.underlying3] at h
  cases a <;> simp at h
  obtain ⟨⟨rfl, hw⟩, h2⟩ := h
  exact ⟨_, rfl, int_of_wf hw, h2.symm⟩
set_option maxRecDepth 100000 in
theorem keyP_mk {n : ByteArray} {k : Int} (hn : n.size ≤ maxLen) (hk : okI13 k) : keyOf Try.prog TPl (.agg #[.string n, .int .i64 k]) = some (kl13 n k) := by
  obtain ⟨d, hd⟩ := types13
  have h1 : Try.prog.keyLits (Try.prog.types.size + 1) TPl [.string n, .int .i64 k] = some [.string n.data.toList, .int .i64 k] := by
    rw [hd]
    unfold Program.keyLits
    rw [Try.underlying73]
    simp [cellsP13, cellsP13i, cellsP13s, lits13_s d n hn, lits13_i d k hk]
  have h2 : (Value.agg #[.string n, .int .i64 k]).formed Try.prog TPl = true := by
    simp [Value.formed, Try.underlying73, cellsP13]
  unfold keyOf
  rw [Try.underlying73]
  simp only []
  rw [if_pos (by rw [keyTy13, h2]; rfl)]
  show Option.map _ (Try.prog.keyLits (Try.prog.types.size + 1) TPl [.string n, .int .i64 k]) = _
  rw [h1]; rfl
set_option maxRecDepth 100000 in
theorem keyP_inv2 (key : Value) (kl : Lit) (h : keyOf Try.prog TPl key = some kl) : ∃ (n : ByteArray) (k : Int), key = .agg #[.string n, .int .i64 k] ∧ n.size ≤ maxLen ∧ okI13 k ∧ kl = kl13 n k := by
  obtain ⟨xs, L, rfl, hl, rfl⟩ := keyOf_top wide13 h
  obtain ⟨d, hd⟩ := types13
  rw [hd] at hl
  unfold Program.keyLits at hl
  rw [Try.underlying73] at hl
  obtain ⟨xl⟩ := xs
  match xl with
  | [] => simp [cellsP13] at hl
  | [a] => simp [cellsP13] at hl
  | a :: b :: c :: r => simp [cellsP13] at hl
  | [a, b] =>
    simp [cellsP13, cellsP13i, cellsP13s] at hl
    simp only [Option.bind_eq_some_iff, Function.comp, Option.map_eq_some_iff] at hl
    obtain ⟨la, ha, lb, ⟨lc, ⟨ld, hb, hc⟩, hd'⟩, hl⟩ := hl
    obtain ⟨s, rfl, hs, rfl⟩ := lits13_s_inv ha
    obtain ⟨k, rfl, hk, rfl⟩ := lits13_i_inv hb
    injection hc with hc
    injection hd' with hd'
    subst hc
    subst hd'
    subst hl
    exact ⟨s, k, rfl, hs, hk, rfl⟩
theorem kl13_inj {n n' : ByteArray} {k k' : Int} (hn : n.size ≤ maxLen) (hk : okI13 k) (hn' : n'.size ≤ maxLen) (hk' : okI13 k') (h : kl13 n k = kl13 n' k') : n = n' ∧ k = k' := by
  have h1 := keyP_mk hn hk
  have h2 := keyP_mk hn' hk'
  rw [h] at h1
  have h3 := keyP.inj h1 h2
  injection h3 with h3
  have h4 : ([.string n, .int .i64 k] : List Value) = [.string n', .int .i64 k'] := congrArg Array.toList h3
  injection h4 with h4 h5
  injection h5 with h5 _
  injection h4 with h4
  injection h5 with _ h5
  exact ⟨h4, h5⟩
end Go.Proofs.Ytmhddpgeiijhgaa

/-
  Is a span right, by the program?
-/
namespace Go.Proofs.Ytmhddpgeiijhgaa
open Go.RowKit

set_option maxHeartbeats 1000000 in
theorem pspan_right (f t : Int) (w : World) : Ret 30 #[.agg #[.int .i64 f, .int .i64 t]] w (.bool (rightS f t)) := by
  by_cases h1 : -1099511627776 ≤ f
  · by_cases h3 : f < t
    · by_cases h2 : t ≤ 1099511627776
      · have HE := Lib.hid (show rightS f t = true by simp [rightS, h1, h2, h3])
        go_enter Try.func30, Try.ntmps30
        go_wp2_with fail
        go_ret
        exact ⟨ret_bool HE.out.symm, by (repeat (first | exact (bl w) | refine belowN ?_ _ | refine Below.alloc ?_ (by have hsz := Below.size (bl w); first | omega | (simp; done) | (simp; omega) | (simp at hsz ⊢; omega)) _))⟩
      · have HE := Lib.hid (show rightS f t = false by simp [rightS, h2])
        go_enter Try.func30, Try.ntmps30
        go_wp2_with fail
        go_ret
        exact ⟨ret_bool HE.out.symm, by (repeat (first | exact (bl w) | refine belowN ?_ _ | refine Below.alloc ?_ (by have hsz := Below.size (bl w); first | omega | (simp; done) | (simp; omega) | (simp at hsz ⊢; omega)) _))⟩
    · have HE := Lib.hid (show rightS f t = false by simp [rightS, h3])
      go_enter Try.func30, Try.ntmps30
      go_wp2_with fail
      go_ret
      exact ⟨ret_bool HE.out.symm, by (repeat (first | exact (bl w) | refine belowN ?_ _ | refine Below.alloc ?_ (by have hsz := Below.size (bl w); first | omega | (simp; done) | (simp; omega) | (simp at hsz ⊢; omega)) _))⟩
  · have HE := Lib.hid (show rightS f t = false by simp [rightS, h1])
    go_enter Try.func30, Try.ntmps30
    go_wp2_with fail
    go_ret
    exact ⟨ret_bool HE.out.symm, by (repeat (first | exact (bl w) | refine belowN ?_ _ | refine Below.alloc ?_ (by have hsz := Below.size (bl w); first | omega | (simp; done) | (simp; omega) | (simp at hsz ⊢; omega)) _))⟩
set_option maxHeartbeats 1000000 in
theorem phas_any (f t x : Int) (w : World) : Ret 28 #[.agg #[.int .i64 f, .int .i64 t], .int .i64 x] w (.bool (hasS f t x)) := by
  by_cases h1 : f ≤ x
  · by_cases h2 : x < t
    · have HE := Lib.hid (show hasS f t x = true by simp [hasS, h1, h2])
      go_enter Try.func28, Try.ntmps28
      go_wp2_with fail
      go_ret
      exact ⟨ret_bool HE.out.symm, by (repeat (first | exact (bl w) | refine belowN ?_ _ | refine Below.alloc ?_ (by have hsz := Below.size (bl w); first | omega | (simp; done) | (simp; omega) | (simp at hsz ⊢; omega)) _))⟩
    · have HE := Lib.hid (show hasS f t x = false by simp [hasS, h2])
      go_enter Try.func28, Try.ntmps28
      go_wp2_with fail
      go_ret
      exact ⟨ret_bool HE.out.symm, by (repeat (first | exact (bl w) | refine belowN ?_ _ | refine Below.alloc ?_ (by have hsz := Below.size (bl w); first | omega | (simp; done) | (simp; omega) | (simp at hsz ⊢; omega)) _))⟩
  · have HE := Lib.hid (show hasS f t x = false by simp [hasS, h1])
    go_enter Try.func28, Try.ntmps28
    go_wp2_with fail
    go_ret
    exact ⟨ret_bool HE.out.symm, by (repeat (first | exact (bl w) | refine belowN ?_ _ | refine Below.alloc ?_ (by have hsz := Below.size (bl w); first | omega | (simp; done) | (simp; omega) | (simp at hsz ⊢; omega)) _))⟩

end Go.Proofs.Ytmhddpgeiijhgaa

/-
  The program's isWidth, floor, Floor, Span.
-/
namespace Go.Proofs.Ytmhddpgeiijhgaa
open Go.RowKit

set_option maxHeartbeats 1000000 in
theorem pwidth13_any (x : Int) (w : World) : Same 27 #[.int .i64 x] w (.bool (widthB x)) := by
  by_cases h1 : 1 ≤ x
  · have h1' : decide (1 ≤ x) = true := by simpa using h1
    by_cases h2 : x ≤ 1099511627776
    · have h2' : decide (x ≤ 1099511627776) = true := by simpa using h2
      have HE := Lib.hid (show widthB x = true by simp [widthB, h1, h2])
      go_enter Try.func27, Try.ntmps27
      go_wp2_with fail
      go_ret
      exact ⟨ret_bool HE.out.symm, rfl⟩
    · have h2' : decide (x ≤ 1099511627776) = false := by simpa using h2
      have HE := Lib.hid (show widthB x = false by simp [widthB, h2])
      go_enter Try.func27, Try.ntmps27
      go_wp2_with fail
      go_ret
      exact ⟨ret_bool HE.out.symm, rfl⟩
  · have h1' : decide (1 ≤ x) = false := by simpa using h1
    have HE := Lib.hid (show widthB x = false by simp [widthB, h1])
    go_enter Try.func27, Try.ntmps27
    go_wp2_with fail
    go_ret
    exact ⟨ret_bool HE.out.symm, rfl⟩

set_option maxHeartbeats 1000000 in
theorem pfl13_any (t x : Int) (w : World) (hx : 1 ≤ x) (h1 : -1099511627776 ≤ t) (h2 : t ≤ 1099511627776) : Same 29 #[.int .i64 t, .int .i64 x] w (.int .i64 (t / x)) := by
  obtain ⟨s1, s2, s3, s4⟩ := tdiv_small hx h1 h2
  obtain ⟨f1, f2⟩ := tdiv_floor (t := t) hx
  have hx0 : ¬ x = 0 := by omega
  have hx0' : (x == 0) = false := by simpa using hx0
  have hm := Int.mul_tdiv_add_tmod t x
  have hm2 : x * t.tdiv x = t.tdiv x * x := Int.mul_comm _ _
  have q1 : wrap64 (t.tdiv x) = t.tdiv x := IntWalk.wrap64_in _ (by omega)
  have q3 : wrap64 (t.tdiv x - 1) = t.tdiv x - 1 := IntWalk.wrap64_in _ (by omega)
  have q4 : wrap64 (t.tmod x) = t.tmod x := IntWalk.wrap64_in _ (by omega)
  by_cases h3 : t < t.tdiv x * x
  · have h3' : decide (t.tmod x < 0) = true := by rw [decide_eq_true_eq]; omega
    have h3 : t.tmod x < 0 := by omega
    have HV := Lib.hid (f1 (by omega))
    rw [HV.out]
    clear f1 f2 s1 s2 s3 s4 hm hm2 h1 h2
    go_enter Try.func29, Try.ntmps29
    go_wp2_with fail
    go_ret
    exact ⟨ret_int (by first | exact q3 | rfl | (show wrap64 (t.tdiv x - 1) = _; exact q3)), rfl⟩
  · have h3' : decide (t.tmod x < 0) = false := by rw [decide_eq_false_iff_not]; omega
    have h3 : ¬ t.tmod x < 0 := by omega
    have HV := Lib.hid (f2 (by omega))
    rw [HV.out]
    clear f1 f2 s1 s2 s3 s4 hm hm2 h1 h2
    go_enter Try.func29, Try.ntmps29
    go_wp2_with fail
    go_ret
    exact ⟨ret_int (by first | rfl | exact q1), rfl⟩

theorem hasS_times (t : Int) : hasS (-1099511627776) 1099511627776 t = timeB t := rfl
set_option maxHeartbeats 2000000 in
theorem pbfloor_any (t x : Int) (w : World) : Ret 8 #[.int .i64 t, .int .i64 x] w (.tuple #[.int .i64 (floorV t x), .int .i64 ((floorE t x : Nat) : Int)]) := by
  have CW := Lib.hid (pwidth13_any x)
  have CH := Lib.hid (phas_any (-1099511627776) 1099511627776 t)
  rw [hasS_times] at CH
  have HB0 := Lib.hid (show ∀ o : Obj, Below w.heap.size w (w.alloc o) from fun o => (bl w).alloc (Nat.le_refl _) o)
  cases hw : widthB x with
  | false =>
    rw [hw] at CW
    have HE := Lib.hid (show floorE t x = 2 ∧ floorV t x = 0 from ⟨by rw [floorE, hw, Bool.false_and]; rfl, by rw [floorV, hw, Bool.false_and]; rfl⟩)
    rw [HE.out.1, HE.out.2]
    clear hw
    go_enter Try.func8, Try.ntmps8
    go_wp2_with (go_at_call 27; (with_reducible refine (CW.out _).mono ?_); rintro e w2 ⟨rfl, rfl⟩)
    go_ret2
    exact ⟨rfl, HB0.out _⟩
  | true =>
    rw [hw] at CW
    cases ht : timeB t with
    | false =>
      rw [ht] at CH
      have HE := Lib.hid (show floorE t x = 2 ∧ floorV t x = 0 from ⟨by rw [floorE, hw, ht]; rfl, by rw [floorV, hw, ht]; rfl⟩)
      rw [HE.out.1, HE.out.2]
      clear hw ht
      go_enter Try.func8, Try.ntmps8
      go_wp2_with (first
        | (go_at_call 27; (with_reducible refine (CW.out _).mono ?_); rintro e w2 ⟨rfl, rfl⟩)
        | (go_at_call 28; (with_reducible refine (CH.out _).mono ?_); rintro e w3 ⟨rfl, hb3⟩))
      go_ret2
      exact ⟨rfl, chain (HB0.out _) hb3⟩
    | true =>
      rw [ht] at CH
      have hx := (widthB_iff x).1 hw
      have ht2 := (timeB_iff t).1 ht
      have CF := Lib.hid (fun w => pfl13_any t x w hx.1 ht2.1 (by omega))
      have HE := Lib.hid (show floorE t x = 0 ∧ floorV t x = t / x from ⟨by rw [floorE, hw, ht]; rfl, by rw [floorV, hw, ht]; rfl⟩)
      rw [HE.out.1, HE.out.2]
      clear hw ht hx ht2
      go_enter Try.func8, Try.ntmps8
      go_wp2_with (first
        | (go_at_call 27; (with_reducible refine (CW.out _).mono ?_); rintro e w2 ⟨rfl, rfl⟩)
        | (go_at_call 28; (with_reducible refine (CH.out _).mono ?_); rintro e w3 ⟨rfl, hb3⟩)
        | (go_at_call 29; (with_reducible refine (CF.out _).mono ?_); rintro e w4 ⟨rfl, rfl⟩))
      go_ret2
      exact ⟨rfl, chain (HB0.out _) hb3⟩

/-- What the first and the last bucket tell of a bucket. -/
theorem spanB_ends {k x : Int} (hx : 1 ≤ x) (hx2 : x ≤ 1099511627776) :
    (k < (-1099511627776) / x → spanB k x = false) ∧ (1099511627775 / x < k → spanB k x = false) ∧
    (¬ k < (-1099511627776) / x → ¬ 1099511627775 / x < k → spanB k x = true ∧ -2199023255552 ≤ k * x ∧ k * x < 1099511627776 ∧ -1099511627776 < k * x + x) := by
  obtain ⟨a1, a2⟩ := ediv_bounds (t := -1099511627776) hx
  obtain ⟨b1, b2⟩ := ediv_bounds (t := 1099511627775) hx
  have hw : widthB x = true := (widthB_iff x).2 ⟨hx, hx2⟩
  generalize (-1099511627776) / x = lo at *
  generalize 1099511627775 / x = hi at *
  refine ⟨fun h => ?_, fun h => ?_, fun h1 h2 => ?_⟩
  · have p := Int.mul_le_mul_of_nonneg_right (show k + 1 ≤ lo by omega) (show (0 : Int) ≤ x by omega)
    rw [Int.add_mul, Int.one_mul] at p
    unfold spanB
    rw [hw, Bool.true_and, decide_eq_false_iff_not]
    omega
  · have p := Int.mul_le_mul_of_nonneg_right (show hi + 1 ≤ k by omega) (show (0 : Int) ≤ x by omega)
    rw [Int.add_mul, Int.one_mul] at p
    unfold spanB
    rw [hw, Bool.true_and, decide_eq_false_iff_not]
    omega
  · have p1 := Int.mul_le_mul_of_nonneg_right (show lo ≤ k by omega) (show (0 : Int) ≤ x by omega)
    have p2 := Int.mul_le_mul_of_nonneg_right (show k ≤ hi by omega) (show (0 : Int) ≤ x by omega)
    refine ⟨?_, by omega, by omega, by omega⟩
    unfold spanB
    rw [hw, Bool.true_and, decide_eq_true_eq]
    omega
set_option maxHeartbeats 4000000 in
set_option maxRecDepth 10000 in
theorem pbspan_any (k x : Int) (w : World) : Ret 10 #[.int .i64 k, .int .i64 x] w (.tuple #[.agg #[.int .i64 (spanV k x).1, .int .i64 (spanV k x).2], .bool (spanB k x)]) := by
  have CW := Lib.hid (pwidth13_any x)
  have HB0 := Lib.hid (show ∀ o : Obj, Below w.heap.size w (w.alloc o) from fun o => (bl w).alloc (Nat.le_refl _) o)
  cases hw : widthB x with
  | false =>
    rw [hw] at CW
    have HE := Lib.hid (show (spanV k x).1 = 0 ∧ (spanV k x).2 = 0 ∧ spanB k x = false by unfold spanV; rw [spanB_wide hw]; exact ⟨rfl, rfl, rfl⟩)
    clear hw
    go_enter Try.func10, Try.ntmps10
    go_wp2_with (go_at_call 27; (with_reducible refine (CW.out _).mono ?_); rintro e w2 ⟨rfl, rfl⟩)
    refine bodyPost_ret (v := .tuple #[.agg #[.int .i64 0, .int .i64 0], .bool false]) (by simp [results, Try.results10, go_sem]) rfl ⟨by rw [HE.out.1, HE.out.2.1, HE.out.2.2], ?_⟩
    exact HB0.out _
  | true =>
    rw [hw] at CW
    have hx := (widthB_iff x).1 hw
    have CF := Lib.hid (fun w => pfl13_any (-1099511627776) x w hx.1 (by decide) (by decide))
    have CG := Lib.hid (fun w => pfl13_any 1099511627775 x w hx.1 (by decide) (by decide))
    obtain ⟨e1, e2, e3⟩ := spanB_ends (k := k) hx.1 hx.2
    generalize (-1099511627776) / x = lo at *
    generalize 1099511627775 / x = hi at *
    by_cases h1 : k < lo
    · have h1' : decide (k < lo) = true := by simpa using h1
      have hb := e1 h1
      have HE := Lib.hid (show (spanV k x).1 = 0 ∧ (spanV k x).2 = 0 ∧ spanB k x = false by unfold spanV; rw [hb]; exact ⟨rfl, rfl, rfl⟩)
      clear hw hx e1 e2 e3 hb h1
      go_enter Try.func10, Try.ntmps10
      go_wp2_with (first
        | (go_at_call 27; (with_reducible refine (CW.out _).mono ?_); rintro e w2 ⟨rfl, rfl⟩)
        | (go_at_call 29; (with_reducible refine (CF.out _).mono ?_); rintro e w4 ⟨rfl, rfl⟩)
        | (go_at_call 29; (with_reducible refine (CG.out _).mono ?_); rintro e w4 ⟨rfl, rfl⟩))
      refine bodyPost_ret (v := .tuple #[.agg #[.int .i64 0, .int .i64 0], .bool false]) (by simp [results, Try.results10, go_sem]) rfl ⟨by rw [HE.out.1, HE.out.2.1, HE.out.2.2], ?_⟩
      exact HB0.out _
    · have h1' : decide (k < lo) = false := by simpa using h1
      by_cases h2 : hi < k
      · have h2' : decide (hi < k) = true := by simpa using h2
        have hb := e2 h2
        have HE := Lib.hid (show (spanV k x).1 = 0 ∧ (spanV k x).2 = 0 ∧ spanB k x = false by unfold spanV; rw [hb]; exact ⟨rfl, rfl, rfl⟩)
        clear hw hx e1 e2 e3 hb h1 h2
        go_enter Try.func10, Try.ntmps10
        go_wp2_with (first
          | (go_at_call 27; (with_reducible refine (CW.out _).mono ?_); rintro e w2 ⟨rfl, rfl⟩)
          | (go_at_call 29; (with_reducible refine (CF.out _).mono ?_); rintro e w4 ⟨rfl, rfl⟩)
          | (go_at_call 29; (with_reducible refine (CG.out _).mono ?_); rintro e w4 ⟨rfl, rfl⟩))
        refine bodyPost_ret (v := .tuple #[.agg #[.int .i64 0, .int .i64 0], .bool false]) (by simp [results, Try.results10, go_sem]) rfl ⟨by rw [HE.out.1, HE.out.2.1, HE.out.2.2], ?_⟩
        exact HB0.out _
      · have h2' : decide (hi < k) = false := by simpa using h2
        obtain ⟨hb, s1, s2, s3⟩ := e3 h1 h2
        have r1 : wrap64 (k * x) = k * x := IntWalk.wrap64_in _ (by omega)
        have r2 : wrap64 (k * x + x) = k * x + x := IntWalk.wrap64_in _ (by omega)
        have HE := Lib.hid (show (spanV k x).1 = max (k * x) (-1099511627776) ∧ (spanV k x).2 = min (k * x + x) 1099511627776 ∧ spanB k x = true by unfold spanV; rw [hb]; exact ⟨rfl, rfl, rfl⟩)
        clear hw hx e1 e2 e3 hb h1 h2
        by_cases c1 : k * x < -1099511627776
        · have m1 : max (k * x) (-1099511627776) = -1099511627776 := by omega
          have d1 : decide (k * x < -1099511627776) = true := by simpa using c1
          by_cases c2 : 1099511627776 < k * x + x
          · have m2 : min (k * x + x) 1099511627776 = 1099511627776 := by omega
            have d2 : decide (1099511627776 < k * x + x) = true := by simpa using c2
            clear s1 s2 s3
            go_enter Try.func10, Try.ntmps10
            go_wp2_with (first
              | (go_at_call 27; (with_reducible refine (CW.out _).mono ?_); rintro e w2 ⟨rfl, rfl⟩)
              | (go_at_call 29; (with_reducible refine (CF.out _).mono ?_); rintro e w4 ⟨rfl, rfl⟩)
              | (go_at_call 29; (with_reducible refine (CG.out _).mono ?_); rintro e w4 ⟨rfl, rfl⟩))
            refine bodyPost_ret (v := .tuple #[.agg #[.int .i64 (-1099511627776), .int .i64 (1099511627776)], .bool true]) (by simp [results, Try.results10, go_sem]) rfl ⟨by rw [HE.out.1, HE.out.2.1, HE.out.2.2, m1, m2], ?_⟩
            first | exact HB0.out _ | ((repeat (first | exact bl _ | (refine Go.RowKit.Below.setCell (p := ⟨_, _, none⟩) ?_ (by first | exact Nat.le_refl _ | simp | (simp; omega)) _) | (refine Go.RowKit.Below.alloc ?_ (by first | exact Nat.le_refl _ | simp | (simp; omega)) _))))
          · have m2 : min (k * x + x) 1099511627776 = k * x + x := by omega
            have d2 : decide (1099511627776 < k * x + x) = false := by simpa using c2
            clear s1 s2 s3
            go_enter Try.func10, Try.ntmps10
            go_wp2_with (first
              | (go_at_call 27; (with_reducible refine (CW.out _).mono ?_); rintro e w2 ⟨rfl, rfl⟩)
              | (go_at_call 29; (with_reducible refine (CF.out _).mono ?_); rintro e w4 ⟨rfl, rfl⟩)
              | (go_at_call 29; (with_reducible refine (CG.out _).mono ?_); rintro e w4 ⟨rfl, rfl⟩))
            refine bodyPost_ret (v := .tuple #[.agg #[.int .i64 (-1099511627776), .int .i64 (k * x + x)], .bool true]) (by simp [results, Try.results10, go_sem]) rfl ⟨by rw [HE.out.1, HE.out.2.1, HE.out.2.2, m1, m2], ?_⟩
            first | exact HB0.out _ | ((repeat (first | exact bl _ | (refine Go.RowKit.Below.setCell (p := ⟨_, _, none⟩) ?_ (by first | exact Nat.le_refl _ | simp | (simp; omega)) _) | (refine Go.RowKit.Below.alloc ?_ (by first | exact Nat.le_refl _ | simp | (simp; omega)) _))))
        · have m1 : max (k * x) (-1099511627776) = k * x := by omega
          have d1 : decide (k * x < -1099511627776) = false := by simpa using c1
          by_cases c2 : 1099511627776 < k * x + x
          · have m2 : min (k * x + x) 1099511627776 = 1099511627776 := by omega
            have d2 : decide (1099511627776 < k * x + x) = true := by simpa using c2
            clear s1 s2 s3
            go_enter Try.func10, Try.ntmps10
            go_wp2_with (first
              | (go_at_call 27; (with_reducible refine (CW.out _).mono ?_); rintro e w2 ⟨rfl, rfl⟩)
              | (go_at_call 29; (with_reducible refine (CF.out _).mono ?_); rintro e w4 ⟨rfl, rfl⟩)
              | (go_at_call 29; (with_reducible refine (CG.out _).mono ?_); rintro e w4 ⟨rfl, rfl⟩))
            refine bodyPost_ret (v := .tuple #[.agg #[.int .i64 (k * x), .int .i64 (1099511627776)], .bool true]) (by simp [results, Try.results10, go_sem]) rfl ⟨by rw [HE.out.1, HE.out.2.1, HE.out.2.2, m1, m2], ?_⟩
            first | exact HB0.out _ | ((repeat (first | exact bl _ | (refine Go.RowKit.Below.setCell (p := ⟨_, _, none⟩) ?_ (by first | exact Nat.le_refl _ | simp | (simp; omega)) _) | (refine Go.RowKit.Below.alloc ?_ (by first | exact Nat.le_refl _ | simp | (simp; omega)) _))))
          · have m2 : min (k * x + x) 1099511627776 = k * x + x := by omega
            have d2 : decide (1099511627776 < k * x + x) = false := by simpa using c2
            clear s1 s2 s3
            go_enter Try.func10, Try.ntmps10
            go_wp2_with (first
              | (go_at_call 27; (with_reducible refine (CW.out _).mono ?_); rintro e w2 ⟨rfl, rfl⟩)
              | (go_at_call 29; (with_reducible refine (CF.out _).mono ?_); rintro e w4 ⟨rfl, rfl⟩)
              | (go_at_call 29; (with_reducible refine (CG.out _).mono ?_); rintro e w4 ⟨rfl, rfl⟩))
            refine bodyPost_ret (v := .tuple #[.agg #[.int .i64 (k * x), .int .i64 (k * x + x)], .bool true]) (by simp [results, Try.results10, go_sem]) rfl ⟨by rw [HE.out.1, HE.out.2.1, HE.out.2.2, m1, m2], ?_⟩
            first | exact HB0.out _ | ((repeat (first | exact bl _ | (refine Go.RowKit.Below.setCell (p := ⟨_, _, none⟩) ?_ (by first | exact Nat.le_refl _ | simp | (simp; omega)) _) | (refine Go.RowKit.Below.alloc ?_ (by first | exact Nat.le_refl _ | simp | (simp; omega)) _))))

end Go.Proofs.Ytmhddpgeiijhgaa

/-
  The program's totals in memory: made, New, Get.
-/
namespace Go.Proofs.Ytmhddpgeiijhgaa
open Go.RowKit
open Go.Maps (Keyed)

/-- How a value of the map reads: as the value that it is. -/
def heldV13 (v : Value) : Option (DataW Value × List MemPlace) := some (.held v, [])
abbrev tv13 (p : Int × Int) : Value := .agg #[.int .i64 p.1, .int .i64 p.2]
/-- Totals in memory: a box with the width and a map of what there is. -/
structure St13 (w : World) (S M : Nat) (x : Int) (m : Nat) (D : DataW Value) (L : List Tt) : Prop where
  box : w.heap[S]? = some (.cells #[.int .i64 x, .map (some M)] TTo (0, 0))
  map : w.ownsMap Try.prog TPl heldV13 M m D
  key : ∀ (n : ByteArray) (k : Int), n.size ≤ maxLen → okI13 k → ∀ zd, D.atKey (kl13 n k) zd = if getT L n k = (0, 0) then zd else .held (tv13 (getT L n k))
  wf : WfT L
  ok : ∀ t ∈ L, t.n.size ≤ maxLen ∧ okI13 t.k
section
variable {w : World} {S M : Nat} {x : Int} {m : Nat} {D : DataW Value} {L : List Tt}
theorem St13.lt (h : St13 w S M x m D L) : S < w.heap.size := (Array.getElem?_eq_some_iff.1 h.box).1
theorem St13.ltM (h : St13 w S M x m D L) : M < w.heap.size := h.map.lt
theorem St13.ne (h : St13 w S M x m D L) : S ≠ M := fun e => by
  obtain ⟨es, clock, hm, _⟩ := h.map
  rw [← e, h.box] at hm
  cases hm
theorem St13.kept (h : St13 w S M x m D L) {w' : World} {row : Option Nat} (hg : w.grownBy w' row) (hS : some S ≠ row) (hM : some M ≠ row) : St13 w' S M x m D L :=
  ⟨(hg.block S h.lt hS).trans h.box, h.map.kept hg hM, h.key, h.wf, h.ok⟩
theorem St13.below (h : St13 w S M x m D L) {w' : World} (hb : Below w.heap.size w w') : St13 w' S M x m D L := h.kept (row := none) ⟨hb.os, hb.tape, hb.output, hb.size, fun k hk _ => hb.block k hk⟩ (by simp) (by simp)
theorem St13.c0 (h : St13 w S M x m D L) : w.cell? ⟨S, 0, none⟩ = some (.int .i64 x) := by simp [World.cell?, h.box]
theorem St13.c1 (h : St13 w S M x m D L) : w.cell? ⟨S, 1, none⟩ = some (.map (some M)) := by simp [World.cell?, h.box]
theorem zero_ta13 (w : World) : (zeroValue TTa).run Try.prog w = .ok (tv13 (0, 0)) w := by kernel_rfl
set_option maxRecDepth 100000 in
/-- What the map gives at a name and a bucket. -/
theorem St13.look (h : St13 w S M x m D L) {n : ByteArray} {k : Int} (hn : n.size ≤ maxLen) (hk : okI13 k) (w1 : World) (hm : w1.ownsMap Try.prog TPl heldV13 M m D) :
    (Instr.lookup TPm (.map (some M)) (.agg #[.string n, .int .i64 k]) false).run Try.prog w1 = .ok (tv13 (getT L n k)) w1 := by
  obtain ⟨u, ps, h1, h2⟩ := hm.lookup (z := tv13 (0, 0)) (zd := .held (tv13 (0, 0))) (zp := []) keyP Try.underlying62 (zero_ta13 _) rfl (keyP_mk hn hk)
  rw [h.key n k hn hk] at h2
  unfold heldV13 at h2
  injection h2 with h2
  injection h2 with h2 _
  split at h2
  · rename_i h0
    injection h2 with h2
    rw [h1, h2, h0]
  · injection h2 with h2
    rw [h1, h2]
end

set_option maxHeartbeats 1000000 in
theorem pmade13_any {w : World} {S : Nat} {x : Int} (h : w.cell? ⟨S, 0, none⟩ = some (.int .i64 x)) (hx : 1 ≤ x) : Same 35 #[.pointer (some ⟨S, 0, none⟩)] w (.bool true) := by
  have h0 : (x != 0) = true := by rw [bne_iff_ne]; omega
  go_enter Try.func35, Try.ntmps35
  go_wp2_with fail
  go_ret
  exact ⟨rfl, rfl⟩
set_option maxHeartbeats 1000000 in
theorem pmade13_nil (w : World) : Same 35 #[.pointer none] w (.bool false) := by
  go_enter Try.func35, Try.ntmps35
  go_wp2_with fail
  go_ret
  exact ⟨rfl, rfl⟩
/-- What New leaves. -/
def New13Post (x : Int) (w : World) (e : Ending) (w' : World) : Prop := ∃ S M D, e = .returned (.tuple #[.pointer (some ⟨S, 0, none⟩), .int .i64 0]) ∧ St13 w' S M x 0 D [] ∧ w.heap.size ≤ S ∧ w.heap.size ≤ M ∧ Below w.heap.size w w'
set_option maxHeartbeats 1000000 in
theorem pnew13_bad (x : Int) (w : World) (hx : widthB x = false) : Same 17 #[.int .i64 x] w (.tuple #[.pointer none, .int .i64 2]) := by
  have CW := Lib.hid (pwidth13_any x)
  rw [hx] at CW
  go_enter Try.func17, Try.ntmps17
  go_wp2_with (go_at_call 27; (with_reducible refine (CW.out _).mono ?_); rintro e w2 ⟨rfl, rfl⟩)
  go_ret2
  exact ⟨rfl, rfl⟩
set_option maxHeartbeats 1000000 in
theorem pnew13_any (x : Int) (w : World) (hx : widthB x = true) : Calls Try.prog 17 #[.int .i64 x] w (New13Post x w) := by
  have CW := Lib.hid (pwidth13_any x)
  rw [hx] at CW
  have hmm := @run_makeMap Try.prog
  go_enter Try.func17, Try.ntmps17
  go_wp2_with (go_at_call 27; (with_reducible refine (CW.out _).mono ?_); rintro e w2 ⟨rfl, rfl⟩)
  go_ret2
  refine ⟨w2.heap.size + 1, w2.heap.size, .map [], by simp, ?_, by omega, Nat.le_refl _, ((bl w2).alloc (Nat.le_refl _) _).alloc (by simp) _⟩
  have hm := World.ownsMap_made w2 Try.prog TPl heldV13
  refine ⟨?_, (hm.alloc _).mono (Nat.zero_le _), fun n k _ _ zd => ?_, WfT.nil, fun t ht => by simp at ht⟩
  · have := heap_alloc_new (w2.alloc (.map #[] 0)) (.cells #[.int .i64 x, .map (some w2.heap.size)] TTo)
    simpa using this
  · rw [if_pos (getT_no WfT.nil fun t ht => by simp at ht)]
    rfl
set_option maxHeartbeats 1000000 in
theorem pget13_any {w : World} {S M : Nat} {x : Int} {m : Nat} {D : DataW Value} {L : List Tt} (h : St13 w S M x m D L) (hx : 1 ≤ x) (n : ByteArray) (k : Int) (hn : n.size ≤ maxLen) (hk : okI13 k) :
    Ret 23 #[.pointer (some ⟨S, 0, none⟩), .string n, .int .i64 k] w (.tuple #[.int .i64 (getT L n k).1, .int .i64 (getT L n k).2]) := by
  have CM := Lib.hid (pmade13_any h.c0 hx)
  have x1 := h.c1
  have hl := h.look hn hk w h.map
  generalize getT L n k = p at *
  obtain ⟨c, s⟩ := p
  go_enter Try.func23, Try.ntmps23
  go_wp2_with (go_at_call 35; (with_reducible refine CM.out.mono ?_); rintro e w2 ⟨rfl, rfl⟩)
  go_quiet (fail)
  go_wp2_with fail
  go_ret2
  exact ⟨rfl, belowN ((bl _).alloc (Nat.le_refl _) _) _⟩
set_option maxHeartbeats 1000000 in
theorem pget13_nil (w : World) (n : ByteArray) (k : Int) : Ret 23 #[.pointer none, .string n, .int .i64 k] w (.tuple #[.int .i64 0, .int .i64 0]) := by
  have CM := Lib.hid (pmade13_nil w)
  go_enter Try.func23, Try.ntmps23
  go_wp2_with (go_at_call 35; (with_reducible refine CM.out.mono ?_); rintro e w2 ⟨rfl, rfl⟩)
  go_ret2
  exact ⟨rfl, bl _⟩
end Go.Proofs.Ytmhddpgeiijhgaa

/-
  The program's small words of version: when, first, Entity, Live, places and Compare.
-/
namespace Go.Proofs.Ytmhddpgeiijhgaa
open Go.RowKit

/-- The error, if it is so. -/
def whenE (b : Bool) (e : Int) : Int := match b with | true => e | false => 0
theorem whenE_t {b : Bool} {e : Int} (h : b = true) : whenE b e = e := by subst h; rfl
theorem whenE_f {b : Bool} {e : Int} (h : b = false) : whenE b e = 0 := by subst h; rfl

/-- The first number of a list that is not 0. -/
def firstN : List Int → Int
  | [] => 0
  | x :: l => if x = 0 then firstN l else x
theorem firstN_take {l : List Int} {x : Int} {k : Nat} (h : l[k]? = some x) (hz : firstN (l.take k) = 0) : firstN (l.take (k + 1)) = x := by
  induction l generalizing k with
  | nil => simp at h
  | cons y l ih =>
    cases k with
    | zero =>
      obtain rfl : y = x := by simpa using h
      by_cases hy : y = 0 <;> simp [firstN, hy]
    | succ k =>
      rw [List.take_succ_cons, firstN] at hz ⊢
      by_cases hy : y = 0
      · rw [if_pos hy] at hz ⊢
        exact ih (by simpa using h) hz
      · rw [if_neg hy] at hz; exact absurd hz hy
theorem firstN_stop {l : List Int} {x : Int} {k : Nat} (h : l[k]? = some x) (hz : firstN (l.take k) = 0) (hx : x ≠ 0) : firstN l = x := by
  induction l generalizing k with
  | nil => simp at h
  | cons y l ih =>
    cases k with
    | zero =>
      obtain rfl : y = x := by simpa using h
      rw [firstN, if_neg hx]
    | succ k =>
      rw [List.take_succ_cons, firstN] at hz
      rw [firstN]
      by_cases hy : y = 0
      · rw [if_pos hy] at hz ⊢
        exact ih (by simpa using h) hz
      · rw [if_neg hy] at hz; exact absurd hz hy

end Go.Proofs.Ytmhddpgeiijhgaa

/-
  Plain facts on versions and rows as bytes: what may be recorded, what is put is taken.
-/
namespace Go.Proofs.Ytmhddpgeiijhgaa

/-- What is wrong with an entity, a version, a row. -/
def entE (s : ByteArray) : Nat := if s.size = 0 then 2 else if 24 < s.size then 4 else 0
def rightV (v : Vr) : Nat :=
  if v.st < 1 ∨ 1099511627775 < v.st ∨ v.id < 1 ∨ v.st < v.id then 2
  else if entE v.ent ≠ 0 then entE v.ent
  else if v.gone then (if v.id = v.st ∨ 0 < v.fs.length ∨ v.sf ≠ 0 ∨ v.se ≠ 0 then 8 else 0)
  else if rightS v.sf v.se then rightE v.fs else 3
structure Rw where
  v : Vr
  un : Int
def rightR (r : Rw) : Nat := if rightV r.v ≠ 0 then rightV r.v else if r.un ≠ 4611686018427387904 ∧ (r.un ≤ r.v.st ∨ 1099511627775 < r.un) then 2 else 0
def liveB (r : Rw) (x : Int) : Bool := decide (r.v.st ≤ x) && decide (x < r.un) && !r.v.gone
/-- Which of two versions is ahead. -/
def cmpV (a b : Vr) : Int :=
  if lessN (nats a.ent) (nats b.ent) then -1
  else if nats a.ent = nats b.ent then (if a.sf < b.sf then -1 else if a.sf = b.sf then (if a.st < b.st then -1 else if a.st = b.st then 0 else 1) else 1)
  else 1
theorem cmpV_back (a b : Vr) : cmpV b a = 0 - cmpV a b := by
  unfold cmpV
  rcases lessN_or (nats a.ent) (nats b.ent) with h | h | h
  · have h2 : lessN (nats b.ent) (nats a.ent) = false := by
      cases hh : lessN (nats b.ent) (nats a.ent)
      · rfl
      · have := lessN_trans _ _ _ h hh; rw [lessN_self] at this; cases this
    have h3 : nats b.ent ≠ nats a.ent := fun e => by rw [e, lessN_self] at h; cases h
    rw [if_neg (by rw [h2]; simp), if_neg h3, if_pos h]; rfl
  · have h2 : lessN (nats a.ent) (nats b.ent) = false := by
      cases hh : lessN (nats a.ent) (nats b.ent)
      · rfl
      · have := lessN_trans _ _ _ h hh; rw [lessN_self] at this; cases this
    have h3 : nats a.ent ≠ nats b.ent := fun e => by rw [e, lessN_self] at h; cases h
    rw [if_pos h, if_neg (by rw [h2]; simp), if_neg h3]; rfl
  · rw [h, lessN_self]
    simp only [Bool.false_eq_true, if_false, if_true]
    (repeat' split) <;> omega

/-- The bytes of a version that may be. -/
def bodyV (v : Vr) : ByteArray := if v.gone then encS 1 else encS 0 ++ intS v.sf ++ encS (v.se - v.sf).toNat ++ putS v.fs
def bytesV (v : Vr) : ByteArray := encS v.id.toNat ++ encS v.st.toNat ++ textS v.ent ++ bodyV v
def putV (v : Vr) : ByteArray := if rightV v = 0 then bytesV v else ⟨#[]⟩
/-- A version without the place of its fields; none. -/
def contV (v : Vr) : Vr := ⟨v.id, v.st, v.ent, v.sf, v.se, none, 0, v.fs, v.gone⟩
def noV : Vr := ⟨0, 0, ⟨#[]⟩, 0, 0, none, 0, [], false⟩
abbrev TV := Vr × ByteArray × Nat
def badV (e : Nat) : TV := (noV, ⟨#[]⟩, e)
def endV (v : Vr) (r : ByteArray) : TV := if rightV v = 0 then (v, r, 0) else badV 8
def restV (id st : Int) (ent : ByteArray) (s : ByteArray) : TV :=
  if tkE s ≠ 0 then badV (tkE s)
  else if tkE (tkR s) ≠ 0 then badV (tkE (tkR s))
  else if (takeF (tkR (tkR s))).2.2 ≠ 0 then badV (takeF (tkR (tkR s))).2.2
  else endV ⟨id, st, ent, unzig (tkN s), unzig (tkN s) + (tkN (tkR s) : Int), none, 0, (takeF (tkR (tkR s))).1, false⟩ (takeF (tkR (tkR s))).2.1
def goneV (id st : Int) (ent : ByteArray) (s : ByteArray) : TV :=
  if tkE s ≠ 0 then badV (tkE s)
  else if 1 < tkN s then badV 8
  else if tkN s = 1 then endV ⟨id, st, ent, 0, 0, none, 0, [], true⟩ (tkR s)
  else restV id st ent (tkR s)
def entV (id st : Int) (s : ByteArray) : TV := if ttE s 24 ≠ 0 then badV (ttE s 24) else goneV id st (ttS s 24) (ttR s 24)
def takeVs (s : ByteArray) : TV :=
  if tkE s ≠ 0 then badV (tkE s) else if tkE (tkR s) ≠ 0 then badV (tkE (tkR s)) else entV (tkN s) (tkN (tkR s)) (tkR (tkR s))

theorem right_stamps {v : Vr} (h : rightV v = 0) : 1 ≤ v.st ∧ v.st ≤ 1099511627775 ∧ 1 ≤ v.id ∧ v.id ≤ v.st ∧ entE v.ent = 0 := by
  unfold rightV at h
  by_cases h1 : v.st < 1 ∨ 1099511627775 < v.st ∨ v.id < 1 ∨ v.st < v.id
  · rw [if_pos h1] at h; cases h
  · rw [if_neg h1] at h
    by_cases h2 : entE v.ent ≠ 0
    · rw [if_pos h2] at h; exact absurd h h2
    · exact ⟨by omega, by omega, by omega, by omega, by omega⟩
theorem right_gone {v : Vr} (h : rightV v = 0) (hg : v.gone = true) : v.fs = [] ∧ v.sf = 0 ∧ v.se = 0 := by
  have hs := right_stamps h
  unfold rightV at h
  rw [if_neg (by omega), if_neg (by omega), if_pos hg] at h
  by_cases h1 : v.id = v.st ∨ 0 < v.fs.length ∨ v.sf ≠ 0 ∨ v.se ≠ 0
  · rw [if_pos h1] at h; cases h
  · exact ⟨List.eq_nil_of_length_eq_zero (by omega), by omega, by omega⟩
theorem right_here {v : Vr} (h : rightV v = 0) (hg : v.gone = false) : rightS v.sf v.se = true ∧ rightE v.fs = 0 := by
  have hs := right_stamps h
  unfold rightV at h
  rw [if_neg (by omega), if_neg (by omega), if_neg (by rw [hg]; simp)] at h
  cases hr : rightS v.sf v.se with
  | false => rw [hr] at h; cases h
  | true => rw [hr] at h; exact ⟨rfl, h⟩
theorem span_bounds {f t : Int} (h : rightS f t = true) : -1099511627776 ≤ f ∧ t ≤ 1099511627776 ∧ f < t := by
  unfold rightS at h
  simp only [Bool.and_eq_true, decide_eq_true_eq] at h
  exact ⟨h.1.1, h.1.2, h.2⟩
theorem right_cont (v : Vr) : rightV (contV v) = rightV v := rfl
/-- What is put is taken. -/
theorem takeVs_put {v : Vr} (h : rightV v = 0) (b : ByteArray) : takeVs (putV v ++ b) = (contV v, b, 0) := by
  obtain ⟨s1, s2, s3, s4, s5⟩ := right_stamps h
  have hes : v.ent.size ≤ 24 := by
    unfold entE at s5
    by_cases h1 : v.ent.size = 0
    · omega
    · rw [if_neg h1] at s5
      by_cases h2 : 24 < v.ent.size
      · rw [if_pos h2] at s5; cases s5
      · omega
  have e0 : putV v ++ b = encS v.id.toNat ++ (encS v.st.toNat ++ (textS v.ent ++ (bodyV v ++ b))) := by
    unfold putV bytesV
    rw [if_pos h]
    simp only [ByteArray.append_assoc]
  obtain ⟨a1, a2, a3⟩ := tk_enc (n := v.id.toNat) (by omega) (encS v.st.toNat ++ (textS v.ent ++ (bodyV v ++ b)))
  obtain ⟨b1, b2, b3⟩ := tk_enc (n := v.st.toNat) (by omega) (textS v.ent ++ (bodyV v ++ b))
  obtain ⟨c1, c2, c3⟩ := tt_text (s := v.ent) (b := bodyV v ++ b) (most := 24) (by omega) (by omega)
  have fin : endV (contV v) b = (contV v, b, 0) := by unfold endV; rw [right_cont, if_pos h]
  have i1 : ((v.id.toNat : Nat) : Int) = v.id := by omega
  have i2 : ((v.st.toNat : Nat) : Int) = v.st := by omega
  rw [e0, takeVs, a1, a2, a3, b1, b2, b3, if_neg (by simp), if_neg (by simp), entV, c1, c2, c3, if_neg (by simp), i1, i2]
  cases hg : v.gone with
  | true =>
    obtain ⟨g1, g2, g3⟩ := right_gone h hg
    have eb : bodyV v = encS 1 := by unfold bodyV; rw [if_pos hg]
    obtain ⟨d1, d2, d3⟩ := tk_enc (n := 1) (by omega) b
    rw [eb, goneV, d1, d2, d3, if_neg (by simp), if_neg (by omega), if_pos rfl, ← fin]
    congr 1
    unfold contV
    rw [g1, g2, g3, hg]
  | false =>
    obtain ⟨g1, g2⟩ := right_here h hg
    obtain ⟨p1, p2, p3⟩ := span_bounds g1
    have eb : bodyV v ++ b = encS 0 ++ (intS v.sf ++ (encS (v.se - v.sf).toNat ++ (putS v.fs ++ b))) := by
      unfold bodyV
      rw [if_neg (by rw [hg]; simp)]
      simp only [ByteArray.append_assoc]
    obtain ⟨d1, d2, d3⟩ := tk_enc (n := 0) (by omega) (intS v.sf ++ (encS (v.se - v.sf).toNat ++ (putS v.fs ++ b)))
    have hv : valB v.sf = true := by unfold valB; simp only [Bool.and_eq_true, decide_eq_true_eq]; omega
    obtain ⟨q1, q2, q3⟩ := int_takenF hv (encS (v.se - v.sf).toNat ++ (putS v.fs ++ b))
    obtain ⟨r1, r2, r3⟩ := tk_enc (n := (v.se - v.sf).toNat) (by omega) (putS v.fs ++ b)
    have t1 := takeF_put g2 b
    rw [eb, goneV, d1, d2, d3, if_neg (by simp), if_neg (by omega), if_neg (by omega), restV, q1, q2, q3, r1, r2, r3, t1, if_neg (by simp), if_neg (by simp), if_neg (by simp), ← fin]
    congr 1
    unfold contV
    rw [hg, show v.sf + (((v.se - v.sf).toNat : Nat) : Int) = v.se by omega]

/-- Rows. -/
def putR (r : Rw) : ByteArray := if rightR r = 0 then putV r.v ++ encS (if r.un = 4611686018427387904 then 0 else r.un.toNat) else ⟨#[]⟩
abbrev TR := Rw × ByteArray × Nat
def noR : Rw := ⟨noV, 0⟩
def badR (e : Nat) : TR := (noR, ⟨#[]⟩, e)
def endR (r : Rw) (s : ByteArray) : TR := if rightR r = 0 then (r, s, 0) else badR 8
def untilI (n : Nat) : Int := if n = 0 then 4611686018427387904 else (n : Int)
def takeRs (s : ByteArray) : TR :=
  if (takeVs s).2.2 ≠ 0 then badR (takeVs s).2.2
  else if tkE (takeVs s).2.1 ≠ 0 then badR (tkE (takeVs s).2.1)
  else endR ⟨(takeVs s).1, untilI (tkN (takeVs s).2.1)⟩ (tkR (takeVs s).2.1)
def contR (r : Rw) : Rw := ⟨contV r.v, r.un⟩
theorem rightR_v {r : Rw} (h : rightR r = 0) : rightV r.v = 0 ∧ (r.un = 4611686018427387904 ∨ (r.v.st < r.un ∧ r.un ≤ 1099511627775)) := by
  unfold rightR at h
  by_cases h1 : rightV r.v ≠ 0
  · rw [if_pos h1] at h; exact absurd h h1
  · rw [if_neg h1] at h
    by_cases h2 : r.un ≠ 4611686018427387904 ∧ (r.un ≤ r.v.st ∨ 1099511627775 < r.un)
    · rw [if_pos h2] at h; cases h
    · exact ⟨by omega, by omega⟩
theorem takeRs_put {r : Rw} (h : rightR r = 0) (b : ByteArray) : takeRs (putR r ++ b) = (contR r, b, 0) := by
  obtain ⟨h1, h2⟩ := rightR_v h
  have hs := right_stamps h1
  have fin : endR (contR r) b = (contR r, b, 0) := by
    unfold endR
    rw [if_pos (show rightR (contR r) = 0 from h)]
  have e0 : putR r ++ b = putV r.v ++ (encS (if r.un = 4611686018427387904 then 0 else r.un.toNat) ++ b) := by
    unfold putR
    rw [if_pos h, ByteArray.append_assoc]
  have t := takeVs_put h1 (encS (if r.un = 4611686018427387904 then 0 else r.un.toNat) ++ b)
  have hn : (if r.un = 4611686018427387904 then 0 else r.un.toNat) < 4611686018427387904 := by split <;> omega
  obtain ⟨a1, a2, a3⟩ := tk_enc hn b
  rw [e0, takeRs, t]
  simp only [ne_eq, not_true_eq_false, if_false]
  rw [a1, a2, a3, if_neg (by simp), ← fin]
  congr 1
  unfold contR untilI
  congr 1
  by_cases hu : r.un = 4611686018427387904
  · rw [if_pos hu, if_pos rfl, hu]
  · rw [if_neg hu, if_neg (by omega)]; omega

end Go.Proofs.Ytmhddpgeiijhgaa

/-
  The program's places and Compare.
-/
namespace Go.Proofs.Ytmhddpgeiijhgaa
open Go.RowKit

set_option maxHeartbeats 1000000 in
theorem or_any (w : World) (g : Nat) (l : List Int) (hc : ∀ i x, l[i]? = some x → w.cell? ⟨g, i, none⟩ = some (.int .i64 x)) (hl : l.length ≤ 1000000) :
    Same 39 #[.slice (some ⟨g, 0, none⟩) l.length l.length] w (.int .i64 (firstN l)) := by
  have HC := Lib.hid hc
  obtain ⟨n, hn⟩ : ∃ n, l.length = n := ⟨_, rfl⟩
  rw [hn] at hl ⊢
  have HN := Lib.hid hn
  obtain ⟨R, hR⟩ : ∃ R, firstN l = R := ⟨_, rfl⟩
  rw [hR]
  have HR := Lib.hid hR
  clear hc hn hR
  go_enter Try.func39, Try.ntmps39
  go_wp2_with fail
  go_loopw [8] (fun i wr => ∃ k : Nat, k ≤ n ∧ i = .int .i64 k ∧ firstN (l.take k) = 0 ∧ wr = w) (fun i _ => n - (intOf i).toNat)
  case atStart => exact ⟨0, Nat.zero_le _, rfl, rfl, rfl⟩
  case round =>
    obtain ⟨k, hk, rfl, hz, rfl⟩ := hrel
    have HZ := Lib.hid hz
    clear hz
    by_cases hlt : k < n
    · have hlt' : (k : Int) < (n : Int) := by omega
      obtain ⟨x, hx⟩ : ∃ x, l[k]? = some x := ⟨_, List.getElem?_eq_getElem (by have := HN.out; omega)⟩
      have c0 := HC.out k x hx
      have HX := Lib.hid hx
      clear hx
      by_cases h0 : x = 0
      · have HF := Lib.hid ((firstN_take HX.out HZ.out).trans h0)
        subst h0
        go_wp2_with fail
        exact ⟨⟨k + 1, by omega, by go_num, HF.out, trivial⟩, by simp [intOf]; omega⟩
      · have HF := Lib.hid (firstN_stop HX.out HZ.out h0)
        have h0b : (x != 0) = true := by rw [bne_iff_ne]; exact h0
        go_wp2_with fail
        go_ret
        exact ⟨ret_int (by rw [← HR.out, HF.out]), rfl⟩
    · have hlt' : ¬ (k : Int) < (n : Int) := by omega
      go_wp2_with fail
      go_ret
      refine ⟨ret_int ?_, rfl⟩
      rw [← HR.out, ← HZ.out, List.take_of_length_le (by have := HN.out; omega)]
theorem or3 (w : World) (g : Nat) (a b c : Int) (h0 : w.cell? ⟨g, 0, none⟩ = some (.int .i64 a)) (h1 : w.cell? ⟨g, 1, none⟩ = some (.int .i64 b)) (h2 : w.cell? ⟨g, 2, none⟩ = some (.int .i64 c)) : Same 39 #[.slice (some ⟨g, 0, none⟩) 3 3] w (.int .i64 (firstN [a, b, c])) :=
  or_any _ g [a, b, c] (fun i x h => by
    rcases i with _ | _ | _ | i
    · obtain rfl : a = x := by simpa using h
      exact h0
    · obtain rfl : b = x := by simpa using h
      exact h1
    · obtain rfl : c = x := by simpa using h
      exact h2
    · simp at h) (by simp)

theorem compareBytes_is : ∀ l m : List UInt8, Lib.compareBytes l m = if lessN (l.map UInt8.toNat) (m.map UInt8.toNat) then -1 else if l.map UInt8.toNat = m.map UInt8.toNat then 0 else 1
  | [], [] => by simp [Lib.compareBytes, lessN]
  | [], _ :: _ => by simp [Lib.compareBytes, lessN]
  | _ :: _, [] => by simp [Lib.compareBytes, lessN]
  | a :: l, b :: m => by
    have ih := compareBytes_is l m
    have h1 : (a < b) ↔ a.toNat < b.toNat := UInt8.lt_iff_toNat_lt
    have h2 : (b < a) ↔ b.toNat < a.toNat := UInt8.lt_iff_toNat_lt
    rw [Lib.compareBytes, List.map_cons, List.map_cons, lessN]
    by_cases k1 : a.toNat < b.toNat
    · rw [if_pos (h1.2 k1)]; simp [k1]
    · rw [if_neg (fun h => k1 (h1.1 h))]
      by_cases k2 : b.toNat < a.toNat
      · rw [if_pos (h2.2 k2)]
        have k3 : ¬ a.toNat = b.toNat := by omega
        simp [k1, k3]
      · rw [if_neg (fun h => k2 (h2.1 h)), ih]
        have k3 : a.toNat = b.toNat := by omega
        simp [k3]
/-- Three numbers that tell which of two versions is ahead. -/
theorem cmpV_first (a b : Vr) : firstN [Lib.compareBytes a.ent.data.toList b.ent.data.toList, Lib.compareInt a.sf b.sf, Lib.compareInt a.st b.st] = cmpV a b := by
  have e : Lib.compareBytes a.ent.data.toList b.ent.data.toList = if lessN (nats a.ent) (nats b.ent) then -1 else if nats a.ent = nats b.ent then 0 else 1 := compareBytes_is _ _
  rw [e]
  unfold cmpV
  simp only [firstN, Lib.compareInt]
  by_cases h1 : lessN (nats a.ent) (nats b.ent) = true
  · rw [if_pos h1, if_pos h1, if_neg (by decide)]
  · rw [if_neg h1, if_neg h1]
    by_cases h2 : nats a.ent = nats b.ent
    · rw [if_pos h2, if_pos h2, if_pos rfl]
      (repeat' split) <;> first | omega | rfl
    · rw [if_neg h2, if_neg h2, if_neg (by decide)]
theorem cmpV_zero {a b : Vr} (h : a.ent.toList = b.ent.toList ∧ a.sf = b.sf ∧ a.st = b.st) : cmpV a b = 0 := by
  obtain ⟨h1, h2, h3⟩ := h
  have h1 := bytes_is.1 h1
  unfold cmpV
  rw [h1, lessN_self, h2, h3]
  simp

end Go.Proofs.Ytmhddpgeiijhgaa

/-
  Sorting a list of totals of the call's own by names and buckets.
-/
namespace Go.Proofs.Ytmhddpgeiijhgaa
open Go.RowKit Go.Sort Go.Shelf

/-- The program's totals. -/
def ETp : El Tt where
  s := 56
  e := 78
  sz := 4
  bys := 40
  z := .agg #[.string ⟨#[]⟩, .int .i64 0, .int .i64 0, .int .i64 0]
  cells := cellsTt
  pos := by decide
  few := by decide
  len := fun _ => rfl
  one := fun x u hu => by
    simp only [cellsTt, List.mem_cons, List.not_mem_nil, or_false] at hu
    rcases hu with rfl | rfl | rfl | rfl <;> rfl
  und := Try.underlying56
  info := by kernel_rfl
  zs := rfl
abbrev ttv (t : Tt) : Value := .agg #[.string t.n, .int .i64 t.k, .int .i64 t.c, .int .i64 t.s]
instance inhabitedTt13 : Inhabited Tt := ⟨⟨⟨#[]⟩, 0, 0, 0⟩⟩
theorem getBangT13 {l : List Tt} {i : Nat} {p : Tt} (h : l[i]? = some p) : l.toArray[i]! = p := by
  obtain ⟨hl, he⟩ := List.getElem?_eq_some_iff.1 h
  rw [getElem!_pos l.toArray i (by simpa using hl)]
  simpa using he
theorem holds_ownT13 {w : World} {g : Nat} {cur : Array Value} {ty : TypeId} {l : List Tt} (hb : w.heap[g]? = some (.cells cur ty (0, 0))) (hr : RowE ETp w (some ⟨g, 0, none⟩) l) : HoldsK cellsTt 4 w g 0 l.toArray := by
  intro j hj
  rw [size_flatK] at hj
  have hj' : j < l.length * 4 := by simpa using hj
  obtain ⟨p, hp⟩ : ∃ p, l[j / 4]? = some p := ⟨_, List.getElem?_eq_getElem (by omega)⟩
  refine ⟨?_, by simp [World.frozen?, hb]⟩
  rw [get_flatK _ _ _ _ hj, getBangT13 hp]
  have e1 : j / 4 * 4 + j % 4 = j := by omega
  have hm : j % 4 = 0 ∨ j % 4 = 1 ∨ j % 4 = 2 ∨ j % 4 = 3 := by omega
  rcases hm with h | h | h | h
  all_goals
    have k := hr.at hp (j := j % 4) (by rw [h]; rfl)
    rw [show 0 + j / 4 * ETp.sz + j % 4 = 0 + j by show 0 + j / 4 * 4 + j % 4 = 0 + j; omega] at k
    simpa [h] using k
theorem below_sortedT13 {w : World} {base g n : Nat} {d : Array Tt} {os : Array Obj} (hg : base ≤ g) (hs : base ≤ w.heap.size) : Go.RowKit.Below base w (sortWorldK cellsTt 4 w g 0 n d os) := by
  refine ⟨rfl, rfl, rfl, ?_, fun k hk => ?_⟩
  · simp [sortWorldK, putRowK, putRow, mapBlock, grow, Sort.ahead]
  · simp only [sortWorldK, putRowK, putRow, mapBlock, grow, Sort.ahead]
    rw [Array.getElem?_append_left (by simp; omega), Array.getElem?_modify, if_neg (by omega)]
theorem drewN_growT13 (W : World) (os : Array Obj) (q : Nat) : (grow W os).drewN q = grow (W.drewN q) os := rfl
/-- How All tells two totals apart. -/
def cfT13 (x y : Tt) : Int := firstN [Lib.compareBytes x.n.data.toList y.n.data.toList, Lib.compareInt x.k y.k]
theorem cfT13_lt (x y : Tt) : cfT13 x y < 0 ↔ ltK x.n x.k y.n y.k := by
  have e : Lib.compareBytes x.n.data.toList y.n.data.toList = if lessN (nats x.n) (nats y.n) then -1 else if nats x.n = nats y.n then 0 else 1 := compareBytes_is _ _
  unfold cfT13 ltK
  rw [e]
  simp only [firstN, Lib.compareInt]
  by_cases h1 : lessN (nats x.n) (nats y.n) = true
  · simp [h1]
  · by_cases h2 : nats x.n = nats y.n
    · have h3 := nats_inj h2
      rw [if_neg h1, if_pos h2, if_pos rfl]
      constructor
      · intro h
        refine .inr ⟨h3, ?_⟩
        revert h
        (repeat' split) <;> intro h <;> omega
      · rintro (h | ⟨_, h⟩)
        · exact absurd h h1
        · (repeat' split) <;> omega
    · have h3 : ¬ x.n = y.n := fun h => h2 (by rw [h])
      simp [h1, h2, h3]
theorem ltT13 (x y : Tt) : (ltOf cfT13 x y = true ↔ ltK x.n x.k y.n y.k) := by
  unfold ltOf
  rw [decide_eq_true_eq]
  exact cfT13_lt x y
theorem ltT13_not {x y : Tt} : ltOf cfT13 x y = false ↔ ¬ ltK x.n x.k y.n y.k := by
  rw [← ltT13]
  cases ltOf cfT13 x y <;> simp
theorem swoT13 : SWO (ltOf cfT13) where
  irrefl x := ltT13_not.2 ltK_irrefl
  trans x y z h1 h2 := (ltT13 _ _).2 (ltK_trans ((ltT13 _ _).1 h1) ((ltT13 _ _).1 h2))
  ntrans x y z h1 h2 := by
    rw [ltT13_not] at *
    intro h
    rcases ltK_or y.n z.n y.k z.k with k | k | k
    · exact h2 k
    · exact h1 (ltK_trans h k)
    · rw [← k.1, ← k.2] at h
      exact h1 h
theorem or2_13 (w : World) (g : Nat) (a b : Int) (h0 : w.cell? ⟨g, 0, none⟩ = some (.int .i64 a)) (h1 : w.cell? ⟨g, 1, none⟩ = some (.int .i64 b)) : Same 39 #[.slice (some ⟨g, 0, none⟩) 2 2] w (.int .i64 (firstN [a, b])) :=
  or_any _ g [a, b] (fun i x h => by
    rcases i with _ | _ | i
    · obtain rfl : a = x := by simpa using h
      exact h0
    · obtain rfl : b = x := by simpa using h
      exact h1
    · simp at h) (by simp)
set_option maxHeartbeats 4000000 in
set_option maxRecDepth 10000 in
theorem cmpT13_any (x y : Tt) (W : World) : Calls Try.prog 38 #[ttv x, ttv y] W fun e w' => e = .returned (.int .i64 (cfT13 x y)) ∧ ∃ q os', w' = grow (W.drewN q) os' := by
  have CS := Lib.hid (fun w => Try.strings_Compare x.n y.n w)
  have CI := Lib.hid (fun w => Try.cmp_Compare_int x.k y.k w)
  have CO := Lib.hid or2_13
  have HE := Lib.hid (show cfT13 x y = firstN [Lib.compareBytes x.n.data.toList y.n.data.toList, Lib.compareInt x.k y.k] from rfl)
  rw [HE.out]
  generalize Lib.compareBytes x.n.data.toList y.n.data.toList = r1 at *
  generalize Lib.compareInt x.k y.k = r2 at *
  obtain ⟨xn, xk, xc, xs⟩ := x
  obtain ⟨yn, yk, yc, ys⟩ := y
  clear HE
  go_enter Try.func38, Try.ntmps38
  go_upto_region 1 with fail
  have HV := Lib.hid (show ∃ os, (W.alloc (.cells #[.string xn, .int .i64 xk, .int .i64 xc, .int .i64 xs] 78)).alloc (.cells #[.string yn, .int .i64 yk, .int .i64 yc, .int .i64 ys] 78) = grow W os from ⟨_, by rw [alloc_eq_grow, alloc_eq_grow, grow_grow]⟩)
  have v0 : ((W.alloc (.cells #[.string xn, .int .i64 xk, .int .i64 xc, .int .i64 xs] 78)).alloc (.cells #[.string yn, .int .i64 yk, .int .i64 yc, .int .i64 ys] 78)).cell? ⟨W.heap.size, 0, none⟩ = some (.string xn) := by simp [go_sem]
  have v1 : ((W.alloc (.cells #[.string xn, .int .i64 xk, .int .i64 xc, .int .i64 xs] 78)).alloc (.cells #[.string yn, .int .i64 yk, .int .i64 yc, .int .i64 ys] 78)).cell? ⟨W.heap.size, 1, none⟩ = some (.int .i64 xk) := by simp [go_sem]
  have v2 : ((W.alloc (.cells #[.string xn, .int .i64 xk, .int .i64 xc, .int .i64 xs] 78)).alloc (.cells #[.string yn, .int .i64 yk, .int .i64 yc, .int .i64 ys] 78)).cell? ⟨W.heap.size + 1, 0, none⟩ = some (.string yn) := by simp [go_sem]
  have v3 : ((W.alloc (.cells #[.string xn, .int .i64 xk, .int .i64 xc, .int .i64 xs] 78)).alloc (.cells #[.string yn, .int .i64 yk, .int .i64 yc, .int .i64 ys] 78)).cell? ⟨W.heap.size + 1, 1, none⟩ = some (.int .i64 yk) := by simp [go_sem]
  generalize (W.alloc (.cells #[.string xn, .int .i64 xk, .int .i64 xc, .int .i64 xs] 78)).alloc (.cells #[.string yn, .int .i64 yk, .int .i64 yc, .int .i64 ys] 78) = V at *
  have MK := Lib.hid (show ∀ w', Below V.heap.size V w' → (w'.cell? ⟨W.heap.size, 0, none⟩ = some (.string xn) ∧ w'.cell? ⟨W.heap.size, 1, none⟩ = some (.int .i64 xk) ∧ w'.cell? ⟨W.heap.size + 1, 0, none⟩ = some (.string yn) ∧ w'.cell? ⟨W.heap.size + 1, 1, none⟩ = some (.int .i64 yk)) from fun w' h => ⟨keepc h v0, keepc h v1, keepc h v2, keepc h v3⟩)
  go_region_held3 (fun w' => w'.cell? ⟨W.heap.size, 0, none⟩ = some (.string xn) ∧ w'.cell? ⟨W.heap.size, 1, none⟩ = some (.int .i64 xk) ∧ w'.cell? ⟨W.heap.size + 1, 0, none⟩ = some (.string yn) ∧ w'.cell? ⟨W.heap.size + 1, 1, none⟩ = some (.int .i64 yk))
    (first | assumption | exact MK.out _ ((bl V).drew) | exact MK.out _ (((bl V).drew).alloc (Nat.le_refl _) _) | exact MK.out _ (by go_grown) | fail)
    (first
      | (go_at_call 40; (with_reducible refine (CS.out _).mono ?_); (rintro e w2 ⟨rfl, hw2⟩); (obtain rfl := hw2.symm))
      | (go_at_call 41; (with_reducible refine (CI.out _).mono ?_); (rintro e w2 ⟨rfl, hw2⟩); (obtain rfl := hw2.symm))
      | (go_at_call 39; (with_reducible refine (CO.out _ _ r1 r2 (by simp [go_sem]) (by simp [go_sem])).mono ?_); (rintro e w2 ⟨rfl, hw2⟩); (obtain rfl := hw2.symm))
      | fail)
  go_wp2_with fail
  go_ret
  obtain ⟨os, hos⟩ := HV.out
  subst hos
  exact ⟨rfl, 1, _, by rw [alloc_eq_grow, grow_grow]; rfl⟩
theorem cellsTt_one (x : Tt) (v : Value) (hv : v ∈ cellsTt x) : v.oneCell' = true := ETp.one x v hv
/-- What the sort leaves. -/
def SortPostT13 (base : Nat) (v : Value) (l : List Tt) (w : World) (e : Ending) (w' : World) : Prop :=
  e = .returned (.tuple #[]) ∧ ∃ m, l.Perm m ∧ m.Pairwise (fun x y => ¬ ltK y.n y.k x.n x.k) ∧ ListE ETp w' v m ∧ Go.RowKit.Below base w w'
theorem sorted_ofT13 {base g cap n : Nat} {l : List Tt} {w : World} {d' : Array Tt} {os : Array Obj} (hH : HoldsK cellsTt 4 w g 0 l.toArray) (hblk : g < w.heap.size) (hbase : base ≤ g) (hcap : l.length ≤ cap)
    (hp : PermIn 0 l.toArray.size l.toArray d') (hs : SortedIn (ltOf cfT13) 0 l.toArray.size d') : SortPostT13 base (.slice (some ⟨g, 0, none⟩) l.length cap) l w (.returned (.tuple #[])) (sortWorldK cellsTt 4 w g 0 n d' os) := by
  have hsz : d'.size = l.length := by simpa using hp.1
  have hlen : d'.toList.length = l.length := by simpa using hsz
  refine ⟨rfl, d'.toList, ?_, ?_, ⟨some ⟨g, 0, none⟩, cap, by rw [hlen], ?_, by rw [hlen]; exact hcap, fun h => by cases h⟩, below_sortedT13 hbase (by omega)⟩
  · have := hp.2.2
    simp only [List.size_toArray] at this
    rw [← hsz] at this
    simp only [Array.extract_size] at this
    rw [hsz] at this
    rw [show l.length = l.toArray.size from by simp, Array.extract_size] at this
    have h2 : d'.toList.Perm l := by simpa using this
    exact h2.symm
  · rw [List.pairwise_iff_getElem]
    intro i j hi hj hij
    have hi' : i < d'.size := by simpa using hi
    have hj' : j < d'.size := by simpa using hj
    have := hs i j (Nat.zero_le _) hij (by simp; omega)
    rw [getElem!_pos d' i hi', getElem!_pos d' j hj', ltT13_not] at this
    simpa using this
  · intro i p hi
    have hi' : i < d'.size := by simpa using (List.getElem?_eq_some_iff.1 hi).1
    have hK := holdsK_sortWorldK cellsTt 4 w g 0 n l.toArray d' os hblk hH (by simpa using hsz)
    have e : d'[i]! = p := by
      rw [getElem!_pos d' i hi']
      rw [Array.getElem?_toList, Array.getElem?_eq_getElem hi'] at hi
      injection hi
    have c0 := (hK.cell hi' (c := 0) (by omega)).1
    have c1 := (hK.cell hi' (c := 1) (by omega)).1
    have c2 := (hK.cell hi' (c := 2) (by omega)).1
    have c3 := (hK.cell hi' (c := 3) (by omega)).1
    rw [e] at c0 c1 c2 c3
    refine ⟨g, 0, rfl, fun j u hu => ?_⟩
    have hj : j = 0 ∨ j = 1 ∨ j = 2 ∨ j = 3 := by
      have := (List.getElem?_eq_some_iff.1 hu).1
      have h3 : (ETp.cells p).length = 4 := rfl
      omega
    rcases hj with rfl | rfl | rfl | rfl
    · cases hu; rw [show ETp.sz = 4 from rfl]; simpa using c0
    · cases hu; rw [show ETp.sz = 4 from rfl]; simpa using c1
    · cases hu; rw [show ETp.sz = 4 from rfl]; simpa using c2
    · cases hu; rw [show ETp.sz = 4 from rfl]; simpa using c3
theorem sort_totals13 {base : Nat} {v : Value} {l : List Tt} (w : World) (hown : ownE ETp w base v l) (hl : l.length < 4611686018427387904) :
    Calls Try.prog 37 #[v, .func (.func 38) #[] #[]] w (SortPostT13 base v l w) := by
  have hrow := ownE_list hown
  rcases hown.2 with ⟨rfl, h0⟩ | ⟨g, cap, cur, rfl, hbase, hb, hn, hcap, hcs, ht⟩
  · obtain rfl := List.eq_nil_of_length_eq_zero h0
    refine (AnyF.slices_SortFunc_none Try.sortTot none 0 _ w).mono ?_
    rintro e w' ⟨rfl, rfl⟩
    exact ⟨rfl, [], List.Perm.refl _, List.Pairwise.nil, ListE.nil _, Go.RowKit.Below.refl _ _⟩
  · have hlt : g < w.heap.size := (Array.getElem?_eq_some_iff.1 hb).1
    obtain ⟨A2, c2, he, hr, _⟩ := hrow
    injection he with he _ _
    rw [← he] at hr
    have hH := holds_ownT13 hb hr
    have hcon := AnyQ.slices_SortFunc Try.sortTot 4 Try.isAgg78 Try.sizeOf78 cellsTt (fun _ => rfl) cellsTt_one cfT13 swoT13 38 #[] g 0 cap l.toArray w (enters_of Try.func38 (by kernel_rfl) rfl) (fun _ _ _ _ x y => cmpT13_any x y _) hH hlt (by simpa using hl)
    change Calls Try.prog 37 _ _ _ at hcon
    simp only [List.size_toArray] at hcon
    refine hcon.mono ?_
    rintro e w' ⟨rfl, d', n, os, hp, hs, rfl⟩
    exact sorted_ofT13 hH hlt hbase hn (by simpa using hp) (by simpa using hs)
end Go.Proofs.Ytmhddpgeiijhgaa

/-
  A version, or a row, stored into a block of the call's own, and read behind a call.
-/
namespace Go.Proofs.Ytmhddpgeiijhgaa
open Go.RowKit

/-- Seven cells of one block, stored one behind the other. -/
theorem seven_store {w : World} {b : Nat} {u0 u1 u2 u3 u4 u5 u6 : Value} (x0 x1 x2 x3 x4 x5 x6 : Value) (h0 : w.cell? ⟨b, 0, none⟩ = some u0) (h1 : w.cell? ⟨b, 1, none⟩ = some u1) (h2 : w.cell? ⟨b, 2, none⟩ = some u2) (h3 : w.cell? ⟨b, 3, none⟩ = some u3) (h4 : w.cell? ⟨b, 4, none⟩ = some u4) (h5 : w.cell? ⟨b, 5, none⟩ = some u5) (h6 : w.cell? ⟨b, 6, none⟩ = some u6) :
    (((((((w.setCell ⟨b, 0, none⟩ x0).setCell ⟨b, 1, none⟩ x1).setCell ⟨b, 2, none⟩ x2).setCell ⟨b, 3, none⟩ x3).setCell ⟨b, 4, none⟩ x4).setCell ⟨b, 5, none⟩ x5).setCell ⟨b, 6, none⟩ x6).cell? ⟨b, 0, none⟩ = some x0 ∧ (((((((w.setCell ⟨b, 0, none⟩ x0).setCell ⟨b, 1, none⟩ x1).setCell ⟨b, 2, none⟩ x2).setCell ⟨b, 3, none⟩ x3).setCell ⟨b, 4, none⟩ x4).setCell ⟨b, 5, none⟩ x5).setCell ⟨b, 6, none⟩ x6).cell? ⟨b, 1, none⟩ = some x1 ∧ (((((((w.setCell ⟨b, 0, none⟩ x0).setCell ⟨b, 1, none⟩ x1).setCell ⟨b, 2, none⟩ x2).setCell ⟨b, 3, none⟩ x3).setCell ⟨b, 4, none⟩ x4).setCell ⟨b, 5, none⟩ x5).setCell ⟨b, 6, none⟩ x6).cell? ⟨b, 2, none⟩ = some x2 ∧ (((((((w.setCell ⟨b, 0, none⟩ x0).setCell ⟨b, 1, none⟩ x1).setCell ⟨b, 2, none⟩ x2).setCell ⟨b, 3, none⟩ x3).setCell ⟨b, 4, none⟩ x4).setCell ⟨b, 5, none⟩ x5).setCell ⟨b, 6, none⟩ x6).cell? ⟨b, 3, none⟩ = some x3 ∧ (((((((w.setCell ⟨b, 0, none⟩ x0).setCell ⟨b, 1, none⟩ x1).setCell ⟨b, 2, none⟩ x2).setCell ⟨b, 3, none⟩ x3).setCell ⟨b, 4, none⟩ x4).setCell ⟨b, 5, none⟩ x5).setCell ⟨b, 6, none⟩ x6).cell? ⟨b, 4, none⟩ = some x4 ∧ (((((((w.setCell ⟨b, 0, none⟩ x0).setCell ⟨b, 1, none⟩ x1).setCell ⟨b, 2, none⟩ x2).setCell ⟨b, 3, none⟩ x3).setCell ⟨b, 4, none⟩ x4).setCell ⟨b, 5, none⟩ x5).setCell ⟨b, 6, none⟩ x6).cell? ⟨b, 5, none⟩ = some x5 ∧ (((((((w.setCell ⟨b, 0, none⟩ x0).setCell ⟨b, 1, none⟩ x1).setCell ⟨b, 2, none⟩ x2).setCell ⟨b, 3, none⟩ x3).setCell ⟨b, 4, none⟩ x4).setCell ⟨b, 5, none⟩ x5).setCell ⟨b, 6, none⟩ x6).cell? ⟨b, 6, none⟩ = some x6 := by
  have O := fun (W : World) (i j : Nat) (x : Value) (h : i ≠ j) => World.cell?_setCell_other W ⟨b, i, none⟩ ⟨b, j, none⟩ x (fun e => h (by injection e))
  have a0 : w.cell? ⟨b, 0, none⟩ = some u0 := h0
  have a1 : (w.setCell ⟨b, 0, none⟩ x0).cell? ⟨b, 1, none⟩ = some u1 := ((O _ 0 1 _ (by decide)).trans h1)
  have a2 : ((w.setCell ⟨b, 0, none⟩ x0).setCell ⟨b, 1, none⟩ x1).cell? ⟨b, 2, none⟩ = some u2 := ((O _ 1 2 _ (by decide)).trans ((O _ 0 2 _ (by decide)).trans h2))
  have a3 : (((w.setCell ⟨b, 0, none⟩ x0).setCell ⟨b, 1, none⟩ x1).setCell ⟨b, 2, none⟩ x2).cell? ⟨b, 3, none⟩ = some u3 := ((O _ 2 3 _ (by decide)).trans ((O _ 1 3 _ (by decide)).trans ((O _ 0 3 _ (by decide)).trans h3)))
  have a4 : ((((w.setCell ⟨b, 0, none⟩ x0).setCell ⟨b, 1, none⟩ x1).setCell ⟨b, 2, none⟩ x2).setCell ⟨b, 3, none⟩ x3).cell? ⟨b, 4, none⟩ = some u4 := ((O _ 3 4 _ (by decide)).trans ((O _ 2 4 _ (by decide)).trans ((O _ 1 4 _ (by decide)).trans ((O _ 0 4 _ (by decide)).trans h4))))
  have a5 : (((((w.setCell ⟨b, 0, none⟩ x0).setCell ⟨b, 1, none⟩ x1).setCell ⟨b, 2, none⟩ x2).setCell ⟨b, 3, none⟩ x3).setCell ⟨b, 4, none⟩ x4).cell? ⟨b, 5, none⟩ = some u5 := ((O _ 4 5 _ (by decide)).trans ((O _ 3 5 _ (by decide)).trans ((O _ 2 5 _ (by decide)).trans ((O _ 1 5 _ (by decide)).trans ((O _ 0 5 _ (by decide)).trans h5)))))
  have a6 : ((((((w.setCell ⟨b, 0, none⟩ x0).setCell ⟨b, 1, none⟩ x1).setCell ⟨b, 2, none⟩ x2).setCell ⟨b, 3, none⟩ x3).setCell ⟨b, 4, none⟩ x4).setCell ⟨b, 5, none⟩ x5).cell? ⟨b, 6, none⟩ = some u6 := ((O _ 5 6 _ (by decide)).trans ((O _ 4 6 _ (by decide)).trans ((O _ 3 6 _ (by decide)).trans ((O _ 2 6 _ (by decide)).trans ((O _ 1 6 _ (by decide)).trans ((O _ 0 6 _ (by decide)).trans h6))))))
  refine ⟨?_, ?_, ?_, ?_, ?_, ?_, ?_⟩
  · exact ((O _ 6 0 _ (by decide)).trans ((O _ 5 0 _ (by decide)).trans ((O _ 4 0 _ (by decide)).trans ((O _ 3 0 _ (by decide)).trans ((O _ 2 0 _ (by decide)).trans ((O _ 1 0 _ (by decide)).trans (World.cell?_setCell_same _ _ _ a0)))))))
  · exact ((O _ 6 1 _ (by decide)).trans ((O _ 5 1 _ (by decide)).trans ((O _ 4 1 _ (by decide)).trans ((O _ 3 1 _ (by decide)).trans ((O _ 2 1 _ (by decide)).trans (World.cell?_setCell_same _ _ _ a1))))))
  · exact ((O _ 6 2 _ (by decide)).trans ((O _ 5 2 _ (by decide)).trans ((O _ 4 2 _ (by decide)).trans ((O _ 3 2 _ (by decide)).trans (World.cell?_setCell_same _ _ _ a2)))))
  · exact ((O _ 6 3 _ (by decide)).trans ((O _ 5 3 _ (by decide)).trans ((O _ 4 3 _ (by decide)).trans (World.cell?_setCell_same _ _ _ a3))))
  · exact ((O _ 6 4 _ (by decide)).trans ((O _ 5 4 _ (by decide)).trans (World.cell?_setCell_same _ _ _ a4)))
  · exact ((O _ 6 5 _ (by decide)).trans (World.cell?_setCell_same _ _ _ a5))
  · exact (World.cell?_setCell_same _ _ _ a6)

/-- Eight cells of one block, stored one behind the other. -/
theorem eight_store {w : World} {b : Nat} {u0 u1 u2 u3 u4 u5 u6 u7 : Value} (x0 x1 x2 x3 x4 x5 x6 x7 : Value) (h0 : w.cell? ⟨b, 0, none⟩ = some u0) (h1 : w.cell? ⟨b, 1, none⟩ = some u1) (h2 : w.cell? ⟨b, 2, none⟩ = some u2) (h3 : w.cell? ⟨b, 3, none⟩ = some u3) (h4 : w.cell? ⟨b, 4, none⟩ = some u4) (h5 : w.cell? ⟨b, 5, none⟩ = some u5) (h6 : w.cell? ⟨b, 6, none⟩ = some u6) (h7 : w.cell? ⟨b, 7, none⟩ = some u7) :
    ((((((((w.setCell ⟨b, 0, none⟩ x0).setCell ⟨b, 1, none⟩ x1).setCell ⟨b, 2, none⟩ x2).setCell ⟨b, 3, none⟩ x3).setCell ⟨b, 4, none⟩ x4).setCell ⟨b, 5, none⟩ x5).setCell ⟨b, 6, none⟩ x6).setCell ⟨b, 7, none⟩ x7).cell? ⟨b, 0, none⟩ = some x0 ∧ ((((((((w.setCell ⟨b, 0, none⟩ x0).setCell ⟨b, 1, none⟩ x1).setCell ⟨b, 2, none⟩ x2).setCell ⟨b, 3, none⟩ x3).setCell ⟨b, 4, none⟩ x4).setCell ⟨b, 5, none⟩ x5).setCell ⟨b, 6, none⟩ x6).setCell ⟨b, 7, none⟩ x7).cell? ⟨b, 1, none⟩ = some x1 ∧ ((((((((w.setCell ⟨b, 0, none⟩ x0).setCell ⟨b, 1, none⟩ x1).setCell ⟨b, 2, none⟩ x2).setCell ⟨b, 3, none⟩ x3).setCell ⟨b, 4, none⟩ x4).setCell ⟨b, 5, none⟩ x5).setCell ⟨b, 6, none⟩ x6).setCell ⟨b, 7, none⟩ x7).cell? ⟨b, 2, none⟩ = some x2 ∧ ((((((((w.setCell ⟨b, 0, none⟩ x0).setCell ⟨b, 1, none⟩ x1).setCell ⟨b, 2, none⟩ x2).setCell ⟨b, 3, none⟩ x3).setCell ⟨b, 4, none⟩ x4).setCell ⟨b, 5, none⟩ x5).setCell ⟨b, 6, none⟩ x6).setCell ⟨b, 7, none⟩ x7).cell? ⟨b, 3, none⟩ = some x3 ∧ ((((((((w.setCell ⟨b, 0, none⟩ x0).setCell ⟨b, 1, none⟩ x1).setCell ⟨b, 2, none⟩ x2).setCell ⟨b, 3, none⟩ x3).setCell ⟨b, 4, none⟩ x4).setCell ⟨b, 5, none⟩ x5).setCell ⟨b, 6, none⟩ x6).setCell ⟨b, 7, none⟩ x7).cell? ⟨b, 4, none⟩ = some x4 ∧ ((((((((w.setCell ⟨b, 0, none⟩ x0).setCell ⟨b, 1, none⟩ x1).setCell ⟨b, 2, none⟩ x2).setCell ⟨b, 3, none⟩ x3).setCell ⟨b, 4, none⟩ x4).setCell ⟨b, 5, none⟩ x5).setCell ⟨b, 6, none⟩ x6).setCell ⟨b, 7, none⟩ x7).cell? ⟨b, 5, none⟩ = some x5 ∧ ((((((((w.setCell ⟨b, 0, none⟩ x0).setCell ⟨b, 1, none⟩ x1).setCell ⟨b, 2, none⟩ x2).setCell ⟨b, 3, none⟩ x3).setCell ⟨b, 4, none⟩ x4).setCell ⟨b, 5, none⟩ x5).setCell ⟨b, 6, none⟩ x6).setCell ⟨b, 7, none⟩ x7).cell? ⟨b, 6, none⟩ = some x6 ∧ ((((((((w.setCell ⟨b, 0, none⟩ x0).setCell ⟨b, 1, none⟩ x1).setCell ⟨b, 2, none⟩ x2).setCell ⟨b, 3, none⟩ x3).setCell ⟨b, 4, none⟩ x4).setCell ⟨b, 5, none⟩ x5).setCell ⟨b, 6, none⟩ x6).setCell ⟨b, 7, none⟩ x7).cell? ⟨b, 7, none⟩ = some x7 := by
  have O := fun (W : World) (i j : Nat) (x : Value) (h : i ≠ j) => World.cell?_setCell_other W ⟨b, i, none⟩ ⟨b, j, none⟩ x (fun e => h (by injection e))
  have a0 : w.cell? ⟨b, 0, none⟩ = some u0 := h0
  have a1 : (w.setCell ⟨b, 0, none⟩ x0).cell? ⟨b, 1, none⟩ = some u1 := ((O _ 0 1 _ (by decide)).trans h1)
  have a2 : ((w.setCell ⟨b, 0, none⟩ x0).setCell ⟨b, 1, none⟩ x1).cell? ⟨b, 2, none⟩ = some u2 := ((O _ 1 2 _ (by decide)).trans ((O _ 0 2 _ (by decide)).trans h2))
  have a3 : (((w.setCell ⟨b, 0, none⟩ x0).setCell ⟨b, 1, none⟩ x1).setCell ⟨b, 2, none⟩ x2).cell? ⟨b, 3, none⟩ = some u3 := ((O _ 2 3 _ (by decide)).trans ((O _ 1 3 _ (by decide)).trans ((O _ 0 3 _ (by decide)).trans h3)))
  have a4 : ((((w.setCell ⟨b, 0, none⟩ x0).setCell ⟨b, 1, none⟩ x1).setCell ⟨b, 2, none⟩ x2).setCell ⟨b, 3, none⟩ x3).cell? ⟨b, 4, none⟩ = some u4 := ((O _ 3 4 _ (by decide)).trans ((O _ 2 4 _ (by decide)).trans ((O _ 1 4 _ (by decide)).trans ((O _ 0 4 _ (by decide)).trans h4))))
  have a5 : (((((w.setCell ⟨b, 0, none⟩ x0).setCell ⟨b, 1, none⟩ x1).setCell ⟨b, 2, none⟩ x2).setCell ⟨b, 3, none⟩ x3).setCell ⟨b, 4, none⟩ x4).cell? ⟨b, 5, none⟩ = some u5 := ((O _ 4 5 _ (by decide)).trans ((O _ 3 5 _ (by decide)).trans ((O _ 2 5 _ (by decide)).trans ((O _ 1 5 _ (by decide)).trans ((O _ 0 5 _ (by decide)).trans h5)))))
  have a6 : ((((((w.setCell ⟨b, 0, none⟩ x0).setCell ⟨b, 1, none⟩ x1).setCell ⟨b, 2, none⟩ x2).setCell ⟨b, 3, none⟩ x3).setCell ⟨b, 4, none⟩ x4).setCell ⟨b, 5, none⟩ x5).cell? ⟨b, 6, none⟩ = some u6 := ((O _ 5 6 _ (by decide)).trans ((O _ 4 6 _ (by decide)).trans ((O _ 3 6 _ (by decide)).trans ((O _ 2 6 _ (by decide)).trans ((O _ 1 6 _ (by decide)).trans ((O _ 0 6 _ (by decide)).trans h6))))))
  have a7 : (((((((w.setCell ⟨b, 0, none⟩ x0).setCell ⟨b, 1, none⟩ x1).setCell ⟨b, 2, none⟩ x2).setCell ⟨b, 3, none⟩ x3).setCell ⟨b, 4, none⟩ x4).setCell ⟨b, 5, none⟩ x5).setCell ⟨b, 6, none⟩ x6).cell? ⟨b, 7, none⟩ = some u7 := ((O _ 6 7 _ (by decide)).trans ((O _ 5 7 _ (by decide)).trans ((O _ 4 7 _ (by decide)).trans ((O _ 3 7 _ (by decide)).trans ((O _ 2 7 _ (by decide)).trans ((O _ 1 7 _ (by decide)).trans ((O _ 0 7 _ (by decide)).trans h7)))))))
  refine ⟨?_, ?_, ?_, ?_, ?_, ?_, ?_, ?_⟩
  · exact ((O _ 7 0 _ (by decide)).trans ((O _ 6 0 _ (by decide)).trans ((O _ 5 0 _ (by decide)).trans ((O _ 4 0 _ (by decide)).trans ((O _ 3 0 _ (by decide)).trans ((O _ 2 0 _ (by decide)).trans ((O _ 1 0 _ (by decide)).trans (World.cell?_setCell_same _ _ _ a0))))))))
  · exact ((O _ 7 1 _ (by decide)).trans ((O _ 6 1 _ (by decide)).trans ((O _ 5 1 _ (by decide)).trans ((O _ 4 1 _ (by decide)).trans ((O _ 3 1 _ (by decide)).trans ((O _ 2 1 _ (by decide)).trans (World.cell?_setCell_same _ _ _ a1)))))))
  · exact ((O _ 7 2 _ (by decide)).trans ((O _ 6 2 _ (by decide)).trans ((O _ 5 2 _ (by decide)).trans ((O _ 4 2 _ (by decide)).trans ((O _ 3 2 _ (by decide)).trans (World.cell?_setCell_same _ _ _ a2))))))
  · exact ((O _ 7 3 _ (by decide)).trans ((O _ 6 3 _ (by decide)).trans ((O _ 5 3 _ (by decide)).trans ((O _ 4 3 _ (by decide)).trans (World.cell?_setCell_same _ _ _ a3)))))
  · exact ((O _ 7 4 _ (by decide)).trans ((O _ 6 4 _ (by decide)).trans ((O _ 5 4 _ (by decide)).trans (World.cell?_setCell_same _ _ _ a4))))
  · exact ((O _ 7 5 _ (by decide)).trans ((O _ 6 5 _ (by decide)).trans (World.cell?_setCell_same _ _ _ a5)))
  · exact ((O _ 7 6 _ (by decide)).trans (World.cell?_setCell_same _ _ _ a6))
  · exact (World.cell?_setCell_same _ _ _ a7)

theorem seven_below {w0 w : World} {base b : Nat} {x0 x1 x2 x3 x4 x5 x6 : Value} (h : Below base w0 w) (hg : base ≤ b) : Below base w0 (((((((w.setCell ⟨b, 0, none⟩ x0).setCell ⟨b, 1, none⟩ x1).setCell ⟨b, 2, none⟩ x2).setCell ⟨b, 3, none⟩ x3).setCell ⟨b, 4, none⟩ x4).setCell ⟨b, 5, none⟩ x5).setCell ⟨b, 6, none⟩ x6) := (((((((h.setCell hg _).setCell hg _).setCell hg _).setCell hg _).setCell hg _).setCell hg _).setCell hg _)
theorem eight_below {w0 w : World} {base b : Nat} {x0 x1 x2 x3 x4 x5 x6 x7 : Value} (h : Below base w0 w) (hg : base ≤ b) : Below base w0 ((((((((w.setCell ⟨b, 0, none⟩ x0).setCell ⟨b, 1, none⟩ x1).setCell ⟨b, 2, none⟩ x2).setCell ⟨b, 3, none⟩ x3).setCell ⟨b, 4, none⟩ x4).setCell ⟨b, 5, none⟩ x5).setCell ⟨b, 6, none⟩ x6).setCell ⟨b, 7, none⟩ x7) := ((((((((h.setCell hg _).setCell hg _).setCell hg _).setCell hg _).setCell hg _).setCell hg _).setCell hg _).setCell hg _)

/-- The cells of a version in a block of its own, and that they may be stored into. -/
structure HoldV (w : World) (g : Nat) (v : Vr) : Prop where
  c : Cells7 w g 0 v
  f : w.frozen? ⟨g, 0, none⟩ = false ∧ w.frozen? ⟨g, 1, none⟩ = false ∧ w.frozen? ⟨g, 2, none⟩ = false ∧ w.frozen? ⟨g, 3, none⟩ = false ∧ w.frozen? ⟨g, 4, none⟩ = false ∧ w.frozen? ⟨g, 5, none⟩ = false ∧ w.frozen? ⟨g, 6, none⟩ = false
theorem holdV_new (w : World) (v : Vr) : HoldV (w.alloc (ocV v)) w.heap.size v :=
  ⟨⟨by simp [go_sem], by simp [go_sem], by simp [go_sem], by simp [go_sem], by simp [go_sem], by simp [go_sem], by simp [go_sem]⟩, ⟨by simp [go_sem], by simp [go_sem], by simp [go_sem], by simp [go_sem], by simp [go_sem], by simp [go_sem], by simp [go_sem]⟩⟩
theorem HoldV.below {w w' : World} {g : Nat} {v : Vr} (h : HoldV w g v) (hb : Below w.heap.size w w') : HoldV w' g v := by
  have hg := lt_of_cell h.c.1
  obtain ⟨f0, f1, f2, f3, f4, f5, f6⟩ := h.f
  exact ⟨h.c.below hb, keepf hb hg f0, keepf hb hg f1, keepf hb hg f2, keepf hb hg f3, keepf hb hg f4, keepf hb hg f5, keepf hb hg f6⟩

end Go.Proofs.Ytmhddpgeiijhgaa
