/-
  Texts joined into one: what the program's and the document's calls give back, piece by piece.
-/
import Derived.Test.YtepjhkcnhahhiaaMg1
import Derived.Test.YtepjhkcnhahhiaaMg2
import Derived.Test.YtepjhkcnhahhiaaMg3
import Derived.Test.YtepjhkcnhahhiaaMg4
import Derived.Test.YtepjhkcnhahhiaaMg5
import Derived.Test.YtepjhkcnhahhiaaRows
import Derived.BigQuiet
import Derived.ChangeAlike
import Derived.ChangeKeysEq
import Derived.Deep.AppendLies
import Derived.Deep.CutBlock
import Derived.Deep.CutRange
import Derived.Deep.Light
import Derived.Deep.QuietTactic
import Derived.Deep.RegionHeld3
import Derived.Deep.RegionLaw
import Derived.Handy
import Derived.Laws.BytesArg
import Derived.Laws.Externs
import Derived.Laws.IdiomCopy
import Derived.Laws.OwnMore
import Derived.Laws.Strings
import Derived.Laws.StructEq
import Derived.Lib.AppendStr
import Derived.Lib.Builder
import Derived.Lib.Hide
import Derived.Lib.UnsafeStr
import Derived.Maps.AppendAt
import Derived.OneCell
import Derived.OwnWalk
import Derived.RegionTactic
import Derived.StillTailTactics
import Derived.WalkArith
import Derived.WalkKit
import Derived.WalkLawsBesides
import Derived.WalkSpells

/-
  VersionBytes and VersionRows give back true for any version, any row and any text.
-/
namespace Go.Proofs.Ytepjhkcnhahhiaa
open Go.RowKit

theorem same_cont {x v : Vr} (h : contV x = contV v) : sameV x v = true ∧ x.fs = v.fs := by
  obtain ⟨id, st, ent, sf, se, fa, fc, fs, gone⟩ := x
  obtain ⟨id', st', ent', sf', se', fa', fc', fs', gone'⟩ := v
  unfold contV at h
  injection h with h1 h2 h3 h4 h5 h6 h7 h8 h9
  subst h1 h2 h3 h4 h5 h8 h9
  exact ⟨by simp [sameV, sameF_self], rfl⟩
theorem putV_size (v : Vr) : (putV v).size ≤ 2000 := by
  by_cases h : rightV v = 0
  · exact bytesV_size h
  · unfold putV; rw [if_neg h]; exact Nat.zero_le _
theorem putR_size (r : Rw) : (putR r).size ≤ 3000 := by
  unfold putR
  by_cases h : rightR r = 0
  · rw [if_pos h, ByteArray.size_append]
    have := putV_size r.v
    have := enc_small (if r.un = 4611686018427387904 then 0 else r.un.toNat)
    omega
  · rw [if_neg h]; exact Nat.zero_le _

set_option maxHeartbeats 4000000 in
set_option maxRecDepth 10000 in
theorem bytes_walk (v : Vr) (b : ByteArray) (w : World) (hv : VF w v) (hok : okF v.fs) (hn : v.fs.length ≤ 9223372036854775807) (hz : v.ent.size ≤ 9223372036854775807) (hb : b.size ≤ 140737488351232) : Ret 5 #[vv v, .string b] w (.bool true) := by
  have CAL := Lib.hid alive_any
  have HB := Lib.hid ((bl w).alloc (Nat.le_refl _) (ocV v))
  have HX := Lib.hid (boxV_new w v)
  have C1 := Lib.hid (fun w' (h : Below w.heap.size w w') => pputv_any v w' (hv.below h) hok hn hz)
  have C2 := Lib.hid (fun w' (h : Below w.heap.size w w') => dputv_any v w' (hv.below h) hok hn hz)
  have z1 := putV_size v
  have CT := Lib.hid (fun w' => ptakevs_any (putV v ++ b) (by rw [ByteArray.size_append]; omega) w')
  have HT := Lib.hid (fun h => takeVs_put (v := v) h b)
  have y1 : ¬ (putV v).size + b.size > 9223372036854775807 := by omega
  obtain ⟨T, hT⟩ : ∃ T, takeVs (putV v ++ b) = T := ⟨_, rfl⟩
  rw [hT] at CT HT
  have HVF := Lib.hid hv
  obtain ⟨z, hzz⟩ : ∃ z, rightV v = z := ⟨_, rfl⟩
  rw [hzz] at C1 C2 HT
  generalize putV v = P at *
  clear hok hn hz hb z1 hT hzz hv
  by_cases h3 : 300 < v.fs.length
  · have h3' : (300 : Int) < (v.fs.length : Int) := by omega
    go_enter Try.func5, Try.ntmps5
    go_wp2_with (go_at_call 7; (with_reducible refine (CAL.out _).mono ?_); rintro e w2 ⟨rfl, hb⟩)
    go_ret
    exact ⟨rfl, HB.out.trans (hb.mono HB.out.size)⟩
  · have h3' : ¬ (300 : Int) < (v.fs.length : Int) := by omega
    by_cases h0 : z = 0
    · have hT0 := HT.out h0
      subst h0 hT0
      clear HT
      have CO := Lib.hid (fun w' x (hc : contV x = contV v) (h : Below w.heap.size w w') (hx : VF w' x) => done_v x v w' hx (HVF.out.below h) (by rw [(same_cont hc).2]; omega) (by omega))
      go_enter Try.func5, Try.ntmps5
      go_upto_region 8 with (first
        | (go_at_call 18; (with_reducible refine (C1.out _ HB.out).mono ?_); rintro e w1 ⟨rfl, hb1⟩; have hc1 := chain HB.out hb1; obtain ⟨k0, k1, k2, k3, k4, k5, k6⟩ := HX.out.below hb1)
        | (go_at_call 19; (with_reducible refine (C2.out _ hc1).mono ?_); rintro e w2 ⟨rfl, hb2⟩; have hc2 := chain hc1 hb2)
        | (go_at_call 20; (with_reducible refine (CT.out _).mono ?_); rintro e w3 ⟨x3, rfl, hx3, hf3, hb3⟩; have hc3 := chain hc2 hb3; have hd3 := hc3.alloc hc3.size (ocV x3); have hq3 := ((HX.out.below hb1).below hb2).below (chain hb3 ((bl w3).alloc (Nat.le_refl _) (ocV x3))); have hg3 := hf3.below ((bl w3).alloc (Nat.le_refl _) (ocV x3))))
      refine abstract_worldW (fun W => Below w.heap.size w W ∧ BoxV W w.heap.size v ∧ BoxV W w3.heap.size x3 ∧ VF W x3) ⟨hd3, hq3, boxV_new w3 x3, hg3⟩ ?_
      rintro W ⟨hd4, ⟨q0, q1, q2, q3, q4, q5, q6⟩, ⟨p0, p1, p2, p3, p4, p5, p6⟩, hg4⟩
      clear k0 k1 k2 k3 k4 k5 k6 hd3 hq3 hg3
      go_wp2_with (first
        | (go_at_call 21; (refine (CO.out _ x3 hx3 hd4 hg4).mono ?_); rintro e w4 ⟨rfl, hb4⟩; rw [(same_cont hx3).1]; have hc4 := chain hd4 hb4)
        | (go_at_call 7; (with_reducible refine (CAL.out _).mono ?_); rintro e w9 ⟨rfl, hb9⟩; have hc9 := chain hc4 hb9))
      go_ret
      exact ⟨rfl, hc9⟩
    · have h0' : ¬ (z : Int) = 0 := by omega
      clear HT
      obtain ⟨T1, T2, T3⟩ := T
      go_enter Try.func5, Try.ntmps5
      go_wp2_with (first
        | (go_at_call 18; (with_reducible refine (C1.out _ HB.out).mono ?_); rintro e w1 ⟨rfl, hb1⟩; have hc1 := chain HB.out hb1; obtain ⟨k0, k1, k2, k3, k4, k5, k6⟩ := HX.out.below hb1)
        | (go_at_call 19; (with_reducible refine (C2.out _ hc1).mono ?_); rintro e w2 ⟨rfl, hb2⟩; have hc2 := chain hc1 hb2)
        | (go_at_call 20; (with_reducible refine (CT.out _).mono ?_); rintro e w3 ⟨x3, rfl, hx3, hf3, hb3⟩; have hc3 := chain hc2 hb3; have hd3 := hc3.alloc hc3.size (ocV x3))
        | (go_at_call 7; (with_reducible refine (CAL.out _).mono ?_); rintro e w9 ⟨rfl, hb9⟩; have hc9 := chain hd3 hb9))
      go_ret
      exact ⟨rfl, hc9⟩

set_option maxHeartbeats 4000000 in
set_option maxRecDepth 10000 in
theorem rows_walk (r : Rw) (b : ByteArray) (w : World) (hv : VF w r.v) (hok : okF r.v.fs) (hn : r.v.fs.length ≤ 9223372036854775807) (hz : r.v.ent.size ≤ 9223372036854775807) (hb : b.size ≤ 140737488351232) : Ret 6 #[rv r, .string b] w (.bool true) := by
  have CAL := Lib.hid alive_any
  have HB := Lib.hid ((bl w).alloc (Nat.le_refl _) (ocR r))
  have HX := Lib.hid (boxR_new w r)
  have C1 := Lib.hid (fun w' (h : Below w.heap.size w w') => pputr_any r w' (hv.below h) hok hn hz)
  have C2 := Lib.hid (fun w' (h : Below w.heap.size w w') => dputr_any r w' (hv.below h) hok hn hz)
  have z1 := putR_size r
  have CT := Lib.hid (fun w' => ptakers_any (putR r ++ b) (by rw [ByteArray.size_append]; omega) w')
  have HT := Lib.hid (fun h => takeRp_put (r := r) h b)
  have y1 : ¬ (putR r).size + b.size > 9223372036854775807 := by omega
  obtain ⟨T, hT⟩ : ∃ T, takeRp (putR r ++ b) = T := ⟨_, rfl⟩
  rw [hT] at CT HT
  have HVF := Lib.hid hv
  obtain ⟨z, hzz⟩ : ∃ z, rightR r = z := ⟨_, rfl⟩
  rw [hzz] at C1 C2 HT
  generalize putR r = P at *
  clear hok hn hz hb z1 hT hzz hv
  by_cases h3 : 300 < r.v.fs.length
  · have h3' : (300 : Int) < (r.v.fs.length : Int) := by omega
    go_enter Try.func6, Try.ntmps6
    go_wp2_with (go_at_call 7; (with_reducible refine (CAL.out _).mono ?_); rintro e w2 ⟨rfl, hb⟩)
    go_ret
    exact ⟨rfl, HB.out.trans (hb.mono HB.out.size)⟩
  · have h3' : ¬ (300 : Int) < (r.v.fs.length : Int) := by omega
    by_cases h0 : z = 0
    · have hT0 := HT.out h0
      subst h0 hT0
      clear HT
      have HS := Lib.hid (fun x (hc : contR x = contR r) => show sameR x r = true ∧ x.v.fs = r.v.fs from by
        have h1 : contV x.v = contV r.v := by have := congrArg Rw.v hc; exact this
        have h2 : x.un = r.un := by have := congrArg Rw.un hc; exact this
        exact ⟨by unfold sameR; rw [(same_cont h1).1, decide_eq_true h2]; rfl, (same_cont h1).2⟩)
      have CO := Lib.hid (fun w' x (hc : contR x = contR r) (h : Below w.heap.size w w') (hx : VF w' x.v) => donerow_any x r w' hx (HVF.out.below h) (by rw [(HS.out x hc).2]; omega) (by omega))
      go_enter Try.func6, Try.ntmps6
      go_upto_region 8 with (first
        | (go_at_call 22; (with_reducible refine (C1.out _ HB.out).mono ?_); rintro e w1 ⟨rfl, hb1⟩; have hc1 := chain HB.out hb1; obtain ⟨⟨k0, k1, k2, k3, k4, k5, k6⟩, k7⟩ := HX.out.below hb1)
        | (go_at_call 23; (with_reducible refine (C2.out _ hc1).mono ?_); rintro e w2 ⟨rfl, hb2⟩; have hc2 := chain hc1 hb2)
        | (go_at_call 24; (with_reducible refine (CT.out _).mono ?_); rintro e w3 ⟨x3, rfl, hx3, hf3, hb3⟩; have hc3 := chain hc2 hb3; have hd3 := hc3.alloc hc3.size (ocR x3); have hq3 := ((HX.out.below hb1).below hb2).below (chain hb3 ((bl w3).alloc (Nat.le_refl _) (ocR x3))); have hg3 := hf3.below ((bl w3).alloc (Nat.le_refl _) (ocR x3))))
      refine abstract_worldW (fun W => Below w.heap.size w W ∧ BoxR W w.heap.size r ∧ BoxR W w3.heap.size x3 ∧ VF W x3.v) ⟨hd3, hq3, boxR_new w3 x3, hg3⟩ ?_
      rintro W ⟨hd4, ⟨⟨q0, q1, q2, q3, q4, q5, q6⟩, q7⟩, ⟨⟨p0, p1, p2, p3, p4, p5, p6⟩, p7⟩, hg4⟩
      clear k0 k1 k2 k3 k4 k5 k6 k7 hd3 hq3 hg3
      go_wp2_with (first
        | (go_at_call 25; (refine (CO.out _ x3 hx3 hd4 hg4).mono ?_); rintro e w4 ⟨rfl, hb4⟩; rw [(HS.out x3 hx3).1]; have hc4 := chain hd4 hb4)
        | (go_at_call 7; (with_reducible refine (CAL.out _).mono ?_); rintro e w9 ⟨rfl, hb9⟩; have hc9 := chain hc4 hb9))
      go_ret
      exact ⟨rfl, hc9⟩
    · have h0' : ¬ (z : Int) = 0 := by omega
      clear HT
      obtain ⟨T1, T2, T3⟩ := T
      go_enter Try.func6, Try.ntmps6
      go_wp2_with (first
        | (go_at_call 22; (with_reducible refine (C1.out _ HB.out).mono ?_); rintro e w1 ⟨rfl, hb1⟩; have hc1 := chain HB.out hb1; obtain ⟨⟨k0, k1, k2, k3, k4, k5, k6⟩, k7⟩ := HX.out.below hb1)
        | (go_at_call 23; (with_reducible refine (C2.out _ hc1).mono ?_); rintro e w2 ⟨rfl, hb2⟩; have hc2 := chain hc1 hb2)
        | (go_at_call 24; (with_reducible refine (CT.out _).mono ?_); rintro e w3 ⟨x3, rfl, hx3, hf3, hb3⟩; have hc3 := chain hc2 hb3; have hd3 := hc3.alloc hc3.size (ocR x3))
        | (go_at_call 7; (with_reducible refine (CAL.out _).mono ?_); rintro e w9 ⟨rfl, hb9⟩; have hc9 := chain hd3 hb9))
      go_ret
      exact ⟨rfl, hc9⟩

end Go.Proofs.Ytepjhkcnhahhiaa
