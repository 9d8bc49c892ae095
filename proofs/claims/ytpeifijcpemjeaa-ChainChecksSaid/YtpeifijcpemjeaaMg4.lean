/-
  Texts joined into one: what the program's and the document's calls give back, piece by piece.
-/
import Derived.Test.YtpeifijcpemjeaaMg1
import Derived.Test.YtpeifijcpemjeaaMg2
import Derived.Test.YtpeifijcpemjeaaMg3
import Derived.Test.YtpeifijcpemjeaaRows
import Derived.BigQuiet
import Derived.ChangeAlike
import Derived.ChangeKeysEq
import Derived.Deep.AppendLies
import Derived.Deep.CutBlock
import Derived.Deep.CutRange
import Derived.Deep.Light
import Derived.Deep.OwnRows
import Derived.Deep.QuietTactic
import Derived.Deep.RegionHeld3
import Derived.Deep.RegionLaw
import Derived.Handy
import Derived.Laws.BytesArg
import Derived.Laws.MakeOwn
import Derived.Laws.OwnMore
import Derived.Laws.Strings
import Derived.Laws.StructEq
import Derived.Lib.Hide
import Derived.Maps.AppendAt
import Derived.OneCell
import Derived.OwnWalk
import Derived.RegionTactic
import Derived.StillTailTactics
import Derived.WalkArith
import Derived.WalkKit
import Derived.WalkLawsBesides
import Derived.WalkSpells
import Derived.Laws.Externs
import Derived.Laws.IdiomCopy
import Derived.Lib.AppendStr
import Derived.Lib.Builder
import Derived.Lib.UnsafeStr
import Derived.Lib.SmallJoins
import Derived.ProofKit
import Derived.RangeFuncOwn
import Derived.IntWalk
import Derived.Lib.QuietBelow
import Derived.Test.YtpeifijcpemjeaaChecked
import Derived.ChangeMaps5
import Derived.Deep.SlicePairs
import Derived.OpenShut
import Derived.SizedLaws

/-
  The program's own and standing.
-/
namespace Go.Proofs.Ytpeifijcpemjeaa
open Go.RowKit

theorem FarF.less {n m : Nat} {w : World} {v : Vr} (h : FarF n w v) (hm : m ≤ n) : FarF m w v := ⟨h.1, fun a ha => by have := h.2 a ha; omega⟩

abbrev InB (b : Nat) : Nat → Nat → Prop := fun c _ => c = b
theorem but1 (w : World) (b o : Nat) (u : Value) : But (InB b) w (w.setCell ⟨b, o, none⟩ u) := But.set (M := InB b) (But.refl (InB b) w) rfl u
theorem but7 (w : World) (b : Nat) (x0 x1 x2 x3 x4 x5 x6 : Value) : But (InB b) w (((((((w.setCell ⟨b, 0, none⟩ x0).setCell ⟨b, 1, none⟩ x1).setCell ⟨b, 2, none⟩ x2).setCell ⟨b, 3, none⟩ x3).setCell ⟨b, 4, none⟩ x4).setCell ⟨b, 5, none⟩ x5).setCell ⟨b, 6, none⟩ x6) :=
  ((((((but1 w b 0 x0).trans (but1 _ b 1 x1)).trans (but1 _ b 2 x2)).trans (but1 _ b 3 x3)).trans (but1 _ b 4 x4)).trans (but1 _ b 5 x5)).trans (but1 _ b 6 x6)
theorem but8 (w : World) (b o : Nat) (x0 x1 x2 x3 x4 x5 x6 x7 : Value) : But (InB b) w ((((((((w.setCell ⟨b, o, none⟩ x0).setCell ⟨b, o + 1, none⟩ x1).setCell ⟨b, o + 2, none⟩ x2).setCell ⟨b, o + 3, none⟩ x3).setCell ⟨b, o + 4, none⟩ x4).setCell ⟨b, o + 5, none⟩ x5).setCell ⟨b, o + 6, none⟩ x6).setCell ⟨b, o + 7, none⟩ x7) :=
  (((((((but1 w b o x0).trans (but1 _ b (o + 1) x1)).trans (but1 _ b (o + 2) x2)).trans (but1 _ b (o + 3) x3)).trans (but1 _ b (o + 4) x4)).trans (but1 _ b (o + 5) x5)).trans (but1 _ b (o + 6) x6)).trans (but1 _ b (o + 7) x7)

set_option maxHeartbeats 1000000 in
set_option maxRecDepth 100000 in
theorem pown_any (v : Vr) (w : World) (hv : VF w v) (hn : v.fs.length ≤ 1000) : Calls Try.prog 23 #[vv v] w fun e w' => ∃ A c, e = .returned (vv (twin v A c)) ∧ FarF w.heap.size w' (twin v A c) ∧ Below w.heap.size w w' := by
  have hb1 : Below w.heap.size w (w.alloc (ocV v)) := (bl w).alloc (Nat.le_refl _) _
  have hb2 : Below w.heap.size w ((w.alloc (ocV v)).alloc ocZ) := hb1.alloc hb1.size _
  have CC := Lib.hid (cloneF_any ((w.alloc (ocV v)).alloc ocZ) v.fa v.fc v.fs (hv.below hb2).1 hv.2.2 hn)
  have H1 := Lib.hid (show HoldV ((w.alloc (ocV v)).alloc ocZ) w.heap.size v from (holdV_new w v).below ((bl _).alloc (Nat.le_refl _) _))
  have H2 := Lib.hid (show HoldV ((w.alloc (ocV v)).alloc ocZ) (w.heap.size + 1) noV by
    have h := holdV_zero (w.alloc (ocV v))
    rwa [show (w.alloc (ocV v)).heap.size = w.heap.size + 1 by simp] at h)
  have HB2 := Lib.hid hb2
  clear hb1 hb2 hv hn
  go_enter Try.func23, Try.ntmps23
  go_upto_region 2 with (go_at_call 38; (with_reducible refine CC.out.mono ?_); rintro e w3 ⟨u, rfl, hO⟩; have hbel := hO.bel; obtain ⟨A, c, rfl, hfar⟩ := hO.far; have HO := Lib.hid hfar; have HBL := Lib.hid hbel; have h3 := H1.out.below hbel; have H3 := Lib.hid h3; obtain ⟨⟨k0, k1, k2, k3, k4, k5, k6⟩, ⟨f0, f1, f2, f3, f4, f5, f6⟩⟩ := h3; clear hO hfar hbel)
  refine abstract_worldW (fun W => HoldV W w.heap.size (twin v A c) ∧ HoldV W (w.heap.size + 1) noV ∧ FarF (w.heap.size + 2) W (twin v A c) ∧ Below w.heap.size w W) ⟨H3.out.set5 A c v.fs, (H2.out.below HBL.out).other (by omega) _, ?_, ?_⟩ ?_
  · have hx := HO.out (twin v A c) rfl rfl rfl
    have e : ((w.alloc (ocV v)).alloc ocZ).heap.size = w.heap.size + 2 := by simp
    rw [e] at hx
    exact hx.but (but1 _ w.heap.size 5 _) (fun c o h => by have h : c = w.heap.size := h; omega)
  · exact (chain HB2.out HBL.out).setCell (p := ⟨w.heap.size, 5, none⟩) (Nat.le_refl _) _
  rintro W ⟨⟨⟨y0, y1, y2, y3, y4, y5, y6⟩, _⟩, h2, h3, h4⟩
  have H2 := Lib.hid h2
  have H4 := Lib.hid h4
  have H5 := Lib.hid h3
  obtain ⟨⟨r0, r1, r2, r3, r4, r5, r6⟩, ⟨s0, s1, s2, s3, s4, s5, s6⟩⟩ := h2
  clear h3 h4 H3 HBL HO CC H1 k0 k1 k2 k3 k4 k5 k6 f0 f1 f2 f3 f4 f5 f6
  go_wp2_with fail
  obtain ⟨q0, q1, q2, q3, q4, q5, q6⟩ := seven_store (.int .i64 v.id) (.int .i64 v.st) (.string v.ent) (.int .i64 v.sf) (.int .i64 v.se) (.slice A v.fs.length c) (.bool v.gone) r0 r1 r2 r3 r4 r5 r6
  refine bodyPost_ret (v := vv (twin v A c)) (by simp [results, Try.results23, go_sem, q0, q1, q2, q3, q4, q5, q6]) rfl ⟨A, c, rfl, ?_, ?_⟩
  · exact (H5.out.but (but7 _ (w.heap.size + 1) _ _ _ _ _ _ _) (fun c o h => by have h : c = w.heap.size + 1 := h; omega)).less (by omega)
  · exact seven_below H4.out (by omega)

/-- What is found from behind, t places on. -/
abbrev backT (a : Int) (l : List Vr) (n t : Nat) : Option Vr := backA a (l.drop (n - t))
set_option maxHeartbeats 4000000 in
set_option maxRecDepth 10000 in
theorem pstand_any (w : World) (a : Int) (u : Value) (l : List Vr) (hl : VersL w u l) (hn : l.length ≤ 1000) : Ret 27 #[.int .i64 a, u] w (.tuple #[vv ((atC a l).getD noV), .bool (atC a l).isSome]) := by
  obtain ⟨⟨A, c, rfl, hA, hc, hnc⟩, hVF⟩ := hl
  have HA := Lib.hid hA
  obtain ⟨n, hnm⟩ : ∃ n, l.length = n := ⟨_, rfl⟩
  obtain ⟨R, hR⟩ : ∃ R, atC a l = R := ⟨_, rfl⟩
  rw [hnm] at hn hc ⊢
  rw [hR]
  have HN := Lib.hid hnm
  have HR := Lib.hid (show backT a l n n = R by rw [← hR, atC_back, backT, Nat.sub_self]; rfl)
  have HZ := Lib.hid (show backT a l n 0 = none by rw [backT, List.drop_of_length_le (by omega)]; rfl)
  have H1 := Lib.hid (show HoldV ((w.alloc ocZ).alloc ocZ) w.heap.size noV from (holdV_zero w).below ((bl _).alloc (Nat.le_refl _) _))
  have H2 := Lib.hid (show HoldV ((w.alloc ocZ).alloc ocZ) (w.heap.size + 1) noV by
    have h := holdV_zero (w.alloc ocZ)
    rwa [show (w.alloc ocZ).heap.size = w.heap.size + 1 by simp] at h)
  have HB2 := Lib.hid (show Below w.heap.size w ((w.alloc ocZ).alloc ocZ) from ((bl w).alloc (Nat.le_refl _) _).alloc (by simp) _)
  clear hA hc hnc hVF hnm hR
  go_enter Try.func27, Try.ntmps27
  go_wp2_with fail
  go_loopw [7, 12] (fun s i wr => ∃ (t : Nat) (K : Option Vr), t ≤ n ∧ i = .int .i64 t ∧ backT a l n t = K ∧ s = .bool K.isSome ∧ HoldV wr (w.heap.size + 1) (K.getD noV) ∧ HoldV wr w.heap.size noV ∧ Below w.heap.size w wr) (fun _ i _ => n - (intOf i).toNat)
  case atStart => exact ⟨0, none, Nat.zero_le _, rfl, HZ.out, rfl, H2.out, H1.out, HB2.out⟩
  case round =>
    obtain ⟨t, K, ht, rfl, hK, rfl, hF, hX, hW⟩ := hrel
    have HK := Lib.hid hK
    have HW := Lib.hid hW
    have HF := Lib.hid hF
    have HX := Lib.hid hX
    clear hK hW hF hX
    by_cases hlt : t < n
    · have hlt' : (t : Int) < (n : Int) := by omega
      obtain ⟨q, hq⟩ : ∃ q, n - 1 = q := ⟨_, rfl⟩
      obtain ⟨m, hm⟩ : ∃ m, q - t = m := ⟨_, rfl⟩
      have hq1 : IntKind.i64.wrap ((n : Int) - 1) = (q : Int) := by rw [IntWalk.i64_in _ (by omega)]; omega
      have hm1 : IntKind.i64.wrap ((q : Int) - (t : Int)) = (m : Int) := by rw [IntWalk.i64_in _ (by omega)]; omega
      have hmn : (m : Int) < (n : Int) := by omega
      obtain ⟨v, hx⟩ : ∃ v, l[m]? = some v := ⟨_, List.getElem?_eq_getElem (by have := HN.out; omega)⟩
      have NX := Lib.hid (show backT a l n (t + 1) = stepB a v K by
        have e1 : n - (t + 1) = m := by omega
        have e2 : m + 1 = n - t := by omega
        rw [backT, e1, back_next a hx, e2]
        have := HK.out
        rw [backT] at this
        rw [this])
      obtain ⟨g, off, rfl, hX7⟩ := (HA.out.below HW.out).cells7 hx
      obtain ⟨z0, z1, z2, z3, z4, z5, z6⟩ := hX7
      have hb1 : Below wr.heap.size wr (wr.alloc (ocV v)) := (bl wr).alloc (Nat.le_refl _) _
      have hf1 := HF.out.below hb1
      have HF1 := Lib.hid hf1
      have HX1 := Lib.hid (HX.out.below hb1)
      have HW1 := Lib.hid (chain HW.out hb1)
      obtain ⟨⟨y0, y1, y2, y3, y4, y5, y6⟩, ⟨f0, f1, f2, f3, f4, f5, f6⟩⟩ := hf1
      have HSET := Lib.hid (fun W (hh : HoldV W (w.heap.size + 1) (K.getD noV)) => show HoldV _ (w.heap.size + 1) v from ((((((hh.set0 v.id).set1 v.st).set2 v.ent).set3 v.sf).set4 v.se).set5 v.fa v.fc v.fs).set6 v.gone)
      have HM := Lib.hid hm
      have HQ := Lib.hid hq
      clear hm hq hb1 hx
      by_cases h1 : v.st ≤ a
      · cases K with
        | none =>
          have NX2 := Lib.hid (show backT a l n (t + 1) = some v by rw [NX.out, stepB, if_pos ⟨h1, fun u hu => by cases hu⟩])
          go_wp2_with fail
          refine ⟨⟨t + 1, some v, by omega, by go_num, NX2.out, rfl, HSET.out _ HF1.out, ?_, ?_⟩, by simp [intOf] <;> omega⟩
          · exact ((((((HX1.out.other (by omega) _).other (by omega) _).other (by omega) _).other (by omega) _).other (by omega) _).other (by omega) _).other (by omega) _
          · exact seven_below HW1.out (by omega)
        | some x =>
          by_cases h2 : x.st < v.st
          · have NX2 := Lib.hid (show backT a l n (t + 1) = some v by rw [NX.out, stepB, if_pos ⟨h1, fun u hu => by injection hu with hu; subst hu; exact h2⟩])
            go_wp2_with fail
            refine ⟨⟨t + 1, some v, by omega, by go_num, NX2.out, rfl, HSET.out _ HF1.out, ?_, ?_⟩, by simp [intOf] <;> omega⟩
            · exact ((((((HX1.out.other (by omega) _).other (by omega) _).other (by omega) _).other (by omega) _).other (by omega) _).other (by omega) _).other (by omega) _
            · exact seven_below HW1.out (by omega)
          · have NX2 := Lib.hid (show backT a l n (t + 1) = some x by rw [NX.out, stepB, if_neg (fun h => h2 (h.2 x rfl))])
            go_wp2_with fail
            exact ⟨⟨t + 1, some x, by omega, by go_num, NX2.out, rfl, HF1.out, HX1.out, HW1.out⟩, by simp [intOf] <;> omega⟩
      · have NX2 := Lib.hid (show backT a l n (t + 1) = K by rw [NX.out, stepB, if_neg (fun h => h1 h.1)])
        go_wp2_with fail
        exact ⟨⟨t + 1, K, by omega, by go_num, NX2.out, rfl, HF1.out, HX1.out, HW1.out⟩, by simp [intOf] <;> omega⟩
    · obtain rfl : t = n := by omega
      have hlt' : ¬ (t : Int) < (t : Int) := by omega
      have HKR := Lib.hid (HK.out.symm.trans HR.out)
      generalize hv : K.getD noV = v at *
      have HV := Lib.hid hv
      obtain ⟨y0, y1, y2, y3, y4, y5, y6⟩ := HF.out.c
      obtain ⟨⟨r0, r1, r2, r3, r4, r5, r6⟩, ⟨s0, s1, s2, s3, s4, s5, s6⟩⟩ := HX.out
      clear hv
      go_wp2_with fail
      obtain ⟨q0, q1, q2, q3, q4, q5, q6⟩ := seven_store (.int .i64 v.id) (.int .i64 v.st) (.string v.ent) (.int .i64 v.sf) (.int .i64 v.se) (.slice v.fa v.fs.length v.fc) (.bool v.gone) r0 r1 r2 r3 r4 r5 r6
      refine bodyPost_ret (v := .tuple #[vv v, .bool K.isSome]) (by simp [results, Try.results27, go_sem, q0, q1, q2, q3, q4, q5, q6]) rfl ⟨by rw [← HKR.out, HV.out], ?_⟩
      exact seven_below HW.out (Nat.le_refl _)

end Go.Proofs.Ytpeifijcpemjeaa

/-
  The program's At and Rows.
-/
namespace Go.Proofs.Ytpeifijcpemjeaa
open Go.RowKit

set_option maxHeartbeats 4000000 in
set_option maxRecDepth 10000 in
theorem patc_any (w : World) (a : Int) (u : Value) (l : List Vr) (hl : VersL w u l) (hn : l.length ≤ 1000) (hfs : ∀ v ∈ l, v.fs.length ≤ 1000) :
    Calls Try.prog 15 #[.int .i64 a, u] w fun e w' => ∃ A c, e = .returned (.tuple #[vv (twin ((atC a l).getD noV) A c), .bool (atC a l).isSome]) ∧ VF w' (twin ((atC a l).getD noV) A c) ∧ Below w.heap.size w w' := by
  have CS := Lib.hid (fun w' (h : Below w.heap.size w w') => pstand_any w' a u l (hl.below h) hn)
  have hv0 : VF w ((atC a l).getD noV) ∧ ((atC a l).getD noV).fs.length ≤ 1000 := by
    cases hx : atC a l with
    | none => exact ⟨⟨Fields.nil _ _, Nat.le_refl _, fun _ => rfl⟩, Nat.zero_le _⟩
    | some v => exact ⟨hl.2 v (atC_mem hx).1, hfs v (atC_mem hx).1⟩
  generalize (atC a l).getD noV = v at *
  generalize (atC a l).isSome = is at *
  have CO := Lib.hid (fun w' (h : Below w.heap.size w w') => pown_any v w' (hv0.1.below h) hv0.2)
  have H0 := Lib.hid (holdV_zero w)
  have HB0 := Lib.hid (show Below w.heap.size w (w.alloc ocZ) from (bl w).alloc (Nat.le_refl _) _)
  clear hv0 hl hn hfs
  go_enter Try.func15, Try.ntmps15
  go_upto_region 2 with (go_at_call 27; (with_reducible refine (CS.out _ HB0.out).mono ?_); rintro e w1 ⟨rfl, hb1⟩)
  have hc1 := chain HB0.out hb1
  refine abstract_worldW (fun W => HoldV W w.heap.size noV ∧ BoxV W w1.heap.size v ∧ Below w.heap.size w W) ⟨(H0.out.below hb1).below ((bl w1).alloc (Nat.le_refl _) _), boxV_new w1 v, hc1.alloc hc1.size _⟩ ?_
  rintro W ⟨h0, ⟨y0, y1, y2, y3, y4, y5, y6⟩, hW⟩
  have HW := Lib.hid hW
  have HX := Lib.hid h0
  clear h0 hW hc1 hb1
  go_wp2_with (go_at_call 23; (with_reducible refine (CO.out _ HW.out).mono ?_); rintro e w2 ⟨A, c, rfl, hfar, hb2⟩; have HF2 := Lib.hid hfar; have HB2 := Lib.hid hb2; have HX2 := Lib.hid (HX.out.below hb2); obtain ⟨⟨r0, r1, r2, r3, r4, r5, r6⟩, ⟨s0, s1, s2, s3, s4, s5, s6⟩⟩ := HX.out.below hb2; clear hfar hb2)
  obtain ⟨q0, q1, q2, q3, q4, q5, q6⟩ := seven_store (.int .i64 v.id) (.int .i64 v.st) (.string v.ent) (.int .i64 v.sf) (.int .i64 v.se) (.slice A v.fs.length c) (.bool v.gone) r0 r1 r2 r3 r4 r5 r6
  refine bodyPost_ret (v := .tuple #[vv (twin v A c), .bool is]) (by simp [results, Try.results15, go_sem, q0, q1, q2, q3, q4, q5, q6]) rfl ⟨A, c, rfl, ?_, ?_⟩
  · have hlt : w.heap.size < W.heap.size := lt_of_cell HX.out.c.1
    exact (HF2.out.but (but7 _ w.heap.size _ _ _ _ _ _ _) (fun c o h => by have h : c = w.heap.size := h; omega)).1
  · exact seven_below (chain HW.out HB2.out) (Nat.le_refl _)

/-- Till when the version ahead of a place stands. -/
def untilA (l : List Vr) (k : Nat) : Int := match l[k]? with | some w => w.st | none => 4611686018427387904
theorem rowAt_until (l : List Vr) (k : Nat) (v : Vr) : rowAt l k v = ⟨v, untilA l (k + 1)⟩ := rfl
theorem Cells7.but {M : Nat → Nat → Prop} {w w' : World} {g o : Nat} {v : Vr} (h : Cells7 w g o v) (hb : But M w w') (hM : ∀ i, ¬ M g i) : Cells7 w' g o v :=
  ⟨hb.keep h.1 (hM _), hb.keep h.2.1 (hM _), hb.keep h.2.2.1 (hM _), hb.keep h.2.2.2.1 (hM _), hb.keep h.2.2.2.2.1 (hM _), hb.keep h.2.2.2.2.2.1 (hM _), hb.keep h.2.2.2.2.2.2 (hM _)⟩
theorem make_rows (n : Nat) (hn : n ≤ 1000) (w : World) : ∃ z : Array Value, z.size = 8 ∧ (Instr.makeSlice 25 (.int .i64 (n : Int)) (.int .i64 (n : Int))).run Try.prog w = .ok (.slice (some ⟨w.heap.size, 0, none⟩) n n) (w.alloc (.cells (madeCells z (n * 8)) 51)) := by
  obtain ⟨i0, hi, hz0, hz1, hz2⟩ := info_parts ER.info
  have h := run_make (P := Try.prog) w 25 51 i0 _ Try.underlying25 hi hz0 .i64 .i64 (n : Int) (n : Int) (by omega) (Int.le_refl _) (by rw [hz2]; show ((88 : Nat) : Int) * (n : Int) ≤ _; omega) (by omega)
  rw [hz1] at h
  simp only [Int.toNat_natCast] at h
  exact ⟨ER.z.cells, ER.zs, h⟩


theorem TwinR.cons {R S : List Rw} (h : TwinR R S) (s : Rw) (A : Option Addr) (c : Nat) : TwinR (⟨twin s.v A c, s.un⟩ :: R) (s :: S) := ⟨⟨A, c, rfl⟩, h⟩

set_option maxHeartbeats 4000000 in
set_option maxRecDepth 100000 in
theorem prowsc_any (w : World) (u : Value) (l : List Vr) (hl : VersL w u l) (hok : ∀ v ∈ l, okF v.fs) (hn : l.length ≤ 1000) (hfs : ∀ v ∈ l, v.fs.length ≤ 1000) (hz : ∀ v ∈ l, v.ent.size ≤ 9223372036854775807) :
    Calls Try.prog 10 #[u] w fun e w' => ∃ x R, e = .returned (.tuple #[x, .int .i64 ((chkL l : Nat) : Int)]) ∧ RowsR w' x R ∧ TwinR R (rowsL l) ∧ Below w.heap.size w w' := by
  have CC := Lib.hid (pchkc_any w u l hl hok hn hfs hz)
  obtain ⟨⟨A, c, rfl, hA, hc, hnc⟩, hVF⟩ := hl
  have HA := Lib.hid hA
  have HVF := Lib.hid hVF
  have HFS := Lib.hid hfs
  obtain ⟨n, hnm⟩ : ∃ n, l.length = n := ⟨_, rfl⟩
  rw [hnm] at hn hc CC ⊢
  have HN := Lib.hid hnm
  clear hA hc hnc hVF hok hfs hz hnm
  by_cases h0 : chkL l = 0
  · have HR := Lib.hid (show rowsL l = rowsV l by unfold rowsL; rw [if_pos h0])
    have H0 := Lib.hid h0
    rw [h0] at CC
    clear h0
    have HM := Lib.hid (make_rows n hn)
    go_enter Try.func10, Try.ntmps10
    go_wp2_with (go_at_call 12; (with_reducible refine CC.out.mono ?_); rintro e w1 ⟨rfl, hb1⟩; have HB1 := Lib.hid hb1; clear hb1; obtain ⟨Z, hZ, hmk⟩ := HM.out w1; have HZ := Lib.hid hZ; clear hZ)
    have HF0 := Lib.hid (fillR_new w1 Z n HZ.out)
    have HB2 := Lib.hid (show Below w.heap.size w (w1.alloc (.cells (madeCells Z (n * 8)) 51)) from HB1.out.alloc HB1.out.size _)
    have HBLT := Lib.hid (show w.heap.size ≤ w1.heap.size from HB1.out.size)
    obtain ⟨b, hbb⟩ : ∃ b, w1.heap.size = b := ⟨_, rfl⟩
    rw [hbb] at HF0 HBLT ⊢
    clear hmk hbb
    go_loopw [6, 19] (fun un i wr => ∃ (t : Nat) (R : List Rw), t ≤ n ∧ i = .int .i64 (t : Nat) ∧ un = .int .i64 (untilA l (n - t)) ∧ R.length = t ∧ FillR wr b n R ∧ TwinR R ((rowsV l).drop (n - t)) ∧ (∀ r ∈ R, FarF (b + 1) wr r.v) ∧ Below w.heap.size w wr) (fun _ i _ => n - (intOf i).toNat)
    case atStart =>
      refine ⟨0, [], Nat.zero_le _, rfl, ?_, rfl, HF0.out, ?_, fun r hr => by simp at hr, HB2.out⟩
      · rw [untilA, List.getElem?_eq_none (by have := HN.out; omega)]
      · rw [List.drop_of_length_le (by rw [rowsV_length]; have := HN.out; omega)]; trivial
    case round =>
      obtain ⟨t, R, ht, rfl, rfl, hlen, hF, hT, hfar, hW⟩ := hrel
      have HLEN := Lib.hid hlen
      have HF := Lib.hid hF
      have HT := Lib.hid hT
      have HFAR := Lib.hid hfar
      have HW := Lib.hid hW
      clear hlen hF hT hfar hW
      by_cases hlt : t < n
      · have hlt' : (t : Int) < (n : Int) := by omega
        obtain ⟨q, hq⟩ : ∃ q, n - 1 = q := ⟨_, rfl⟩
        obtain ⟨m, hm⟩ : ∃ m, q - t = m := ⟨_, rfl⟩
        have hq1 : IntKind.i64.wrap ((n : Int) - 1) = (q : Int) := by rw [IntWalk.i64_in _ (by omega)]; omega
        have hm1 : IntKind.i64.wrap ((q : Int) - (t : Int)) = (m : Int) := by rw [IntWalk.i64_in _ (by omega)]; omega
        have hmn : (m : Int) < (n : Int) := by omega
        have hmn2 : m < n := by omega
        obtain ⟨x, hx⟩ : ∃ x, l[m]? = some x := ⟨_, List.getElem?_eq_getElem (by have := HN.out; omega)⟩
        obtain ⟨un, hun⟩ : ∃ un, untilA l (n - t) = un := ⟨_, rfl⟩
        have NT := Lib.hid (fun A c => show TwinR (⟨twin x A c, un⟩ :: R) ((rowsV l).drop (n - (t + 1))) by
          have e1 : n - (t + 1) = m := by omega
          have e2 : n - t = m + 1 := by omega
          have hr : (rowsV l)[m]? = some ⟨x, un⟩ := by
            rw [rowsV_get l m x hx, ← hun, e2]; rfl
          rw [e1, drop_consL hr]
          have := HT.out
          rw [e2] at this
          exact this.cons ⟨x, un⟩ A c)
        have NU := Lib.hid (show untilA l (n - (t + 1)) = x.st by rw [show n - (t + 1) = m by omega, untilA, hx])
        rw [hun]
        obtain ⟨g, off, rfl, hX⟩ := (HA.out.below HW.out).cells7 hx
        have HX := Lib.hid hX
        have HGB := Lib.hid (show g ≠ b by
          have h1 : g < w.heap.size := by
            obtain ⟨g', off', he, hX'⟩ := HA.out.cells7 hx
            injection he with he
            injection he with e1 e2 _
            subst e1
            exact lt_of_cell hX'.1
          have := HBLT.out
          omega)
        have CO := Lib.hid (fun w' (h : Below wr.heap.size wr w') => pown_any x w' (((HVF.out x (List.mem_of_getElem? hx)).below HW.out).below h) (HFS.out x (List.mem_of_getElem? hx)))
        have HKM := Lib.hid (show m + 1 + R.length = n by have := HLEN.out; omega)
        have HM1 := Lib.hid (show m * 8 + 8 ≤ n * 8 by omega)
        obtain ⟨z0, z1, z2, z3, z4, z5, z6⟩ := hX
        clear hx hun hq hm
        go_upto_region 11 with (go_at_call 23; (with_reducible refine (CO.out _ (bl _)).mono ?_); rintro e w2 ⟨A2, c2, rfl, hfar2, hb2⟩; have HF2 := Lib.hid (HF.out.below hb2); have HFAR2 := Lib.hid hfar2; have HB2 := Lib.hid hb2; (have f0 := HF2.out.frozen (m * 8)); (have f1 := HF2.out.frozen (m * 8 + 1)); (have f2 := HF2.out.frozen (m * 8 + 2)); (have f3 := HF2.out.frozen (m * 8 + 3)); (have f4 := HF2.out.frozen (m * 8 + 4)); (have f5 := HF2.out.frozen (m * 8 + 5)); (have f6 := HF2.out.frozen (m * 8 + 6)); (have f7 := HF2.out.frozen (m * 8 + 7)); obtain ⟨v0, k0⟩ := HF2.out.cells hmn2 0 (by decide); rw [Nat.add_zero] at k0; obtain ⟨v1, k1⟩ := HF2.out.cells hmn2 1 (by decide); obtain ⟨v2, k2⟩ := HF2.out.cells hmn2 2 (by decide); obtain ⟨v3, k3⟩ := HF2.out.cells hmn2 3 (by decide); obtain ⟨v4, k4⟩ := HF2.out.cells hmn2 4 (by decide); obtain ⟨v5, k5⟩ := HF2.out.cells hmn2 5 (by decide); obtain ⟨v6, k6⟩ := HF2.out.cells hmn2 6 (by decide); obtain ⟨v7, k7⟩ := HF2.out.cells hmn2 7 (by decide); clear hfar2 hb2)
        refine abstract_worldW (fun W => FillR W b n (⟨twin x A2 c2, un⟩ :: R) ∧ (∀ r ∈ (⟨twin x A2 c2, un⟩ :: R : List Rw), FarF (b + 1) W r.v) ∧ Cells7 W g (off + m * 7) x ∧ Below w.heap.size w W) ⟨?_, ?_, ?_, ?_⟩ ?_
        · exact HF2.out.store HKM.out ⟨twin x A2 c2, un⟩
        · intro r hr
          refine FarF.but ?_ (but8 w2 b (m * 8) _ _ _ _ _ _ _ _) (fun c o h => by have h : c = b := h; omega)
          rcases List.mem_cons.1 hr with rfl | hr
          · exact HFAR2.out.less (by have := HF.out.lt; omega)
          · exact (HFAR.out r hr).below HB2.out
        · exact (HX.out.below HB2.out).but (but8 w2 b (m * 8) _ _ _ _ _ _ _ _) (fun i h => HGB.out h)
        · exact eight_belowAt (chain HW.out HB2.out) HBLT.out
        rintro W ⟨hf, hfr, ⟨y0, y1, y2, y3, y4, y5, y6⟩, hw⟩
        have HFN := Lib.hid hf
        have HFRN := Lib.hid hfr
        have HWN := Lib.hid hw
        clear hf hfr hw
        go_wp2_with fail
        exact ⟨⟨t + 1, ⟨twin x A2 c2, un⟩ :: R, by omega, by go_num, by rw [NU.out], by rw [List.length_cons, HLEN.out], HFN.out, NT.out A2 c2, HFRN.out, HWN.out⟩, by simp [intOf] <;> omega⟩
      · obtain rfl : t = n := by omega
        have hlt' : ¬ (t : Int) < (t : Int) := by omega
        have HRL := Lib.hid (show ListE ER wr (.slice (some ⟨b, 0, none⟩) t t) R from ⟨_, _, by rw [HLEN.out], HF.out.all HLEN.out, by rw [HLEN.out]; exact Nat.le_refl _, fun h => by cases h⟩)
        have HTT := Lib.hid (show TwinR R (rowsL l) by have := HT.out; rw [Nat.sub_self, List.drop_zero] at this; rw [HR.out]; exact this)
        go_wp2_with fail
        go_ret2
        exact ⟨_, by rw [H0.out]; rfl, R, ⟨HRL.out, fun r hr => (HFAR.out r hr).1⟩, HTT.out, HW.out⟩
  · have HR := Lib.hid (show rowsL l = [] by unfold rowsL; rw [if_neg h0])
    have h0' : ¬ ((chkL l : Nat) : Int) = 0 := by omega
    generalize chkL l = z at *
    clear h0
    go_enter Try.func10, Try.ntmps10
    go_wp2_with (go_at_call 12; (with_reducible refine CC.out.mono ?_); rintro e w1 ⟨rfl, hb1⟩; have HB1 := Lib.hid hb1; clear hb1)
    go_ret2
    exact ⟨_, [], rfl, ⟨ListE.nil _, fun r hr => by simp at hr⟩, by rw [HR.out]; trivial, HB1.out⟩

end Go.Proofs.Ytpeifijcpemjeaa

/-
  Plain facts on lists of spans: which times a list has, what a cover is, that a set of times has one cover, how covers grow at their end.
-/
namespace Go.Proofs.Ytpeifijcpemjeaa.Co

/-- May the span be? -/
def rightB (f t : Int) : Bool := decide (-1099511627776 ≤ f ∧ f < t ∧ t ≤ 1099511627776)
/-- Has it the time? -/
def hasB (f t x : Int) : Bool := decide (f ≤ x ∧ x < t)
theorem right_yes {f t : Int} (h : rightB f t = true) : -1099511627776 ≤ f ∧ f < t ∧ t ≤ 1099511627776 := by simpa [rightB] using h
theorem right_no {f t : Int} (h : rightB f t = false) : ¬ (-1099511627776 ≤ f ∧ f < t ∧ t ≤ 1099511627776) := by simpa [rightB] using h

abbrev Sp := Int × Int
/-- Has one of the list's right spans the time? -/
def Mem (l : List Sp) (x : Int) : Prop := ∃ p ∈ l, rightB p.1 p.2 = true ∧ p.1 ≤ x ∧ x < p.2
def memB (l : List Sp) (x : Int) : Bool := l.any fun p => rightB p.1 p.2 && hasB p.1 p.2 x
theorem memB_iff (l : List Sp) (x : Int) : memB l x = true ↔ Mem l x := by simp [memB, Mem, hasB]
theorem memB_eq {l m : List Sp} {x : Int} (h : Mem l x ↔ Mem m x) : memB l x = memB m x := by
  rw [Bool.eq_iff_iff, memB_iff, memB_iff]; exact h
instance (l : List Sp) (x : Int) : Decidable (Mem l x) := decidable_of_iff _ (memB_iff l x)

theorem mem_nil (x : Int) : ¬ Mem [] x := by simp [Mem]
theorem mem_cons (p : Sp) (l : List Sp) (x : Int) : Mem (p :: l) x ↔ (rightB p.1 p.2 = true ∧ p.1 ≤ x ∧ x < p.2) ∨ Mem l x := by simp [Mem]
theorem mem_append (l m : List Sp) (x : Int) : Mem (l ++ m) x ↔ Mem l x ∨ Mem m x := by
  simp only [Mem, List.mem_append]
  constructor
  · rintro ⟨p, h | h, r⟩
    · exact .inl ⟨p, h, r⟩
    · exact .inr ⟨p, h, r⟩
  · rintro (⟨p, h, r⟩ | ⟨p, h, r⟩)
    · exact ⟨p, .inl h, r⟩
    · exact ⟨p, .inr h, r⟩
theorem mem_one (p : Sp) (x : Int) : Mem [p] x ↔ (rightB p.1 p.2 = true ∧ p.1 ≤ x ∧ x < p.2) := by simp [Mem]
theorem mem_perm {l m : List Sp} (h : l.Perm m) (x : Int) : Mem l x ↔ Mem m x := by
  constructor
  · rintro ⟨p, hp, r⟩; exact ⟨p, h.mem_iff.1 hp, r⟩
  · rintro ⟨p, hp, r⟩; exact ⟨p, h.mem_iff.2 hp, r⟩
theorem mem_filter (l : List Sp) (x : Int) : Mem (l.filter fun p => rightB p.1 p.2) x ↔ Mem l x := by
  simp only [Mem, List.mem_filter]
  constructor
  · rintro ⟨p, ⟨hp, _⟩, r⟩; exact ⟨p, hp, r⟩
  · rintro ⟨p, hp, r⟩; exact ⟨p, ⟨hp, r.1⟩, r⟩
theorem mem_bounds {l : List Sp} {x : Int} (h : Mem l x) : -1099511627776 ≤ x ∧ x < 1099511627776 := by
  obtain ⟨p, _, hr, h1, h2⟩ := h
  have := right_yes hr
  omega

/-- A cover: right spans, each of which ends ahead of the next one. -/
def Cov (l : List Sp) : Prop := (∀ p ∈ l, rightB p.1 p.2 = true) ∧ l.Pairwise fun p q => p.2 < q.1
instance (l : List Sp) : Decidable (Cov l) := inferInstanceAs (Decidable (_ ∧ _))
theorem Cov.nil : Cov [] := ⟨by simp, List.Pairwise.nil⟩
theorem Cov.tail {p : Sp} {l : List Sp} (h : Cov (p :: l)) : Cov l := ⟨fun q hq => h.1 q (List.mem_cons_of_mem _ hq), (List.pairwise_cons.1 h.2).2⟩
theorem Cov.head {p : Sp} {l : List Sp} (h : Cov (p :: l)) : ∀ q ∈ l, p.2 < q.1 := (List.pairwise_cons.1 h.2).1
theorem Cov.snoc {l : List Sp} {p : Sp} (h : Cov l) (hp : rightB p.1 p.2 = true) (hl : ∀ q ∈ l, q.2 < p.1) : Cov (l ++ [p]) := by
  refine ⟨fun q hq => ?_, ?_⟩
  · rcases List.mem_append.1 hq with h1 | h1
    · exact h.1 q h1
    · obtain rfl := List.mem_singleton.1 h1; exact hp
  · refine List.pairwise_append.2 ⟨h.2, List.pairwise_singleton _ _, fun a ha b hb => ?_⟩
    obtain rfl := List.mem_singleton.1 hb
    exact hl a ha
theorem Cov.left {l m : List Sp} (h : Cov (l ++ m)) : Cov l := ⟨fun p hp => h.1 p (List.mem_append_left _ hp), (List.pairwise_append.1 h.2).1⟩
theorem Cov.last {l : List Sp} {p : Sp} (h : Cov (l ++ [p])) : rightB p.1 p.2 = true ∧ ∀ q ∈ l, q.2 < p.1 :=
  ⟨h.1 p (by simp), fun q hq => (List.pairwise_append.1 h.2).2.2 q hq p (by simp)⟩
/-- All that stand ahead end ahead, if the last one does. -/
theorem Cov.ends {l : List Sp} {q : Sp} (h : Cov (l ++ [q])) {x : Int} (hx : q.2 < x) : ∀ p ∈ l ++ [q], p.2 < x := fun p hp => by
  rcases List.mem_append.1 hp with h1 | h1
  · have := h.last.2 p h1
    have := right_yes h.last.1
    omega
  · obtain rfl := List.mem_singleton.1 h1; exact hx

theorem cov_first {p : Sp} {l : List Sp} (h : Cov (p :: l)) {x : Int} (hx : Mem (p :: l) x) : p.1 ≤ x := by
  obtain ⟨q, hq, hr, h1, h2⟩ := hx
  rcases List.mem_cons.1 hq with rfl | hq
  · exact h1
  · have := h.head q hq
    have := right_yes (h.1 p (by simp))
    omega
theorem cov_first_mem {p : Sp} {l : List Sp} (h : Cov (p :: l)) : Mem (p :: l) p.1 := by
  have := right_yes (h.1 p (by simp))
  exact ⟨p, by simp, h.1 p (by simp), by omega, by omega⟩
theorem cov_end {p : Sp} {l : List Sp} (h : Cov (p :: l)) : ¬ Mem (p :: l) p.2 := by
  rintro ⟨q, hq, hr, h1, h2⟩
  rcases List.mem_cons.1 hq with rfl | hq
  · omega
  · have := h.head q hq
    omega
theorem cov_tail {p : Sp} {l : List Sp} (h : Cov (p :: l)) (x : Int) : Mem l x ↔ Mem (p :: l) x ∧ p.2 ≤ x := by
  constructor
  · intro hm
    obtain ⟨q, hq, hr, h1, h2⟩ := hm
    have := h.head q hq
    exact ⟨⟨q, List.mem_cons_of_mem _ hq, hr, h1, h2⟩, by omega⟩
  · rintro ⟨⟨q, hq, hr, h1, h2⟩, h3⟩
    rcases List.mem_cons.1 hq with rfl | hq
    · omega
    · exact ⟨q, hq, hr, h1, h2⟩

/-- A set of times has one cover. -/
theorem cov_ext : ∀ l m : List Sp, Cov l → Cov m → (∀ x, Mem l x ↔ Mem m x) → l = m
  | [], [], _, _, _ => rfl
  | [], q :: m, _, hm, h => absurd ((h q.1).2 (cov_first_mem hm)) (mem_nil _)
  | p :: l, [], hl, _, h => absurd ((h p.1).1 (cov_first_mem hl)) (mem_nil _)
  | p :: l, q :: m, hl, hm, h => by
    have h1 := cov_first hm ((h p.1).1 (cov_first_mem hl))
    have h2 := cov_first hl ((h q.1).2 (cov_first_mem hm))
    have rp := right_yes (hl.1 p (by simp))
    have rq := right_yes (hm.1 q (by simp))
    have e1 : p.1 = q.1 := by omega
    have e2 : p.2 = q.2 := by
      rcases Int.lt_trichotomy p.2 q.2 with hlt | heq | hgt
      · exact absurd ((h p.2).2 ⟨q, by simp, hm.1 q (by simp), by omega, hlt⟩) (cov_end hl)
      · exact heq
      · exact absurd ((h q.2).1 ⟨p, by simp, hl.1 p (by simp), by omega, hgt⟩) (cov_end hm)
    have e : p = q := Prod.ext e1 e2
    subst e
    rw [cov_ext l m hl.tail hm.tail fun x => by rw [cov_tail hl, cov_tail hm, h x]]

/-- The cover of a set of times. -/
def CovOf (l : List Sp) (S : Int → Prop) : Prop := Cov l ∧ ∀ x, Mem l x ↔ S x
theorem CovOf.eq {l m : List Sp} {S T : Int → Prop} (hl : CovOf l S) (hm : CovOf m T) (h : ∀ x, S x ↔ T x) : l = m :=
  cov_ext l m hl.1 hm.1 fun x => ((hl.2 x).trans (h x)).trans (hm.2 x).symm
theorem CovOf.same {l m : List Sp} {S T : Int → Prop} (hl : CovOf l S) (hm : CovOf m T) (h : ∀ x, S x ↔ T x) : decide (l = m) = true := by
  simpa using hl.eq hm h

/- Is a list a cover, as far as k? -/
theorem cov_take_succ {l : List Sp} {k : Nat} {p : Sp} (hp : l[k]? = some p) (h : Cov (l.take k)) (hr : rightB p.1 p.2 = true) (hq : ∀ q, k ≠ 0 → l[k - 1]? = some q → q.2 < p.1) : Cov (l.take (k + 1)) := by
  rw [List.take_add_one, hp]
  simp only [Option.toList_some]
  rcases Nat.eq_zero_or_pos k with rfl | hk
  · simpa using Cov.snoc (l := []) Cov.nil hr (by simp)
  · obtain ⟨q, hq'⟩ : ∃ q, l[k - 1]? = some q := by
      have : k < l.length := by rcases Nat.lt_or_ge k l.length with h | h; exact h; simp [List.getElem?_eq_none h] at hp
      exact ⟨_, List.getElem?_eq_getElem (by omega)⟩
    have e : l.take k = l.take (k - 1) ++ [q] := by
      have e1 : l.take (k - 1 + 1) = l.take (k - 1) ++ [q] := by rw [List.take_add_one, hq']; rfl
      rwa [show k - 1 + 1 = k from by omega] at e1
    have h' := h
    rw [e] at h'
    refine Cov.snoc h hr ?_
    rw [e]
    exact h'.ends (hq q (by omega) hq')
theorem cov_not_right {l : List Sp} {k : Nat} {p : Sp} (hp : l[k]? = some p) (hr : rightB p.1 p.2 = false) : ¬ Cov l := fun h => by
  have := h.1 p (List.mem_of_getElem? hp)
  rw [hr] at this
  cases this
theorem cov_not_apart {l : List Sp} {k : Nat} {p q : Sp} (hq : l[k]? = some q) (hp : l[k + 1]? = some p) (h : p.1 ≤ q.2) : ¬ Cov l := fun hc => by
  have h1 := List.pairwise_iff_getElem.1 hc.2 k (k + 1)
  obtain ⟨l1, e1⟩ := List.getElem?_eq_some_iff.1 hq
  obtain ⟨l2, e2⟩ := List.getElem?_eq_some_iff.1 hp
  have := h1 l1 l2 (by omega)
  rw [e1, e2] at this
  omega

/- Making a cover of spans that rise. -/
/-- What has been made of the spans so far. -/
structure Made (m d : List Sp) : Prop where
  cov : Cov m
  mem : ∀ x, Mem m x ↔ Mem d x
  len : m.length ≤ d.length
  from_ : ∀ q ∈ m, ∃ p ∈ d, p.1 = q.1
theorem Made.nil : Made [] [] := ⟨Cov.nil, fun _ => Iff.rfl, Nat.le_refl _, by simp⟩
theorem Made.joins {m d : List Sp} {q a : Sp} (h : Made (m ++ [q]) d) (hr : rightB a.1 a.2 = true) (hs : ∀ p ∈ d, p.1 ≤ a.1) (hle : a.1 ≤ q.2) : Made (m ++ [(q.1, max q.2 a.2)]) (d ++ [a]) := by
  have hq := right_yes h.cov.last.1
  have ha := right_yes hr
  obtain ⟨p, hp, he⟩ := h.from_ q (by simp)
  have h1 := hs p hp
  have hr' : rightB q.1 (max q.2 a.2) = true := by simp [rightB]; omega
  refine ⟨Cov.snoc h.cov.left hr' h.cov.last.2, fun x => ?_, by have := h.len; simp at this ⊢; omega, ?_⟩
  · rw [mem_append, mem_append, ← h.mem x, mem_append, mem_one, mem_one, mem_one]
    simp only [hr', hr, h.cov.last.1, true_and]
    constructor
    · rintro (h2 | h2)
      · exact .inl (.inl h2)
      · rcases Int.lt_or_le x q.2 with h3 | h3
        · exact .inl (.inr ⟨h2.1, h3⟩)
        · exact .inr ⟨by omega, by omega⟩
    · rintro ((h2 | h2) | h2)
      · exact .inl h2
      · exact .inr ⟨h2.1, by omega⟩
      · exact .inr ⟨by omega, by omega⟩
  · intro r hr2
    rcases List.mem_append.1 hr2 with h2 | h2
    · obtain ⟨p', hp', e⟩ := h.from_ r (List.mem_append_left _ h2)
      exact ⟨p', List.mem_append_left _ hp', e⟩
    · obtain rfl := List.mem_singleton.1 h2
      exact ⟨p, List.mem_append_left _ hp, he⟩
theorem Made.adds {m d : List Sp} {a : Sp} (h : Made m d) (hr : rightB a.1 a.2 = true) (hl : ∀ q ∈ m, q.2 < a.1) : Made (m ++ [a]) (d ++ [a]) := by
  refine ⟨Cov.snoc h.cov hr hl, fun x => ?_, by have := h.len; simp; omega, ?_⟩
  · rw [mem_append, mem_append, h.mem x]
  · intro r hr2
    rcases List.mem_append.1 hr2 with h2 | h2
    · obtain ⟨p', hp', e⟩ := h.from_ r h2
      exact ⟨p', List.mem_append_left _ hp', e⟩
    · obtain rfl := List.mem_singleton.1 h2
      exact ⟨_, by simp, rfl⟩

/- The document's way: piece by piece between the ends. -/
/-- A piece behind a cover: it is joined to the last one where it touches it. -/
theorem put_joins {m : List Sp} {q : Sp} {t : Int} (h : Cov (m ++ [q])) (hq : q.2 < t) (ht : t ≤ 1099511627776) : Cov (m ++ [(q.1, t)]) ∧ ∀ x, Mem (m ++ [(q.1, t)]) x ↔ Mem (m ++ [q]) x ∨ (q.2 ≤ x ∧ x < t) := by
  have hr := right_yes h.last.1
  have hr' : rightB q.1 t = true := by simp [rightB]; omega
  refine ⟨Cov.snoc h.left hr' h.last.2, fun x => ?_⟩
  rw [mem_append, mem_append, mem_one, mem_one]
  simp only [hr', h.last.1, true_and]
  constructor
  · rintro (h2 | h2)
    · exact .inl (.inl h2)
    · rcases Int.lt_or_le x q.2 with h3 | h3
      · exact .inl (.inr ⟨h2.1, h3⟩)
      · exact .inr ⟨h3, h2.2⟩
  · rintro ((h2 | h2) | h2)
    · exact .inl h2
    · exact .inr ⟨h2.1, by omega⟩
    · exact .inr ⟨by omega, h2.2⟩
theorem put_adds {m : List Sp} {f t : Int} (h : Cov m) (hl : ∀ q ∈ m, q.2 < f) (hr : rightB f t = true) : Cov (m ++ [(f, t)]) ∧ ∀ x, Mem (m ++ [(f, t)]) x ↔ Mem m x ∨ (f ≤ x ∧ x < t) := by
  refine ⟨Cov.snoc h hr hl, fun x => ?_⟩
  rw [mem_append, mem_one]
  simp [hr]

/-- The ends of the right spans of a list. -/
def endsOf (l : List Sp) : List Int := (l.filter fun p => rightB p.1 p.2).flatMap fun p => [p.1, p.2]
theorem mem_ends {l : List Sp} {p : Sp} (hp : p ∈ l) (hr : rightB p.1 p.2 = true) : p.1 ∈ endsOf l ∧ p.2 ∈ endsOf l := by
  unfold endsOf
  simp only [List.mem_flatMap, List.mem_filter]
  exact ⟨⟨p, ⟨hp, hr⟩, by simp⟩, ⟨p, ⟨hp, hr⟩, by simp⟩⟩
theorem ends_bounds {l : List Sp} {x : Int} (h : x ∈ endsOf l) : -1099511627776 ≤ x ∧ x ≤ 1099511627776 := by
  unfold endsOf at h
  simp only [List.mem_flatMap, List.mem_filter] at h
  obtain ⟨p, ⟨_, hr⟩, hx⟩ := h
  have := right_yes hr
  simp at hx
  omega
theorem ends_append (l m : List Sp) : endsOf (l ++ m) = endsOf l ++ endsOf m := by simp [endsOf]
theorem ends_length (l : List Sp) : (endsOf l).length ≤ 2 * l.length := by
  have h : ∀ l : List Sp, (l.flatMap fun p => [p.1, p.2]).length = 2 * l.length := fun l => by
    induction l with
    | nil => rfl
    | cons p l ih => simp only [List.flatMap_cons, List.length_append, ih, List.length_cons, List.length_nil]; omega
  rw [endsOf, h]
  have := List.length_filter_le (fun p : Sp => rightB p.1 p.2) l
  omega
/-- Between two ends that follow on each other all times are alike. -/
theorem mem_between {l : List Sp} {ts : List Int} (hts : ∀ y ∈ endsOf l, y ∈ ts) (hp : ts.Pairwise (· < ·)) {i : Nat} {a b x : Int} (ha : ts[i]? = some a) (hb : ts[i + 1]? = some b) (h1 : a ≤ x) (h2 : x < b) : Mem l x ↔ Mem l a := by
  have key : ∀ y ∈ ts, y < b → y ≤ a := fun y hy hlt => by
    obtain ⟨j, hj⟩ := List.getElem?_of_mem hy
    obtain ⟨lj, ej⟩ := List.getElem?_eq_some_iff.1 hj
    obtain ⟨li, ei⟩ := List.getElem?_eq_some_iff.1 ha
    obtain ⟨lb, eb⟩ := List.getElem?_eq_some_iff.1 hb
    have H := List.pairwise_iff_getElem.1 hp
    rcases Nat.lt_trichotomy j i with h | rfl | h
    · have := H j i lj li h
      omega
    · omega
    · rcases Nat.lt_or_ge (i + 1) j with h3 | h3
      · have := H (i + 1) j lb lj h3
        omega
      · obtain rfl : j = i + 1 := by omega
        omega
  constructor
  · rintro ⟨p, hp', hr, h3, h4⟩
    obtain ⟨e1, e2⟩ := mem_ends hp' hr
    have := key p.1 (hts _ e1) (by omega)
    exact ⟨p, hp', hr, this, by omega⟩
  · rintro ⟨p, hp', hr, h3, h4⟩
    obtain ⟨e1, e2⟩ := mem_ends hp' hr
    refine ⟨p, hp', hr, by omega, ?_⟩
    rcases Int.lt_or_le p.2 b with h5 | h5
    · have := key p.2 (hts _ e2) h5
      omega
    · omega
theorem mem_ahead {l : List Sp} {ts : List Int} (hts : ∀ y ∈ endsOf l, y ∈ ts) (hp : ts.Pairwise (· < ·)) {x : Int} (h : ∀ q, ts[0]? = some q → x < q) : ¬ Mem l x := by
  rintro ⟨p, hp', hr, h3, h4⟩
  obtain ⟨j, hj⟩ := List.getElem?_of_mem (hts _ (mem_ends hp' hr).1)
  obtain ⟨lj, ej⟩ := List.getElem?_eq_some_iff.1 hj
  have h0 := h ts[0] (List.getElem?_eq_getElem (by omega))
  rcases Nat.eq_zero_or_pos j with rfl | h1
  · omega
  · have := List.pairwise_iff_getElem.1 hp 0 j (by omega) lj h1
    omega
theorem mem_behind {l : List Sp} {ts : List Int} (hts : ∀ y ∈ endsOf l, y ∈ ts) (hp : ts.Pairwise (· < ·)) {i : Nat} {a x : Int} (ha : ts[i]? = some a) (hi : ts.length ≤ i + 1) (h : a ≤ x) : ¬ Mem l x := by
  rintro ⟨p, hp', hr, h3, h4⟩
  obtain ⟨j, hj⟩ := List.getElem?_of_mem (hts _ (mem_ends hp' hr).2)
  obtain ⟨lj, ej⟩ := List.getElem?_eq_some_iff.1 hj
  obtain ⟨li, ei⟩ := List.getElem?_eq_some_iff.1 ha
  rcases Nat.lt_or_ge j i with h1 | h1
  · have := List.pairwise_iff_getElem.1 hp j i lj li h1
    omega
  · obtain rfl : j = i := by omega
    omega

/-- Which times of two lists count. -/
def kindB (kind : Int) (x y : Bool) : Bool := (kind == 0 && (x || y)) || (kind == 1 && x && y) || (kind == 2 && x && !y)
def KindP (kind : Int) (a b : List Sp) (x : Int) : Prop := kindB kind (memB a x) (memB b x) = true
/-- What is out when the pieces ahead of place i are through. -/
structure OutTo (a b : List Sp) (kind : Int) (ts : List Int) (i : Nat) (o : List Sp) : Prop where
  cov : Cov o
  mem : ∀ x, (∀ q, ts[i]? = some q → x < q) → i < ts.length → (Mem o x ↔ KindP kind a b x)
  ends : ∀ p ∈ o, ∀ q, ts[i]? = some q → p.2 ≤ q
  len : o.length ≤ i
theorem kind_none {kind : Int} : kindB kind false false = false := by simp [kindB]
theorem OutTo.start {a b : List Sp} {kind : Int} {ts : List Int} (ha : ∀ y ∈ endsOf a, y ∈ ts) (hb : ∀ y ∈ endsOf b, y ∈ ts) (hp : ts.Pairwise (· < ·)) : OutTo a b kind ts 0 [] := by
  refine ⟨Cov.nil, fun x hx _ => ?_, by simp, Nat.le_refl _⟩
  have h1 : memB a x = false := by have := mem_ahead ha hp hx; rw [← memB_iff] at this; simpa using this
  have h2 : memB b x = false := by have := mem_ahead hb hp hx; rw [← memB_iff] at this; simpa using this
  simp [KindP, h1, h2, kind_none, mem_nil]
theorem kind_between {a b : List Sp} {kind : Int} {ts : List Int} (ha : ∀ y ∈ endsOf a, y ∈ ts) (hb : ∀ y ∈ endsOf b, y ∈ ts) (hp : ts.Pairwise (· < ·)) {i : Nat} {f t x : Int} (hf : ts[i]? = some f) (ht : ts[i + 1]? = some t) (h1 : f ≤ x) (h2 : x < t) : KindP kind a b x ↔ KindP kind a b f := by
  unfold KindP
  rw [memB_eq (l := a) (m := a) (x := x), memB_eq (l := b) (m := b) (x := x)]
  · rw [show memB a x = memB a f from by rw [Bool.eq_iff_iff, memB_iff, memB_iff]; exact mem_between ha hp hf ht h1 h2, show memB b x = memB b f from by rw [Bool.eq_iff_iff, memB_iff, memB_iff]; exact mem_between hb hp hf ht h1 h2]
  · exact Iff.rfl
  · exact Iff.rfl
/-- A piece that doesn't count. -/
theorem OutTo.skip {a b : List Sp} {kind : Int} {ts : List Int} {i : Nat} {o : List Sp} (h : OutTo a b kind ts i o) (ha : ∀ y ∈ endsOf a, y ∈ ts) (hb : ∀ y ∈ endsOf b, y ∈ ts) (hp : ts.Pairwise (· < ·)) {f t : Int} (hf : ts[i]? = some f) (ht : ts[i + 1]? = some t) (hn : kindB kind (memB a f) (memB b f) = false) : OutTo a b kind ts (i + 1) o := by
  obtain ⟨li, ei⟩ := List.getElem?_eq_some_iff.1 hf
  obtain ⟨lj, ej⟩ := List.getElem?_eq_some_iff.1 ht
  have hft := List.pairwise_iff_getElem.1 hp i (i + 1) li lj (by omega)
  rw [ei, ej] at hft
  refine ⟨h.cov, fun x hx _ => ?_, fun p hp' q hq => ?_, by have := h.len; omega⟩
  · rcases Int.lt_or_le x f with h1 | h1
    · exact h.mem x (fun q hq => by rw [hf] at hq; injection hq with hq; omega) li
    · rw [kind_between ha hb hp hf ht h1 (hx t ht)]
      constructor
      · rintro ⟨p, hp', hr, h3, h4⟩
        have := h.ends p hp' f hf
        omega
      · intro hk
        rw [KindP, hn] at hk
        cases hk
  · have := h.ends p hp' f hf
    rw [ht] at hq
    injection hq with hq
    omega
theorem OutTo.next {a b : List Sp} {kind : Int} {ts : List Int} {i : Nat} {o o' : List Sp} (h : OutTo a b kind ts i o) (ha : ∀ y ∈ endsOf a, y ∈ ts) (hb : ∀ y ∈ endsOf b, y ∈ ts) (hp : ts.Pairwise (· < ·)) {f t : Int} (hf : ts[i]? = some f) (ht : ts[i + 1]? = some t) (hn : kindB kind (memB a f) (memB b f) = true)
    (hc : Cov o') (hm : ∀ x, Mem o' x ↔ Mem o x ∨ (f ≤ x ∧ x < t)) (he : ∀ p ∈ o', p ∈ o ∨ p.2 = t) (hl : o'.length ≤ o.length + 1) : OutTo a b kind ts (i + 1) o' := by
  obtain ⟨li, ei⟩ := List.getElem?_eq_some_iff.1 hf
  obtain ⟨lj, ej⟩ := List.getElem?_eq_some_iff.1 ht
  have hft := List.pairwise_iff_getElem.1 hp i (i + 1) li lj (by omega)
  rw [ei, ej] at hft
  refine ⟨hc, fun x hx _ => ?_, fun p hp' q hq => ?_, by have := h.len; omega⟩
  · rw [hm x]
    rcases Int.lt_or_le x f with h1 | h1
    · rw [h.mem x (fun q hq => by rw [hf] at hq; injection hq with hq; omega) li]
      constructor
      · rintro (h2 | h2)
        · exact h2
        · omega
      · exact .inl
    · rw [kind_between ha hb hp hf ht h1 (hx t ht)]
      exact ⟨fun _ => hn, fun _ => .inr ⟨h1, hx t ht⟩⟩
  · rw [ht] at hq
    injection hq with hq
    rcases he p hp' with h1 | h1
    · have := h.ends p h1 f hf
      omega
    · omega
theorem OutTo.stop {a b : List Sp} {kind : Int} {ts : List Int} {i : Nat} {o : List Sp} (h : OutTo a b kind ts i o) (ha : ∀ y ∈ endsOf a, y ∈ ts) (hb : ∀ y ∈ endsOf b, y ∈ ts) (hp : ts.Pairwise (· < ·)) (hi : ts.length ≤ i + 1) (hi2 : i = 0 ∨ i < ts.length) : CovOf o (KindP kind a b) := by
  refine ⟨h.cov, fun x => ?_⟩
  rcases Nat.lt_or_ge i ts.length with hl | hl
  · rcases Int.lt_or_le x ts[i] with h1 | h1
    · exact h.mem x (fun q hq => by rw [List.getElem?_eq_getElem hl] at hq; injection hq with hq; omega) hl
    · have e1 : memB a x = false := by have := mem_behind ha hp (List.getElem?_eq_getElem hl) hi h1; rw [← memB_iff] at this; simpa using this
      have e2 : memB b x = false := by have := mem_behind hb hp (List.getElem?_eq_getElem hl) hi h1; rw [← memB_iff] at this; simpa using this
      constructor
      · rintro ⟨p, hp', hr, h3, h4⟩
        have := h.ends p hp' _ (List.getElem?_eq_getElem hl)
        omega
      · intro hk
        rw [KindP, e1, e2, kind_none] at hk
        cases hk
  · obtain rfl : i = 0 := by omega
    have ht : ts = [] := List.eq_nil_of_length_eq_zero (by omega)
    have e0 : o = [] := List.eq_nil_of_length_eq_zero (by have := h.len; omega)
    have e1 : memB a x = false := by have := mem_ahead ha hp (x := x) (by simp [ht]); rw [← memB_iff] at this; simpa using this
    have e2 : memB b x = false := by have := mem_ahead hb hp (x := x) (by simp [ht]); rw [← memB_iff] at this; simpa using this
    rw [e0]
    simp [KindP, e1, e2, kind_none, mem_nil]

end Go.Proofs.Ytpeifijcpemjeaa.Co

/-
  Lists of spans in memory; the document's Same tells of any two whether they are one.
-/
namespace Go.Proofs.Ytpeifijcpemjeaa.Co
open Go.RowKit

/-- From A on the spans of l lie, one behind the other. -/
def Spans (w : World) (A : Option Addr) (l : List (Int × Int)) : Prop :=
  ∀ i p, l[i]? = some p → ∃ g off, A = some ⟨g, off, none⟩ ∧ w.cell? ⟨g, off + i * 2, none⟩ = some (.int .i64 p.1) ∧ w.cell? ⟨g, off + i * 2 + 1, none⟩ = some (.int .i64 p.2)

theorem ret_bool {a b : Bool} (h : a = b) : Ending.returned (.bool a) = .returned (.bool b) := by rw [h]
/-- As far as k both are one. -/
def SameTo (l m : List (Int × Int)) (k : Nat) : Prop := ∀ j, j < k → l[j]? = m[j]?

theorem SameTo.next {l m : List (Int × Int)} {k : Nat} (h : SameTo l m k) (he : l[k]? = m[k]?) : SameTo l m (k + 1) := fun j hj => by
  rcases Nat.lt_or_ge j k with hlt | hge
  · exact h j hlt
  · obtain rfl : j = k := by omega
    exact he
theorem SameTo.not {l m : List (Int × Int)} {k : Nat} {p q : Int × Int} (hp : l[k]? = some p) (hq : m[k]? = some q) (hne : p ≠ q) : decide (l = m) = false := by
  simp only [decide_eq_false_iff_not]
  rintro rfl
  rw [hp] at hq
  exact hne (by injection hq)
theorem SameTo.all {l m : List (Int × Int)} {k : Nat} (h : SameTo l m k) (hl : l.length ≤ k) (hm : m.length ≤ k) : decide (l = m) = true := by
  simp only [decide_eq_true_eq]
  apply List.ext_getElem?
  intro i
  rcases Nat.lt_or_ge i k with hlt | hge
  · exact h i hlt
  · rw [List.getElem?_eq_none (by omega), List.getElem?_eq_none (by omega)]

set_option maxHeartbeats 800000 in
theorem same_any (w : World) (A B : Option Addr) (c d : Nat) (l m : List (Int × Int)) (hl : Spans w A l) (hm : Spans w B m) (hn : l.length ≤ 9223372036854775807) :
    Calls Try.prog 19 #[.slice A l.length c, .slice B m.length d] w fun e w' => e = .returned (.bool (decide (l = m))) ∧ Below w.heap.size w w' := by
  by_cases hlen : l.length = m.length
  · have HL := Lib.hid hl
    have HM := Lib.hid hm
    clear hl hm
    obtain ⟨n, hnm⟩ : ∃ n, n = l.length := ⟨_, rfl⟩
    rw [← hlen, ← hnm]
    have HN := Lib.hid hnm
    have HLEN := Lib.hid hlen
    have hn' : n ≤ 9223372036854775807 := by omega
    clear hnm hlen hn
    go_enter Try.func19, Try.ntmps19
    go_wp2
    go_loopw [5] (fun i wr => ∃ k : Nat, k ≤ n ∧ i = .int .i64 k ∧ SameTo l m k ∧ ∃ q, wr = w.drewN q) (fun i _ => n - (intOf i).toNat)
    case atStart => exact ⟨0, Nat.zero_le _, rfl, fun j hj => absurd hj (by omega), 0, rfl⟩
    case round =>
      obtain ⟨k, hk, rfl, hs, q, rfl⟩ := hrel
      have HS := Lib.hid hs
      clear hs
      by_cases hlt : k < n
      · obtain ⟨⟨x, y⟩, hx⟩ : ∃ p, l[k]? = some p := ⟨_, List.getElem?_eq_getElem (by have := HN.out; omega)⟩
        obtain ⟨⟨u, v⟩, hu⟩ : ∃ p, m[k]? = some p := ⟨_, List.getElem?_eq_getElem (by have := HN.out; have := HLEN.out; omega)⟩
        obtain ⟨g, off, rfl, c0, c1⟩ := HL.out k _ hx
        obtain ⟨g', off', rfl, d0, d1⟩ := HM.out k _ hu
        have HX := Lib.hid hx
        have HU := Lib.hid hu
        clear hx hu
        simp only at c0 c1 d0 d1
        by_cases h0 : x = u
        · subst h0
          by_cases h1 : y = v
          · subst h1
            have e0 : (x == x) = true := by simp
            have e1 : (y == y) = true := by simp
            go_wp2
            go_quiet (fail)
            go_wp2
            go_roundw
            case rel => exact ⟨k + 1, by omega, by go_num, SameTo.next HS.out (HX.out.trans HU.out.symm), _, rfl⟩
            case measure => simp [intOf]; omega
          · have e0 : (x == x) = true := by simp
            have e1 : (y == v) = false := by simpa using h1
            go_wp2
            go_quiet (fail)
            go_wp2
            go_ret
            exact ⟨ret_bool (SameTo.not HX.out HU.out (by simpa using h1)).symm, ⟨rfl, rfl, rfl, Nat.le_refl _, fun _ _ => rfl⟩⟩
        · have e0 : (x == u) = false := by simpa using h0
          go_wp2
          go_quiet (fail)
          go_wp2
          go_ret
          exact ⟨ret_bool (SameTo.not HX.out HU.out (by simp [h0])).symm, ⟨rfl, rfl, rfl, Nat.le_refl _, fun _ _ => rfl⟩⟩
      · go_wp2
        go_ret
        exact ⟨ret_bool (SameTo.all HS.out (by have := HN.out; omega) (by have := HN.out; have := HLEN.out; omega)).symm, ⟨rfl, rfl, rfl, Nat.le_refl _, fun _ _ => rfl⟩⟩
  · go_enter Try.func19, Try.ntmps19
    go_wp2
    go_ret
    exact ⟨ret_bool (by simp only [Eq.comm (a := false), decide_eq_false_iff_not]; rintro rfl; exact hlen rfl), Below.refl _ _⟩

theorem Try.infoSpan : (Try.prog.info? 35).map (fun i => (i.zero, i.size, i.bytes)) = some (some (.agg #[.int .i64 0, .int .i64 0]), 2, 16) := by kernel_rfl

/-- The spans of a list as cells. -/
def flat (l : List (Int × Int)) : List Value := l.flatMap fun p => [.int .i64 p.1, .int .i64 p.2]
theorem flat_snoc (l : List (Int × Int)) (f t : Int) : flat (l ++ [(f, t)]) = flat l ++ [.int .i64 f, .int .i64 t] := by simp [flat]
theorem news_two (w : World) (f t : Int) (ty : TypeId) : ∀ j u, [Value.int .i64 f, Value.int .i64 t][j]? = some u → (w.alloc (.cells #[.int .i64 f, .int .i64 t] ty)).cell? ((⟨w.heap.size, 0, none⟩ : Addr).add j) = some u :=
  World.news_of_block (cs := #[.int .i64 f, .int .i64 t]) (heap_alloc_new w _)
theorem flat_get : ∀ (l : List (Int × Int)) (i : Nat) (p : Int × Int), l[i]? = some p → (flat l)[i * 2]? = some (.int .i64 p.1) ∧ (flat l)[i * 2 + 1]? = some (.int .i64 p.2)
  | [], i, p, h => by simp at h
  | q :: l, 0, p, h => by simp at h; subst h; simp [flat]
  | q :: l, i + 1, p, h => by
    have := flat_get l i p (by simpa using h)
    have e : flat (q :: l) = .int .i64 q.1 :: .int .i64 q.2 :: flat l := by simp [flat]
    rw [e, show (i + 1) * 2 = i * 2 + 1 + 1 from by omega]
    simpa using this
theorem Spans.nil (w : World) (A : Option Addr) : Spans w A [] := fun i p h => by simp at h
/-- A row of the call's own, read as spans. -/
theorem own_spans {w : World} {base : Nat} {v : Value} {l : List (Int × Int)} (h : w.ownsRow base 35 2 v l.length (flat l)) : ∃ A c, v = .slice A l.length c ∧ Spans w A l := by
  rcases Nat.eq_zero_or_pos l.length with h0 | h0
  · obtain rfl := List.eq_nil_of_length_eq_zero h0
    rcases h.2 with ⟨hv, _⟩ | ⟨g, cap, cur, hv, _⟩
    · exact ⟨_, _, hv, Spans.nil _ _⟩
    · exact ⟨_, _, hv, Spans.nil _ _⟩
  · obtain ⟨g, cap, rfl, _, _⟩ := h.form h0
    refine ⟨_, _, rfl, fun i p hp => ⟨g, 0, rfl, ?_⟩⟩
    obtain ⟨e0, e1⟩ := flat_get l i p hp
    have add : ∀ n, (⟨g, 0, none⟩ : Addr).add n = ⟨g, 0 + n, none⟩ := fun n => by unfold Addr.add; split <;> simp_all
    have c0 := h.cells (g := g) rfl _ _ e0
    have c1 := h.cells (g := g) rfl _ _ e1
    rw [add] at c0 c1
    exact ⟨c0, by rw [Nat.add_assoc]; exact c1⟩
/-- From the start of block g on the spans of l lie. -/
theorem own_spans2 {w : World} {base : Nat} {v : Value} {l : List (Int × Int)} (h : w.ownsRow base 35 2 v l.length (flat l)) : ∃ A c, v = .slice A l.length c ∧ Spans w A l ∧ l.length ≤ c ∧ (A = none → c = 0) := by
  obtain ⟨A, c, rfl, hs⟩ := own_spans h
  refine ⟨A, c, rfl, hs, ?_⟩
  rcases h.2 with ⟨hv, h0⟩ | ⟨g, cap, cur, hv, _, _, hn, _⟩
  · injection hv with e1 e2 e3
    exact ⟨by omega, fun _ => e3⟩
  · injection hv with e1 e2 e3
    exact ⟨by omega, fun hA => by rw [hA] at e1; cases e1⟩
def SpansAt (w : World) (g : Nat) (l : List (Int × Int)) : Prop := ∀ i p, l[i]? = some p → w.cell? ⟨g, i * 2, none⟩ = some (.int .i64 p.1) ∧ w.cell? ⟨g, i * 2 + 1, none⟩ = some (.int .i64 p.2)
theorem own_spansAt {w : World} {base : Nat} {v : Value} {l : List (Int × Int)} (h : w.ownsRow base 35 2 v l.length (flat l)) (h0 : 0 < l.length) : ∃ g c, v = .slice (some ⟨g, 0, none⟩) l.length c ∧ SpansAt w g l ∧ base ≤ g ∧ g < w.heap.size := by
  obtain ⟨g, cap, rfl, _, _⟩ := h.form h0
  have hl := h.lt g rfl
  refine ⟨g, _, rfl, fun i p hp => ?_, hl.1, hl.2⟩
  obtain ⟨e0, e1⟩ := flat_get l i p hp
  have add : ∀ n, (⟨g, 0, none⟩ : Addr).add n = ⟨g, 0 + n, none⟩ := fun n => by unfold Addr.add; split <;> simp_all
  have c0 := h.cells (g := g) rfl _ _ e0
  have c1 := h.cells (g := g) rfl _ _ e1
  rw [add] at c0 c1
  exact ⟨by rwa [Nat.zero_add] at c0, by rwa [Nat.zero_add] at c1⟩
theorem cell_lt {w : World} {g o : Nat} {v : Value} (h : w.cell? ⟨g, o, none⟩ = some v) : g < w.heap.size := by
  rcases Nat.lt_or_ge g w.heap.size with hlt | hge
  · exact hlt
  · simp [World.cell?, Array.getElem?_eq_none hge] at h
theorem Spans.below {w w' : World} {A : Option Addr} {l : List (Int × Int)} (h : Spans w A l) (hb : Below w.heap.size w w') : Spans w' A l := fun i p hp => by
  obtain ⟨g, off, rfl, c0, c1⟩ := h i p hp
  have hg := cell_lt c0
  exact ⟨g, off, rfl, (hb.cell (p := ⟨g, _, none⟩) hg).trans c0, (hb.cell (p := ⟨g, _, none⟩) hg).trans c1⟩
theorem below_app {B : Nat} {a w w1 : World} {o : Obj} {row : Option Nat} (h : Below B a w) (hg : (w.alloc o).grownBy w1 row) (hB : B ≤ w.heap.size) (hr : ∀ k, row = some k → B ≤ k) : Below B a w1 :=
  (h.alloc hB o).grown hg (by simp; omega) hr
theorem info_parts {P : Program} {t : TypeId} {z : Value} {s b : Nat} (h : (P.info? t).map (fun i => (i.zero, i.size, i.bytes)) = some (some z, s, b)) : ∃ i, P.info? t = some i ∧ i.zero = some z ∧ i.size = s ∧ i.bytes = b := by
  obtain ⟨i, hi, he⟩ := Option.map_eq_some_iff.1 h
  simp only [Prod.mk.injEq] at he
  exact ⟨i, hi, he⟩


end Go.Proofs.Ytpeifijcpemjeaa.Co

/-
  Kept, of cover and of the document's answer: is the list a cover? The document's Has: has the list the time?
-/
namespace Go.Proofs.Ytpeifijcpemjeaa.Co
open Go.RowKit

theorem chain {W w w1 : World} (h : Below W.heap.size W w) (hb : Below w.heap.size w w1) : Below W.heap.size W w1 := h.trans (hb.mono h.size)
theorem belowN {B : Nat} {a w : World} (h : Below B a w) (n : Nat) : Below B a (w.drewN n) := ⟨h.os, h.tape, h.output, h.size, h.block⟩
theorem bl (w : World) : Below w.heap.size w w := Below.refl _ _
theorem keepc {w w' : World} {g o : Nat} {u : Value} (hb : Below w.heap.size w w') (h : w.cell? ⟨g, o, none⟩ = some u) : w'.cell? ⟨g, o, none⟩ = some u := (hb.cell (p := ⟨g, o, none⟩) (cell_lt h)).trans h
/-- The cells of one span of a list, wherever it lies. -/
theorem Spans.at {w : World} {A : Option Addr} {l : List Sp} (h : Spans w A l) {i : Nat} {f t : Int} (hp : l[i]? = some (f, t)) : ∃ g off, A = some ⟨g, off, none⟩ ∧ w.cell? ⟨g, off + i * 2, none⟩ = some (.int .i64 f) ∧ w.cell? ⟨g, off + i * 2 + 1, none⟩ = some (.int .i64 t) := h i _ hp

end Go.Proofs.Ytpeifijcpemjeaa.Co

/-
  Lists of numbers in memory; what the call owns stays owned over a call that makes new blocks alone.
-/
namespace Go.Proofs.Ytpeifijcpemjeaa.Co
open Go.RowKit

theorem Try.infoInt : (Try.prog.info? 3).map (fun i => (i.zero, i.size, i.bytes)) = some (some (.int .i64 0), 1, 8) := by kernel_rfl

/-- From A on the numbers of l lie, one behind the other. -/
def Ints (w : World) (A : Option Addr) (l : List Int) : Prop := ∀ i x, l[i]? = some x → ∃ g off, A = some ⟨g, off, none⟩ ∧ w.cell? ⟨g, off + i, none⟩ = some (.int .i64 x)

theorem lt_of_cell {w : World} {g o : Nat} {u : Value} (h : w.cell? ⟨g, o, none⟩ = some u) : g < w.heap.size := by
  rcases Nat.lt_or_ge g w.heap.size with hlt | hge
  · exact hlt
  · simp [World.cell?, Array.getElem?_eq_none hge] at h
theorem Ints.below {w w' : World} {A : Option Addr} {l : List Int} (h : Ints w A l) (hb : Below w.heap.size w w') : Ints w' A l := fun i x hx => by
  obtain ⟨g, off, rfl, c0⟩ := h i x hx
  exact ⟨g, off, rfl, (hb.cell (p := ⟨g, _, none⟩) (lt_of_cell c0)).trans c0⟩
theorem Ints.nil (w : World) (A : Option Addr) : Ints w A [] := fun i p h => by simp at h
theorem own_ints {w : World} {base : Nat} {v : Value} {l : List Int} (h : w.ownsRow base 3 1 v l.length (l.map (Value.int .i64))) : ∃ A c, v = .slice A l.length c ∧ Ints w A l := by
  rcases Nat.eq_zero_or_pos l.length with h0 | h0
  · obtain rfl := List.eq_nil_of_length_eq_zero h0
    rcases h.2 with ⟨hv, _⟩ | ⟨g, cap, cur, hv, _⟩
    · exact ⟨_, _, hv, Ints.nil _ _⟩
    · exact ⟨_, _, hv, Ints.nil _ _⟩
  · obtain ⟨g, cap, rfl, _, _⟩ := h.form h0
    refine ⟨_, _, rfl, fun i x hx => ⟨g, 0, rfl, ?_⟩⟩
    have add : ∀ n, (⟨g, 0, none⟩ : Addr).add n = ⟨g, 0 + n, none⟩ := fun n => by unfold Addr.add; split <;> simp_all
    have c0 := h.cells (g := g) rfl i (.int .i64 x) (by simp [hx])
    rwa [add] at c0
/-- What the call owns stays owned over a call that makes new blocks alone. -/
theorem own_below {w w' : World} {base e size n : Nat} {v : Value} {xs : List Value} (h : w.ownsRow base e size v n xs) (hb : Below w.heap.size w w') : w'.ownsRow base e size v n xs :=
  h.kept (row := none) ⟨hb.os, hb.tape, hb.output, hb.size, fun k hk _ => hb.block k hk⟩ (by cases v.ownBlock <;> simp)

theorem news_one (w : World) (x : Int) (ty : TypeId) : ∀ j u, [Value.int .i64 x][j]? = some u → (w.alloc (.cells #[.int .i64 x] ty)).cell? ((⟨w.heap.size, 0, none⟩ : Addr).add j) = some u :=
  World.news_of_block (cs := #[.int .i64 x]) (heap_alloc_new w _)

end Go.Proofs.Ytpeifijcpemjeaa.Co

/-
  Plain facts on turns: how many ends of a cover are not behind a time tells whether it has the time; going over the turns of two covers gives the cover of what counts; how long covers are.
-/
namespace Go.Proofs.Ytpeifijcpemjeaa.Co

/-- All From and To of a cover. -/
def bord (l : List Sp) : List Int := l.flatMap fun p => [p.1, p.2]
theorem bord_cons (p : Sp) (l : List Sp) : bord (p :: l) = p.1 :: p.2 :: bord l := by simp [bord]
theorem bord_snoc (l : List Sp) (p : Sp) : bord (l ++ [p]) = bord l ++ [p.1, p.2] := by simp [bord]
theorem bord_length (l : List Sp) : (bord l).length = 2 * l.length := by
  induction l with
  | nil => rfl
  | cons p l ih => rw [bord_cons]; simp only [List.length_cons, ih]; omega
theorem bord_bounds {l : List Sp} (h : Cov l) {x : Int} (hx : x ∈ bord l) : -1099511627776 ≤ x ∧ x ≤ 1099511627776 := by
  unfold bord at hx
  simp only [List.mem_flatMap] at hx
  obtain ⟨p, hp, hx⟩ := hx
  have := right_yes (h.1 p hp)
  simp at hx
  omega
theorem bord_behind {p : Sp} {l : List Sp} (h : Cov (p :: l)) {x : Int} (hx : x ∈ bord l) : p.2 < x := by
  unfold bord at hx
  simp only [List.mem_flatMap] at hx
  obtain ⟨q, hq, hx⟩ := hx
  have := right_yes (h.1 q (List.mem_cons_of_mem _ hq))
  have := h.head q hq
  simp at hx
  omega
/-- How many are not behind x. -/
def upTo (l : List Int) (x : Int) : Nat := l.countP fun y => decide (y ≤ x)
theorem upTo_cons (y : Int) (l : List Int) (x : Int) : upTo (y :: l) x = upTo l x + if y ≤ x then 1 else 0 := by
  simp [upTo, List.countP_cons]
theorem cov_odd : ∀ (l : List Sp) (x : Int), Cov l → (Mem l x ↔ upTo (bord l) x % 2 = 1)
  | [], x, _ => by simp [mem_nil, upTo, bord]
  | p :: l, x, h => by
    have ih := cov_odd l x h.tail
    have hr := right_yes (h.1 p (by simp))
    rw [bord_cons, upTo_cons, upTo_cons, mem_cons]
    simp only [h.1 p (by simp), true_and]
    rcases Int.lt_or_le x p.2 with h1 | h1
    · have h0 : upTo (bord l) x = 0 := by
        unfold upTo
        rw [List.countP_eq_zero]
        intro y hy
        have := bord_behind h hy
        simp; omega
      have hn : ¬ Mem l x := by rw [ih, h0]; omega
      rw [h0]
      rcases Int.lt_or_le x p.1 with h2 | h2
      · rw [if_neg (by omega), if_neg (by omega)]
        constructor
        · rintro (h3 | h3)
          · omega
          · exact absurd h3 hn
        · omega
      · rw [if_neg (by omega), if_pos (by omega)]
        exact ⟨fun _ => rfl, fun _ => .inl ⟨h2, h1⟩⟩
    · rw [if_pos (by omega), if_pos (by omega)]
      constructor
      · rintro (h3 | h3)
        · omega
        · have := ih.1 h3
          omega
      · intro h3
        exact .inr (ih.2 (by omega))

/-- A turn: its time, and which list turns. -/
abbrev Tn := Int × Int
/-- The turns of two covers. -/
def tnOf (a b : List Sp) : List Tn := (bord a).map (fun t => (t, 0)) ++ (bord b).map fun t => (t, 1)
theorem tn_bounds {a b : List Sp} (ha : Cov a) (hb : Cov b) {q : Tn} (h : q ∈ tnOf a b) : (q.2 = 0 ∨ q.2 = 1) ∧ -1099511627776 ≤ q.1 ∧ q.1 ≤ 1099511627776 := by
  unfold tnOf at h
  simp only [List.mem_append, List.mem_map] at h
  rcases h with ⟨t, ht, rfl⟩ | ⟨t, ht, rfl⟩
  · exact ⟨.inl rfl, bord_bounds ha ht⟩
  · exact ⟨.inr rfl, bord_bounds hb ht⟩
/-- Has the list with this number turned an odd number of times? -/
def odd (s : List Tn) (n : Int) : Bool := decide ((s.countP fun q => decide (q.2 = n)) % 2 = 1)
theorem odd_nil (n : Int) : odd [] n = false := by simp [odd]
theorem odd_snoc_same (s : List Tn) (q : Tn) {n : Int} (h : q.2 = n) : odd (s ++ [q]) n = !odd s n := by
  unfold odd
  rw [List.countP_append]
  have e : List.countP (fun q : Tn => decide (q.2 = n)) [q] = 1 := by simp [h]
  rw [e]
  rcases Nat.mod_two_eq_zero_or_one (s.countP fun q => decide (q.2 = n)) with h1 | h1
  · rw [decide_eq_true (by omega), decide_eq_false (by omega)]; rfl
  · rw [decide_eq_false (by omega), decide_eq_true (by omega)]; rfl
theorem odd_snoc_other (s : List Tn) (q : Tn) {n : Int} (h : q.2 ≠ n) : odd (s ++ [q]) n = odd s n := by
  unfold odd
  rw [List.countP_append]
  have e : List.countP (fun q : Tn => decide (q.2 = n)) [q] = 0 := by simp [h]
  rw [e, Nat.add_zero]
theorem count_map (l : List Int) (m n : Int) (x : Int) : (l.map fun t => ((t, m) : Tn)).countP (fun q => decide (q.2 = n) && decide (q.1 ≤ x)) = if m = n then upTo l x else 0 := by
  induction l with
  | nil => simp [upTo]
  | cons y l ih =>
    rw [List.map_cons, List.countP_cons, ih, upTo_cons]
    by_cases h : m = n <;> simp [h]
theorem count_tn (a b : List Sp) (x : Int) : (tnOf a b).countP (fun q => decide (q.2 = 0) && decide (q.1 ≤ x)) = upTo (bord a) x ∧ (tnOf a b).countP (fun q => decide (q.2 = 1) && decide (q.1 ≤ x)) = upTo (bord b) x := by
  unfold tnOf
  rw [List.countP_append, List.countP_append, count_map, count_map, count_map, count_map]
  simp
/-- All ahead of place k not behind x, all others behind it: which lists have x. -/
theorem odd_mem {a b : List Sp} (ha : Cov a) (hb : Cov b) {s : List Tn} (hp : s.Perm (tnOf a b)) {k : Nat} {x : Int} (h1 : ∀ q ∈ s.take k, q.1 ≤ x) (h2 : ∀ q ∈ s.drop k, x < q.1) : odd (s.take k) 0 = memB a x ∧ odd (s.take k) 1 = memB b x := by
  have key : ∀ n : Int, (s.take k).countP (fun q => decide (q.2 = n)) = s.countP (fun q => decide (q.2 = n) && decide (q.1 ≤ x)) := fun n => by
    conv => rhs; rw [← List.take_append_drop k s, List.countP_append]
    have e0 : (s.drop k).countP (fun q => decide (q.2 = n) && decide (q.1 ≤ x)) = 0 := by
      rw [List.countP_eq_zero]
      intro q hq
      have := h2 q hq
      simp; omega
    rw [e0, Nat.add_zero]
    apply List.countP_congr
    intro q hq
    have := h1 q hq
    simp [this]
  obtain ⟨c0, c1⟩ := count_tn a b x
  rw [← hp.countP_eq] at c0 c1
  constructor
  · rw [Bool.eq_iff_iff, memB_iff, cov_odd a x ha, odd, key, c0]; simp
  · rw [Bool.eq_iff_iff, memB_iff, cov_odd b x hb, odd, key, c1]; simp

/-- Is the time ahead of the turn at place k? -/
def Ahead (s : List Tn) (k : Nat) (x : Int) : Prop := ∀ q, s[k]? = some q → x < q.1
def CountP (f : Bool → Bool → Bool) (a b : List Sp) (x : Int) : Prop := f (memB a x) (memB b x) = true
/-- What holds when the turns ahead of place k are through. -/
structure Picks (a b : List Sp) (f : Bool → Bool → Bool) (s : List Tn) (k : Nat) (o : List Sp) (fr : Int) (c : Bool) : Prop where
  cov : Cov o
  off : c = false → (∀ x, Ahead s k x → (Mem o x ↔ CountP f a b x)) ∧ ∀ p ∈ o, Ahead s k p.2
  on : c = true → (∀ x, Ahead s k x → ((Mem o x ∨ fr ≤ x) ↔ CountP f a b x)) ∧ (∀ p ∈ o, p.2 < fr) ∧ Ahead s k fr ∧ -1099511627776 ≤ fr ∧ fr ≤ 1099511627776
  len : o.length ≤ k
def Sorted (s : List Tn) : Prop := ∀ (i j : Nat) (p q : Tn), i ≤ j → s[i]? = some p → s[j]? = some q → p.1 ≤ q.1
theorem Sorted.take {s : List Tn} (h : Sorted s) {k : Nat} {t : Tn} (ht : s[k]? = some t) {x : Int} (hx : t.1 ≤ x) : ∀ q ∈ s.take (k + 1), q.1 ≤ x := fun q hq => by
  obtain ⟨i, hi⟩ := List.getElem?_of_mem hq
  rw [List.getElem?_take] at hi
  split at hi
  · have := h i k q t (by omega) hi ht
    omega
  · cases hi
theorem Sorted.drop {s : List Tn} (h : Sorted s) {k : Nat} {x : Int} (hx : Ahead s k x) : ∀ q ∈ s.drop k, x < q.1 := fun q hq => by
  obtain ⟨i, hi⟩ := List.getElem?_of_mem hq
  rw [List.getElem?_drop] at hi
  have hlt : k + i < s.length := by
    rcases Nat.lt_or_ge (k + i) s.length with h1 | h1
    · exact h1
    · simp [List.getElem?_eq_none h1] at hi
  have h0 := hx s[k] (List.getElem?_eq_getElem (by omega))
  have := h k (k + i) _ q (by omega) (List.getElem?_eq_getElem (by omega)) hi
  omega
theorem Picks.start {a b : List Sp} {f : Bool → Bool → Bool} {s : List Tn} (ha : Cov a) (hb : Cov b) (hf : f false false = false) (hp : s.Perm (tnOf a b)) (hs : Sorted s) : Picks a b f s 0 [] 0 false := by
  refine ⟨Cov.nil, fun _ => ⟨fun x hx => ?_, by simp⟩, (fun h => by cases h), Nat.le_refl _⟩
  obtain ⟨e0, e1⟩ := odd_mem ha hb hp (k := 0) (x := x) (by simp) (hs.drop hx)
  simp only [List.take_zero, odd_nil] at e0 e1
  simp [CountP, ← e0, ← e1, hf, mem_nil]
/-- Another turn comes at the same time. -/
theorem Picks.stays {a b : List Sp} {f : Bool → Bool → Bool} {s : List Tn} {k : Nat} {o : List Sp} {fr : Int} {c : Bool} (h : Picks a b f s k o fr c) {t u : Tn} (ht : s[k]? = some t) (hu : s[k + 1]? = some u) (he : u.1 = t.1) : Picks a b f s (k + 1) o fr c := by
  have e : ∀ x, Ahead s (k + 1) x ↔ Ahead s k x := fun x => by
    unfold Ahead
    rw [ht, hu]
    constructor
    · intro h q hq; injection hq with hq; have := h u rfl; subst hq; omega
    · intro h q hq; injection hq with hq; have := h t rfl; subst hq; omega
  refine ⟨h.cov, fun hc => ?_, fun hc => ?_, by have := h.len; omega⟩
  · have := h.off hc
    exact ⟨fun x hx => this.1 x ((e x).1 hx), fun p hp => (e _).2 (this.2 p hp)⟩
  · have := h.on hc
    exact ⟨fun x hx => this.1 x ((e x).1 hx), this.2.1, (e _).2 this.2.2.1, this.2.2.2⟩
theorem ahead_of {s : List Tn} {k : Nat} {t : Tn} (ht : s[k]? = some t) {x : Int} : Ahead s k x ↔ x < t.1 := by
  unfold Ahead
  rw [ht]
  exact ⟨fun h => h t rfl, fun h q hq => by injection hq with hq; subst hq; exact h⟩
/-- The times from a turn on, ahead of the next one, are alike. -/
theorem turn_alike {a b : List Sp} {f : Bool → Bool → Bool} {s : List Tn} (ha : Cov a) (hb : Cov b) (hp : s.Perm (tnOf a b)) (hs : Sorted s) {k : Nat} {t : Tn} (ht : s[k]? = some t) {x : Int} (h1 : t.1 ≤ x) (h2 : Ahead s (k + 1) x) : CountP f a b x ↔ f (odd (s.take (k + 1)) 0) (odd (s.take (k + 1)) 1) = true := by
  obtain ⟨e0, e1⟩ := odd_mem ha hb hp (k := k + 1) (x := x) (hs.take ht h1) (hs.drop h2)
  rw [CountP, e0, e1]
theorem Picks.turns {a b : List Sp} {f : Bool → Bool → Bool} {s : List Tn} {k : Nat} {o : List Sp} {fr : Int} {c : Bool} (h : Picks a b f s k o fr c) (ha : Cov a) (hb : Cov b) (hp : s.Perm (tnOf a b)) (hs : Sorted s) {t : Tn} (ht : s[k]? = some t) (hn : Ahead s (k + 1) t.1) {now : Bool} (hnow : f (odd (s.take (k + 1)) 0) (odd (s.take (k + 1)) 1) = now) :
    (now = true → c = false → Picks a b f s (k + 1) o t.1 true) ∧ (now = false → c = true → Picks a b f s (k + 1) (o ++ [(fr, t.1)]) fr false) ∧ (now = c → Picks a b f s (k + 1) o fr c) := by
  have hb1 := (tn_bounds ha hb (hp.mem_iff.1 (List.mem_of_getElem? ht))).2
  have hlen := h.len
  have low : ∀ x, x < t.1 → Ahead s k x := fun x hx => (ahead_of ht).2 hx
  have up : ∀ x, t.1 ≤ x → Ahead s (k + 1) x → (CountP f a b x ↔ now = true) := fun x h1 h2 => by rw [turn_alike ha hb hp hs ht h1 h2, hnow]
  have far : ∀ x, x < t.1 → Ahead s (k + 1) x := fun x hx q hq => by have := hn q hq; omega
  refine ⟨fun h1 h2 => ?_, fun h1 h2 => ?_, fun h1 => ?_⟩
  · obtain ⟨m1, m2⟩ := h.off h2
    refine ⟨h.cov, (fun h => by cases h), fun _ => ⟨fun x hx => ?_, fun p hp' => (ahead_of ht).1 (m2 p hp'), hn, hb1⟩, by omega⟩
    rcases Int.lt_or_le x t.1 with h3 | h3
    · rw [← m1 x (low x h3)]
      constructor
      · rintro (h4 | h4)
        · exact h4
        · omega
      · exact .inl
    · rw [up x h3 hx]
      exact ⟨fun _ => h1, fun _ => .inr h3⟩
  · obtain ⟨m1, m2, m3, m4⟩ := h.on h2
    have m3' := (ahead_of ht).1 m3
    have hr : rightB fr t.1 = true := by simp [rightB]; omega
    obtain ⟨c1, c2⟩ := put_adds h.cov m2 hr
    refine ⟨c1, fun _ => ⟨fun x hx => ?_, fun p hp' => ?_⟩, (fun h => by cases h), by simp; omega⟩
    · rw [c2 x]
      rcases Int.lt_or_le x t.1 with h3 | h3
      · rw [← m1 x (low x h3)]
        constructor
        · rintro (h4 | h4)
          · exact .inl h4
          · exact .inr h4.1
        · rintro (h4 | h4)
          · exact .inl h4
          · exact .inr ⟨h4, h3⟩
      · rw [up x h3 hx, h1]
        constructor
        · rintro (⟨p, hp', _, h4, h5⟩ | h4)
          · have := m2 p hp'
            omega
          · omega
        · intro h4; cases h4
    · rcases List.mem_append.1 hp' with h3 | h3
      · have := m2 p h3
        exact far _ (by omega)
      · obtain rfl := List.mem_singleton.1 h3
        exact hn
  · refine ⟨h.cov, fun hc => ?_, fun hc => ?_, by omega⟩
    · obtain ⟨m1, m2⟩ := h.off hc
      refine ⟨fun x hx => ?_, fun p hp' => far _ ((ahead_of ht).1 (m2 p hp'))⟩
      rcases Int.lt_or_le x t.1 with h3 | h3
      · exact m1 x (low x h3)
      · rw [up x h3 hx, h1, hc]
        constructor
        · rintro ⟨p, hp', _, h4, h5⟩
          have := (ahead_of ht).1 (m2 p hp')
          omega
        · intro h4; cases h4
    · obtain ⟨m1, m2, m3, m4⟩ := h.on hc
      refine ⟨fun x hx => ?_, m2, far _ ((ahead_of ht).1 m3), m4⟩
      rcases Int.lt_or_le x t.1 with h3 | h3
      · exact m1 x (low x h3)
      · rw [up x h3 hx, h1, hc]
        have := (ahead_of ht).1 m3
        exact ⟨fun _ => rfl, fun _ => .inr (by omega)⟩
theorem Picks.stop {a b : List Sp} {f : Bool → Bool → Bool} {s : List Tn} {k : Nat} {o : List Sp} {fr : Int} {c : Bool} (h : Picks a b f s k o fr c) (hf : f false false = false) (hk : s.length ≤ k) : CovOf o (CountP f a b) := by
  have hA : ∀ x, Ahead s k x := fun x q hq => by rw [List.getElem?_eq_none hk] at hq; cases hq
  cases c with
  | false => exact ⟨h.cov, fun x => (h.off rfl).1 x (hA x)⟩
  | true =>
    exfalso
    obtain ⟨m1, m2, m3, m4, m5⟩ := h.on rfl
    have := (m1 1099511627776 (hA _)).1 (.inr m5)
    have e1 : memB a 1099511627776 = false := by
      cases hm : memB a 1099511627776
      · rfl
      · have := mem_bounds ((memB_iff _ _).1 hm); omega
    have e2 : memB b 1099511627776 = false := by
      cases hm : memB b 1099511627776
      · rfl
      · have := mem_bounds ((memB_iff _ _).1 hm); omega
    rw [CountP, e1, e2, hf] at this
    cases this

/- How long covers are. -/
def lens (l : List Sp) : Int := (l.map fun p => p.2 - p.1).sum
theorem lens_cons (p : Sp) (l : List Sp) : lens (p :: l) = p.2 - p.1 + lens l := by simp [lens]
theorem lens_snoc (l : List Sp) (p : Sp) : lens (l ++ [p]) = lens l + (p.2 - p.1) := by simp [lens]
/-- How many of the n times from lo on are in a set. -/
def cnt (S : Int → Bool) (lo : Int) : Nat → Int
  | 0 => 0
  | n + 1 => cnt S lo n + if S (lo + n) then 1 else 0
theorem cnt_congr {S T : Int → Bool} (h : ∀ x, S x = T x) (lo : Int) : ∀ n, cnt S lo n = cnt T lo n
  | 0 => rfl
  | n + 1 => by rw [cnt, cnt, cnt_congr h lo n, h]
/-- How many times of a cover are ahead of x. -/
def lenTo (l : List Sp) (x : Int) : Int := (l.map fun p => max 0 (min p.2 x - p.1)).sum
theorem lenTo_cons (p : Sp) (l : List Sp) (x : Int) : lenTo (p :: l) x = max 0 (min p.2 x - p.1) + lenTo l x := by simp [lenTo]
theorem lenTo_step : ∀ (l : List Sp) (x : Int), Cov l → lenTo l (x + 1) = lenTo l x + if memB l x then 1 else 0
  | [], x, _ => by simp [lenTo, memB]
  | p :: l, x, h => by
    have ih := lenTo_step l x h.tail
    have hr := right_yes (h.1 p (by simp))
    have hm : memB (p :: l) x = ((decide (p.1 ≤ x) && decide (x < p.2)) || memB l x) := by
      simp [memB, hasB, h.1 p (by simp)]
    rw [lenTo_cons, lenTo_cons, ih, hm]
    have hn : p.1 ≤ x → x < p.2 → memB l x = false := fun _ h2 => by
      cases hq : memB l x
      · rfl
      · have := ((cov_tail h x).1 ((memB_iff _ _).1 hq)).2
        omega
    by_cases h1 : p.1 ≤ x
    · by_cases h2 : x < p.2
      · rw [hn h1 h2]
        simp only [h1, h2, decide_true, Bool.and_true, Bool.or_false, if_true]
        simp; omega
      · simp only [h1, h2, decide_true, decide_false, Bool.and_false, Bool.false_or]
        omega
    · simp only [h1, decide_false, Bool.false_and, Bool.false_or]
      omega
theorem lenTo_low : ∀ (l : List Sp) (x : Int), Cov l → x ≤ -1099511627776 → lenTo l x = 0
  | [], _, _, _ => rfl
  | p :: l, x, h, hx => by
    have hr := right_yes (h.1 p (by simp))
    rw [lenTo_cons, lenTo_low l x h.tail hx]
    omega
theorem lenTo_high : ∀ (l : List Sp) (x : Int), Cov l → 1099511627776 ≤ x → lenTo l x = lens l
  | [], _, _, _ => rfl
  | p :: l, x, h, hx => by
    have hr := right_yes (h.1 p (by simp))
    rw [lenTo_cons, lens_cons, lenTo_high l x h.tail hx]
    omega
theorem lenTo_cnt {l : List Sp} (h : Cov l) : ∀ n : Nat, lenTo l (-1099511627776 + n) = cnt (memB l) (-1099511627776) n
  | 0 => by simpa [cnt] using lenTo_low l _ h (Int.le_refl _)
  | n + 1 => by
    rw [cnt, ← lenTo_cnt h n, ← lenTo_step l _ h]
    congr 1
    omega
theorem lens_cnt {l : List Sp} (h : Cov l) : lens l = cnt (memB l) (-1099511627776) 2199023255552 := by
  rw [← lenTo_cnt h, ← lenTo_high l _ h (Int.le_refl _)]
  rfl
theorem cnt_add {S T U V : Int → Bool} (h : ∀ x, (if S x then 1 else 0) + (if T x then 1 else 0) + (if U x then 1 else 0) = (if V x then (1 : Int) else 0)) (lo : Int) : ∀ n, cnt S lo n + cnt T lo n + cnt U lo n = cnt V lo n
  | 0 => rfl
  | n + 1 => by
    have ih := cnt_add h lo n
    have := h (lo + n)
    simp only [cnt]
    omega
theorem lens_nonneg {l : List Sp} (h : Cov l) : 0 ≤ lens l ∧ lens l ≤ 2199023255552 := by
  have key : ∀ (S : Int → Bool) (lo : Int) (n : Nat), 0 ≤ cnt S lo n ∧ cnt S lo n ≤ n := fun S lo n => by
    induction n with
    | zero => simp [cnt]
    | succ n ih => rw [cnt]; split <;> omega
  rw [lens_cnt h]
  exact key _ _ _

end Go.Proofs.Ytpeifijcpemjeaa.Co

/-
  What the small calls of span, and of the document's answers beside it, give back for any spans and times: Right, Has, Long. Each makes new blocks alone.
-/
namespace Go.Proofs.Ytpeifijcpemjeaa.Co
open Go.RowKit

/-- A span as a value. -/
abbrev sp (f t : Int) : Value := .agg #[.int .i64 f, .int .i64 t]

theorem bcell {W w1 : World} (hb : Below W.heap.size W w1) : (∀ b o, b < W.heap.size → w1.cell? ⟨b, o, none⟩ = W.cell? ⟨b, o, none⟩) ∧ (∀ b o, b < W.heap.size → w1.frozen? ⟨b, o, none⟩ = W.frozen? ⟨b, o, none⟩) :=
  ⟨fun b o h => hb.cell (p := ⟨b, o, none⟩) h, fun b o h => hb.frozen (p := ⟨b, o, none⟩) h⟩

set_option maxHeartbeats 400000 in
theorem right_any (f t : Int) (w : World) :
    Calls Try.prog 34 #[sp f t] w fun e w' => e = .returned (.bool (rightB f t)) ∧ Below w.heap.size w w' := by
  by_cases h0 : -1099511627776 ≤ f
  case' neg =>
    go_enter Try.func34, Try.ntmps34
    go_wp2
    go_ret
    exact ⟨by simp [rightB]; omega, by go_grown⟩
  by_cases h1 : f < t
  case' neg =>
    go_enter Try.func34, Try.ntmps34
    go_wp2
    go_ret
    exact ⟨by simp [rightB]; omega, by go_grown⟩
  by_cases h2 : t ≤ 1099511627776
  case' neg =>
    go_enter Try.func34, Try.ntmps34
    go_wp2
    go_ret
    exact ⟨by simp [rightB]; omega, by go_grown⟩
  go_enter Try.func34, Try.ntmps34
  go_wp2
  go_ret
  exact ⟨by simp [rightB]; omega, by go_grown⟩

set_option maxHeartbeats 400000 in
theorem dright_any (f t : Int) (w : World) :
    Calls Try.prog 36 #[sp f t] w fun e w' => e = .returned (.bool (rightB f t)) ∧ Below w.heap.size w w' := by
  by_cases h0 : -1099511627776 ≤ f
  case' neg =>
    go_enter Try.func36, Try.ntmps36
    go_wp2
    go_ret
    exact ⟨by simp [rightB]; omega, by go_grown⟩
  by_cases h1 : t ≤ 1099511627776
  case' neg =>
    go_enter Try.func36, Try.ntmps36
    go_wp2
    go_ret
    exact ⟨by simp [rightB]; omega, by go_grown⟩
  by_cases h2 : f < t
  case' neg =>
    go_enter Try.func36, Try.ntmps36
    go_wp2
    go_ret
    exact ⟨by simp [rightB]; omega, by go_grown⟩
  go_enter Try.func36, Try.ntmps36
  go_wp2
  go_ret
  exact ⟨by simp [rightB]; omega, by go_grown⟩

set_option maxHeartbeats 400000 in
theorem has_any (f t x : Int) (w : World) :
    Calls Try.prog 35 #[sp f t, .int .i64 x] w fun e w' => e = .returned (.bool (hasB f t x)) ∧ Below w.heap.size w w' := by
  by_cases h0 : f ≤ x
  case' neg =>
    go_enter Try.func35, Try.ntmps35
    go_wp2
    go_ret
    exact ⟨by simp [hasB]; omega, by go_grown⟩
  by_cases h1 : x < t
  case' neg =>
    go_enter Try.func35, Try.ntmps35
    go_wp2
    go_ret
    exact ⟨by simp [hasB]; omega, by go_grown⟩
  go_enter Try.func35, Try.ntmps35
  go_wp2
  go_ret
  exact ⟨by simp [hasB]; omega, by go_grown⟩

set_option maxHeartbeats 400000 in
theorem dhas_any (f t x : Int) (w : World) :
    Calls Try.prog 37 #[sp f t, .int .i64 x] w fun e w' => e = .returned (.bool (hasB f t x)) ∧ Below w.heap.size w w' := by
  by_cases h0 : f ≤ x
  case' neg =>
    go_enter Try.func37, Try.ntmps37
    go_wp2
    go_ret
    exact ⟨by simp [hasB]; omega, by go_grown⟩
  by_cases h1 : x < t
  case' neg =>
    go_enter Try.func37, Try.ntmps37
    go_wp2
    go_ret
    exact ⟨by simp [hasB]; omega, by go_grown⟩
  go_enter Try.func37, Try.ntmps37
  go_wp2
  go_ret
  exact ⟨by simp [hasB]; omega, by go_grown⟩

/-- How many times it has. -/
def longI (f t : Int) : Int := if rightB f t then t - f else 0
theorem ret_int {k : IntKind} {a b : Int} (h : a = b) : Ending.returned (.int k a) = .returned (.int k b) := by rw [h]

/-- Two cells of one block, stored one behind the other. -/
theorem two_set {w : World} {b : Nat} {u0 u1 : Value} (x y : Value) (h0 : w.cell? ⟨b, 0, none⟩ = some u0) (h1 : w.cell? ⟨b, 1, none⟩ = some u1) :
    (w.setCell ⟨b, 0, none⟩ x).cell? ⟨b, 0, none⟩ = some x ∧ ((w.setCell ⟨b, 0, none⟩ x).setCell ⟨b, 1, none⟩ y).cell? ⟨b, 1, none⟩ = some y :=
  ⟨World.cell?_setCell_same _ _ _ h0, World.cell?_setCell_same _ _ _ ((World.cell?_setCell_other _ _ _ _ (by simp)).trans h1)⟩

end Go.Proofs.Ytpeifijcpemjeaa.Co

/-
  Sorting a list of pairs of the call's own: spans by Compare, turns by their times.
-/
namespace Go.Proofs.Ytpeifijcpemjeaa.Co
open Go.RowKit Go.Sort Go.Shelf

/-- A pair's two cells. -/
def enc2 (x : Int × Int) : List Value := [.int .i64 x.1, .int .i64 x.2]
theorem getBang {l : List (Int × Int)} {i : Nat} {p : Int × Int} (h : l[i]? = some p) : l.toArray[i]! = p := by
  obtain ⟨hl, he⟩ := List.getElem?_eq_some_iff.1 h
  rw [getElem!_pos l.toArray i (by simpa using hl)]
  simpa using he
theorem holds_own {w : World} {g : Nat} {cur : Array Value} {ty : TypeId} {l : List (Int × Int)} (hb : w.heap[g]? = some (.cells cur ty (0, 0))) (ht : cur.toList.take (l.length * 2) = flat l) : HoldsK enc2 2 w g 0 l.toArray := by
  intro j hj
  rw [size_flatK] at hj
  have hj' : j < l.length * 2 := by simpa using hj
  have hc : cur[j]? = (flat l)[j]? := by
    rw [← ht, List.getElem?_take, if_pos hj']
    simp
  obtain ⟨p, hp⟩ : ∃ p, l[j / 2]? = some p := ⟨_, List.getElem?_eq_getElem (by omega)⟩
  obtain ⟨e0, e1⟩ := flat_get l (j / 2) p hp
  refine ⟨?_, by simp [World.frozen?, hb]⟩
  rw [get_flatK _ _ _ _ hj, getBang hp]
  rcases Nat.mod_two_eq_zero_or_one j with h | h
  · rw [show j / 2 * 2 = j from by omega] at e0
    rw [e0] at hc
    simp [World.cell?, hb, hc, h, enc2]
  · rw [show j / 2 * 2 + 1 = j from by omega] at e1
    rw [e1] at hc
    simp [World.cell?, hb, hc, h, enc2]
theorem below_sorted {w : World} {base g n : Nat} {d : Array (Int × Int)} {os : Array Obj} (hg : base ≤ g) (hs : base ≤ w.heap.size) : Below base w (sortWorldK enc2 2 w g 0 n d os) := by
  refine ⟨rfl, rfl, rfl, ?_, fun k hk => ?_⟩
  · simp [sortWorldK, putRowK, putRow, mapBlock, grow, Sort.ahead]
  · simp only [sortWorldK, putRowK, putRow, mapBlock, grow, Sort.ahead]
    rw [Array.getElem?_append_left (by simp; omega), Array.getElem?_modify, if_neg (by omega)]

/-- Whatever is no cells lies as it lay. -/
def NC (w w' : World) : Prop := ∀ (k : Nat) (o : Obj), w.heap[k]? = some o → o.isCells = false → w'.heap[k]? = some o
theorem NC.refl (w : World) : NC w w := fun _ _ h _ => h
theorem NC.trans {a b c : World} (h : NC a b) (k : NC b c) : NC a c := fun i o hi ho => k i o (h i o hi ho) ho
theorem nc_sorted {w : World} {g n : Nat} {d : Array (Int × Int)} {os : Array Obj} {cur : Array Value} {ty : TypeId} (hb : w.heap[g]? = some (.cells cur ty (0, 0))) : NC w (sortWorldK enc2 2 w g 0 n d os) := fun k o hk ho => by
  have hne : g ≠ k := by
    rintro rfl
    rw [hb] at hk
    injection hk with hk
    subst hk
    cases ho
  have hlt := (Array.getElem?_eq_some_iff.1 hk).1
  simp only [sortWorldK, putRowK, putRow, mapBlock, grow, Sort.ahead]
  rw [Array.getElem?_append_left (by simp; omega), Array.getElem?_modify, if_neg hne]
  exact hk

/-- What a sort leaves. -/
def Sorted2 (lt : Int × Int → Int × Int → Bool) (base : Nat) (v : Value) (l : List (Int × Int)) (w : World) (e : Ending) (w' : World) : Prop :=
  e = .returned (.tuple #[]) ∧ ∃ A c l', v = .slice A l.length c ∧ l'.Perm l ∧ (∀ (i j : Nat) p q, i < j → l'[i]? = some p → l'[j]? = some q → lt q p = false) ∧ Spans w' A l' ∧ Below base w w' ∧ NC w w'

theorem sorted_of {lt : Int × Int → Int × Int → Bool} {base g cap n : Nat} {l : List (Int × Int)} {w : World} {d' : Array (Int × Int)} {os : Array Obj} {cur : Array Value} {ty : TypeId} (hblk0 : w.heap[g]? = some (.cells cur ty (0, 0))) (hH : HoldsK enc2 2 w g 0 l.toArray) (hblk : g < w.heap.size) (hbase : base ≤ g)
    (hp : PermIn 0 l.toArray.size l.toArray d') (hs : SortedIn lt 0 l.toArray.size d') : Sorted2 lt base (.slice (some ⟨g, 0, none⟩) l.length cap) l w (.returned (.tuple #[])) (sortWorldK enc2 2 w g 0 n d' os) := by
  have hsz : d'.size = l.length := by simpa using hp.1
  refine ⟨rfl, _, _, d'.toList, rfl, ?_, ?_, ?_, below_sorted hbase (by omega), nc_sorted hblk0⟩
  · have := hp.2.2
    simp only [List.size_toArray] at this
    rw [← hsz] at this
    simp only [Array.extract_size] at this
    rw [hsz] at this
    rw [show l.length = l.toArray.size from by simp, Array.extract_size] at this
    simpa using this
  · intro i j p q hij hi hj
    have hi' : i < d'.size := by simpa using (List.getElem?_eq_some_iff.1 hi).1
    have hj' : j < d'.size := by simpa using (List.getElem?_eq_some_iff.1 hj).1
    have := hs i j (Nat.zero_le _) hij (by simp; omega)
    rw [getElem!_pos d' i hi', getElem!_pos d' j hj'] at this
    rw [Array.getElem?_toList, Array.getElem?_eq_getElem hi'] at hi
    rw [Array.getElem?_toList, Array.getElem?_eq_getElem hj'] at hj
    injection hi with hi
    injection hj with hj
    rw [← hi, ← hj]
    exact this
  · intro i p hi
    have hi' : i < d'.size := by simpa using (List.getElem?_eq_some_iff.1 hi).1
    have hK := holdsK_sortWorldK enc2 2 w g 0 n l.toArray d' os hblk hH (by simpa using hsz)
    have c0 := (hK.cell hi' (c := 0) (by omega)).1
    have c1 := (hK.cell hi' (c := 1) (by omega)).1
    have e : d'[i]! = p := by
      rw [getElem!_pos d' i hi']
      rw [Array.getElem?_toList, Array.getElem?_eq_getElem hi'] at hi
      injection hi
    rw [e] at c0 c1
    exact ⟨g, 0, rfl, by simpa [enc2] using c0, by simpa [enc2] using c1⟩
theorem sorted_none {lt : Int × Int → Int × Int → Bool} {base : Nat} {w : World} (_h : base ≤ w.heap.size) : Sorted2 lt base (.slice none 0 0) [] w (.returned (.tuple #[])) w :=
  ⟨rfl, none, 0, [], rfl, List.Perm.refl _, by simp, Spans.nil _ _, Below.refl _ _, NC.refl _⟩

/-- How span.Compare tells two spans apart. -/
def cfS (x y : Int × Int) : Int := if x = y then 0 else if x.1 ≠ y.1 then Lib.compareInt x.1 y.1 else Lib.compareInt x.2 y.2
theorem ltS (x y : Int × Int) : ltOf cfS x y = decide (x.1 < y.1 ∨ x.1 = y.1 ∧ x.2 < y.2) := by
  unfold ltOf cfS Lib.compareInt
  rw [Bool.eq_iff_iff]
  simp only [decide_eq_true_eq]
  rcases x with ⟨a, b⟩
  rcases y with ⟨c, d⟩
  simp only [Prod.mk.injEq]
  by_cases h1 : a = c
  · subst h1
    by_cases h2 : b = d
    · subst h2; simp
    · simp only [h2, and_false, if_false, ne_eq, not_true_eq_false]
      split
      · simp; omega
      · split <;> simp <;> omega
  · simp only [h1, false_and, if_false, ne_eq, not_false_eq_true, if_true]
    split
    · simp; omega
    · split <;> simp <;> omega
theorem swoS : SWO (ltOf cfS) where
  irrefl x := by rw [ltS]; simp
  trans x y z h1 h2 := by rw [ltS] at *; simp at *; omega
  ntrans x y z h1 h2 := by rw [ltS] at *; simp at *; omega
/-- How turns are told apart: by their times. -/
def cfT (x y : Int × Int) : Int := Lib.compareInt x.1 y.1
theorem ltT (x y : Int × Int) : ltOf cfT x y = decide (x.1 < y.1) := by
  unfold ltOf cfT Lib.compareInt
  by_cases h1 : x.1 < y.1
  · simp [h1]
  · by_cases h2 : y.1 < x.1 <;> simp [h1, h2]
theorem swoT : SWO (ltOf cfT) where
  irrefl x := by rw [ltT]; simp
  trans x y z h1 h2 := by rw [ltT] at *; simp at *; omega
  ntrans x y z h1 h2 := by rw [ltT] at *; simp at *; omega

set_option maxHeartbeats 1000000 in
theorem compare_any (x y : Int × Int) (W : World) : Calls Try.prog 51 #[.agg #[.int .i64 x.1, .int .i64 x.2], .agg #[.int .i64 y.1, .int .i64 y.2]] W fun e w' => e = .returned (.int .i64 (cfS x y)) ∧ ∃ q os', w' = grow (W.drewN q) os' := by
  rcases x with ⟨a, b⟩
  rcases y with ⟨c, d⟩
  simp only
  by_cases h1 : a = c
  · subst h1
    have e0 : (a == a) = true := by simp
    by_cases h2 : b = d
    · subst h2
      have e1 : (b == b) = true := by simp
      go_enter Try.func51, Try.ntmps51
      go_wp2_with fail
      go_ret
      exact ⟨ret_int (by simp [cfS]), 0, _, by rw [alloc_eq_grow, alloc_eq_grow, grow_grow]; rfl⟩
    · have e1 : (b == d) = false := by simpa using h2
      have hcon := fun W' => Try.cmp_Compare_int b d W'
      have EQ := Lib.hid (show Lib.compareInt b d = cfS (a, b) (a, d) by simp [cfS, h2])
      generalize Lib.compareInt b d = r at hcon EQ
      go_enter Try.func51, Try.ntmps51
      go_wp2_with (go_at_call 60; refine (hcon _).mono ?_; rintro e w' ⟨rfl, rfl⟩)
      go_ret
      exact ⟨ret_int EQ.out, 0, _, by rw [alloc_eq_grow, alloc_eq_grow, grow_grow]; rfl⟩
  · have e0 : (a == c) = false := by simpa using h1
    have hcon := fun W' => Try.cmp_Compare_int a c W'
    have EQ := Lib.hid (show Lib.compareInt a c = cfS (a, b) (c, d) by simp [cfS, h1])
    generalize Lib.compareInt a c = r at hcon EQ
    go_enter Try.func51, Try.ntmps51
    go_wp2_with (go_at_call 60; refine (hcon _).mono ?_; rintro e w' ⟨rfl, rfl⟩)
    go_ret
    exact ⟨ret_int EQ.out, 0, _, by rw [alloc_eq_grow, alloc_eq_grow, grow_grow]; rfl⟩
theorem enc_one (x : Int × Int) (v : Value) (hv : v ∈ enc2 x) : v.oneCell' = true := by
  simp [enc2] at hv
  rcases hv with rfl | rfl <;> rfl
theorem sort_spans {base : Nat} {v : Value} {l : List (Int × Int)} (w : World) (hown : w.ownsRow base 35 2 v l.length (flat l)) (hl : l.length < 4611686018427387904) (hb0 : base ≤ w.heap.size) :
    Calls Try.prog 50 #[v, .func (.func 51) #[] #[]] w (Sorted2 (ltOf cfS) base v l w) := by
  rcases hown.2 with ⟨rfl, h0⟩ | ⟨g, cap, cur, rfl, hbase, hb, hn, hcap, hcs, ht⟩
  · obtain rfl := List.eq_nil_of_length_eq_zero h0
    refine (AnyF.slices_SortFunc_none Try.sortSpan none 0 _ w).mono ?_
    rintro e w' ⟨rfl, rfl⟩
    exact sorted_none hb0
  · have hlt : g < w.heap.size := (Array.getElem?_eq_some_iff.1 hb).1
    have hH := holds_own hb ht
    have hcon := AnyQ.slices_SortFunc Try.sortSpan 2 Try.isAgg35 Try.sizeOf35 enc2 (fun _ => rfl) enc_one cfS swoS 51 #[] g 0 cap l.toArray w (enters_of Try.func51 (by kernel_rfl) rfl) (fun _ _ _ _ x y => compare_any x y _) hH hlt (by simpa using hl)
    change Calls Try.prog 50 _ _ _ at hcon
    simp only [List.size_toArray] at hcon
    refine hcon.mono ?_
    rintro e w' ⟨rfl, d', n, os, hp, hs, rfl⟩
    exact sorted_of hb hH hlt hbase (by simpa using hp) (by simpa using hs)
end Go.Proofs.Ytpeifijcpemjeaa.Co

/-
  rising: the right spans of a list in order, in a list of its own.
-/
namespace Go.Proofs.Ytpeifijcpemjeaa.Co
open Go.RowKit Go.Sort Go.Shelf

/-- What lies while spans are gathered. -/
def SpRel (W : World) (l : List (Int × Int)) (v : Value) (wr : World) : Prop := wr.ownsRow W.heap.size 35 2 v l.length (flat l) ∧ Below W.heap.size W wr
theorem SpRel.nil (W : World) : SpRel W [] (.slice none 0 0) W := ⟨World.ownsRow_nil _ _ _ _, bl _⟩
theorem SpRel.step {W wr w1 : World} {l : List (Int × Int)} {v : Value} (h : SpRel W l v wr) (hb : Below wr.heap.size wr w1) : SpRel W l v w1 := ⟨own_below h.1 hb, chain h.2 hb⟩
theorem SpRel.app {W wr w1 : World} {l : List (Int × Int)} {v v1 : Value} {o : Obj} {f t : Int} (h : SpRel W l v wr) (hg : (wr.alloc o).grownBy w1 v.ownBlock) (hown : w1.ownsRow W.heap.size 35 2 v1 (l.length + 1) (flat l ++ [.int .i64 f, .int .i64 t])) : SpRel W (l ++ [(f, t)]) v1 w1 :=
  ⟨by rw [flat_snoc, List.length_append]; exact hown, below_app h.2 hg h.2.size (fun k hk => (h.1.lt k hk).1)⟩

/-- Of the first k spans those that are right. -/
def rights (l : List Sp) (k : Nat) : List Sp := (l.take k).filter fun p => rightB p.1 p.2
theorem rights_yes {l : List Sp} {k : Nat} {f t : Int} (hp : l[k]? = some (f, t)) (h : rightB f t = true) : rights l (k + 1) = rights l k ++ [(f, t)] := by
  simp [rights, List.take_add_one, hp, List.filter_append, h]
theorem rights_no {l : List Sp} {k : Nat} {f t : Int} (hp : l[k]? = some (f, t)) (h : rightB f t = false) : rights l (k + 1) = rights l k := by
  simp [rights, List.take_add_one, hp, List.filter_append, h]
theorem rights_le (l : List Sp) (k : Nat) : (rights l k).length ≤ k := Nat.le_trans (List.length_filter_le _ _) (List.length_take_le _ _)
theorem rights_all {l : List Sp} {k : Nat} (h : l.length ≤ k) : rights l k = l.filter fun p => rightB p.1 p.2 := by rw [rights, List.take_of_length_le h]

/-- What rising leaves. -/
def RisePost (l : List Sp) (w : World) (e : Ending) (w' : World) : Prop :=
  ∃ A c s, e = .returned (.slice A s.length c) ∧ Spans w' A s ∧ s.Perm (l.filter fun p => rightB p.1 p.2) ∧ (∀ (i j : Nat) (p q : Sp), i < j → s[i]? = some p → s[j]? = some q → p.1 ≤ q.1) ∧ Below w.heap.size w w'

set_option maxHeartbeats 2000000 in
theorem rising_any (w : World) (A : Option Addr) (c : Nat) (l : List Sp) (hl : Spans w A l) (hn : l.length ≤ 1000000) :
    Calls Try.prog 42 #[.slice A l.length c] w (RisePost l w) := by
  obtain ⟨i0, hi, hz0, hz1, hz2⟩ := info_parts Try.infoSpan
  have HL := Lib.hid hl
  clear hl
  obtain ⟨n, hnm⟩ : ∃ n, n = l.length := ⟨_, rfl⟩
  rw [← hnm]
  have hn' : n ≤ 1000000 := by omega
  have HN := Lib.hid hnm
  clear hnm hn
  go_enter Try.func42, Try.ntmps42
  go_wp2_with fail
  go_loopw [3, 8] (fun v i wr => ∃ k : Nat, k ≤ n ∧ i = .int .i64 k ∧ SpRel w (rights l k) v wr) (fun _ i _ => n - (intOf i).toNat)
  case atStart => exact ⟨0, Nat.zero_le _, rfl, SpRel.nil w⟩
  case round =>
    obtain ⟨k, hk, rfl, hR⟩ := hrel
    have HR := Lib.hid hR
    have hsz := hR.2.size
    have hle := rights_le l k
    clear hR
    by_cases hlt : k < n
    · obtain ⟨⟨f, t⟩, hp⟩ : ∃ p, l[k]? = some p := ⟨_, List.getElem?_eq_getElem (by have := HN.out; omega)⟩
      obtain ⟨g, off, rfl, c0, c1⟩ := HL.out.at hp
      have d0 := keepc HR.out.2 c0
      have d1 := keepc HR.out.2 c1
      have HP := Lib.hid hp
      clear c0 c1 hp
      have HY := Lib.hid (show Below wr.heap.size wr (wr.alloc (.cells #[.int .i64 f, .int .i64 t] 35)) from (bl _).alloc (Nat.le_refl _) _)
      cases hr : rightB f t
      · go_wp2_with (go_at_call 34; refine (right_any _ _ _).mono ?_; rintro e w1 ⟨rfl, hb1⟩)
        go_roundw
        case rel => exact ⟨k + 1, by omega, by go_num, by rw [rights_no HP.out hr]; exact HR.out.step (chain HY.out hb1)⟩
        case measure => simp [intOf]; omega
      · go_wp2_with fail
        (go_at_call 34; refine (right_any _ _ _).mono ?_; rintro e w1 ⟨rfl, hb1⟩)
        have a0 : w1.cell? ⟨wr.heap.size, 0, none⟩ = some (.int .i64 f) := keepc hb1 (by simp [go_sem])
        have a1 : w1.cell? ⟨wr.heap.size, 1, none⟩ = some (.int .i64 t) := keepc hb1 (by simp [go_sem])
        have HS := Lib.hid (HR.out.step (chain HY.out hb1))
        have hown1 := HS.out.1
        have hsz1 := HS.out.2.size
        have HB1 := Lib.hid hb1
        clear hb1
        go_wp2_with (at_builtin; refine wpList_append_lies _ rfl (.tmp 14) (.tmp 16) 44 rfl w.heap.size 35 i0 (.agg #[.int .i64 0, .int .i64 0]) 2 16 Try.underlying44 hi hz0 hz1 hz2 rfl (by decide) _ (rights l k).length (flat (rights l k)) rfl (World.ownsRow.alloc hown1 _) ⟨w1.heap.size, 0, none⟩ 1 1 [.int .i64 f, .int .i64 t] rfl rfl (news_two w1 f t _) (by simp [Value.oneCell']) (by decide) (by unfold maxLen; omega) (by omega) (by simp; omega) _ rfl ?_; intro g3 cap3 w3 hown3 hg3 hat3 hlt3; have NX := Lib.hid (SpRel.app HS.out hg3 hown3))
        go_roundw
        case rel => exact ⟨k + 1, by omega, by go_num, by rw [rights_yes HP.out hr]; have h := NX.out; exact h⟩
        case measure => simp [intOf]; omega
    · have hown := HR.out.1
      have HB := Lib.hid HR.out.2
      have hall := rights_all (l := l) (k := k) (by have := HN.out; omega)
      have HA := Lib.hid hall
      clear hall HR
      go_wp2_with (go_at_call 50; refine (sort_spans _ hown (by omega) hsz).mono ?_; rintro e w2 ⟨rfl, A2, c2, s, hv, hpm, hs, hsp, hb2, _⟩)
      go_ret
      refine ⟨A2, c2, s, by rw [hpm.length_eq]; rfl, hsp, by rw [← HA.out]; exact hpm, fun i j p q hij hi hj => ?_, HB.out.trans hb2⟩
      have := hs i j p q hij hi hj
      rw [ltS] at this
      simp at this
      omega

end Go.Proofs.Ytpeifijcpemjeaa.Co

/-
  The chapter's example of chains; ChainChecks and ChainAts give back true.
-/
namespace Go.Proofs.Ytpeifijcpemjeaa
open Go.RowKit

def exV1 : Vr := ⟨1, 1, ⟨#[101]⟩, 0, 1, none, 0, [], false⟩
def exV2 : Vr := ⟨1, 4, ⟨#[101]⟩, 0, 0, none, 0, [], true⟩
theorem ex_chk : chkL [exV1, exV2] = 0 := by decide +kernel
theorem ex_rows : rowsL [exV1, exV2] = [⟨exV1, 4⟩, ⟨exV2, 4611686018427387904⟩] := by
  unfold rowsL
  rw [if_pos ex_chk]; rfl
theorem ex_vers (w : World) (T : TypeId) : VersL (w.alloc (.cells #[.int .i64 1, .int .i64 1, .string ⟨#[101]⟩, .int .i64 0, .int .i64 1, .slice none 0 0, .bool false, .int .i64 1, .int .i64 4, .string ⟨#[101]⟩, .int .i64 0, .int .i64 0, .slice none 0 0, .bool true] T)) (.slice (some ⟨w.heap.size, 0, none⟩) 2 2) [exV1, exV2] :=
  ⟨listE_new (E := EV) w [exV1, exV2] T, fun v hv => by
    rcases List.mem_cons.1 hv with rfl | hv
    · exact ⟨Fields.nil _ _, Nat.le_refl _, fun _ => rfl⟩
    · obtain rfl := List.mem_singleton.1 hv
      exact ⟨Fields.nil _ _, Nat.le_refl _, fun _ => rfl⟩⟩

set_option maxHeartbeats 4000000 in
set_option maxRecDepth 100000 in
theorem alive10_any (w : World) : Ret 9 #[] w (.bool true) := by
  have CR := Lib.hid (fun (w : World) T => prowsc_any _ _ _ (ex_vers w T) (fun v hv f hf => by
    rcases List.mem_cons.1 hv with rfl | hv
    · simp [exV1] at hf
    · obtain rfl := List.mem_singleton.1 hv
      simp [exV2] at hf) (by decide) (fun v hv => by
    rcases List.mem_cons.1 hv with rfl | hv
    · exact Nat.zero_le _
    · obtain rfl := List.mem_singleton.1 hv
      exact Nat.zero_le _) (fun v hv => by
    rcases List.mem_cons.1 hv with rfl | hv
    · show (1 : Nat) ≤ _; decide
    · obtain rfl := List.mem_singleton.1 hv
      show (1 : Nat) ≤ _; decide))
  have HE := Lib.hid ex_rows
  have HC := Lib.hid ex_chk
  go_enter Try.func9, Try.ntmps9
  go_wp2_with (go_at_call 10; (with_reducible refine (CR.out _ _).mono ?_); rintro e w2 ⟨x, R, rfl, hx, htw, hb2⟩; rw [HE.out] at htw; rw [HC.out]; obtain ⟨⟨A, c, rfl, hA, hc, hnc⟩, hVF⟩ := hx; have hlen : R.length = 2 := htw.length; rw [hlen] at hc ⊢; obtain ⟨A0, c0, hr0⟩ := htw.get 0 _ rfl; obtain ⟨A1, c1, hr1⟩ := htw.get 1 _ rfl; obtain ⟨g, off, rfl, hX⟩ := hA.cells8 (k := 0) hr0; obtain ⟨g', off', he, hY⟩ := hA.cells8 (k := 1) hr1; injection he with he; injection he with e1 e2 _; subst e1 e2; have x7 : w2.cell? ⟨g, off + 7, none⟩ = some (.int .i64 4) := hX.2.2.2.2.2.2.2; have y7 : w2.cell? ⟨g, off + 15, none⟩ = some (.int .i64 4611686018427387904) := hY.2.2.2.2.2.2.2; have HB := Lib.hid (show Below w.heap.size w w2 from chain ((bl w).alloc (Nat.le_refl _) _) hb2); clear hA hX hY hVF hb2 hc hnc htw hlen hr0 hr1)
  go_ret
  exact ⟨rfl, HB.out⟩

set_option maxHeartbeats 4000000 in
set_option maxRecDepth 10000 in
theorem checks_walk (u : Value) (l : List Vr) (w : World) (hl : VersL w u l) (hok : ∀ v ∈ l, okF v.fs) (hn : l.length ≤ 9223372036854775807) (hz : ∀ v ∈ l, v.ent.size ≤ 9223372036854775807) : Ret 3 #[u] w (.bool true) := by
  have CAL := Lib.hid alive10_any
  have CF := Lib.hid (fun w' (h : Below w.heap.size w w') => dfew_any w' u l 100 (hl.below h).1 hn)
  cases hf : fewB l 100 with
  | false =>
    rw [hf] at CF
    have CF0 := Lib.hid (CF.out w (bl w))
    clear CF hf hl hok hn
    go_enter Try.func3, Try.ntmps3
    go_wp2_with (first
      | (go_at_call 8; (with_reducible refine CF0.out.mono ?_); rintro e w1 ⟨rfl, rfl⟩)
      | (go_at_call 9; (with_reducible refine (CAL.out _).mono ?_); rintro e w2 ⟨rfl, hb⟩))
    go_ret
    exact ⟨rfl, hb⟩
  | true =>
    have hfew := few_of hf (by decide)
    rw [hf] at CF
    have CF0 := Lib.hid (CF.out w (bl w))
    have h1 : l.length ≤ 1000 := by have := hfew.1; omega
    have h2 : ∀ v ∈ l, v.fs.length ≤ 1000 := fun v hv => by have := hfew.2 v hv; omega
    have CR1 := Lib.hid (fun w' (h : Below w.heap.size w w') => prowsc_any w' u l (hl.below h) hok h1 h2 hz)
    have CR2 := Lib.hid (fun w' (h : Below w.heap.size w w') => drowsc_any w' u l (hl.below h) hok (by omega) (fun v hv => by have := h2 v hv; omega) hz)
    have CC1 := Lib.hid (fun w' (h : Below w.heap.size w w') => pchkc_any w' u l (hl.below h) hok h1 h2 hz)
    have CC2 := Lib.hid (fun w' (h : Below w.heap.size w w') => dchk_any w' u l (hl.below h) hok (by omega) (fun v hv => by have := h2 v hv; omega) hz)
    have hlr := rowsL_length l
    have hfr : ∀ r ∈ rowsL l, r.v.fs.length ≤ 100000 := fun r hr => by have := h2 _ (rowsL_mem hr); omega
    have CSR := Lib.hid (show ∀ w' u v Q, RowsR w' u Q → TwinR Q (rowsL l) → RowsR w' v (rowsL l) → Ret 14 #[u, v] w' (.bool true) from fun w' u v Q h ht k => by
      have := drowsame_any w' u v _ _ h k (by have := ht.length; omega) (by omega) (fun r hr => by
        obtain ⟨s, hs, A, c, rfl⟩ := ht.mem r hr
        exact hfr s hs) hfr
      rwa [ht.same] at this)
    generalize rowsL l = R at *
    generalize chkL l = z at *
    clear CF hf hl hok hn hfew h1 h2 hlr hfr hz
    go_enter Try.func3, Try.ntmps3
    go_wp2_with (first
      | (go_at_call 8; (with_reducible refine CF0.out.mono ?_); rintro e w1 ⟨rfl, rfl⟩)
      | (go_at_call 10; (with_reducible refine (CR1.out _ (bl _)).mono ?_); rintro e w2 ⟨u2, Q2, rfl, hl2, ht2, hb2⟩)
      | (go_at_call 11; (with_reducible refine (CR2.out _ hb2).mono ?_); rintro e w3 ⟨u3, rfl, hl3, hb3⟩; have hc3 := chain hb2 hb3)
      | (go_at_call 12; (with_reducible refine (CC1.out _ hc3).mono ?_); rintro e w4 ⟨rfl, hb4⟩; have hc4 := chain hc3 hb4)
      | (go_at_call 13; (with_reducible refine (CC2.out _ hc4).mono ?_); rintro e w5 ⟨rfl, hb5⟩; have hc5 := chain hc4 hb5)
      | (go_at_call 14; (with_reducible refine (CSR.out _ _ _ _ (((hl2.below hb3).below hb4).below hb5) ht2 ((hl3.below hb4).below hb5)).mono ?_); rintro e w6 ⟨rfl, hb6⟩; have hc6 := chain hc5 hb6)
      | (go_at_call 9; (with_reducible refine (CAL.out _).mono ?_); rintro e w8 ⟨rfl, hb8⟩; have hc8 := chain hc6 hb8))
    go_ret
    exact ⟨rfl, hc8⟩

end Go.Proofs.Ytpeifijcpemjeaa

/-
  An argument that is a list of fields, or a list of lists of fields.
-/
namespace Go.Proofs.Ytpeifijcpemjeaa
open Go.ChangeShapes Go.WideShapes Go.ChangeAt Go.RowKit Go.Joins Go.ChangeMaps Go.Deep

theorem Try.own : ownKnob Try.prog.godebug = none := by kernel_rfl
theorem Try.laidOut : laidOutB Try.prog = true := by kernel_rfl
theorem Try.cellsField : Try.prog.cellsOf 69 = 2 := by kernel_rfl
theorem Try.cells3i : Try.prog.cellsOf 3 = 1 := by kernel_rfl
theorem Try.cells3s : Try.prog.cellsOf 9 = 1 := by kernel_rfl
theorem Try.cells3l : Try.prog.cellsOf 36 = 1 := by kernel_rfl

instance : Inhabited Fd := ⟨⟨⟨#[]⟩, 0⟩⟩
theorem plain_of_cell {w : World} {a : Addr} {v : Value} (h : w.cell? (a.add 0) = some v) : a = ⟨a.block, a.off, none⟩ := by
  obtain ⟨b, off, spot⟩ := a
  have hs : spot = none := by simpa [Addr.add] using World.cell?_spot h
  subst hs
  rfl
/-- Fields that may be. -/
def wellF (l : List Fd) : Prop := ∀ f ∈ l, (-9223372036854775808 ≤ f.v ∧ f.v ≤ 9223372036854775807) ∧ f.n.size ≤ 9223372036854775807
theorem int_of_wf {n : Int} (h : (Lit.int .i64 n).wf = true) : -9223372036854775808 ≤ n ∧ n ≤ 9223372036854775807 := by
  have h1 : IntKind.i64.min = -9223372036854775808 := rfl
  have h2 : IntKind.i64.max = 9223372036854775807 := rfl
  simp only [Lit.wf, Bool.and_eq_true, decide_eq_true_eq] at h
  omega
section
variable {H : Type} {enc : TypeId × Value → H} {W : World} {r : Reach} {base : Nat}

set_option maxRecDepth 100000 in
theorem fields_of {fuel : Nat} {v : Value} {x : DataW H × List MemPlace} (hf : DataW.trod enc Try.prog W 0 (fun _ => true) true fuel 36 [v] = some x) :
    ∃ l, ListF W v l ∧ wellF l ∧ l.length ≤ 9223372036854775807 := by
  rcases open_slice Try.underlying36 hf with ⟨hcs, _⟩ | ⟨a, len', cap', m, n, D, Pl, hcs, _, hl, hmx, hm, _, hx⟩
  · obtain rfl : v = .slice none 0 0 := by simpa using hcs
    exact ⟨[], ⟨none, 0, rfl, Fields.nil _ _, Nat.le_refl _, fun _ => rfl⟩, fun f hf => by simp at hf, by simp⟩
  · obtain rfl : v = .slice (some a) len' cap' := by simpa using hcs
    simp only [if_true] at hm
    subst hm
    have each : ∀ i, i < len' → ∃ q : Fd, W.cell? (a.add (i * 2)) = some (.string q.n) ∧ W.cell? (a.add (i * 2 + 1)) = some (.int .i64 q.v) ∧ (-9223372036854775808 ≤ q.v ∧ q.v ≤ 9223372036854775807) ∧ q.n.size ≤ 9223372036854775807 := by
      intro i hi
      obtain ⟨cs', h1, h2⟩ := hx i (by omega)
      rw [Try.cellsField] at h1
      obtain ⟨_, hlen, hcell⟩ := World.cells?_some h1
      obtain ⟨xs, k, hk, hxy, _, hxl, hf⟩ := DataW.trod_struct Try.underlying69 h2
      match xs, hxl, cs', hlen with
      | [y0, y1], _, [v0, v1], _ =>
        have g0 := hf 0 _ rfl
        have g1 := hf 1 _ rfl
        simp [Try.cells3i, Try.cells3s] at g0 g1
        obtain ⟨s, e0, _, hz⟩ := DataW.trod_string Try.underlying9 g0
        obtain ⟨x, e1, _, hw⟩ := DataW.trod_int Try.underlying3 g1
        simp at e0 e1
        subst e0 e1
        have f0 := hcell 0 (by omega)
        have f1 := hcell 1 (by omega)
        rw [add_add] at f0 f1
        exact ⟨⟨s, x⟩, by simpa using f0, by simpa using f1, int_of_wf hw, by unfold maxLen at hz; omega⟩
    obtain ⟨q, hq⟩ := choose_lt each
    refine ⟨(List.range len').map q, ⟨some a, m, by simp, fun i x hxx => ?_, by simpa using hl, by simp⟩, fun x hxx => ?_, by simp; unfold maxLen at hmx; omega⟩
    · have hi : i < len' := by
        rcases Nat.lt_or_ge i len' with hlt | hge
        · exact hlt
        · rw [List.getElem?_eq_none (by simpa using hge)] at hxx
          cases hxx
      obtain rfl : q i = x := by
        rw [List.getElem?_map, List.getElem?_range hi] at hxx
        simpa using hxx
      obtain ⟨z0, _⟩ := hq 0 (by omega)
      have ha := plain_of_cell (by simpa using z0)
      obtain ⟨c0, c1, _⟩ := hq i hi
      rw [ha, Go.WideShapes.add_plain] at c0 c1
      exact ⟨a.block, a.off, by rw [← ha], c0, by rw [Nat.add_assoc]; exact c1⟩
    · obtain ⟨i, hi, rfl⟩ := List.mem_map.1 hxx
      exact (hq i (List.mem_range.1 hi)).2.2

set_option maxRecDepth 100000 in
theorem arg_fields {v : Value} {d : DataW H} {p : List MemPlace} (hv : Value.okWide Try.prog W r base 36 v) (h : DataW.Trod enc Try.prog W 0 (fun _ => true) true 36 v d p) :
    ∃ l, ListF W v l ∧ wellF l ∧ l.length ≤ 9223372036854775807 := by
  obtain ⟨A, len, cap, rfl⟩ := okWide_slice Try.underlying36 hv
  obtain ⟨fuel, hf⟩ := h
  exact fields_of (by simpa [Value.cells] using hf)

end

end Go.Proofs.Ytpeifijcpemjeaa

/-
  An argument that is a list of versions.
-/
namespace Go.Proofs.Ytpeifijcpemjeaa
open Go.ChangeShapes Go.WideShapes Go.ChangeAt Go.RowKit Go.Joins Go.ChangeMaps Go.Deep

theorem Try.cellsVersion : Try.prog.cellsOf 38 = 7 := by kernel_rfl
theorem Try.cellsSpan : Try.prog.cellsOf 35 = 2 := by kernel_rfl
theorem Try.cells3b : Try.prog.cellsOf 4 = 1 := by kernel_rfl
instance : Inhabited Vr := ⟨⟨0, 0, ⟨#[]⟩, 0, 0, none, 0, [], false⟩⟩

section
variable {H : Type} {enc : TypeId × Value → H} {W : World} {r : Reach} {base : Nat}

set_option maxRecDepth 100000 in
theorem arg_vers {v : Value} {d : DataW H} {p : List MemPlace} (hv : Value.okWide Try.prog W r base 22 v) (h : DataW.Trod enc Try.prog W 0 (fun _ => true) true 22 v d p) :
    ∃ l, VersL W v l ∧ (∀ x ∈ l, okF x.fs) ∧ l.length ≤ 9223372036854775807 := by
  obtain ⟨A, len, cap, rfl⟩ := okWide_slice Try.underlying22 hv
  obtain ⟨fuel, hf⟩ := h
  rcases open_slice Try.underlying22 hf with ⟨hcs, _⟩ | ⟨a, len', cap', m, n, D, Pl, hcs, _, hl, hmx, hm, _, hx⟩
  · simp [Value.cells] at hcs
    obtain ⟨rfl, rfl, rfl⟩ := hcs
    exact ⟨[], ⟨ListE.nil _, fun v hv => by simp at hv⟩, fun v hv => by simp at hv, by simp⟩
  · simp [Value.cells] at hcs
    obtain ⟨rfl, rfl, rfl⟩ := hcs
    simp only [if_true] at hm
    subst hm
    have each : ∀ i, i < len → ∃ q : Vr, (∀ j u, (cellsV q)[j]? = some u → W.cell? (a.add (i * 7 + j)) = some u) ∧ VF W q ∧ okF q.fs := by
      intro i hi
      obtain ⟨cs', h1, h2⟩ := hx i (by omega)
      rw [Try.cellsVersion] at h1
      obtain ⟨_, hlen, hcell⟩ := World.cells?_some h1
      obtain ⟨xs, k, hk, hxy, _, hxl, hf⟩ := DataW.trod_struct Try.underlying38 h2
      match xs, hxl, cs', hlen with
      | [y0, y1, y2, y3, y4, y5], _, [v0, v1, v2, v3, v4, v5, v6], _ =>
        have g0 := hf 0 _ rfl
        have g1 := hf 1 _ rfl
        have g2 := hf 2 _ rfl
        have g3 := hf 3 _ rfl
        have g4 := hf 4 _ rfl
        have g5 := hf 5 _ rfl
        simp [Try.cells3i, Try.cells3s, Try.cells3b, Try.cells3l, Try.cellsSpan] at g0 g1 g2 g3 g4 g5
        obtain ⟨x0, e0, _, _⟩ := DataW.trod_int Try.underlying3 g0
        obtain ⟨x1, e1, _, _⟩ := DataW.trod_int Try.underlying3 g1
        obtain ⟨x2, e2, _, _⟩ := DataW.trod_string Try.underlying9 g2
        obtain ⟨xs3, k3, hk3, hxy3, _, hxl3, hf3⟩ := DataW.trod_struct Try.underlying35 g3
        obtain ⟨l4, hl4, hw4, _⟩ := fields_of g4
        obtain ⟨x5, e5, _⟩ := DataW.trod_bool Try.underlying4 g5
        match xs3, hxl3 with
        | [z0, z1], _ =>
          have s0 := hf3 0 _ rfl
          have s1 := hf3 1 _ rfl
          simp [Try.cells3i] at s0 s1
          obtain ⟨x3, e3, _, _⟩ := DataW.trod_int Try.underlying3 s0
          obtain ⟨x4, e4, _, _⟩ := DataW.trod_int Try.underlying3 s1
          simp at e0 e1 e2 e3 e4 e5
          subst e0 e1 e2 e3 e4 e5
          obtain ⟨B, c, rfl, hB, hc, hnc⟩ := hl4
          refine ⟨⟨x0, x1, x2, x3, x4, B, c, l4, x5⟩, fun j u hu => ?_, ⟨hB, hc, hnc⟩, fun f hf => (hw4 f hf).2⟩
          have hj : j < 7 := by
            rcases Nat.lt_or_ge j 7 with h' | h'
            · exact h'
            · rw [List.getElem?_eq_none (by simpa using h')] at hu; cases hu
          have f0 := hcell j hj
          rw [add_add] at f0
          have hh : ([Value.int .i64 x0, .int .i64 x1, .string x2, .int .i64 x3, .int .i64 x4, .slice B l4.length c, .bool x5] : List Value)[j]? = some u := hu
          rw [hh] at f0
          exact f0
    obtain ⟨q, hq⟩ := choose_lt each
    refine ⟨(List.range len).map q, ⟨⟨some a, m, by simp, fun i x hxx => ?_, by simpa using hl, by simp⟩, fun x hxx => ?_⟩, fun x hxx => ?_, by simp; unfold maxLen at hmx; omega⟩
    · have hi : i < len := by
        rcases Nat.lt_or_ge i len with hlt | hge
        · exact hlt
        · rw [List.getElem?_eq_none (by simpa using hge)] at hxx
          cases hxx
      obtain rfl : q i = x := by
        rw [List.getElem?_map, List.getElem?_range hi] at hxx
        simpa using hxx
      have z0 := (hq 0 (by omega)).1 0 _ rfl
      have ha := plain_of_cell (by simpa using z0)
      refine ⟨a.block, a.off, by rw [← ha], fun j u hu => ?_⟩
      have c0 := (hq i hi).1 j u hu
      rw [ha, Go.WideShapes.add_plain] at c0
      have e7 : EV.sz = 7 := rfl
      rw [e7, Nat.add_assoc]
      exact c0
    · obtain ⟨i, hi, rfl⟩ := List.mem_map.1 hxx
      exact (hq i (List.mem_range.1 hi)).2.1
    · obtain ⟨i, hi, rfl⟩ := List.mem_map.1 hxx
      exact (hq i (List.mem_range.1 hi)).2.2
end

end Go.Proofs.Ytpeifijcpemjeaa

/-
  Arguments that are lists of versions, with the bounds of their entities, and pairs of numbers.
-/
namespace Go.Proofs.Ytpeifijcpemjeaa
open Go.ChangeShapes Go.WideShapes Go.ChangeAt Go.RowKit Go.Joins Go.ChangeMaps Go.Deep

section
variable {H : Type} {enc : TypeId × Value → H} {W : World} {r : Reach} {base : Nat}

set_option maxRecDepth 100000 in
theorem arg_versz {v : Value} {d : DataW H} {p : List MemPlace} (hv : Value.okWide Try.prog W r base 22 v) (h : DataW.Trod enc Try.prog W 0 (fun _ => true) true 22 v d p) :
    ∃ l, VersL W v l ∧ (∀ x ∈ l, okF x.fs) ∧ (∀ x ∈ l, x.ent.size ≤ 9223372036854775807) ∧ l.length ≤ 9223372036854775807 := by
  obtain ⟨A, len, cap, rfl⟩ := okWide_slice Try.underlying22 hv
  obtain ⟨fuel, hf⟩ := h
  rcases open_slice Try.underlying22 hf with ⟨hcs, _⟩ | ⟨a, len', cap', m, n, D, Pl, hcs, _, hl, hmx, hm, _, hx⟩
  · simp [Value.cells] at hcs
    obtain ⟨rfl, rfl, rfl⟩ := hcs
    exact ⟨[], ⟨ListE.nil _, fun v hv => by simp at hv⟩, fun v hv => by simp at hv, fun v hv => by simp at hv, by simp⟩
  · simp [Value.cells] at hcs
    obtain ⟨rfl, rfl, rfl⟩ := hcs
    simp only [if_true] at hm
    subst hm
    have each : ∀ i, i < len → ∃ q : Vr, (∀ j u, (cellsV q)[j]? = some u → W.cell? (a.add (i * 7 + j)) = some u) ∧ VF W q ∧ okF q.fs ∧ q.ent.size ≤ 9223372036854775807 := by
      intro i hi
      obtain ⟨cs', h1, h2⟩ := hx i (by omega)
      rw [Try.cellsVersion] at h1
      obtain ⟨_, hlen, hcell⟩ := World.cells?_some h1
      obtain ⟨xs, k, hk, hxy, _, hxl, hf⟩ := DataW.trod_struct Try.underlying38 h2
      match xs, hxl, cs', hlen with
      | [y0, y1, y2, y3, y4, y5], _, [v0, v1, v2, v3, v4, v5, v6], _ =>
        have g0 := hf 0 _ rfl
        have g1 := hf 1 _ rfl
        have g2 := hf 2 _ rfl
        have g3 := hf 3 _ rfl
        have g4 := hf 4 _ rfl
        have g5 := hf 5 _ rfl
        simp [Try.cells3i, Try.cells3s, Try.cells3b, Try.cells3l, Try.cellsSpan] at g0 g1 g2 g3 g4 g5
        obtain ⟨x0, e0, _, _⟩ := DataW.trod_int Try.underlying3 g0
        obtain ⟨x1, e1, _, _⟩ := DataW.trod_int Try.underlying3 g1
        obtain ⟨x2, e2, _, hz2⟩ := DataW.trod_string Try.underlying9 g2
        obtain ⟨xs3, k3, hk3, hxy3, _, hxl3, hf3⟩ := DataW.trod_struct Try.underlying35 g3
        obtain ⟨l4, hl4, hw4, _⟩ := fields_of g4
        obtain ⟨x5, e5, _⟩ := DataW.trod_bool Try.underlying4 g5
        match xs3, hxl3 with
        | [z0, z1], _ =>
          have s0 := hf3 0 _ rfl
          have s1 := hf3 1 _ rfl
          simp [Try.cells3i] at s0 s1
          obtain ⟨x3, e3, _, _⟩ := DataW.trod_int Try.underlying3 s0
          obtain ⟨x4, e4, _, _⟩ := DataW.trod_int Try.underlying3 s1
          simp at e0 e1 e2 e3 e4 e5
          subst e0 e1 e2 e3 e4 e5
          obtain ⟨B, c, rfl, hB, hc, hnc⟩ := hl4
          refine ⟨⟨x0, x1, x2, x3, x4, B, c, l4, x5⟩, fun j u hu => ?_, ⟨hB, hc, hnc⟩, fun f hf => (hw4 f hf).2, by unfold maxLen at hz2; show x2.size ≤ _; omega⟩
          have hj : j < 7 := by
            rcases Nat.lt_or_ge j 7 with h' | h'
            · exact h'
            · rw [List.getElem?_eq_none (by simpa using h')] at hu; cases hu
          have f0 := hcell j hj
          rw [add_add] at f0
          have hh : ([Value.int .i64 x0, .int .i64 x1, .string x2, .int .i64 x3, .int .i64 x4, .slice B l4.length c, .bool x5] : List Value)[j]? = some u := hu
          rw [hh] at f0
          exact f0
    obtain ⟨q, hq⟩ := choose_lt each
    refine ⟨(List.range len).map q, ⟨⟨some a, m, by simp, fun i x hxx => ?_, by simpa using hl, by simp⟩, fun x hxx => ?_⟩, fun x hxx => ?_, fun x hxx => ?_, by simp; unfold maxLen at hmx; omega⟩
    · have hi : i < len := by
        rcases Nat.lt_or_ge i len with hlt | hge
        · exact hlt
        · rw [List.getElem?_eq_none (by simpa using hge)] at hxx
          cases hxx
      obtain rfl : q i = x := by
        rw [List.getElem?_map, List.getElem?_range hi] at hxx
        simpa using hxx
      have z0 := (hq 0 (by omega)).1 0 _ rfl
      have ha := plain_of_cell (by simpa using z0)
      refine ⟨a.block, a.off, by rw [← ha], fun j u hu => ?_⟩
      have c0 := (hq i hi).1 j u hu
      rw [ha, Go.WideShapes.add_plain] at c0
      have e7 : EV.sz = 7 := rfl
      rw [e7, Nat.add_assoc]
      exact c0
    · obtain ⟨i, hi, rfl⟩ := List.mem_map.1 hxx
      exact (hq i (List.mem_range.1 hi)).2.1
    · obtain ⟨i, hi, rfl⟩ := List.mem_map.1 hxx
      exact (hq i (List.mem_range.1 hi)).2.2.1
    · obtain ⟨i, hi, rfl⟩ := List.mem_map.1 hxx
      exact (hq i (List.mem_range.1 hi)).2.2.2

set_option maxRecDepth 100000 in
theorem arg_twoi {v : Value} {d : DataW H} {p : List MemPlace} (hv : Value.okWide Try.prog W r base 49 v) (h : DataW.Trod enc Try.prog W 0 (fun _ => true) true 49 v d p) :
    ∃ x y : Int, v = .agg #[.int .i64 x, .int .i64 y] := by
  obtain ⟨fuel, hf⟩ := h
  obtain ⟨xs, m, _, _, hlen, hxl, hf⟩ := DataW.trod_array Try.underlying49 hf
  have hc2 : Try.prog.cellsOf 49 = 2 := by kernel_rfl
  rw [hc2] at hlen
  have g0 := hf 0 (by omega)
  have g1 := hf 1 (by omega)
  match xs, hxl with
  | [y0, y1], _ =>
    simp [Try.cells3i] at g0 g1
    obtain ⟨cs, rfl, hsz⟩ : ∃ cs, v = .agg cs ∧ cs.size = Try.prog.cellsOf 49 := by
      simp only [Value.okWide, Try.underlying49] at hv
      cases v <;> simp_all
    obtain ⟨x0, x1, rfl⟩ := array2 (hsz.trans hc2)
    obtain ⟨x, e0, _, _⟩ := DataW.trod_int Try.underlying3 g0
    obtain ⟨y, e1, _, _⟩ := DataW.trod_int Try.underlying3 g1
    simp [Value.cells] at e0 e1
    subst e0 e1
    exact ⟨x, y, rfl⟩

end

end Go.Proofs.Ytpeifijcpemjeaa
