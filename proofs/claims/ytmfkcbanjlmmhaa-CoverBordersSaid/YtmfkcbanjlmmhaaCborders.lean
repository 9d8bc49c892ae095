/-
  CoverBorders gives back true for any spans and any number: the ends of a list's cover come one by one, rising, as many as are asked for.
-/
import Derived.Test.YtmfkcbanjlmmhaaCgaps
import Derived.Test.YtmfkcbanjlmmhaaCdbord
namespace Go.Proofs.Ytmfkcbanjlmmhaa
open Go.RowKit Go.Sort Go.Shelf

attribute [local go_sem] Oper.semAt_some

/-- As far as k both are one. -/
def SameI (l m : List Int) (k : Nat) : Prop := ∀ j, j < k → l[j]? = m[j]?
set_option maxHeartbeats 800000 in
theorem samei_any (w : World) (A B : Option Addr) (c d : Nat) (l : List Int) (hl : Ints w A l) (hm : Ints w B l) (hn : l.length ≤ 9223372036854775807) :
    Calls Try.prog 26 #[.slice A l.length c, .slice B l.length d] w fun e w' => e = .returned (.bool true) ∧ Below w.heap.size w w' := by
  have HL := Lib.hid hl
  have HM := Lib.hid hm
  clear hl hm
  obtain ⟨n, hnm⟩ : ∃ n, n = l.length := ⟨_, rfl⟩
  rw [← hnm]
  have HN := Lib.hid hnm
  have hn' : n ≤ 9223372036854775807 := by omega
  clear hnm hn
  go_enter Try.func26, Try.ntmps26
  go_wp2
  go_loopw [5] (fun i wr => ∃ k : Nat, k ≤ n ∧ i = .int .i64 k ∧ ∃ q, wr = w.drewN q) (fun i _ => n - (intOf i).toNat)
  case atStart => exact ⟨0, Nat.zero_le _, rfl, 0, rfl⟩
  case round =>
    obtain ⟨k, hk, rfl, q, rfl⟩ := hrel
    by_cases hlt : k < n
    · obtain ⟨x, hx⟩ : ∃ p, l[k]? = some p := ⟨_, List.getElem?_eq_getElem (by have := HN.out; omega)⟩
      obtain ⟨g, off, rfl, c0⟩ := HL.out k _ hx
      obtain ⟨g', off', rfl, d0⟩ := HM.out k _ hx
      clear hx
      have e0 : (x == x) = true := by simp
      go_wp2
      go_quiet (fail)
      go_wp2
      go_roundw
      case rel => exact ⟨k + 1, by omega, by go_num, _, rfl⟩
      case measure => simp [intOf]; omega
    · go_wp2
      go_ret
      exact ⟨rfl, ⟨rfl, rfl, rfl, Nat.le_refl _, fun _ _ => rfl⟩⟩

/-- A closure is not nil. -/
theorem func_not_nil (g : Nat) (cs : Array Value) (w : World) : (binOp BinOp.eql 41 (Value.func (Fn.func g) #[] cs) Value.nilFunc).run Try.prog w = .ok (.bool false) w := by
  rfl
/-- What has come lies in the call's own list, as long as it is not too long. -/
def BoRel (w1 : World) (q : Nat) (pre : List Int) (W : World) : Prop :=
  (∃ v, Boxed W w1.heap.size 43 v ∧ W.ownsRow w1.heap.size 3 1 v pre.length (pre.map (Value.int .i64)) ∧ pre.length ≤ q) ∧ Below w1.heap.size w1 W
theorem boRel_own (w1 : World) (q : Nat) {B : Nat} (hB : w1.heap.size ≤ B) : OwnFrom B (BoRel w1 q) :=
  OwnFrom.and (Own.from (holdsRow_own w1.heap.size w1.heap.size 43 3 1 (fun pre : List Int => pre.length) (fun pre => pre.map (Value.int .i64)) (fun pre _ => pre.length ≤ q)) _) (ownFrom_below (Nat.le_refl _) hB)
/-- As many have come as are asked for, and one more. -/
def BoStop (w1 : World) (q : Nat) (c : Code) (pre : List Int) (W : World) : Prop := c = .exit 0 ∧ pre ≠ [] ∧ pre.dropLast.length = q ∧ BoRel w1 q pre.dropLast W
theorem boStop_own (w1 : World) (q : Nat) {B : Nat} (hB : w1.heap.size ≤ B) (c : Code) : OwnFrom B (BoStop w1 q c) := fun s A C row hs hg hr =>
  ⟨hs.1, hs.2.1, hs.2.2.1, boRel_own w1 q hB _ A C row hs.2.2.2 hg hr⟩
theorem pre_take {l pre : List Int} (h : pre <+: l) (hne : pre ≠ []) {q : Nat} (hq : pre.dropLast.length = q) : l.take q = pre.dropLast := by
  obtain ⟨r, rfl⟩ := h
  have h1 : q ≤ pre.length := by rw [← hq, List.length_dropLast]; omega
  rw [List.take_append_of_le_length h1, ← hq, List.length_dropLast, List.dropLast_eq_take]

set_option maxRecDepth 100000 in
set_option maxHeartbeats 8000000 in
theorem borders_walk (A : Option Addr) (c : Nat) (l : List Sp) (most : Int) (w : World) (hl : Spans w A l) (hA : A = none → c = 0) :
    Calls Try.prog 8 #[.slice A l.length c, .int .i64 most] w (Yes w) := by
  obtain ⟨i0, hi, hz0, hz1, hz2⟩ := info_parts Try.infoInt
  have HB0 := Lib.hid (show Below w.heap.size w (w.alloc (.cells #[.int .i64 most] 3)) from (bl w).alloc (Nat.le_refl _) _)
  by_cases hn : 60 < l.length
  · go_enter Try.func8, Try.ntmps8
    go_wp2_with (go_at_call 9; refine (alive_any _).mono ?_; rintro e w1 ⟨rfl, hb1⟩)
    go_ret
    exact ⟨rfl, chain HB0.out hb1⟩
  have hn' : l.length ≤ 60 := by omega
  have hn6 : ¬ (60 : Int) < (l.length : Int) := by omega
  have HL := Lib.hid (hl.below HB0.out)
  clear hl
  refine (callsIn_wide (n := 4)).1 ?_
  refine callsIn_of_wp_marks Try.func8 rfl trivial ?_ rfl
  simp only [Try.ntmps8, List.size_toArray, List.length_cons, List.length_nil, Nat.reduceAdd, Nat.reduceSub, Array.replicate_succ, Array.replicate_zero, List.push_toArray, List.append_toArray, List.nil_append, List.cons_append]
  gi_wp2_with (refine ⟨trivial, ?_⟩; gi_at_call 25; refine (callsIn_wide.2 (borders_any _ _ _ l HL.out (by omega))).mono ?_; rintro e w1 ⟨B1, v1, m, rfl, hI1, hc1, hl1, hb1⟩)
  have FN := func_not_nil 43 #[.pointer (some ⟨B1, 0, none⟩)]
  rw [FN w1]
  gi_wp2
  have hI2 := hI1.alloc (.cells #[.slice none 0 0] 43)
  have h0 : BoRel w1 most.toNat [] (w1.alloc (.cells #[.slice none 0 0] 43)) := ⟨⟨_, Boxed.new _ _ _, World.ownsRow_nil _ _ _ _, by simp⟩, (bl w1).alloc (Nat.le_refl _) _⟩
  have hs1 := h0.2.size
  have hmo : w1.cell? ⟨w.heap.size, 0, none⟩ = some (.int .i64 most) := keepc hb1 (by simp [go_sem])
  have hwl : w.heap.size < w1.heap.size := by have := hb1.size; simp at this; omega
  have HB1 := Lib.hid (chain HB0.out hb1)
  have HC1 := Lib.hid hc1
  have HL1 := Lib.hid (HL.out.below hb1)
  clear hb1 hc1 hI1
  refine wpIn_rangeFunc_ownF rfl (by omega) (gf := 43) (lb := #[.pointer (some ⟨B1, 0, none⟩)]) rfl trivial (enters_of Try.func43 (by kernel_rfl) rfl)
    (borders_stops Fence.wide _ trivial rfl (by omega) B1 _ v1 m (by omega) _ hI2) (fun h k => h.trans k) (fun W l o o' _ h hc _ => KpS.putObj h hc o') (Below.refl _ _) (fun _ => rfl)
    (BoRel w1 most.toNat) (BoStop w1 most.toNat) (boRel_own w1 _ hs1) (boStop_own w1 _ hs1) h0
    (fun x => { tmps := #[.slice A l.length c, .int .i64 most, undef, .pointer (some ⟨w.heap.size, 0, none⟩), .bool false, .func (.func 43) #[] #[.pointer (some ⟨B1, 0, none⟩)], .pointer (some ⟨w1.heap.size, 0, none⟩), .int .i64 x, .slice A l.length c, .int .i64 l.length, .bool false, undef, .slice A l.length c, .func (.func 43) #[] #[.pointer (some ⟨B1, 0, none⟩)], .func (.func 43) #[] #[.pointer (some ⟨B1, 0, none⟩)], .bool false, .func (.func 43) #[] #[.pointer (some ⟨B1, 0, none⟩)], .int .i64 x, undef, undef, undef, undef, undef, undef, undef, undef, undef, undef, undef, undef, undef, undef, undef, undef], defers := [] }) ?assign ?body ?done ?stop
  case assign =>
    intro l x W K hK
    gi_wp2
    exact hK
  case body =>
    rintro l pre x W ⟨⟨v, hv, hrow, hq⟩, hB⟩ hlen
    rw [bord_length] at hlen
    have hvc := hv.cell
    have hmc : W.cell? ⟨w.heap.size, 0, none⟩ = some (.int .i64 most) := (hB.cell (p := ⟨w.heap.size, 0, none⟩) hwl).trans hmo
    obtain ⟨Av, cv, rfl, _⟩ := own_ints hrow
    have hle : pre.length + 1 ≤ 1000000 := by omega
    by_cases hge : most ≤ (pre.length : Int)
    · gi_wp2
      exact ⟨KeepsOthers.refl _, rfl, by simp, by rw [List.dropLast_concat]; omega, by rw [List.dropLast_concat]; exact ⟨⟨_, hv, hrow, hq⟩, hB⟩⟩
    · have HGE := Lib.hid hge
      obtain ⟨z, hz⟩ : ∃ z, pre.length = z := ⟨_, rfl⟩
      rw [hz] at hrow hle hq hv hvc hge
      have HZ := Lib.hid hz
      rw [hz] at HGE
      clear hz
      gi_wp2_with (gi_at_builtin; refine wpListIn_append_own _ rfl _ _ 43 rfl w1.heap.size 3 i0 (.int .i64 0) 1 8 Try.underlying43 hi hz0 hz1 hz2 rfl (by decide) _ _ _ rfl (hrow.alloc _) ⟨W.heap.size, 0, none⟩ 1 1 [.int .i64 x] rfl rfl (cell_one_new _ _ _) (by simp [Value.oneCell']) (by unfold maxLen; omega) (by omega) (by have := hB.size; simp; omega) ?_; intro v' w9 hown' hgrow _; obtain ⟨g', cap', rfl⟩ := ownsRow_succ hown'; have hkp := KpS.appended (v' := .slice (some ⟨g', 0, none⟩) (z + 1) cap') (t := 43) (e := 3) (by decide) (by decide) (by decide) (by decide) hrow hgrow (hv.appended (by decide) hrow hB.size (Nat.le_refl _) hown' hgrow).1; obtain ⟨hv1, hv2, hr2, hk2, hb2⟩ := hv.appended (by decide) hrow hB.size (Nat.le_refl _) hown' hgrow; have hc1 := hv1.cell; have hf1 := hv1.frozen)
      exact ⟨hk2, hkp, ⟨_, hv2, by rw [List.length_append, HZ.out, List.map_append]; exact hr2, by rw [List.length_append, HZ.out]; have := HGE.out; simp; omega⟩, hB.trans hb2⟩
  case stop =>
    rintro D cd pre W hD hpre ⟨rfl, hne, hq, ⟨⟨v, hv, hrow, _⟩, hB⟩⟩ hK
    have htk := pre_take hpre hne hq
    have hgl0 : pre.dropLast.length ≤ 1000000 := by
      have h1 := hpre.length_le
      rw [bord_length] at h1
      rw [List.length_dropLast]
      omega
    obtain ⟨GL, hGL⟩ : ∃ GL, pre.dropLast = GL := ⟨_, rfl⟩
    rw [hGL] at hrow htk hgl0
    clear hGL hpre hne hq
    obtain ⟨Av, cv, rfl, hin⟩ := own_ints hrow
    have hvc := hv.cell
    have hmc : W.cell? ⟨w.heap.size, 0, none⟩ = some (.int .i64 most) := (hB.cell (p := ⟨w.heap.size, 0, none⟩) hwl).trans hmo
    have HLW := Lib.hid (show Spans W.drew A l from (HL1.out.below hB).below (belowN (bl W) 1))
    have HIN := Lib.hid hin
    have HTK := Lib.hid htk
    have HK := Lib.hid hK
    have HBW := Lib.hid hB
    have hgl : GL.length ≤ 1000000 := hgl0
    clear hv hrow hin htk hK hB hgl0
    gi_wp2
    refine wpIn_wide.2 ?_
    have mk : ∀ w', Below W.heap.size W w' → (Below W.heap.size W w' ∧ w'.cell? ⟨w.heap.size, 0, none⟩ = some (.int .i64 most) ∧ w'.cell? ⟨w1.heap.size, 0, none⟩ = some (.slice Av GL.length cv)) := fun w' h => ⟨h, keepc h hmc, keepc h hvc⟩
    have MK := Lib.hid mk
    clear mk hmc hvc
    go_region_held3 (fun w' => Below W.heap.size W w' ∧ w'.cell? ⟨w.heap.size, 0, none⟩ = some (.int .i64 most) ∧ w'.cell? ⟨w1.heap.size, 0, none⟩ = some (.slice Av GL.length cv))
      (first | exact MK.out _ ((Below.refl _ _).drew) | exact MK.out _ BW5.out | exact MK.out _ BW4.out | exact MK.out _ BW3.out | fail)
      (first
        | (go_at_call 27; (with_reducible refine (dbord_any _ _ _ l most HLW.out hA (by omega)).mono ?_); rintro e w3 ⟨A3, c3, m3, hc3, rfl, hi3, hm3, hb3⟩; have BW3 := Lib.hid (chain (belowN (bl W) 1) hb3); have EQ := hc3.eq HC1.out (fun _ => Iff.rfl); subst EQ; rw [HTK.out] at hi3 ⊢; have I3 := Lib.hid hi3; clear hb3 hc3 hi3 hm3)
        | (go_at_call 26; (with_reducible refine (samei_any _ _ _ _ _ GL (HIN.out.below BW3.out) I3.out (by omega)).mono ?_); rintro e w4 ⟨rfl, hb4⟩; have BW4 := Lib.hid (chain BW3.out hb4); clear hb4)
        | (go_at_call 9; refine (alive_any _).mono ?_; rintro e w5 ⟨rfl, hb5⟩; have BW5 := Lib.hid (chain BW4.out hb5); clear hb5)
        | fail)
    go_wp2_with fail
    gi_wp2
    have k1 := (BW5.out.block _ (Array.getElem?_eq_some_iff.1 HK.out).1).trans HK.out
    refine ⟨by simp, .inl ⟨_, _, rfl, run_takeDeferred k1, ?_⟩⟩
    exact ⟨_, results_tmp rfl _ _ _, rfl, ((HB1.out.trans (HBW.out.mono (by omega))).trans (BW5.out.mono (by have := HBW.out.size; omega))).trans (belowK_b (w := w1) (by omega) _ D _ _ (by simp at hD; omega) k1 rfl rfl)⟩
  case done =>
    rintro D xs W hD rfl ⟨⟨v, hv, hrow, hq⟩, hB⟩ hK
    have htk : (bord m).take most.toNat = bord m := List.take_of_length_le hq
    have hgl0 : (bord m).length ≤ 1000000 := by rw [bord_length]; omega
    obtain ⟨GL, hGL⟩ : ∃ GL, bord m = GL := ⟨_, rfl⟩
    have htk : (bord m).take most.toNat = GL := by rw [htk, hGL]
    rw [hGL] at hrow hgl0
    clear hGL hq
    obtain ⟨Av, cv, rfl, hin⟩ := own_ints hrow
    have hvc := hv.cell
    have hmc : W.cell? ⟨w.heap.size, 0, none⟩ = some (.int .i64 most) := (hB.cell (p := ⟨w.heap.size, 0, none⟩) hwl).trans hmo
    have HLW := Lib.hid (show Spans W.drew A l from (HL1.out.below hB).below (belowN (bl W) 1))
    have HIN := Lib.hid hin
    have HTK := Lib.hid htk
    have HK := Lib.hid hK
    have HBW := Lib.hid hB
    have hgl : GL.length ≤ 1000000 := hgl0
    clear hv hrow hin htk hK hB hgl0
    gi_wp2
    refine wpIn_wide.2 ?_
    have mk : ∀ w', Below W.heap.size W w' → (Below W.heap.size W w' ∧ w'.cell? ⟨w.heap.size, 0, none⟩ = some (.int .i64 most) ∧ w'.cell? ⟨w1.heap.size, 0, none⟩ = some (.slice Av GL.length cv)) := fun w' h => ⟨h, keepc h hmc, keepc h hvc⟩
    have MK := Lib.hid mk
    clear mk hmc hvc
    go_region_held3 (fun w' => Below W.heap.size W w' ∧ w'.cell? ⟨w.heap.size, 0, none⟩ = some (.int .i64 most) ∧ w'.cell? ⟨w1.heap.size, 0, none⟩ = some (.slice Av GL.length cv))
      (first | exact MK.out _ ((Below.refl _ _).drew) | exact MK.out _ BW5.out | exact MK.out _ BW4.out | exact MK.out _ BW3.out | fail)
      (first
        | (go_at_call 27; (with_reducible refine (dbord_any _ _ _ l most HLW.out hA (by omega)).mono ?_); rintro e w3 ⟨A3, c3, m3, hc3, rfl, hi3, hm3, hb3⟩; have BW3 := Lib.hid (chain (belowN (bl W) 1) hb3); have EQ := hc3.eq HC1.out (fun _ => Iff.rfl); subst EQ; rw [HTK.out] at hi3 ⊢; have I3 := Lib.hid hi3; clear hb3 hc3 hi3 hm3)
        | (go_at_call 26; (with_reducible refine (samei_any _ _ _ _ _ GL (HIN.out.below BW3.out) I3.out (by omega)).mono ?_); rintro e w4 ⟨rfl, hb4⟩; have BW4 := Lib.hid (chain BW3.out hb4); clear hb4)
        | (go_at_call 9; refine (alive_any _).mono ?_; rintro e w5 ⟨rfl, hb5⟩; have BW5 := Lib.hid (chain BW4.out hb5); clear hb5)
        | fail)
    go_wp2_with fail
    gi_wp2
    have k1 := (BW5.out.block _ (Array.getElem?_eq_some_iff.1 HK.out).1).trans HK.out
    refine ⟨by simp, .inl ⟨_, _, rfl, run_takeDeferred k1, ?_⟩⟩
    exact ⟨_, results_tmp rfl _ _ _, rfl, ((HB1.out.trans (HBW.out.mono (by omega))).trans (BW5.out.mono (by have := HBW.out.size; omega))).trans (belowK_b (w := w1) (by omega) _ D _ _ (by simp at hD; omega) k1 rfl rfl)⟩

end Go.Proofs.Ytmfkcbanjlmmhaa
