/-
  turns: the ends of two lists' covers, each with its list's number, by their times.
-/
import Derived.Test.YtmfkcbanjlmmhaaCbord
import Derived.Maps.AppendAt
namespace Go.Proofs.Ytmfkcbanjlmmhaa
open Go.RowKit Go.Sort Go.Shelf

attribute [local go_sem] Oper.semAt_some

theorem Try.infoTurn : (Try.prog.info? 61).map (fun i => (i.zero, i.size, i.bytes)) = some (some (.agg #[.int .i64 0, .int .i64 0]), 2, 16) := by kernel_rfl

theorem KpS.appended {W w1 : World} {n₀ B : Nat} {t e : TypeId} {size k : Nat} {v v' : Value} {xs : List Value} {tmp : Obj} (ht1 : t ≠ 22) (ht2 : t ≠ 36) (he1 : e ≠ 22) (he2 : e ≠ 36)
    (hrow : W.ownsRow n₀ e size v k xs) (hgrow : (W.alloc tmp).grownBy w1 v.ownBlock) (hv1 : Boxed w1 B t v) : KpS W (w1.setCell ⟨B, 0, none⟩ v') := by
  refine ((KpS.alloc W tmp).trans (KpS.grown hgrow fun g hg => ?_)).trans (KpS.set hv1 ht1 ht2 v')
  rcases (hrow.alloc tmp).2 with ⟨rfl, _⟩ | ⟨g', cap, cur, rfl, _, hgb, _⟩
  · simp [Value.ownBlock] at hg
  · obtain rfl : g' = g := by simpa [Value.ownBlock] using hg
    exact ⟨cur, e, he1, he2, hgb⟩

/-- The turns that have come. -/
def tnL (L0 : List Sp) (i : Int) (pre : List Int) : List Sp := L0 ++ pre.map fun t => (t, i)
theorem tnL_snoc (L0 : List Sp) (i : Int) (pre : List Int) (x : Int) : tnL L0 i (pre ++ [x]) = tnL L0 i pre ++ [(x, i)] := by simp [tnL]
theorem tnL_length (L0 : List Sp) (i : Int) (pre : List Int) : (tnL L0 i pre).length = L0.length + pre.length := by simp [tnL]
/-- What holds between two rounds: the turns lie in the call's own list, and nothing that was there turned. -/
def TnRel (w : World) (L0 : List Sp) (i : Int) (pre : List Int) (W : World) : Prop :=
  (∃ v, Boxed W w.heap.size 58 v ∧ W.ownsRow w.heap.size 61 2 v (tnL L0 i pre).length (flat (tnL L0 i pre)) ∧ True) ∧ Below w.heap.size w W
theorem tnRel_own (w : World) (L0 : List Sp) (i : Int) {B : Nat} (hB : w.heap.size ≤ B) : OwnFrom B (TnRel w L0 i) :=
  OwnFrom.and (Own.from (holdsRow_own w.heap.size w.heap.size 58 61 2 (fun pre : List Int => (tnL L0 i pre).length) (fun pre => flat (tnL L0 i pre)) (fun _ _ => True)) _) (ownFrom_below (Nat.le_refl _) hB)
theorem heapD_own (D : Nat) (o : Obj) {B : Nat} (hD : D < B) : OwnFrom B (fun (_ : List Int) W => W.heap[D]? = some o) := fun s A C row hs hg hr =>
  (hg.block D (Array.getElem?_eq_some_iff.1 hs).1 (fun e => by have := (hr D e.symm).1; omega)).trans hs
theorem own_raise {w : World} {b e size n : Nat} {v : Value} {xs : List Value} (h : w.ownsRow b e size v n xs) (hb : some b ≠ v.ownBlock) : w.ownsRow (b + 1) e size v n xs := by
  refine ⟨h.1, ?_⟩
  rcases h.2 with h2 | ⟨g, cap, cur, rfl, hg, r⟩
  · exact .inl h2
  · refine .inr ⟨g, cap, cur, rfl, ?_, r⟩
    have : b ≠ g := fun e => hb (by simp [Value.ownBlock, e])
    omega

/-- What turns leaves. -/
def TurnsPost (a b : List Sp) (w : World) (e : Ending) (w' : World) : Prop :=
  ∃ A c s ma mb, e = .returned (.slice A s.length c) ∧ Spans w' A s ∧ s.Perm (tnOf ma mb) ∧ Sorted s ∧ CovOf ma (Mem a) ∧ CovOf mb (Mem b) ∧ s.length ≤ 2 * a.length + 2 * b.length ∧ (∀ g off, A = some ⟨g, off, none⟩ → w.heap.size ≤ g ∧ g < w'.heap.size) ∧ Below w.heap.size w w'

theorem Spans.putObj {W : World} {A : Option Addr} {l : List Sp} {D : Nat} {o : Obj} (h : Spans W A l) (hD : W.heap[D]? = some o) (ho : o.isCells = false) (o' : Obj) : Spans (W.putObj D o') A l := fun i p hp => by
  obtain ⟨g, off, rfl, c0, c1⟩ := h i p hp
  exact ⟨g, off, rfl, cell_kept c0 (grownBy_putObj' W D o') (fun r e => by cases e; exact ⟨_, hD, ho⟩), cell_kept c1 (grownBy_putObj' W D o') (fun r e => by cases e; exact ⟨_, hD, ho⟩)⟩

set_option maxRecDepth 100000 in
set_option maxHeartbeats 8000000 in
theorem turns_any (w : World) (A B : Option Addr) (c d : Nat) (a b : List Sp) (ha : Spans w A a) (hb : Spans w B b) (hn : a.length + b.length ≤ 100000) :
    Calls Try.prog 46 #[.slice A a.length c, .slice B b.length d] w (TurnsPost a b w) := by
  obtain ⟨i0, hi, hz0, hz1, hz2⟩ := info_parts Try.infoTurn
  have HA := Lib.hid ha
  have HB := Lib.hid hb
  clear ha hb
  refine (callsIn_wide (n := 4)).1 ?_
  refine callsIn_of_wp_marks Try.func46 rfl trivial ?_ rfl
  simp only [Try.ntmps46, List.size_toArray, List.length_cons, List.length_nil, Nat.reduceAdd, Nat.reduceSub, Array.replicate_succ, Array.replicate_zero, List.push_toArray, List.append_toArray, List.nil_append, List.cons_append]
  have hb0 : Below w.heap.size w (w.alloc (.cells #[.slice none 0 0] 58)) := (bl w).alloc (Nat.le_refl _) _
  gi_wp2_with (refine ⟨trivial, ?_⟩; gi_at_call 25; refine (callsIn_wide.2 (borders_any _ _ _ a (HA.out.below hb0) (by omega))).mono ?_; rintro e w1 ⟨B1, v1, ma, rfl, hI1, hc1, hl1, hb1⟩)
  have hbx : Boxed w1 w.heap.size 58 (.slice none 0 0) := (hb1.block _ (by simp)).trans (Boxed.new _ _ _)
  have h0 : TnRel w [] 0 [] w1 := ⟨⟨_, hbx, World.ownsRow_nil _ _ _ _, trivial⟩, hb0.trans (hb1.mono (by simp))⟩
  have hs1 := h0.2.size
  refine wpIn_rangeFunc_ownF rfl (by omega) (gf := 43) (lb := #[.pointer (some ⟨B1, 0, none⟩)]) rfl trivial (enters_of Try.func43 (by kernel_rfl) rfl)
    (borders_stops Fence.wide _ trivial rfl (by omega) B1 _ v1 ma (by omega) _ hI1) (fun h k => h.trans k) (fun W l o o' _ h hc _ => KpS.putObj h hc o') (Below.refl _ _) (fun _ => rfl)
    (TnRel w [] 0) (fun _ _ _ => False) (tnRel_own w [] 0 hs1) (fun _ _ _ _ _ hs _ _ => hs) h0
    (fun x => { tmps := #[.slice A a.length c, .slice B b.length d, undef, undef, .slice none 0 0, .pointer (some ⟨w.heap.size, 0, none⟩), .int .i64 x, undef, .slice A a.length c, .func (.func 43) #[] #[.pointer (some ⟨B1, 0, none⟩)], .int .i64 x, undef, undef, undef, undef, undef, undef, undef, undef, undef, undef, undef, undef, undef, undef, undef, undef], defers := [] }) ?assign ?body ?done ?stop
  case assign =>
    intro l x W K hK
    gi_wp2
    exact hK
  case body =>
    rintro l pre x W ⟨⟨v, hv, hrow, _⟩, hB⟩ hlen
    rw [bord_length] at hlen
    have hvc := hv.cell
    have hle : (tnL [] 0 pre).length + 1 ≤ 1000000 := by rw [tnL_length]; simp; omega
    obtain ⟨z, hz⟩ : ∃ z, (tnL [] 0 pre).length = z := ⟨_, rfl⟩
    rw [hz] at hrow hle
    have HZ := Lib.hid hz
    clear hz
    gi_wp2_with (gi_at_builtin; refine wpListIn_append_own _ rfl _ _ 58 rfl w.heap.size 61 i0 (.agg #[.int .i64 0, .int .i64 0]) 2 16 Try.underlying58 hi hz0 hz1 hz2 rfl (by decide) _ _ _ rfl (hrow.alloc _) ⟨W.heap.size, 0, none⟩ 1 1 [.int .i64 x, .int .i64 0] rfl rfl (news_two W x 0 _) (by simp [Value.oneCell']) (by unfold maxLen; omega) (by omega) (by have := hB.size; simp; omega) ?_; intro v' w9 hown' hgrow _; obtain ⟨g', cap', rfl⟩ := ownsRow_succ hown'; have hkp := KpS.appended (v' := .slice (some ⟨g', 0, none⟩) (z + 1) cap') (t := 58) (e := 61) (by decide) (by decide) (by decide) (by decide) hrow hgrow (hv.appended (by decide) hrow hB.size (Nat.le_refl _) hown' hgrow).1; obtain ⟨hv1, hv2, hr2, hk2, hb2⟩ := hv.appended (by decide) hrow hB.size (Nat.le_refl _) hown' hgrow; have hc1 := hv1.cell; have hf1 := hv1.frozen)
    exact ⟨hk2, hkp, ⟨_, hv2, by rw [tnL_snoc, flat_snoc, List.length_append, HZ.out]; exact hr2, trivial⟩, hB.trans hb2⟩
  case stop =>
    rintro D c pre W _ _ h _
    exact h.elim
  case done =>
    rintro D xs W hD rfl ⟨⟨v, hv, hrow, _⟩, hB⟩ hK
    have hDlt := (Array.getElem?_eq_some_iff.1 hK).1
    have hL1 : (tnL [] 0 (bord ma)).length ≤ 2 * a.length := by rw [tnL_length, bord_length]; simp; omega
    obtain ⟨L1, hL⟩ : ∃ L1, tnL [] 0 (bord ma) = L1 := ⟨_, rfl⟩
    rw [hL] at hrow hL1
    have HL := Lib.hid hL
    clear hL
    gi_wp2_with (refine ⟨trivial, ?_⟩; gi_at_call 25; refine (callsIn_wide.2 (borders_any _ _ _ b (HB.out.below hB) (by omega))).mono ?_; rintro e w2 ⟨B2, v2, mb, rfl, hI2, hc2, hl2, hb2⟩)
    have hv2 : Boxed w2 w.heap.size 58 v := (hb2.block _ hv.lt).trans hv
    have hK2 : w2.heap[D]? = some (.deferred (some [])) := (hb2.block _ hDlt).trans hK
    have h0' : TnRel w L1 1 [] w2 := ⟨⟨_, hv2, by simpa [tnL] using own_below hrow hb2, trivial⟩, hB.trans (hb2.mono hB.size)⟩
    have hs2 := h0'.2.size
    have hD2 := (Array.getElem?_eq_some_iff.1 hK2).1
    clear hv hrow hK hv2
    refine wpIn_rangeFunc_ownF rfl (by omega) (gf := 43) (lb := #[.pointer (some ⟨B2, 0, none⟩)]) rfl trivial (enters_of Try.func43 (by kernel_rfl) rfl)
      (borders_stops Fence.wide _ trivial rfl (by omega) B2 _ v2 mb (by omega) _ hI2) (fun h k => h.trans k) (fun W l o o' _ h hc _ => KpS.putObj h hc o') (Below.refl _ _) (fun _ => rfl)
      (fun pre W => TnRel w L1 1 pre W ∧ W.heap[D]? = some (.deferred (some []))) (fun _ _ _ => False) (OwnFrom.and (tnRel_own w L1 1 hs2) (heapD_own D _ hD2)) (fun _ _ _ _ _ hs _ _ => hs) ⟨h0', hK2⟩
      (fun x => { tmps := #[.slice A a.length c, .slice B b.length d, undef, undef, .slice none 0 0, .pointer (some ⟨w.heap.size, 0, none⟩), undef, .int .i64 x, .slice A a.length c, .func (.func 43) #[] #[.pointer (some ⟨B1, 0, none⟩)], undef, undef, undef, undef, undef, undef, .slice B b.length d, .func (.func 43) #[] #[.pointer (some ⟨B2, 0, none⟩)], .int .i64 x, undef, undef, undef, undef, undef, undef, undef, undef], defers := [] }) ?assign ?body ?done ?stop
    case assign =>
      intro l x W K hK
      gi_wp2
      exact hK
    case body =>
      rintro l pre x W ⟨⟨⟨v, hv, hrow, _⟩, hB⟩, hKD⟩ hlen
      rw [bord_length] at hlen
      have hvc := hv.cell
      have hle : (tnL L1 1 pre).length + 1 ≤ 1000000 := by rw [tnL_length]; omega
      obtain ⟨z, hz⟩ : ∃ z, (tnL L1 1 pre).length = z := ⟨_, rfl⟩
      rw [hz] at hrow hle
      have HZ := Lib.hid hz
      clear hz
      gi_wp2_with (gi_at_builtin; refine wpListIn_append_own _ rfl _ _ 58 rfl w.heap.size 61 i0 (.agg #[.int .i64 0, .int .i64 0]) 2 16 Try.underlying58 hi hz0 hz1 hz2 rfl (by decide) _ _ _ rfl (hrow.alloc _) ⟨W.heap.size, 0, none⟩ 1 1 [.int .i64 x, .int .i64 1] rfl rfl (news_two W x 1 _) (by simp [Value.oneCell']) (by unfold maxLen; omega) (by omega) (by have := hB.size; simp; omega) ?_; intro v' w9 hown' hgrow _; obtain ⟨g', cap', rfl⟩ := ownsRow_succ hown'; have hkp := KpS.appended (v' := .slice (some ⟨g', 0, none⟩) (z + 1) cap') (t := 58) (e := 61) (by decide) (by decide) (by decide) (by decide) hrow hgrow (hv.appended (by decide) hrow hB.size (Nat.le_refl _) hown' hgrow).1; obtain ⟨hv1, hv2, hr2, hk2, hb2⟩ := hv.appended (by decide) hrow hB.size (Nat.le_refl _) hown' hgrow; have hc1 := hv1.cell; have hf1 := hv1.frozen)
      exact ⟨hk2, hkp, ⟨⟨_, hv2, by rw [tnL_snoc, flat_snoc, List.length_append, HZ.out]; exact hr2, trivial⟩, hB.trans hb2⟩, hk2.same D _ hKD rfl⟩
    case stop =>
      rintro D2 c pre W _ _ h _
      exact h.elim
    case done =>
      rintro D2 xs W hDD rfl ⟨⟨⟨v, hv, hrow, _⟩, hB⟩, hKD⟩ hK2
      have hvc := hv.cell
      have hrow1 := own_raise hrow (hv.not_row (by decide) hrow)
      have hlt1 := hv.lt
      have hlen : (tnL L1 1 (bord mb)).length ≤ 2 * a.length + 2 * b.length := by rw [tnL_length, bord_length]; omega
      have hTN : tnL L1 1 (bord mb) = tnOf ma mb := by rw [← HL.out]; simp [tnL, tnOf]
      gi_wp2_with (refine ⟨trivial, ?_⟩; gi_at_call 52; refine (callsIn_wide.2 (sort_turns _ hrow1 (by omega) (by omega))).mono ?_; rintro e w4 ⟨rfl, A4, c4, s, hv4, hpm, hs, hsp, hb4, hnc⟩; subst hv4; have hvc4 := (hb4.cell (p := ⟨w.heap.size, 0, none⟩) (Nat.lt_succ_self _)).trans hvc)
      have k2 := hnc _ _ hK2 rfl
      have k1 := hnc _ _ hKD rfl
      have hne : D2 ≠ D := by omega
      have k1' : (w4.putObj D2 (.deferred none)).heap[D]? = some (.deferred (some [])) := (World.putObj_heap_other (Ne.symm hne)).trans k1
      refine ⟨by simp, .inl ⟨_, _, rfl, run_takeDeferred k2, ?_⟩⟩
      refine ⟨by simp, .inl ⟨_, _, rfl, run_takeDeferred k1', ?_⟩⟩
      refine ⟨_, results_tmp rfl _ _ _, A4, c4, s, ma, mb, by rw [hpm.length_eq, hTN]; rfl, (hsp.putObj k2 rfl _).putObj k1' rfl _, by rw [← hTN]; exact hpm, ?_, hc1, hc2, by rw [hpm.length_eq]; exact hlen, ?_, ?_⟩
      · intro i j p q hij hi' hj'
        rcases Nat.lt_or_ge i j with h | h
        · have := hs i j p q h hi' hj'
          rw [ltT] at this
          simp at this
          omega
        · obtain rfl : i = j := by omega
          rw [hi'] at hj'
          injection hj' with hj'
          subst hj'
          exact Int.le_refl _
      · intro g off hg
        have h1 := hrow.lt g (by rw [hg]; rfl)
        have h2 := hb4.size
        exact ⟨h1.1, by simp only [World.putObj_size]; omega⟩
      · refine (hB.trans (hb4.mono (by omega))).trans ((belowK_b (w := w2) (by omega) _ D2 _ _ hDD k2 rfl rfl).trans (belowK_b (w := w1) (by omega) _ D _ _ hD k1' rfl rfl))

end Go.Proofs.Ytmfkcbanjlmmhaa
