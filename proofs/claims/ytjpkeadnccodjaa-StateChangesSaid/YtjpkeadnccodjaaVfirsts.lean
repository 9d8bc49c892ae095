/-
  The first value of each name in a map: the program goes over the list from behind (slices.Backward), and the later store stands.
-/
import Derived.Test.YtjpkeadnccodjaaGpmap
import Derived.RangeFuncNested
import Derived.RangeFuncBound
import Derived.RangeFuncCalls
import Derived.RangeFuncLeaves
import Derived.RangeFuncBox
import Derived.Shelf.Abstract
import Derived.Shelf.RegionOpen
import Derived.WalkKit
import Derived.OwnWalkIn
import Derived.TacticsInMore
import Derived.LoopNIn
import Derived.LoopIn
import Derived.Maps.OwnIn
namespace Go.Proofs.Ytjpkeadnccodjaa
open Go.RowKit Go.Shelf
open Go.Maps (Keyed)
attribute [local go_sem] Oper.semAt_some

/-- A field with its place. -/
abbrev Pf := { x : Int × Fd // x.2.n.size ≤ 9223372036854775807 }
/-- What a round keeps: what lay ahead of the call, and the box of the list that is gone over. -/
def KpB (n₀ Bs : Nat) (W W' : World) : Prop := Below n₀ W W' ∧ ∀ v, W.cell? ⟨Bs, 0, none⟩ = some v → W'.cell? ⟨Bs, 0, none⟩ = some v
theorem KpB.t {n₀ Bs : Nat} {A B C : World} (h : KpB n₀ Bs A B) (k : KpB n₀ Bs B C) : KpB n₀ Bs A C := ⟨h.1.trans k.1, fun v hv => k.2 v (h.2 v hv)⟩
theorem KpB.b {n₀ Bs : Nat} {w : World} (hn : n₀ ≤ w.heap.size) (hb : Bs < w.heap.size) (W : World) (l : Nat) (o o' : Obj) (hl : w.heap.size ≤ l) (h : W.heap[l]? = some o) (hc : o.isCells = false) (hw : o.isWalk = false) : KpB n₀ Bs W (W.putObj l o') :=
  ⟨belowK_b hn W l o o' hl h hc hw, fun v hv => (Below.cell (p := ⟨Bs, 0, none⟩) (belowK_b (n₀ := w.heap.size) (Nat.le_refl _) W l o o' hl h hc hw) hb).trans hv⟩
theorem drop_rev {l : List Fd} {m : Nat} {f : Fd} (hf : l[m]? = some f) : (l.drop (m + 1)).reverse ++ [f] = (l.drop m).reverse := by
  obtain ⟨h1, h2⟩ := List.getElem?_eq_some_iff.1 hf
  rw [List.drop_eq_getElem_cons h1, List.reverse_cons, h2]

set_option maxRecDepth 100000 in
set_option maxHeartbeats 2000000 in
/-- slices.Backward's closure, for every body that keeps what lay ahead and the box. -/
theorem back_stops (F : Fence) (q : Nat) (h50 : F.fn 50) (hro : F.round = none) (hn : 1 ≤ q) (w0 w : World) (Bs : Nat) (A : Option Addr) (c : Nat) (l : List Fd) (hB : Below w0.heap.size w0 w) (hBs : Bs < w.heap.size)
    (hc : w.cell? ⟨Bs, 0, none⟩ = some (.slice A l.length c)) (hF : Fields w0 A l) (hok : okF l) (hl : l.length ≤ 1000) :
    SeqStopsK F q Try.prog 50 #[.pointer (some ⟨Bs, 0, none⟩)] (fun x : Pf => #[.int .i64 x.1.1, fv x.1.2]) (KpB w0.heap.size Bs) (fun ys => ys.map (fun x => x.1.2) = l.reverse) (fun _ => True) l.length w := fun L J Jx W hW _ _ hY h0 => by
  have HF := Lib.hid hF
  have HOK := Lib.hid hok
  have hc0 := (hW.cell (p := ⟨Bs, 0, none⟩) hBs).trans hc
  have HB0 := Lib.hid (hB.trans (hW.mono hB.size))
  obtain ⟨n, hnm⟩ : ∃ n, l.length = n := ⟨_, rfl⟩
  rw [hnm] at hc0 hl hY
  have HN := Lib.hid hnm
  clear hF hok hB hW hc hnm
  have HY := Lib.hid hY
  clear hY
  refine callsIn_of_wp Try.func50 rfl h50 ?_ hro
  simp only [Try.ntmps50, List.size_toArray, List.length_cons, List.length_nil, Nat.reduceAdd, Nat.reduceSub, Array.replicate_succ, Array.replicate_zero, List.push_toArray, List.append_toArray, List.nil_append, List.cons_append]
  gi_wp2
  gi_loopw [3] (fun i wr => ∃ (m : Nat) (pre : List Pf), m ≤ n ∧ pre.length + m = n ∧ i = .int .i64 ((m : Int) - 1) ∧ pre.map (fun x => x.1.2) = (l.drop m).reverse ∧ J pre wr ∧ Below w0.heap.size w0 wr ∧ wr.cell? ⟨Bs, 0, none⟩ = some (.slice A n c)) (fun i _ => (intOf i + 1).toNat)
  case atStart => exact ⟨n, [], Nat.le_refl _, by simp, by go_num, by rw [← HN.out]; simp, h0, HB0.out, hc0⟩
  case round =>
    obtain ⟨m, pre, hm, hpl, rfl, hpm, hJ, hB, hcs⟩ := hrel
    rcases m with _ | m
    · have hno : ¬ (0 : Int) ≤ ((0 : Nat) : Int) - 1 := by omega
      gi_wp2
      go_end0
      exact ⟨⟨_, rfl⟩, .inl ⟨pre, by simpa using hpm, hJ⟩⟩
    · rw [show ((m + 1 : Nat) : Int) - 1 = (m : Int) by omega]
      obtain ⟨f, hf⟩ : ∃ f, l[m]? = some f := ⟨_, List.getElem?_eq_getElem (by have := HN.out; omega)⟩
      obtain ⟨g, off, rfl, c0, c1⟩ := (HF.out.below HB0.out) m f hf
      obtain ⟨g', off', e', d0, d1⟩ := (HF.out.below hB) m f hf
      injection e' with e'
      injection e' with e1 e2
      subst e1 e2
      have hkf := HOK.out f (List.mem_of_getElem? hf)
      have HPM := Lib.hid (show (pre ++ [(⟨((m : Int), f), hkf⟩ : Pf)]).map (fun x => x.1.2) = (l.drop m).reverse by rw [List.map_append, hpm]; exact drop_rev hf)
      obtain ⟨fn, tmps, assign, body, hy, hR⟩ := HY.out pre ⟨((m : Int), f), hkf⟩ wr hJ (by omega)
      dsimp only at hy
      clear hf c0 c1 hpm
      gi_wp2
      refine hR.mono ?_
      rintro e W3 (⟨rfl, hJ3, hk3⟩ | ⟨rfl, hJx3⟩)
      · gi_wp2
        go_roundw
        case rel => exact ⟨m, _, by omega, by simp; omega, by go_num, HPM.out, hJ3, hB.trans hk3.1, hk3.2 _ hcs⟩
        case measure => simp [intOf]
      · gi_wp2
        refine bodyPost_ret (results_none rfl _ _ _) rfl ?_
        exact ⟨⟨_, rfl⟩, .inr ⟨_, trivial, hJx3⟩⟩

set_option maxHeartbeats 1000000 in
/-- slices.Backward(s): the list is boxed; the function value captures the box. -/
theorem back_in (F : Fence) (q : Nat) (h : F.fn 45) (hro : F.round = none) (A : Option Addr) (n c : Nat) (w : World) :
    CallsIn F q Try.prog 45 #[.slice A n c] w fun e w' => e = .returned (.func (.func 50) #[] #[.pointer (some ⟨w.heap.size, 0, none⟩)]) ∧ w' = w.alloc (.cells #[.slice A n c] 29) := by
  refine callsIn_of_wp Try.func45 rfl h ?_ hro
  simp only [Try.ntmps45, List.size_toArray, List.length_cons, List.length_nil, Nat.reduceAdd, Nat.reduceSub, Array.replicate_succ, Array.replicate_zero, List.push_toArray, List.append_toArray, List.nil_append, List.cons_append]
  gi_wp2
  go_ret
  exact ⟨rfl, rfl⟩

/-- A block of cells abides the turns of blocks that hold none. -/
theorem cells_own {β : Type} (b : Nat) (o : Obj) (hc : o.isCells = true) : Own (fun (_ : β) W => W.heap[b]? = some o) := fun s X Y row hs hg hr => (hg.block b (Array.getElem?_eq_some_iff.1 hs).1 (fun e => by
  obtain ⟨o', h1, h2⟩ := hr b e.symm
  rw [hs] at h1
  obtain rfl := Option.some.inj h1
  rw [hc] at h2; cases h2)).trans hs
theorem last_rev : ∀ (l : List Fd) (s : ByteArray), lastL l.reverse s = getL l s
  | [], _ => rfl
  | f :: l, s => by
    rw [List.reverse_cons, lastL_append, lastL, lastL, getL, last_rev l s]
    by_cases h : nats f.n = nats s
    · rw [if_pos h, if_pos h]
    · rw [if_neg h, if_neg h]

set_option maxRecDepth 100000 in
set_option maxHeartbeats 4000000 in
/-- The map of the first values. -/
theorem firsts_any (w : World) (A : Option Addr) (c : Nat) (l : List Fd) (hF : Fields w A l) (hok : okF l) (hl : l.length ≤ 1000) :
    Calls Try.prog 36 #[.slice A l.length c] w fun e w' => ∃ D, e = .returned (.map (some w.heap.size)) ∧ MapF w' w.heap.size l.length D ∧ Says D l.reverse ∧ Below w.heap.size w w' := by
  have hmm := @run_makeMap Try.prog
  refine (callsIn_wide (n := 8)).1 ?_
  refine callsIn_of_wp_marks Try.func36 rfl trivial ?_ rfl
  simp only [Try.ntmps36, List.size_toArray, List.length_cons, List.length_nil, Nat.reduceAdd, Nat.reduceSub, Array.replicate_succ, Array.replicate_zero, List.push_toArray, List.append_toArray, List.nil_append, List.cons_append]
  gi_wp2_with (refine ⟨trivial, ?_⟩; gi_at_call 45; refine (back_in Fence.wide _ trivial rfl _ _ _ _).mono ?_; rintro e w' ⟨rfl, rfl⟩)
  have hm0 := ((World.ownsMap_made w Try.prog KT anyI).alloc (.cells #[.map (some w.heap.size)] MT)).alloc (.cells #[.slice A l.length c] 29)
  have bS := (Boxed.new (w.alloc (.map #[] 0)) MT (.map (some w.heap.size))).alloc (.cells #[.slice A l.length c] 29)
  have bN := Boxed.new ((w.alloc (.map #[] 0)).alloc (.cells #[.map (some w.heap.size)] MT)) 29 (.slice A l.length c)
  simp only [World.size_alloc] at bS bN
  have hB0 : Below w.heap.size w (((w.alloc (.map #[] 0)).alloc (.cells #[.map (some w.heap.size)] MT)).alloc (.cells #[.slice A l.length c] 29)) := (((Below.refl _ w).alloc (Nat.le_refl _) _).alloc (by simp) _).alloc (by simp; omega) _
  have hsz : (((w.alloc (.map #[] 0)).alloc (.cells #[.map (some w.heap.size)] MT)).alloc (.cells #[.slice A l.length c] 29)).heap.size = w.heap.size + 3 := by simp
  obtain ⟨W0, hW0⟩ : ∃ W0, ((w.alloc (.map #[] 0)).alloc (.cells #[.map (some w.heap.size)] MT)).alloc (.cells #[.slice A l.length c] 29) = W0 := ⟨_, rfl⟩
  rw [hW0] at hm0 bS bN hB0 hsz ⊢
  clear hW0
  obtain ⟨n, hnm⟩ : ∃ n, l.length = n := ⟨_, rfl⟩
  rw [hnm] at hl bN ⊢
  have HSEQ := back_stops Fence.wide (8 - 1) trivial rfl (by omega) w W0 (w.heap.size + 1 + 1) A c l hB0 (by omega) (by rw [hnm]; exact bN.cell) hF hok (by omega)
  rw [hnm] at HSEQ
  refine wpIn_rangeFunc_ownH rfl (by omega) (gf := 50) (lb := #[.pointer (some ⟨w.heap.size + 1 + 1, 0, none⟩)]) rfl trivial (enters_of Try.func50 (by kernel_rfl) rfl)
    HSEQ KpB.t (KpB.b (by omega) (by omega)) (Below.refl _ _) (fun _ => rfl)
    (fun pre W => (∃ D, MapF W w.heap.size pre.length D ∧ Says D (pre.map (fun x => x.1.2))) ∧ (Boxed W (w.heap.size + 1) MT (.map (some w.heap.size)) ∧ Boxed W (w.heap.size + 1 + 1) 29 (.slice A n c)) ∧ Below w.heap.size w W)
    (fun _ _ _ => False)
    (OwnFrom.and (fun s X Y row hs hg hr => by obtain ⟨D, h1, h2⟩ := hs; exact ⟨D, h1.kept hg (fun e => by have := (hr _ e.symm).1; omega), h2⟩) (OwnFrom.and (OwnFrom.and (Own.from (boxed_own _ _ _) _) (Own.from (boxed_own _ _ _) _)) (ownFrom_below (Nat.le_refl _) (by omega))))
    (fun _ _ _ _ _ hs _ _ => hs)
    ⟨⟨_, hm0, Says.nil⟩, ⟨bS, bN⟩, hB0⟩
    (fun x a' W => ∃ Bx, w.heap.size + 3 ≤ Bx ∧ W.heap[Bx]? = some (oc x.1.2) ∧ a' = { tmps := #[.slice A n c, undef, .map none, .pointer (some ⟨w.heap.size + 1, 0, none⟩), undef, .pointer (some ⟨Bx, 0, none⟩), .map (some w.heap.size), .slice A n c, .func (.func 50) #[] #[.pointer (some ⟨w.heap.size + 1 + 1, 0, none⟩)], .int .i64 x.1.1, fv x.1.2, undef, undef, undef, undef, undef, undef], defers := [] })
    (fun x a' _ X Y row hs hg hr => by obtain ⟨Bx, h1, h2, h3⟩ := hs; exact ⟨Bx, h1, cells_own Bx (oc x.1.2) rfl () X Y row h2 hg (fun r e => (hr r e).2), h3⟩)
    ?assign ?body ?done ?stop
  case assign =>
    rintro L pre x W K ⟨⟨D1, hm1, hs1⟩, ⟨bS1, bN1⟩, hB1⟩ hK
    gi_wp2
    exact hK _ _ ((KeepsOthers.alloc _ _).from _) ⟨(Below.refl _ W).alloc hB1.size _, fun v hv => (bN1.alloc _).cell.trans (bN1.cell.symm.trans hv)⟩ ⟨⟨D1, hm1.alloc _, hs1⟩, ⟨bS1.alloc _, bN1.alloc _⟩, hB1.alloc hB1.size _⟩ ⟨W.heap.size, by have := bN1.lt; omega, heap_alloc_new W _, rfl⟩
  case body =>
    rintro L pre x a' W hL ⟨r, hr⟩ ⟨⟨D1, hm1, hs1⟩, ⟨bS1, bN1⟩, hB1⟩ ⟨Bx, hBx, bX, rfl⟩ hlt
    have cS := bS1.cell
    have c0 : W.cell? ⟨Bx, 0, none⟩ = some (.string x.1.2.n) := by simp [World.cell?, bX]
    have c1 : W.cell? ⟨Bx, 1, none⟩ = some (.int .i64 x.1.2.v) := by simp [World.cell?, bX]
    have hkey := WideMaps.keyOf_string_mk Try.underlying9 (s := x.1.2.n) (by have := x.2; unfold maxLen; omega)
    have hlen : pre.length < maxLen := by unfold maxLen; omega
    gi_wp2_with (first
      | (gi_at_mapUpdate; refine wpListIn_mapUpdate_own _ rfl _ _ _ MT rfl KT VT keyS Try.underlying58 anyI w.heap.size pre.length D1 rfl hm1 hlen _ _ _ rfl rfl hkey (.lit (.int .i64 x.1.2.v)) [] rfl ?_; intro w1 hown1 hgrow1))
    exact ⟨KeepsFrom.of_grownBy hgrow1 (fun j e => by cases e; omega), ⟨(Below.refl _ W).grown hgrow1 hB1.size (fun k e => by cases e; exact Nat.le_refl _), fun v hv => (bN1.kept hgrow1 (fun e => by have := Option.some.inj e; omega)).cell.trans (bN1.cell.symm.trans hv)⟩,
      ⟨⟨_, by rw [List.length_append, List.length_singleton]; exact hown1, by rw [List.map_append]; exact hs1.put⟩, ⟨bS1.kept hgrow1 (fun e => by have := Option.some.inj e; omega), bN1.kept hgrow1 (fun e => by have := Option.some.inj e; omega)⟩, hB1.grown hgrow1 hB1.size (fun k e => by cases e; exact Nat.le_refl _)⟩⟩
  case done =>
    rintro D ys W hD hys ⟨⟨D1, hm1, hs1⟩, ⟨bS1, bN1⟩, hB1⟩ hK
    have cS := bS1.cell
    gi_wp2
    refine ⟨by simp, .inl ⟨_, _, rfl, run_takeDeferred hK, ?_⟩⟩
    have hyl : ys.length = n := by have := congrArg List.length hys; simpa [hnm] using this
    exact ⟨_, results_tmp rfl _ _ _, D1, rfl, by rw [hnm, ← hyl]; exact hm1.kept (grownBy_putObj' _ D _) (fun e => by cases e; omega), by rw [← hys]; exact hs1, hB1.trans (belowK_b (w := w) (Nat.le_refl _) W D _ _ (by omega) hK rfl rfl)⟩
  case stop =>
    rintro D c pre W _ _ h _
    exact h.elim

end Go.Proofs.Ytjpkeadnccodjaa
