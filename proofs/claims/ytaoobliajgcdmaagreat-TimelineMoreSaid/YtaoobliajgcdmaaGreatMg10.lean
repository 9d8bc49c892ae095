/-
  Texts joined into one: what the program's and the document's calls give back, piece by piece.
-/
import Derived.Test.YtaoobliajgcdmaaGreatMg1
import Derived.Test.YtaoobliajgcdmaaGreatMg2
import Derived.Test.YtaoobliajgcdmaaGreatMg3
import Derived.Test.YtaoobliajgcdmaaGreatMg4
import Derived.Test.YtaoobliajgcdmaaGreatMg5
import Derived.Test.YtaoobliajgcdmaaGreatMg6
import Derived.Test.YtaoobliajgcdmaaGreatMg7
import Derived.Test.YtaoobliajgcdmaaGreatMg8
import Derived.Test.YtaoobliajgcdmaaGreatMg9
import Derived.Test.YtaoobliajgcdmaaGreatChecked
import Derived.Test.YtaoobliajgcdmaaGreatRows
import Derived.BigQuiet
import Derived.ChangeAlike
import Derived.ChangeKeysEq
import Derived.ChangeMaps5
import Derived.Deep.AppendLies
import Derived.Deep.CutBlock
import Derived.Deep.CutRange
import Derived.Deep.Light
import Derived.Deep.QuietTactic
import Derived.Deep.RegionHeld3
import Derived.Deep.RegionLaw
import Derived.Deep.SlicePairs
import Derived.Handy
import Derived.Laws.BytesArg
import Derived.Laws.OwnMore
import Derived.Laws.Strings
import Derived.Laws.StructEq
import Derived.Lib.Hide
import Derived.Lib.SmallJoins
import Derived.Maps.AppendAt
import Derived.OneCell
import Derived.OpenShut
import Derived.OwnWalk
import Derived.ProofKit
import Derived.RegionTactic
import Derived.SizedLaws
import Derived.StillTailTactics
import Derived.WalkArith
import Derived.WalkKit
import Derived.WalkLawsBesides
import Derived.WalkSpells
import Derived.Test.YtaoobliajgcdmaaGreatProg
import Derived.Deep.LoopGhost
import Derived.Deep.Upon
import Derived.IntWalk
import Derived.Lib.Bytealg
import Derived.Lib.OwnBridge
import Derived.Lib.QuietBelow
import Derived.LoopIn
import Derived.LoopNIn
import Derived.Maps.OwnSet
import Derived.Maps.RangeWalk
import Derived.OwnWalkIn
import Derived.RangeFuncBound
import Derived.RangeFuncBox
import Derived.RangeFuncCalls
import Derived.RangeFuncLeaves
import Derived.RangeFuncNested
import Derived.RangeFuncOwn
import Derived.Shelf.Abstract
import Derived.Shelf.RegionOpen
import Derived.Shelf.SlSortCmp.KitK
import Derived.Shelf.SlSortCmp.NoneTotal
import Derived.Sort.KeysCollected
import Derived.Sort.OwnSortedInts
import Derived.Sort.WalkB12
import Derived.Sort.WalkB2
import Derived.TacticsInMore

/-
  An argument that is a version or a row, by value.
-/
namespace Go.Proofs.YtaoobliajgcdmaaGreat
open Go.ChangeShapes Go.WideShapes Go.ChangeAt Go.RowKit Go.Joins Go.ChangeMaps Go.Deep
set_option maxRecDepth 100000

/-- The cells of a version. -/
def cells7 (v : Vr) : List Value := [.int .i64 v.id, .int .i64 v.st, .string v.ent, .int .i64 v.sf, .int .i64 v.se, .slice v.fa v.fs.length v.fc, .bool v.gone]

section
variable {H : Type} {enc : TypeId × Value → H} {W : World} {r : Reach} {base : Nat}

set_option maxRecDepth 100000 in
theorem ver_of {fuel : Nat} {cs : List Value} {x : DataW H × List MemPlace} (hl : cs.length = 7) (hf : DataW.trod enc Tryz.prog W 0 (fun _ => true) true fuel 50 cs = some x) :
    ∃ q : Vr, cs = cells7 q ∧ VF W q ∧ okF q.fs ∧ q.fs.length ≤ 9223372036854775807 ∧ q.ent.size ≤ 9223372036854775807 := by
  obtain ⟨xs, k, hk, hxy, _, hxl, hf⟩ := DataW.trod_struct Tryz.underlying50 hf
  match xs, hxl, cs, hl with
  | [y0, y1, y2, y3, y4, y5], _, [v0, v1, v2, v3, v4, v5, v6], _ =>
    have g0 := hf 0 _ rfl
    have g1 := hf 1 _ rfl
    have g2 := hf 2 _ rfl
    have g3 := hf 3 _ rfl
    have g4 := hf 4 _ rfl
    have g5 := hf 5 _ rfl
    simp [Tryz.cells3i, Tryz.cells3s, Tryz.cells3b, Tryz.cells3l, Tryz.cellsSpan] at g0 g1 g2 g3 g4 g5
    obtain ⟨x0, e0, _, _⟩ := DataW.trod_int Tryz.underlying3 g0
    obtain ⟨x1, e1, _, _⟩ := DataW.trod_int Tryz.underlying3 g1
    obtain ⟨x2, e2, _, hz2⟩ := DataW.trod_string Tryz.underlying9 g2
    obtain ⟨xs3, k3, hk3, hxy3, _, hxl3, hf3⟩ := DataW.trod_struct Tryz.underlying23 g3
    obtain ⟨l4, hl4, hw4, hn4⟩ := fields_of g4
    obtain ⟨x5, e5, _⟩ := DataW.trod_bool Tryz.underlying4 g5
    match xs3, hxl3 with
    | [z0, z1], _ =>
      have s0 := hf3 0 _ rfl
      have s1 := hf3 1 _ rfl
      simp [Tryz.cells3i] at s0 s1
      obtain ⟨x3, e3, _, _⟩ := DataW.trod_int Tryz.underlying3 s0
      obtain ⟨x4, e4, _, _⟩ := DataW.trod_int Tryz.underlying3 s1
      simp at e0 e1 e2 e3 e4 e5
      subst e0 e1 e2 e3 e4 e5
      obtain ⟨B, c, rfl, hB, hc, hnc⟩ := hl4
      exact ⟨⟨x0, x1, x2, x3, x4, B, c, l4, x5⟩, rfl, ⟨hB, hc, hnc⟩, fun f hf => (hw4 f hf).2, hn4, by unfold maxLen at hz2; show x2.size ≤ _; omega⟩

theorem arg_ver {v : Value} {d : DataW H} {p : List MemPlace} (hv : Value.okWide Tryz.prog W r base 50 v) (h : DataW.Trod enc Tryz.prog W 0 (fun _ => true) true 50 v d p) :
    ∃ q : Vr, v = vv q ∧ VF W q ∧ okF q.fs ∧ q.fs.length ≤ 9223372036854775807 ∧ q.ent.size ≤ 9223372036854775807 := by
  obtain ⟨cs, rfl, hs⟩ := okWide_struct Tryz.underlying50 hv
  rw [Tryz.cellsVersion] at hs
  obtain ⟨fuel, hf⟩ := h
  obtain ⟨q, e, h1, h2, h3, h4⟩ := ver_of (cs := cs.toList) (by simpa using hs) hf
  exact ⟨q, by rw [show cs = #[.int .i64 q.id, .int .i64 q.st, .string q.ent, .int .i64 q.sf, .int .i64 q.se, .slice q.fa q.fs.length q.fc, .bool q.gone] from by apply Array.toList_inj.1; rw [e]; rfl], h1, h2, h3, h4⟩

end

end Go.Proofs.YtaoobliajgcdmaaGreat

/-
  TimelineMore gives back true.
-/
namespace Go.Proofs.YtaoobliajgcdmaaGreat
open Go.RowKit

/-- append onto a list of the call's own, as long as its bytes are not too many. -/
theorem run_appEb {α : Type} {E : El α} (w : World) {base : Nat} {v : Value} {ts : List α} (hown : ownE E w base v ts) (B : Option Addr) (c : Nat) (xs : List α) (hx : RowE E w B xs) (hc : B = none → c = 0)
    (hl : ts.length + xs.length ≤ 9000000000000000000) (hbt : (ts.length + xs.length) * E.bys ≤ 140737488355328) (hbase : base ≤ w.heap.size) (ty : TypeId) :
    ∃ v' w', (Builtin.append_ #[E.s, E.s] ty #[v, .slice B xs.length c]).run Tryz.prog w = .ok v' w' ∧ ownE E w' base v' (ts ++ xs) ∧ w.grownBy w' v.ownBlock ∧ (v'.ownBlock = v.ownBlock ∨ v'.ownBlock = some w.heap.size) := by
  obtain ⟨i0, hi, hz0, hz1, hz2⟩ := info_parts E.info
  rcases B with _ | ad
  · obtain rfl : xs = [] := by
      rcases xs with _ | ⟨x, xs⟩
      · rfl
      · obtain ⟨_, _, h, _⟩ := hx 0 x (by simp)
        cases h
    obtain rfl := hc rfl
    exact ⟨v, w, run_append_owned_none (P := Tryz.prog) w base E.s ty E.e i0 E.sz E.und hi v _ _ hown, by simpa [ownE] using hown, World.grownBy.refl _ _, .inl rfl⟩
  · have hcell : ∀ j u, (flatE E xs)[j]? = some u → w.cell? (ad.add j) = some u := fun j u hu => by
      rcases xs with _ | ⟨p, xs⟩
      · simp [flatE] at hu
      · obtain ⟨g, off, he, _⟩ := hx 0 p (by simp)
        obtain rfl : ad = ⟨g, off, none⟩ := Option.some.inj he
        exact flatE_cell hx hu
    obtain ⟨v', w', hrun, h2, h3, _, h5⟩ := run_append_own_at (P := Tryz.prog) w base E.s ty E.e i0 E.z E.sz E.bys E.und hi hz0 hz1 hz2 E.zs E.pos v _ _ hown ad xs.length c (flatE E xs) (flatE_length xs) hcell
      (flatE_one xs) (by unfold maxLen; omega) hbt hbase
    exact ⟨v', w', hrun, by unfold ownE; rw [flatE_append, List.length_append]; exact h2, h3, h5⟩
theorem step_appEb {α : Type} {E : El α} {ops : Array Oper} {o : Oper} {a : Act} {w : World} {K : Act → World → Prop} {Q : Exit → Act → World → Prop} {F : Prop} (hgd : o.guard = none) (s x : Operand) {t : TypeId} (ht : t = E.s)
    (ho : o.op = .call { callee := .builtin .append, args := #[s, x], argTypes := #[t, t] })
    {base : Nat} {v : Value} {ts : List α} (hs : a.eval s = v) (hown : ownE E w base v ts) {B : Option Addr} {c m : Nat} {xs : List α} (hv : a.eval x = .slice B m c) (hm : m = xs.length) (hx : RowE E w B xs) (hc : B = none → c = 0)
    (hl : ts.length + xs.length ≤ 9000000000000000000) (hbt : (ts.length + xs.length) * E.bys ≤ 140737488355328) (hbase : base ≤ w.heap.size)
    (h : ∀ v' w', ownE E w' base v' (ts ++ xs) → w.grownBy w' v.ownBlock → (v'.ownBlock = v.ownBlock ∨ v'.ownBlock = some w.heap.size) → K (a.put o.dst v') w') :
    if Region.wanted o (yielded ops a.tmps) = true then Oper.wp Tryz.prog o a w K Q else F := by
  subst hm ht
  have hw : Region.wanted o (yielded ops a.tmps) = true := by simp [Region.wanted, hgd]
  rw [if_pos hw]
  obtain ⟨v', w', hrun, h2, h3, h4⟩ := run_appEb w hown B c xs hx hc hl hbt hbase o.type
  unfold Oper.wp execOp
  simp only [ho, resolve, invoke, builtin, Sem.run_bind, Sem.run_pure, Result.andThen_ok, List.map_toArray, List.map_cons, List.map_nil, hs, hv, hrun]
  exact h v' w' h2 h3 h4
theorem ownV_empty {w : World} {b base : Nat} (h : w.heap[b]? = some (.cells #[] 50 (0, 0))) (hb : base ≤ b) : ownE EV w base (.slice (some ⟨b, 0, none⟩) 0 0) ([] : List Vr) := ownE_empty (E := EV) h hb
abbrev ocN : Obj := .cells #[] 50
theorem ownV_e1 (W : World) : ownE EV (W.alloc ocN).drew W.heap.size (.slice (some ⟨W.heap.size, 0, none⟩) 0 0) ([] : List Vr) := ownV_empty (heap_alloc_new W _) (Nat.le_refl _)
theorem ownV_e2 (W : World) (v : Vr) : ownE EV ((W.alloc ocN).alloc (ocV v)).drew W.heap.size (.slice (some ⟨W.heap.size, 0, none⟩) 0 0) ([] : List Vr) :=
  ownV_empty ((Below.heap_alloc (W.alloc ocN) _ W.heap.size (by simp)).trans (heap_alloc_new W _)) (Nat.le_refl _)
theorem ownV_e3 (W : World) (v : Vr) : ownE EV ((W.alloc (ocV v)).alloc ocN).drew W.heap.size (.slice (some ⟨W.heap.size + 1, 0, none⟩) 0 0) ([] : List Vr) :=
  ownV_empty (w := ((W.alloc (ocV v)).alloc ocN)) (by have := heap_alloc_new (W.alloc (ocV v)) ocN; simpa using this) (by omega)
theorem rowV_cells {w : World} {b : Nat} {v : Vr} (h : BoxV w b v) : RowE EV w (some ⟨b, 0, none⟩) [v] := fun i x hx => by
  rcases i with _ | i
  · obtain rfl : v = x := by simpa using hx
    refine ⟨b, 0, rfl, fun j u hu => ?_⟩
    obtain ⟨k0, k1, k2, k3, k4, k5, k6⟩ := h
    rw [Nat.zero_mul, Nat.zero_add]
    match j, hu with
    | 0, hu => obtain rfl : _ = u := by simpa [EV, cellsV] using hu
               exact k0
    | 1, hu => obtain rfl : _ = u := by simpa [EV, cellsV] using hu
               exact k1
    | 2, hu => obtain rfl : _ = u := by simpa [EV, cellsV] using hu
               exact k2
    | 3, hu => obtain rfl : _ = u := by simpa [EV, cellsV] using hu
               exact k3
    | 4, hu => obtain rfl : _ = u := by simpa [EV, cellsV] using hu
               exact k4
    | 5, hu => obtain rfl : _ = u := by simpa [EV, cellsV] using hu
               exact k5
    | 6, hu => obtain rfl : _ = u := by simpa [EV, cellsV] using hu
               exact k6
    | j + 7, hu => simp [EV, cellsV] at hu
  · simp at hx
theorem grown_boxV {w w1 : World} {o : Option Nat} (hg : w.grownBy w1 o) {b : Nat} {v : Vr} (h : BoxV w b v) (hb : b < w.heap.size) (hn : some b ≠ o) : BoxV w1 b v := by
  have e := hg.block b hb hn
  have k : ∀ i u, w.cell? ⟨b, i, none⟩ = some u → w1.cell? ⟨b, i, none⟩ = some u := fun i u hu => (World.cell?_of_block (w := w) (a := ⟨b, i, none⟩) e).trans hu
  exact ⟨k _ _ h.1, k _ _ h.2.1, k _ _ h.2.2.1, k _ _ h.2.2.2.1, k _ _ h.2.2.2.2.1, k _ _ h.2.2.2.2.2.1, k _ _ h.2.2.2.2.2.2⟩
theorem xV_e2 {W w1 : World} {v : Vr} (hg : ((W.alloc ocN).alloc (ocV v)).drew.grownBy w1 (Value.slice (some ⟨W.heap.size, 0, none⟩) 0 0).ownBlock) : RowE EV w1 (some ⟨W.heap.size + 1, 0, none⟩) [v] := by
  have hb : BoxV ((W.alloc ocN).alloc (ocV v)).drew (W.heap.size + 1) v := by
    have h := (boxV_new (W.alloc ocN) v).below ((bl _).drew)
    rwa [show (W.alloc ocN).heap.size = W.heap.size + 1 by simp] at h
  exact rowV_cells (grown_boxV hg hb (by simp) (by simp [Value.ownBlock]))
theorem xV_e3 {W w1 : World} {v : Vr} (hg : ((W.alloc (ocV v)).alloc ocN).drew.grownBy w1 (Value.slice (some ⟨W.heap.size + 1, 0, none⟩) 0 0).ownBlock) : RowE EV w1 (some ⟨W.heap.size, 0, none⟩) [v] := by
  have hb : BoxV ((W.alloc (ocV v)).alloc ocN).drew W.heap.size v := ((boxV_new W v).below ((bl _).alloc (Nat.le_refl _) _)).below ((bl _).drew)
  exact rowV_cells (grown_boxV hg hb (by simp; omega) (by simp [Value.ownBlock]))
theorem met_right {a : Int × Int} {c d : Int} (h : Co.meetB a.1 a.2 c d = true) : rightP (Co.meetF a.1 a.2 c d) (Co.meetT a.1 a.2 c d) = true := by
  have e1 : Co.meetF a.1 a.2 c d = max a.1 c := by rw [Co.meetF, h]; rfl
  have e2 : Co.meetT a.1 a.2 c d = min a.2 d := by rw [Co.meetT, h]; rfl
  have hh := (meetB_iff _ _ _ _).1 h
  have ra := (rightP_iff _ _).1 hh.1.1
  have rv := (rightP_iff _ _).1 hh.1.2
  rw [e1, e2, rightP_iff]
  have := hh.2
  omega
theorem splice_more (w : World) (a : Int × Int) (l : List Vr) (v : Vr) (hf : fewV l) (hf2 : fewV (l ++ [v])) (h60 : (l ++ [v]).length ≤ 60) (hm : Co.meetB a.1 a.2 v.sf v.se = true) (y z : Value) (hy : HasTL w y (makeV a l)) (hz : HasTL w z (makeV (Co.meetF a.1 a.2 v.sf v.se, Co.meetT a.1 a.2 v.sf v.se) (l ++ [v]))) : Calls Tryz.prog 26 #[y, .agg #[.int .i64 (Co.meetF a.1 a.2 v.sf v.se), .int .i64 (Co.meetT a.1 a.2 v.sf v.se)], z] w fun e w' => ∃ x, e = .returned x ∧ HasTL w' x (makeV a (l ++ [v])) ∧ Below w.heap.size w w' := by
  obtain ⟨R, hR⟩ := hy
  obtain ⟨C, hC⟩ := hz
  have hfR := hR.few (makeV_few hf)
  have hfC := hC.few (makeV_few hf2)
  have lR := make_len hR.tl hR.fs
  have lC := make_len hC.tl hC.fs
  rw [List.length_append, List.length_singleton] at h60
  rw [List.length_append, List.length_singleton] at lC
  refine (ptsplice_any w (Co.meetF a.1 a.2 v.sf v.se, Co.meetT a.1 a.2 v.sf v.se) y z R C hR.pcs hC.pcs (by omega) (by omega) (fun p hp => by have := hfR p hp; omega) (fun p hp => by have := hfC p hp; omega)).mono ?_
  rintro e w' ⟨x, he, ⟨Q, hQ⟩, hb⟩
  refine ⟨x, he, ⟨Q, hQ.mono fun t => ?_⟩, hb⟩
  rw [spliceG, (rightT_iff R).2 hR.tl, (rightT_iff C).2 hC.tl]
  simp only [Bool.and_self, if_true]
  rw [show rightP (Co.meetF a.1 a.2 v.sf v.se) (Co.meetT a.1 a.2 v.sf v.se) = true from met_right hm, if_pos rfl]
  exact more_is hm hR.fs hC.fs t

set_option maxHeartbeats 8000000 in
set_option maxRecDepth 100000 in
theorem more11_walk (a : Int × Int) (u : Value) (l : List Vr) (v : Vr) (w : World) (hl : VersL w u l) (hv : VF w v) (hok : ∀ x ∈ l, okF x.fs) (hov : okF v.fs) (hn : l.length * 80 ≤ 140737488351232) : Ret 7 #[.agg #[.int .i64 a.1, .int .i64 a.2], u, vv v] w (.bool true) := by
  have CAL := Lib.hid alive11_any
  have hok2 : ∀ x ∈ l ++ [v], okF x.fs := fun x hx => by
    rcases List.mem_append.1 hx with hx | hx
    · exact hok x hx
    · obtain rfl := List.mem_singleton.1 hx
      exact hov
  have HV2 := Lib.hid (show ∀ w', Below w.heap.size w w' → ∀ y, ListE EV w' y (l ++ [v]) → VersL w' y (l ++ [v]) from fun w' h y hy => ⟨hy, fun x hx => by
    rcases List.mem_append.1 hx with hx | hx
    · exact (hl.2 x hx).below h
    · obtain rfl := List.mem_singleton.1 hx
      exact hv.below h⟩)
  have CF := Lib.hid (fun w' y (hy : ListE EV w' y (l ++ [v])) => dfew_any w' y (l ++ [v]) 60 hy (by rw [List.length_append, List.length_singleton]; omega))
  have HB2 := Lib.hid (show Below w.heap.size w ((w.alloc (ocS a.1 a.2)).alloc (ocV v)) from ((bl w).alloc (Nat.le_refl _) _).alloc (by simp) _)
  have HS1 := Lib.hid (show BoxS ((w.alloc (ocS a.1 a.2)).alloc (ocV v)) w.heap.size a.1 a.2 from (boxS_new w a.1 a.2).below ((bl _).alloc (Nat.le_refl _) _))
  have HS2 := Lib.hid (show BoxV ((w.alloc (ocS a.1 a.2)).alloc (ocV v)) (w.heap.size + 1) v by
    have h := boxV_new (w.alloc (ocS a.1 a.2)) v
    rwa [show (w.alloc (ocS a.1 a.2)).heap.size = w.heap.size + 1 by simp] at h)
  have HL := Lib.hid hl
  obtain ⟨⟨A, c, rfl, hA, hc, hnc⟩, _⟩ := hl
  have HA := Lib.hid hA
  have HNC := Lib.hid hnc
  obtain ⟨n, hnm⟩ : ∃ n, l.length = n := ⟨_, rfl⟩
  have HN := Lib.hid hnm
  rw [hnm] at hn hc ⊢
  clear hA hnc hnm hc
  go_enter Tryz.func7, Tryz.ntmps7
  go_upto_region 1 with fail
  refine abstract_worldW (fun W => Below w.heap.size w W ∧ BoxS W w.heap.size a.1 a.2 ∧ BoxV W (w.heap.size + 1) v) ⟨HB2.out, HS1.out, HS2.out⟩ ?_
  rintro W ⟨hW, hp, hq⟩
  have HW := Lib.hid hW
  have HPP := Lib.hid hp
  have HQ := Lib.hid hq
  have HAW := Lib.hid (HA.out.below hW)
  have MK := Lib.hid (show ∀ w', Below W.heap.size W w' → (Below W.heap.size W w' ∧ BoxV w' (w.heap.size + 1) v) from fun w' h => ⟨h, hq.below h⟩)
  clear hW hp hq HS1 HS2 HB2
  (go_region_held3 (fun w' => Below W.heap.size W w' ∧ BoxV w' (w.heap.size + 1) v)
      (first | exact MK.out _ ((Below.refl _ _).drew) | exact MK.out _ hb2 | exact MK.out _ (hb1.alloc hb1.size _) | exact MK.out _ hb1 | exact MK.out _ (by go_grown))
      (first
        | (refine step_appEb (E := EV) rfl (.tmp 12) (.tmp 13) rfl rfl (base := W.heap.size) rfl (ownV_e1 W) rfl HN.out.symm (HAW.out.below (by go_split_ands; assumption)) HNC.out (by have := HN.out; simp; omega) (by have := HN.out; simp [EV]; omega) (by simp) ?_; intro v1 w1 hown1 hg1 hat1; have hb1 : Below W.heap.size W w1 := below_grownE (by go_split_ands; assumption) hg1 (fun r hr => ((ownV_e1 W).lt r hr).1))
        | (refine step_appEb (E := EV) rfl (.tmp 12) (.tmp 13) rfl rfl (base := W.heap.size) rfl (ownV_e2 W v) rfl HN.out.symm (HAW.out.below (by go_split_ands; assumption)) HNC.out (by have := HN.out; simp; omega) (by have := HN.out; simp [EV]; omega) (by simp; omega) ?_; intro v1 w1 hown1 hg1 hat1; have hb1 : Below W.heap.size W w1 := below_grownE (by go_split_ands; assumption) hg1 (fun r hr => ((ownV_e2 W v).lt r hr).1); have HX1 := Lib.hid (xV_e2 hg1))
        | (refine step_appEb (E := EV) rfl (.tmp 12) (.tmp 13) rfl rfl (base := W.heap.size) rfl (ownV_e3 W v) rfl HN.out.symm (HAW.out.below (by go_split_ands; assumption)) HNC.out (by have := HN.out; simp; omega) (by have := HN.out; simp [EV]; omega) (by simp; omega) ?_; intro v1 w1 hown1 hg1 hat1; have hb1 : Below W.heap.size W w1 := below_grownE (by go_split_ands; assumption) hg1 (fun r hr => ((ownV_e3 W v).lt r hr).1); have HX1 := Lib.hid (xV_e3 hg1))
        | (refine step_appEb (E := EV) (xs := [v]) rfl (.tmp 14) (.tmp 16) rfl rfl (base := W.heap.size) rfl (World.ownsRow.alloc hown1 _) rfl rfl (rowE_one w1 v _ rfl _) (by simp) (by have := HN.out; simp; omega) (by have := HN.out; simp [EV]; omega) (by have := hb1.size; simp; omega) ?_; intro v2 w2 hown2 hg2 hat2; have hb2 : Below W.heap.size W w2 := below_grownE (hb1.alloc hb1.size _) hg2 (fun r hr => (hown1.lt r hr).1))
        | (refine step_appEb (E := EV) (xs := [v]) rfl (.tmp 14) (.tmp 16) rfl rfl (base := W.heap.size) rfl hown1 rfl rfl HX1.out (by simp) (by have := HN.out; simp; omega) (by have := HN.out; simp [EV]; omega) hb1.size ?_; intro v2 w2 hown2 hg2 hat2; have hb2 : Below W.heap.size W w2 := below_grownE hb1 hg2 (fun r hr => (hown1.lt r hr).1))))
  all_goals
    have HLV := Lib.hid (HV2.out w2 (chain HW.out hb2) v2 (show ListE EV w2 v2 (l ++ [v]) from ownE_list hown2))
    have HC2 := Lib.hid (chain HW.out hb2)
    have HP2 := Lib.hid (HPP.out.below hb2)
    have HQ2 := Lib.hid (HQ.out.below hb2)
    have CF2 := Lib.hid (CF.out w2 v2 HLV.out.1)
    clear hown2 hg2 hat2 hown1 hg1 hat1
    cases hf : fewB (l ++ [v]) 60 with
    | false =>
      rw [hf] at CF2
      clear hf
      go_wp2_with (first
        | (go_at_call 9; (with_reducible refine CF2.out.mono ?_); rintro e w3 ⟨rfl, hw3⟩; obtain rfl := hw3.symm)
        | (go_at_call 10; (with_reducible refine (CAL.out _).mono ?_); rintro e w4 ⟨rfl, hb4⟩))
      go_ret
      exact ⟨rfl, chain HC2.out hb4⟩
    | true =>
      rw [hf] at CF2
      obtain ⟨hfew2, h60⟩ := few60 hf
      have hfew : fewV l := ⟨by have := hfew2.1; rw [List.length_append] at this; omega, fun x hx => hfew2.2 x (by simp [hx])⟩
      have CP1 := Lib.hid (fun w' (h : Below w.heap.size w w') => ptmake_any w' a _ l (HL.out.below h) hfew hok)
      have CP2 := Lib.hid (fun w' (h : Below w2.heap.size w2 w') => ptmake_any w' a v2 (l ++ [v]) (HLV.out.below h) hfew2 hok2)
      have CP3 := Lib.hid (fun w' (h : Below w2.heap.size w2 w') => ptmake_any w' (Co.meetF a.1 a.2 v.sf v.se, Co.meetT a.1 a.2 v.sf v.se) v2 (l ++ [v]) (HLV.out.below h) hfew2 hok2)
      have CSP := Lib.hid (fun hm w' y z => splice_more w' a l v hfew hfew2 h60 hm y z)
      have CS := Lib.hid (fun w' x y => psame_tl w' x y (makeV a (l ++ [v])) 20000 (by omega) (makeV_few hfew2))
      have HNO := Lib.hid (show Co.meetB a.1 a.2 v.sf v.se = false → ∀ w' y, HasTL w' y (makeV a l) → HasTL w' y (makeV a (l ++ [v])) from fun hm w' y ⟨R, hR⟩ => ⟨R, hR.mono fun t => (more_not hm t).symm⟩)
      have CM := Lib.hid (fun w => Co.meet_any a.1 a.2 v.sf v.se w)
      rw [HN.out] at CP1
      generalize Co.meetF a.1 a.2 v.sf v.se = mf at *
      generalize Co.meetT a.1 a.2 v.sf v.se = mt at *
      generalize Co.meetB a.1 a.2 v.sf v.se = mb at *
      generalize makeV a (l ++ [v]) = G2 at *
      generalize makeV (mf, mt) (l ++ [v]) = G3 at *
      generalize makeV a l = G1 at *
      clear hf hfew hfew2 h60
      obtain ⟨p0, p1⟩ := HP2.out
      obtain ⟨q0, q1, q2, q3, q4, q5, q6⟩ := HQ2.out
      go_upto_region 5 with (first
        | (go_at_call 9; (with_reducible refine CF2.out.mono ?_); rintro e w3 ⟨rfl, hw3⟩; obtain rfl := hw3.symm)
        | (go_at_call 32; (with_reducible refine (CM.out _).mono ?_); rintro e w4 ⟨rfl, hb4⟩; have HB4 := Lib.hid hb4; clear hb4))
      refine abstract_worldW (fun W' => Below w2.heap.size w2 W' ∧ BoxS W' w.heap.size a.1 a.2 ∧ BoxS W' w4.heap.size mf mt) ⟨HB4.out.alloc HB4.out.size _, (HP2.out.below HB4.out).below ((bl _).alloc (Nat.le_refl _) _), boxS_new w4 mf mt⟩ ?_
      rintro W5 ⟨h5, hp5, hx5⟩
      have HW5 := Lib.hid h5
      have HP5 := Lib.hid hp5
      have HX5 := Lib.hid hx5
      have MK5 := Lib.hid (show ∀ w', Below W5.heap.size W5 w' → (Below W5.heap.size W5 w' ∧ BoxS w' w.heap.size a.1 a.2) from fun w' h => ⟨h, hp5.below h⟩)
      clear h5 hp5 hx5 p0 p1 q0 q1 q2 q3 q4 q5 q6
      first
        | (go_region_held3 (fun w' => Below W5.heap.size W5 w' ∧ BoxS w' w.heap.size a.1 a.2)
            (first | exact MK5.out _ ((bl W5).drew) | exact MK5.out _ hb7 | exact MK5.out _ hb6 | fail)
            (first
              | (go_at_call 11; (with_reducible refine (CP1.out _ (chain HC2.out (chain HW5.out (by go_split_ands; assumption)))).mono ?_); (rintro e w6 ⟨x6, rfl, hx6, hb0⟩); (have hb6 := chain (by go_split_ands; assumption) hb0); (have HT6 := Lib.hid hx6); clear hb0 hx6)
              | (go_at_call 11; (with_reducible refine (CP2.out _ (chain HW5.out hb6)).mono ?_); (rintro e w7 ⟨x7, rfl, hx7, hb0⟩); (have hb7 := chain hb6 hb0); (have HT7 := Lib.hid hx7); (have HY7 := Lib.hid (HT6.out.below hb0)); clear hb0 hx7)
              | fail))
        | fail
      cases mb with
      | false =>
        have HZ7 := Lib.hid (HNO.out (by trivial) _ _ HY7.out)
        go_wp2_with (first
          | (go_at_call 23; (with_reducible refine (CS.out _ _ _ HZ7.out HT7.out).mono ?_); rintro e w8 ⟨rfl, hb8⟩; have HB8 := Lib.hid (chain hb7 hb8); clear hb8)
          | (go_at_call 10; (with_reducible refine (CAL.out _).mono ?_); rintro e w9 ⟨rfl, hb9⟩; have HB9 := Lib.hid (chain HB8.out hb9); clear hb9))
        go_ret
        exact ⟨rfl, chain HC2.out (chain HW5.out HB9.out)⟩
      | true =>
        have HB7 := Lib.hid hb7
        have HX7 := Lib.hid (HX5.out.below hb7)
        have MK7 := Lib.hid (show ∀ w', Below w7.heap.size w7 w' → (Below w7.heap.size w7 w' ∧ BoxS w' w4.heap.size mf mt) from fun w' h => ⟨h, HX7.out.below h⟩)
        go_upto_region 8 with fail
        first
          | (go_region_held3 (fun w' => Below w7.heap.size w7 w' ∧ BoxS w' w4.heap.size mf mt)
              (first | exact MK7.out _ ((bl w7).drew) | exact MK7.out _ hb11 | exact MK7.out _ hb10 | exact MK7.out _ hb9 | exact MK7.out _ hb8 | fail)
              (first
                | (go_at_call 11; (with_reducible refine (CP3.out _ (chain HW5.out (chain HB7.out ((bl w7).drew)))).mono ?_); (rintro e w8 ⟨x8, rfl, hx8, hb0⟩); (have hb8 := chain ((bl w7).drew) hb0); (have HT8 := Lib.hid hx8); clear hb0 hx8)
                | (go_at_call 26; (with_reducible refine (CSP.out (by trivial) _ _ _ (HY7.out.below hb8) HT8.out).mono ?_); (rintro e w9 ⟨x9, rfl, hx9, hb0⟩); (have hb9 := chain hb8 hb0); (have HT9 := Lib.hid hx9); clear hb0 hx9)
                | (go_at_call 23; (with_reducible refine (CS.out _ _ _ HT9.out (HT7.out.below hb9)).mono ?_); (rintro e w10 ⟨rfl, hb0⟩); (have hb10 := chain hb9 hb0); clear hb0)
                | (go_at_call 10; (with_reducible refine (CAL.out _).mono ?_); (rintro e w11 ⟨rfl, hb0⟩); (have hb11 := chain hb10 hb0); clear hb0)
                | fail))
          | fail
        go_wp2_with fail
        go_ret
        exact ⟨rfl, chain HC2.out (chain HW5.out (chain HB7.out hb11))⟩

end Go.Proofs.YtaoobliajgcdmaaGreat
