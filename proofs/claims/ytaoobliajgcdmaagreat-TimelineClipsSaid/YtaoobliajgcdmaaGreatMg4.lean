/-
  Texts joined into one: what the program's and the document's calls give back, piece by piece.
-/
import Derived.Test.YtaoobliajgcdmaaGreatMg1
import Derived.Test.YtaoobliajgcdmaaGreatMg2
import Derived.Test.YtaoobliajgcdmaaGreatMg3
import Derived.Test.YtaoobliajgcdmaaGreatRows
import Derived.BigQuiet
import Derived.ChangeAlike
import Derived.Deep.AppendLies
import Derived.Deep.QuietTactic
import Derived.Deep.RegionHeld3
import Derived.Deep.RegionLaw
import Derived.Handy
import Derived.Lib.Hide
import Derived.Lib.SmallJoins
import Derived.LoopIn
import Derived.LoopNIn
import Derived.OneCell
import Derived.OwnWalkIn
import Derived.ProofKit
import Derived.RangeFuncBound
import Derived.RangeFuncBox
import Derived.RangeFuncCalls
import Derived.RangeFuncLeaves
import Derived.RangeFuncNested
import Derived.RangeFuncOwn
import Derived.RegionTactic
import Derived.Shelf.Abstract
import Derived.Shelf.RegionOpen
import Derived.StillTailTactics
import Derived.TacticsInMore
import Derived.WalkKit
import Derived.WalkLawsBesides
import Derived.WalkSpells
import Derived.Maps.AppendAt
import Derived.ChangeKeysEq
import Derived.Deep.CutBlock
import Derived.Deep.CutRange
import Derived.Deep.Light
import Derived.Laws.BytesArg
import Derived.Laws.OwnMore
import Derived.Laws.Strings
import Derived.Laws.StructEq
import Derived.OwnWalk
import Derived.WalkArith
import Derived.Test.YtaoobliajgcdmaaGreatProg
import Derived.Deep.LoopGhost
import Derived.Shelf.SlSortCmp.KitK
import Derived.Shelf.SlSortCmp.NoneTotal
import Derived.Sort.WalkB12
import Derived.Sort.WalkB2
import Derived.Lib.Bytealg
import Derived.Maps.RangeWalk
import Derived.Sort.KeysCollected

/-
  Borders: an iterator over the ends of a list's cover; what a loop over it sees.
-/
namespace Go.Proofs.YtaoobliajgcdmaaGreat.Co
open Go.RowKit Go.Sort Go.Shelf

attribute [local go_sem] Oper.semAt_some

/-- Where the iterator's cover lies: in a variable of its own, the list in a block of its own. -/
def It (B base : Nat) (v : Value) (m : List Sp) (W : World) : Prop := Boxed W B 40 v ∧ W.ownsRow base 23 2 v m.length (flat m)
/-- What Borders leaves. -/
def BordersPost (l : List Sp) (w : World) (e : Ending) (w' : World) : Prop :=
  ∃ B v m, e = .returned (.func (.func 78) #[] #[.pointer (some ⟨B, 0, none⟩)]) ∧ It B w.heap.size v m w' ∧ CovOf m (Mem l) ∧ m.length ≤ l.length ∧ Below w.heap.size w w'

set_option maxHeartbeats 1000000 in
theorem borders_any (w : World) (A : Option Addr) (c : Nat) (l : List Sp) (hl : Spans w A l) (hn : l.length ≤ 1000000) :
    Calls Tryz.prog 59 #[.slice A l.length c] w (BordersPost l w) := by
  go_enter Tryz.func59, Tryz.ntmps59
  go_wp2_with (go_at_call 47; refine (make_own _ _ _ _ hl hn).mono ?_; rintro e w1 ⟨v, m, rfl, hR, hc, hm⟩; have hv := hR; obtain ⟨A3, c3, rfl, _⟩ := own_spans hv.1; clear hv)
  go_ret
  exact ⟨_, _, m, rfl, ⟨Boxed.new _ _ _, hR.1.alloc _⟩, hc, hm, hR.2.alloc hR.2.size _⟩

/-- Blocks that hold spans, or lists of spans, lie as they lay. -/
def KpS (W W' : World) : Prop := ∀ (b : Nat) (cur : Array Value) (t : TypeId), (t = 40 ∨ t = 23) → W.heap[b]? = some (.cells cur t (0, 0)) → W'.heap[b]? = some (.cells cur t (0, 0))
theorem KpS.refl (W : World) : KpS W W := fun _ _ _ _ h => h
theorem KpS.trans {A B C : World} (h : KpS A B) (k : KpS B C) : KpS A C := fun b cur t ht hb => k b cur t ht (h b cur t ht hb)
theorem KpS.alloc (W : World) (o : Obj) : KpS W (W.alloc o) := fun b _ _ _ hb => (Below.heap_alloc W o b (Array.getElem?_eq_some_iff.1 hb).1).trans hb
theorem KpS.grown {W W' : World} {row : Option Nat} (hg : W.grownBy W' row) (hr : ∀ g, row = some g → ∃ cur t, t ≠ 40 ∧ t ≠ 23 ∧ W.heap[g]? = some (.cells cur t (0, 0))) : KpS W W' := fun b cur t ht hb => by
  refine (hg.block b (Array.getElem?_eq_some_iff.1 hb).1 fun e => ?_).trans hb
  obtain ⟨cur', t', h1, h2, h3⟩ := hr b e.symm
  rw [hb] at h3
  injection h3 with h3
  injection h3 with _ h3 _
  subst h3
  rcases ht with h | h
  · exact h1 h
  · exact h2 h
theorem KpS.set {W : World} {B : Nat} {ty : TypeId} {u : Value} (hB : Boxed W B ty u) (h1 : ty ≠ 40) (h2 : ty ≠ 23) (v : Value) : KpS W (W.setCell ⟨B, 0, none⟩ v) := fun b cur t ht hb => by
  have hne : b ≠ B := by
    rintro rfl
    rw [show W.heap[b]? = _ from hB] at hb
    injection hb with hb
    injection hb with _ hb _
    subst hb
    rcases ht with h | h
    · exact h1 h
    · exact h2 h
  exact (Below.heap_setCell W ⟨B, 0, none⟩ v b hne).trans hb
theorem KpS.putObj {W : World} {l : Nat} {o : Obj} (h : W.heap[l]? = some o) (hc : o.isCells = false) (o' : Obj) : KpS W (W.putObj l o') := fun b cur t _ hb => by
  have hne : b ≠ l := by
    rintro rfl
    rw [h] at hb
    injection hb with hb
    subst hb
    cases hc
  exact ((grownBy_putObj' W l o').block b (Array.getElem?_eq_some_iff.1 hb).1 (by simpa using hne)).trans hb
theorem It.keptK {B base : Nat} {v : Value} {m : List Sp} {W W' : World} (h : It B base v m W) (k : KpS W W') : It B base v m W' := by
  refine ⟨k _ _ _ (.inl rfl) h.1, h.2.1, ?_⟩
  rcases h.2.2 with h2 | ⟨g, cap, cur, hv, hg, hb, r⟩
  · exact .inl h2
  · exact .inr ⟨g, cap, cur, hv, hg, k _ _ _ (.inr rfl) hb, r⟩
theorem It.alloc {B base : Nat} {v : Value} {m : List Sp} {W : World} (h : It B base v m W) (o : Obj) : It B base v m (W.alloc o) := ⟨h.1.alloc o, h.2.alloc o⟩
/-- The cells of the cover's spans. -/
theorem It.at {B base : Nat} {v : Value} {m : List Sp} {W : World} (h : It B base v m W) {k : Nat} {f t : Int} (hp : m[k]? = some (f, t)) : ∃ g c, v = .slice (some ⟨g, 0, none⟩) m.length c ∧ W.cell? ⟨g, k * 2, none⟩ = some (.int .i64 f) ∧ W.cell? ⟨g, k * 2 + 1, none⟩ = some (.int .i64 t) := by
  have hlt : k < m.length := (List.getElem?_eq_some_iff.1 hp).1
  obtain ⟨g, c, rfl, hat, _, _⟩ := own_spansAt h.2 (by omega)
  obtain ⟨c0, c1⟩ := hat k _ hp
  exact ⟨g, c, rfl, c0, c1⟩
theorem bord_upto {m : List Sp} {k : Nat} {f t : Int} (hp : m[k]? = some (f, t)) : bord (m.take (k + 1)) = bord (m.take k) ++ [f, t] := by rw [take_snoc hp, bord_snoc]
theorem bord_pre (m : List Sp) (k : Nat) : bord (m.take k) <+: bord m := by
  refine ⟨bord (m.drop k), ?_⟩
  simp only [bord]
  rw [← List.flatMap_append, List.take_append_drop]
theorem bord_pre1 {m : List Sp} {k : Nat} {f t : Int} (hp : m[k]? = some (f, t)) : bord (m.take k) ++ [f] <+: bord m :=
  List.IsPrefix.trans ⟨[t], by rw [bord_upto hp]; simp⟩ (bord_pre m (k + 1))
theorem pre_lt {l : List Int} {p : List Int} {x : Int} (h : p ++ [x] <+: l) : p.length < l.length := by
  have := h.length_le
  simp at this
  omega

set_option maxRecDepth 100000 in
set_option maxHeartbeats 4000000 in
theorem borders_in (F : Fence) (n : Nat) (hf : F.fn 78) (hro : F.round = none) (hn : 1 ≤ n) (l B base : Nat) (v : Value) (m : List Sp) (hm : m.length ≤ 1000000) (J Jx : List Int → World → Prop)
    (hY : ∀ pre x W, J pre W → pre.length < (bord m).length → YieldAt F (n - 1) Tryz.prog l #[.int .i64 x] W fun e W' =>
      (e = .returned (.bool true) ∧ J (pre ++ [x]) W' ∧ KpS W W') ∨ (e = .returned (.bool false) ∧ Jx (pre ++ [x]) W'))
    (W : World) (hW : It B base v m W) (hJa : ∀ pre W1 (o : Obj), J pre W1 → J pre (W1.alloc o)) (h0 : J [] W) :
    CallsIn F n Tryz.prog 78 #[.func (.yield l) #[] #[], .pointer (some ⟨B, 0, none⟩)] W fun e W' => (∃ v, e = .returned v) ∧
      ((∃ ys, ys = bord m ∧ J ys W') ∨ (∃ pre, pre <+: bord m ∧ Jx pre W')) := by
  obtain ⟨A1, c1, rfl, _⟩ := own_spans hW.2
  have hB := hW.1.cell
  obtain ⟨N, hN⟩ : ∃ N, N = m.length := ⟨_, rfl⟩
  have HI := Lib.hid hW
  have HN := Lib.hid hN
  rw [← hN] at hB hm
  clear hW hN
  refine callsIn_of_wp Tryz.func78 rfl hf ?_ hro
  simp only [Tryz.ntmps78, List.size_toArray, List.length_cons, List.length_nil, Nat.reduceAdd, Nat.reduceSub, Array.replicate_succ, Array.replicate_zero, List.push_toArray, List.append_toArray, List.nil_append, List.cons_append]
  gi_wp2
  gi_loopw [7] (fun i wr => ∃ k : Nat, k ≤ N ∧ i = .int .i64 k ∧ J (bord (m.take k)) wr ∧ It B base (.slice A1 m.length c1) m wr)
    (fun i _ => N - (intOf i).toNat)
  case atStart => exact ⟨0, Nat.zero_le _, rfl, h0, HI.out⟩
  case round =>
    obtain ⟨k, hk, rfl, hJs, hI⟩ := hrel
    by_cases hlt : k < N
    · obtain ⟨⟨f, t⟩, hp⟩ : ∃ p, m[k]? = some p := ⟨_, List.getElem?_eq_getElem (by have := HN.out; omega)⟩
      obtain ⟨g, c, hv, c0, c1'⟩ := hI.at hp
      injection hv with hv _ hc
      subst hv hc
      have hI1 := hI.alloc (.cells #[.int .i64 f, .int .i64 t] 23)
      obtain ⟨fn, tmps, assign, body, hy, hR⟩ := hY _ f _ (hJa _ _ (.cells #[.int .i64 f, .int .i64 t] 23) hJs) (pre_lt (bord_pre1 hp))
      have HJ := Lib.hid hI1
      have HP := Lib.hid hp
      clear hI1 hp hI hJs
      have b0 : (wr.alloc (.cells #[.int .i64 f, .int .i64 t] 23)).heap[wr.heap.size]? = some (.cells #[.int .i64 f, .int .i64 t] 23 (0, 0)) := heap_alloc_new wr _
      gi_wp2
      refine hR.mono ?_
      rintro e W3 (⟨rfl, hJ3, hk3⟩ | ⟨rfl, hJx3⟩)
      · have HJ3 := Lib.hid (HJ.out.keptK hk3)
        have b3 := hk3 _ _ _ (.inr rfl) b0
        have d1 : W3.cell? ⟨wr.heap.size, 1, none⟩ = some (.int .i64 t) := by simp [World.cell?, b3]
        obtain ⟨fn2, tmps2, assign2, body2, hy2, hR2⟩ := hY _ t W3 hJ3 (pre_lt (x := t) (by rw [List.append_assoc]; rw [show ([f] : List Int) ++ [t] = [f, t] from rfl, ← bord_upto HP.out]; exact bord_pre m (k + 1)))
        gi_wp2
        refine hR2.mono ?_
        rintro e W4 (⟨rfl, hJ4, hk4⟩ | ⟨rfl, hJx4⟩)
        · gi_wp2
          go_roundw
          case rel => exact ⟨k + 1, by omega, by simp, by rw [bord_upto HP.out]; simpa using hJ4, HJ3.out.keptK hk4⟩
          case measure => simp [intOf]; omega
        · gi_wp2
          refine bodyPost_ret (results_none rfl _ _ _) rfl ?_
          exact ⟨⟨_, rfl⟩, .inr ⟨_, by rw [List.append_assoc, show ([f] : List Int) ++ [t] = [f, t] from rfl, ← bord_upto HP.out]; exact bord_pre m (k + 1), hJx4⟩⟩
      · gi_wp2
        refine ⟨fun _ h => (by cases h), ?_⟩
        gi_wp2
        refine bodyPost_ret (results_none rfl _ _ _) rfl ?_
        exact ⟨⟨_, rfl⟩, .inr ⟨_, bord_pre1 HP.out, hJx3⟩⟩
    · gi_wp2
      go_end0
      exact ⟨⟨_, rfl⟩, .inl ⟨_, rfl, by have h : bord (m.take k) = bord m := by rw [List.take_of_length_le (by have := HN.out; omega)]
                                        rw [← h]; exact hJs⟩⟩

theorem borders_stops (F : Fence) (n : Nat) (hf : F.fn 78) (hro : F.round = none) (hn : 1 ≤ n) (B base : Nat) (v : Value) (m : List Sp) (hm : m.length ≤ 1000000) (w : World) (hI : It B base v m w) :
    SeqStopsK F n Tryz.prog 78 #[.pointer (some ⟨B, 0, none⟩)] (fun x : Int => #[Value.int .i64 x]) KpS (fun ys => ys = bord m) (fun pre => pre <+: bord m) (bord m).length w := fun l J Jx W hW hJ _ hY h0 =>
  borders_in F n hf hro hn l B base v m hm J Jx hY W (hI.keptK fun b cur t _ hb => (hW.block b (Array.getElem?_eq_some_iff.1 hb).1).trans hb) (fun pre W1 o h => hJ _ _ _ none h (World.grownBy_alloc W1 o none) (by simp)) h0

end Go.Proofs.YtaoobliajgcdmaaGreat.Co

/-
  turns: the ends of two lists' covers, each with its list's number, by their times.
-/
namespace Go.Proofs.YtaoobliajgcdmaaGreat.Co
open Go.RowKit Go.Sort Go.Shelf

attribute [local go_sem] Oper.semAt_some

theorem KpS.appended {W w1 : World} {n₀ B : Nat} {t e : TypeId} {size k : Nat} {v v' : Value} {xs : List Value} {tmp : Obj} (ht1 : t ≠ 40) (ht2 : t ≠ 23) (he1 : e ≠ 40) (he2 : e ≠ 23)
    (hrow : W.ownsRow n₀ e size v k xs) (hgrow : (W.alloc tmp).grownBy w1 v.ownBlock) (hv1 : Boxed w1 B t v) : KpS W (w1.setCell ⟨B, 0, none⟩ v') := by
  refine ((KpS.alloc W tmp).trans (KpS.grown hgrow fun g hg => ?_)).trans (KpS.set hv1 ht1 ht2 v')
  rcases (hrow.alloc tmp).2 with ⟨rfl, _⟩ | ⟨g', cap, cur, rfl, _, hgb, _⟩
  · simp [Value.ownBlock] at hg
  · obtain rfl : g' = g := by simpa [Value.ownBlock] using hg
    exact ⟨cur, e, he1, he2, hgb⟩

/-- The turns that have come. -/
def tnL (L0 : List Sp) (i : Int) (pre : List Int) : List Sp := L0 ++ pre.map fun t => (t, i)
theorem tnL_snoc (L0 : List Sp) (i : Int) (pre : List Int) (x : Int) : tnL L0 i (pre ++ [x]) = tnL L0 i pre ++ [(x, i)] := by simp [tnL]
theorem tnL_length (L0 : List Sp) (i : Int) (pre : List Int) : (tnL L0 i pre).length = L0.length + pre.length := by simp [tnL]
theorem heapD_own (D : Nat) (o : Obj) {B : Nat} (hD : D < B) : OwnFrom B (fun (_ : List Int) W => W.heap[D]? = some o) := fun s A C row hs hg hr =>
  (hg.block D (Array.getElem?_eq_some_iff.1 hs).1 (fun e => by have := (hr D e.symm).1; omega)).trans hs
theorem own_raise {w : World} {b e size n : Nat} {v : Value} {xs : List Value} (h : w.ownsRow b e size v n xs) (hb : some b ≠ v.ownBlock) : w.ownsRow (b + 1) e size v n xs := by
  refine ⟨h.1, ?_⟩
  rcases h.2 with h2 | ⟨g, cap, cur, rfl, hg, r⟩
  · exact .inl h2
  · refine .inr ⟨g, cap, cur, rfl, ?_, r⟩
    have : b ≠ g := fun e => hb (by simp [Value.ownBlock, e])
    omega

/-- What turns leaves. -/
def TurnsPost (a b : List Sp) (w : World) (e : Ending) (w' : World) : Prop :=
  ∃ A c s ma mb, e = .returned (.slice A s.length c) ∧ Spans w' A s ∧ s.Perm (tnOf ma mb) ∧ Sorted s ∧ CovOf ma (Mem a) ∧ CovOf mb (Mem b) ∧ s.length ≤ 2 * a.length + 2 * b.length ∧ (∀ g off, A = some ⟨g, off, none⟩ → w.heap.size ≤ g ∧ g < w'.heap.size) ∧ Below w.heap.size w w'

theorem Spans.putObj {W : World} {A : Option Addr} {l : List Sp} {D : Nat} {o : Obj} (h : Spans W A l) (hD : W.heap[D]? = some o) (ho : o.isCells = false) (o' : Obj) : Spans (W.putObj D o') A l := fun i p hp => by
  obtain ⟨g, off, rfl, c0, c1⟩ := h i p hp
  exact ⟨g, off, rfl, cell_kept c0 (grownBy_putObj' W D o') (fun r e => by cases e; exact ⟨_, hD, ho⟩), cell_kept c1 (grownBy_putObj' W D o') (fun r e => by cases e; exact ⟨_, hD, ho⟩)⟩

end Go.Proofs.YtaoobliajgcdmaaGreat.Co

/-
  The document's lay: a field is laid into a list whose names rise. (Made by wip/gen/flay.py.)
-/
namespace Go.Proofs.YtaoobliajgcdmaaGreat
open Go.RowKit

theorem belowN' {B : Nat} {a w : World} (h : Below B a w) (n : Nat) : Below B a (w.drewN n) := ⟨h.os, h.tape, h.output, h.size, h.block⟩
theorem abstract_worldF {P : Program} {code : Code} {Q : Exit → Act → World → Prop} {a : Act} {w : World} (R : World → Prop) (h0 : R w) (h : ∀ W, R W → Code.wp P code Q a W) : Code.wp P code Q a w := h w h0
/-- All that stand ahead of place k have names that are less. -/
def LessF (l : List Fd) (x : Fd) (k : Nat) : Prop := ∀ j f, j < k → l[j]? = some f → aheadB f.n x.n = true
theorem LessF.next {l : List Fd} {x f : Fd} {k : Nat} (h : LessF l x k) (hf : l[k]? = some f) (ha : aheadB f.n x.n = true) : LessF l x (k + 1) := fun j g hj hg => by
  rcases Nat.lt_or_ge j k with h1 | h1
  · exact h j g h1 hg
  · obtain rfl : j = k := by omega
    rw [hf] at hg
    injection hg with hg
    rw [← hg]; exact ha
theorem layL_at : ∀ (l : List Fd) (x : Fd) (k : Nat), LessF l x k → k ≤ l.length → layL l x = l.take k ++ layL (l.drop k) x
  | l, x, 0, _, _ => rfl
  | [], x, k + 1, _, h => by simp at h
  | f :: l, x, k + 1, h, hk => by
    have ha := h 0 f (by omega) rfl
    have ih := layL_at l x k (fun j g hj hg => h (j + 1) g (by omega) (by simpa using hg)) (by simpa using hk)
    rw [layL, if_pos ha, ih]
    rfl
theorem layL_end {l : List Fd} {x : Fd} (h : LessF l x l.length) : layL l x = l.take l.length ++ x :: [] := by
  rw [layL_at l x l.length h (Nat.le_refl _), List.drop_length]
  rfl
theorem layL_mid {l : List Fd} {x f : Fd} {k : Nat} (h : LessF l x k) (hf : l[k]? = some f) (h1 : aheadB f.n x.n = false) (h2 : nats f.n ≠ nats x.n) : layL l x = l.take k ++ x :: l.drop k := by
  have hk : k < l.length := by
    rcases Nat.lt_or_ge k l.length with h' | h'
    · exact h'
    · rw [List.getElem?_eq_none h'] at hf; cases hf
  rw [layL_at l x k h (by omega), drop_consF hf, layL, if_neg (by rw [h1]; simp), if_neg h2]
theorem layL_same {l : List Fd} {x f : Fd} {k : Nat} (h : LessF l x k) (hf : l[k]? = some f) (h2 : nats f.n = nats x.n) : layL l x = l.take k ++ x :: l.drop (k + 1) := by
  have hk : k < l.length := by
    rcases Nat.lt_or_ge k l.length with h' | h'
    · exact h'
    · rw [List.getElem?_eq_none h'] at hf; cases hf
  rw [layL_at l x k h (by omega), drop_consF hf, layL, if_neg (fun h1 => ahead_ne h1 h2), if_pos h2]

set_option maxHeartbeats 4000000 in
set_option maxRecDepth 10000 in
theorem dlay_any (w : World) (A : Option Addr) (c : Nat) (l : List Fd) (x : Fd) (hl : Fields w A l) (hcap : l.length ≤ c) (hnc : A = none → c = 0) (hn : l.length ≤ 100000) :
    Calls Tryz.prog 94 #[.slice A l.length c, fv x] w fun e w' => ∃ v, e = .returned v ∧ ownF w' w.heap.size v (layL l x) ∧ Below w.heap.size w w' := by
  have HB0 := Lib.hid (show Below w.heap.size w (w.alloc (oc x)) from (bl w).alloc (Nat.le_refl _) _)
  have HL := Lib.hid hl
  have HCN := Lib.hid hnc
  obtain ⟨n, hnm⟩ : ∃ n, l.length = n := ⟨_, rfl⟩
  have hn' : n ≤ 100000 := by omega
  have hcap' : n ≤ c := by omega
  rw [hnm]
  have HN := Lib.hid hnm
  clear hl hnc hcap hn hnm
  go_enter Tryz.func94, Tryz.ntmps94
  go_wp2_with fail
  refine abstract_worldF (fun W0 => Below w.heap.size w W0 ∧ Fields W0 A l ∧ W0.cell? ⟨w.heap.size, 0, none⟩ = some (.string x.n) ∧ W0.cell? ⟨w.heap.size, 1, none⟩ = some (.int .i64 x.v)) ⟨HB0.out, HL.out.below HB0.out, by simp [go_sem], by simp [go_sem]⟩ ?_
  rintro W0 ⟨hB0, hL0, x0, x1⟩
  have HBW0 := Lib.hid hB0
  have HLW0 := Lib.hid hL0
  clear hB0 hL0 HL HB0
  go_loopw [5] (fun i wr => ∃ k : Nat, k ≤ n ∧ i = .int .i64 k ∧ LessF l x k ∧ ∃ q, wr = W0.drewN q) (fun i _ => n - (intOf i).toNat)
  case atStart => exact ⟨0, Nat.zero_le _, rfl, fun j y hj => absurd hj (by omega), 0, rfl⟩
  case round =>
    obtain ⟨k, hk, rfl, hless, q, rfl⟩ := hrel
    have HLS := Lib.hid hless
    have HKL := Lib.hid (show k ≤ l.length by have := HN.out; omega)
    clear hless
    have k0 : (0 : Int) ≤ (k : Int) := by omega
    have k3 : (k : Int) ≤ (c : Int) := by omega
    have k4 : (k : Int) ≤ (n : Int) := by omega
    have k2 : (n : Int) ≤ (c : Int) := by omega
    by_cases hlt : k < n
    · obtain ⟨f, hf⟩ : ∃ f, l[k]? = some f := ⟨_, List.getElem?_eq_getElem (by have := HN.out; omega)⟩
      obtain ⟨g, off, rfl, c0, c1⟩ := HLW0.out k f hf
      have e1 := less_nats f.n x.n
      have HF := Lib.hid hf
      clear hf
      cases ha : aheadB f.n x.n with
      | true =>
        rw [show lessN (nats f.n) (nats x.n) = true from ha] at e1
        have NX := Lib.hid (HLS.out.next HF.out ha)
        clear ha
        go_wp2_with fail
        go_quiet (fail)
        go_wp2_with fail
        exact ⟨⟨k + 1, by omega, by go_num, NX.out, _, rfl⟩, by simp [intOf] <;> omega⟩
      | false =>
        rw [show lessN (nats f.n) (nats x.n) = false from ha] at e1
        have hs1 : IntKind.i64.wrap ((k : Int) + 1) = (k : Int) + 1 := IntWalk.i64_in _ (by omega)
        by_cases hq : nats f.n = nats x.n
        · have HNX0 := Lib.hid (layL_same HLS.out HF.out hq)
          have he : (f.n.toList == x.n.toList) = true := by rw [beq_iff_eq]; exact bytes_is.2 hq
          obtain ⟨rest, hrest⟩ : ∃ rest, l.drop (k + 1) = rest := ⟨_, rfl⟩
          have HNX := Lib.hid (show layL l x = l.take k ++ x :: rest by rw [HNX0.out, hrest])
          have HRT := Lib.hid hrest
          have hrl : rest.length + (k + 1) = n := by rw [← hrest, List.length_drop]; have := HN.out; omega
          clear hq ha hrest
          by_cases hc1 : c = k + 1
          · have ck : ¬ c = k := by omega
            go_wp2_with fail
            go_quiet (fail)
            go_wp2_with fail
            go_quiet (fail)
            go_wp2_with fail
            refine abstract_worldF (fun W => Below w.heap.size w W ∧ Fields W (some ⟨g, off, none⟩) l ∧ W.cell? ⟨w.heap.size, 0, none⟩ = some (.string x.n) ∧ W.cell? ⟨w.heap.size, 1, none⟩ = some (.int .i64 x.v)) ⟨by first | exact belowN' (belowN' HBW0.out _) _ | exact belowN' HBW0.out _, HLW0.out.below (by first | exact belowN' (belowN' (bl W0) _) _ | exact belowN' (bl W0) _), x0, x1⟩ ?_
            rintro W ⟨hBW, hOW, y0, y1⟩
            have MK := Lib.hid (show ∀ w', Below W.heap.size W w' → (Below W.heap.size W w' ∧ w'.cell? ⟨w.heap.size, 0, none⟩ = some (.string x.n) ∧ w'.cell? ⟨w.heap.size, 1, none⟩ = some (.int .i64 x.v)) from fun w' h => ⟨h, keepc h y0, keepc h y1⟩)
            have HTL := Lib.hid (show Fields W (some ⟨g, off, none⟩) rest by rw [List.eq_nil_of_length_eq_zero (show rest.length = 0 by omega)]; exact Fields.nil _ _)
            have HRL := Lib.hid (show n - (k + 1) = rest.length by omega)
            have hcn' : some (⟨g, off, none⟩ : Addr) = none → 0 = 0 := fun _ => rfl
            have HC1 := Lib.hid hc1
            clear hc1
            have HHD := Lib.hid (hOW.take k)
            clear hOW
            go_region_held3 (fun w' => Below W.heap.size W w' ∧ w'.cell? ⟨w.heap.size, 0, none⟩ = some (.string x.n) ∧ w'.cell? ⟨w.heap.size, 1, none⟩ = some (.int .i64 x.v))
              (first | exact MK.out _ ((Below.refl _ _).drew) | exact MK.out _ hb3 | exact MK.out _ hb2 | exact MK.out _ (hb1.alloc hb1.size _) | exact MK.out _ hb1 | exact MK.out _ (by go_grown) | fail)
              (first
                | (refine step_appF rfl (.tmp 44) (.tmp 47) rfl (base := W.heap.size) rfl (own_f1 W) rfl (List.length_take_of_le HKL.out).symm (HHD.out.below (by go_split_ands; assumption)) HCN.out (by simp; omega) (by simp) ?_; intro v1 w1 hown1 hg1 hat1; have hb1 : Below W.heap.size W w1 := below_grownF (by go_split_ands; assumption) hg1 (fun r hr => ((own_f1 W).lt r hr).1))
                | (refine step_appF rfl (.tmp 44) (.tmp 47) rfl (base := W.heap.size) rfl (own_f2 W x) rfl (List.length_take_of_le HKL.out).symm (HHD.out.below (by go_split_ands; assumption)) HCN.out (by simp; omega) (by simp; omega) ?_; intro v1 w1 hown1 hg1 hat1; have hb1 : Below W.heap.size W w1 := below_grownF (by go_split_ands; assumption) hg1 (fun r hr => ((own_f2 W x).lt r hr).1); have HX1 := Lib.hid (x_f2 hg1))
                | (refine step_appF rfl (.tmp 44) (.tmp 47) rfl (base := W.heap.size) rfl (own_f3 W x) rfl (List.length_take_of_le HKL.out).symm (HHD.out.below (by go_split_ands; assumption)) HCN.out (by simp; omega) (by simp; omega) ?_; intro v1 w1 hown1 hg1 hat1; have hb1 : Below W.heap.size W w1 := below_grownF (by go_split_ands; assumption) hg1 (fun r hr => ((own_f3 W x).lt r hr).1); have HX1 := Lib.hid (x_f3 hg1))
                | (refine step_appF rfl (.tmp 48) (.tmp 50) rfl (base := W.heap.size) rfl (World.ownsRow.alloc hown1 _) rfl rfl (field_one w1 x _) (by simp) (by simp; omega) (by have := hb1.size; simp; omega) ?_; intro v2 w2 hown2 hg2 hat2; have hb2 : Below W.heap.size W w2 := below_grownF (hb1.alloc hb1.size _) hg2 (fun r hr => (hown1.lt r hr).1))
                | (refine step_appF rfl (.tmp 48) (.tmp 50) rfl (base := W.heap.size) rfl hown1 rfl rfl HX1.out (by simp) (by simp; omega) hb1.size ?_; intro v2 w2 hown2 hg2 hat2; have hb2 : Below W.heap.size W w2 := below_grownF hb1 hg2 (fun r hr => (hown1.lt r hr).1))
                | (refine step_appF rfl (.tmp 51) (.tmp 52) rfl (base := W.heap.size) rfl hown2 rfl HRL.out (HTL.out.below hb2) hcn' (by simp; omega) hb2.size ?_; intro v3 w3 hown3 hg3 hat3; have hb3 : Below W.heap.size W w3 := below_grownF hb2 hg3 (fun r hr => (hown2.lt r hr).1))
                | fail)
            all_goals
              go_wp2_with fail
              go_ret
              exact ⟨_, rfl, by rw [HNX.out]; exact own_lowerF hBW.size (by rw [show l.take k ++ x :: rest = [] ++ l.take k ++ [x] ++ rest from by simp]; exact hown3), hBW.trans (hb3.mono hBW.size)⟩
          · have ck2 : ¬ c - (k + 1) = 0 := by omega
            have ck : ¬ c = k := by omega
            go_wp2_with fail
            go_quiet (fail)
            go_wp2_with fail
            go_quiet (fail)
            go_wp2_with fail
            refine abstract_worldF (fun W => Below w.heap.size w W ∧ Fields W (some ⟨g, off, none⟩) l ∧ W.cell? ⟨w.heap.size, 0, none⟩ = some (.string x.n) ∧ W.cell? ⟨w.heap.size, 1, none⟩ = some (.int .i64 x.v)) ⟨by first | exact belowN' (belowN' HBW0.out _) _ | exact belowN' HBW0.out _, HLW0.out.below (by first | exact belowN' (belowN' (bl W0) _) _ | exact belowN' (bl W0) _), x0, x1⟩ ?_
            rintro W ⟨hBW, hOW, y0, y1⟩
            have MK := Lib.hid (show ∀ w', Below W.heap.size W w' → (Below W.heap.size W w' ∧ w'.cell? ⟨w.heap.size, 0, none⟩ = some (.string x.n) ∧ w'.cell? ⟨w.heap.size, 1, none⟩ = some (.int .i64 x.v)) from fun w' h => ⟨h, keepc h y0, keepc h y1⟩)
            have HTL := Lib.hid (show Fields W (some ⟨g, off + (k + 1) * 2, none⟩) rest by rw [← HRT.out]; exact hOW.drop (k + 1))
            have HRL := Lib.hid (show n - (k + 1) = rest.length by omega)
            have hcn' : some (⟨g, off + (k + 1) * 2, none⟩ : Addr) = none → c - (k + 1) = 0 := by simp
            have HHD := Lib.hid (hOW.take k)
            clear hOW
            go_region_held3 (fun w' => Below W.heap.size W w' ∧ w'.cell? ⟨w.heap.size, 0, none⟩ = some (.string x.n) ∧ w'.cell? ⟨w.heap.size, 1, none⟩ = some (.int .i64 x.v))
              (first | exact MK.out _ ((Below.refl _ _).drew) | exact MK.out _ hb3 | exact MK.out _ hb2 | exact MK.out _ (hb1.alloc hb1.size _) | exact MK.out _ hb1 | exact MK.out _ (by go_grown) | fail)
              (first
                | (refine step_appF rfl (.tmp 44) (.tmp 47) rfl (base := W.heap.size) rfl (own_f1 W) rfl (List.length_take_of_le HKL.out).symm (HHD.out.below (by go_split_ands; assumption)) HCN.out (by simp; omega) (by simp) ?_; intro v1 w1 hown1 hg1 hat1; have hb1 : Below W.heap.size W w1 := below_grownF (by go_split_ands; assumption) hg1 (fun r hr => ((own_f1 W).lt r hr).1))
                | (refine step_appF rfl (.tmp 44) (.tmp 47) rfl (base := W.heap.size) rfl (own_f2 W x) rfl (List.length_take_of_le HKL.out).symm (HHD.out.below (by go_split_ands; assumption)) HCN.out (by simp; omega) (by simp; omega) ?_; intro v1 w1 hown1 hg1 hat1; have hb1 : Below W.heap.size W w1 := below_grownF (by go_split_ands; assumption) hg1 (fun r hr => ((own_f2 W x).lt r hr).1); have HX1 := Lib.hid (x_f2 hg1))
                | (refine step_appF rfl (.tmp 44) (.tmp 47) rfl (base := W.heap.size) rfl (own_f3 W x) rfl (List.length_take_of_le HKL.out).symm (HHD.out.below (by go_split_ands; assumption)) HCN.out (by simp; omega) (by simp; omega) ?_; intro v1 w1 hown1 hg1 hat1; have hb1 : Below W.heap.size W w1 := below_grownF (by go_split_ands; assumption) hg1 (fun r hr => ((own_f3 W x).lt r hr).1); have HX1 := Lib.hid (x_f3 hg1))
                | (refine step_appF rfl (.tmp 48) (.tmp 50) rfl (base := W.heap.size) rfl (World.ownsRow.alloc hown1 _) rfl rfl (field_one w1 x _) (by simp) (by simp; omega) (by have := hb1.size; simp; omega) ?_; intro v2 w2 hown2 hg2 hat2; have hb2 : Below W.heap.size W w2 := below_grownF (hb1.alloc hb1.size _) hg2 (fun r hr => (hown1.lt r hr).1))
                | (refine step_appF rfl (.tmp 48) (.tmp 50) rfl (base := W.heap.size) rfl hown1 rfl rfl HX1.out (by simp) (by simp; omega) hb1.size ?_; intro v2 w2 hown2 hg2 hat2; have hb2 : Below W.heap.size W w2 := below_grownF hb1 hg2 (fun r hr => (hown1.lt r hr).1))
                | (refine step_appF rfl (.tmp 51) (.tmp 52) rfl (base := W.heap.size) rfl hown2 rfl HRL.out (HTL.out.below hb2) hcn' (by simp; omega) hb2.size ?_; intro v3 w3 hown3 hg3 hat3; have hb3 : Below W.heap.size W w3 := below_grownF hb2 hg3 (fun r hr => (hown2.lt r hr).1))
                | fail)
            all_goals
              go_wp2_with fail
              go_ret
              exact ⟨_, rfl, by rw [HNX.out]; exact own_lowerF hBW.size (by rw [show l.take k ++ x :: rest = [] ++ l.take k ++ [x] ++ rest from by simp]; exact hown3), hBW.trans (hb3.mono hBW.size)⟩
        · have HNX0 := Lib.hid (layL_mid HLS.out HF.out ha hq)
          have he : (f.n.toList == x.n.toList) = false := by rw [beq_eq_false_iff_ne]; exact fun e => hq (bytes_is.1 e)
          obtain ⟨rest, hrest⟩ : ∃ rest, l.drop k = rest := ⟨_, rfl⟩
          have HNX := Lib.hid (show layL l x = l.take k ++ x :: rest by rw [HNX0.out, hrest])
          have HRT := Lib.hid hrest
          have hrl : rest.length + k = n := by rw [← hrest, List.length_drop]; have := HN.out; omega
          clear hq ha hrest
          have ck : ¬ c = k := by omega
          go_wp2_with fail
          go_quiet (fail)
          go_wp2_with fail
          go_quiet (fail)
          go_wp2_with fail
          refine abstract_worldF (fun W => Below w.heap.size w W ∧ Fields W (some ⟨g, off, none⟩) l ∧ W.cell? ⟨w.heap.size, 0, none⟩ = some (.string x.n) ∧ W.cell? ⟨w.heap.size, 1, none⟩ = some (.int .i64 x.v)) ⟨by first | exact belowN' (belowN' HBW0.out _) _ | exact belowN' HBW0.out _, HLW0.out.below (by first | exact belowN' (belowN' (bl W0) _) _ | exact belowN' (bl W0) _), x0, x1⟩ ?_
          rintro W ⟨hBW, hOW, y0, y1⟩
          have MK := Lib.hid (show ∀ w', Below W.heap.size W w' → (Below W.heap.size W w' ∧ w'.cell? ⟨w.heap.size, 0, none⟩ = some (.string x.n) ∧ w'.cell? ⟨w.heap.size, 1, none⟩ = some (.int .i64 x.v)) from fun w' h => ⟨h, keepc h y0, keepc h y1⟩)
          have HTL := Lib.hid (show Fields W (some ⟨g, off + k * 2, none⟩) rest by rw [← HRT.out]; exact hOW.drop k)
          have HRL := Lib.hid (show n - k = rest.length by omega)
          have hcn' : some (⟨g, off + k * 2, none⟩ : Addr) = none → c - k = 0 := by simp
          have HHD := Lib.hid (hOW.take k)
          clear hOW
          go_region_held3 (fun w' => Below W.heap.size W w' ∧ w'.cell? ⟨w.heap.size, 0, none⟩ = some (.string x.n) ∧ w'.cell? ⟨w.heap.size, 1, none⟩ = some (.int .i64 x.v))
            (first | exact MK.out _ ((Below.refl _ _).drew) | exact MK.out _ hb3 | exact MK.out _ hb2 | exact MK.out _ (hb1.alloc hb1.size _) | exact MK.out _ hb1 | exact MK.out _ (by go_grown) | fail)
            (first
              | (refine step_appF rfl (.tmp 44) (.tmp 47) rfl (base := W.heap.size) rfl (own_f1 W) rfl (List.length_take_of_le HKL.out).symm (HHD.out.below (by go_split_ands; assumption)) HCN.out (by simp; omega) (by simp) ?_; intro v1 w1 hown1 hg1 hat1; have hb1 : Below W.heap.size W w1 := below_grownF (by go_split_ands; assumption) hg1 (fun r hr => ((own_f1 W).lt r hr).1))
              | (refine step_appF rfl (.tmp 44) (.tmp 47) rfl (base := W.heap.size) rfl (own_f2 W x) rfl (List.length_take_of_le HKL.out).symm (HHD.out.below (by go_split_ands; assumption)) HCN.out (by simp; omega) (by simp; omega) ?_; intro v1 w1 hown1 hg1 hat1; have hb1 : Below W.heap.size W w1 := below_grownF (by go_split_ands; assumption) hg1 (fun r hr => ((own_f2 W x).lt r hr).1); have HX1 := Lib.hid (x_f2 hg1))
              | (refine step_appF rfl (.tmp 44) (.tmp 47) rfl (base := W.heap.size) rfl (own_f3 W x) rfl (List.length_take_of_le HKL.out).symm (HHD.out.below (by go_split_ands; assumption)) HCN.out (by simp; omega) (by simp; omega) ?_; intro v1 w1 hown1 hg1 hat1; have hb1 : Below W.heap.size W w1 := below_grownF (by go_split_ands; assumption) hg1 (fun r hr => ((own_f3 W x).lt r hr).1); have HX1 := Lib.hid (x_f3 hg1))
              | (refine step_appF rfl (.tmp 48) (.tmp 50) rfl (base := W.heap.size) rfl (World.ownsRow.alloc hown1 _) rfl rfl (field_one w1 x _) (by simp) (by simp; omega) (by have := hb1.size; simp; omega) ?_; intro v2 w2 hown2 hg2 hat2; have hb2 : Below W.heap.size W w2 := below_grownF (hb1.alloc hb1.size _) hg2 (fun r hr => (hown1.lt r hr).1))
              | (refine step_appF rfl (.tmp 48) (.tmp 50) rfl (base := W.heap.size) rfl hown1 rfl rfl HX1.out (by simp) (by simp; omega) hb1.size ?_; intro v2 w2 hown2 hg2 hat2; have hb2 : Below W.heap.size W w2 := below_grownF hb1 hg2 (fun r hr => (hown1.lt r hr).1))
              | (refine step_appF rfl (.tmp 51) (.tmp 52) rfl (base := W.heap.size) rfl hown2 rfl HRL.out (HTL.out.below hb2) hcn' (by simp; omega) hb2.size ?_; intro v3 w3 hown3 hg3 hat3; have hb3 : Below W.heap.size W w3 := below_grownF hb2 hg3 (fun r hr => (hown2.lt r hr).1))
              | fail)
          all_goals
            go_wp2_with fail
            go_ret
            exact ⟨_, rfl, by rw [HNX.out]; exact own_lowerF hBW.size (by rw [show l.take k ++ x :: rest = [] ++ l.take k ++ [x] ++ rest from by simp]; exact hown3), hBW.trans (hb3.mono hBW.size)⟩
    · have ck : decide (k < n) = false := by rw [decide_eq_false_iff_not]; exact hlt
      obtain rfl : k = n := by omega
      obtain ⟨rest, hrest⟩ : ∃ rest : List Fd, rest = [] := ⟨_, rfl⟩
      have HNX := Lib.hid (show layL l x = l.take k ++ x :: rest by have := layL_end (l := l) (x := x) (by rw [HN.out]; exact HLS.out); rw [HN.out] at this; rw [hrest]; exact this)
      have HRT := Lib.hid hrest
      have hrl : rest.length = 0 := by rw [hrest]; rfl
      have hd : decide (k < k) = false := by simp
      clear hrest hlt
      by_cases hc0 : c = k
      · have hc1 := hc0.symm
        subst hc1
        go_wp2_with fail
        go_quiet (fail)
        go_wp2_with fail
        go_quiet (fail)
        go_wp2_with fail
        refine abstract_worldF (fun W => Below w.heap.size w W ∧ Fields W A l ∧ W.cell? ⟨w.heap.size, 0, none⟩ = some (.string x.n) ∧ W.cell? ⟨w.heap.size, 1, none⟩ = some (.int .i64 x.v)) ⟨by first | exact belowN' (belowN' HBW0.out _) _ | exact belowN' HBW0.out _, HLW0.out.below (by first | exact belowN' (belowN' (bl W0) _) _ | exact belowN' (bl W0) _), x0, x1⟩ ?_
        rintro W ⟨hBW, hOW, y0, y1⟩
        have MK := Lib.hid (show ∀ w', Below W.heap.size W w' → (Below W.heap.size W w' ∧ w'.cell? ⟨w.heap.size, 0, none⟩ = some (.string x.n) ∧ w'.cell? ⟨w.heap.size, 1, none⟩ = some (.int .i64 x.v)) from fun w' h => ⟨h, keepc h y0, keepc h y1⟩)
        have HTL := Lib.hid (show Fields W A rest by rw [HRT.out]; exact Fields.nil _ _)
        have HRL := Lib.hid (show 0 = rest.length by omega)
        have hcn' : A = none → 0 = 0 := fun _ => rfl
        have HHD := Lib.hid (hOW.take k)
        clear hOW
        go_region_held3 (fun w' => Below W.heap.size W w' ∧ w'.cell? ⟨w.heap.size, 0, none⟩ = some (.string x.n) ∧ w'.cell? ⟨w.heap.size, 1, none⟩ = some (.int .i64 x.v))
          (first | exact MK.out _ ((Below.refl _ _).drew) | exact MK.out _ hb3 | exact MK.out _ hb2 | exact MK.out _ (hb1.alloc hb1.size _) | exact MK.out _ hb1 | exact MK.out _ (by go_grown) | fail)
          (first
            | (refine step_appF rfl (.tmp 44) (.tmp 47) rfl (base := W.heap.size) rfl (own_f1 W) rfl (List.length_take_of_le HKL.out).symm (HHD.out.below (by go_split_ands; assumption)) HCN.out (by simp; omega) (by simp) ?_; intro v1 w1 hown1 hg1 hat1; have hb1 : Below W.heap.size W w1 := below_grownF (by go_split_ands; assumption) hg1 (fun r hr => ((own_f1 W).lt r hr).1))
            | (refine step_appF rfl (.tmp 44) (.tmp 47) rfl (base := W.heap.size) rfl (own_f2 W x) rfl (List.length_take_of_le HKL.out).symm (HHD.out.below (by go_split_ands; assumption)) HCN.out (by simp; omega) (by simp; omega) ?_; intro v1 w1 hown1 hg1 hat1; have hb1 : Below W.heap.size W w1 := below_grownF (by go_split_ands; assumption) hg1 (fun r hr => ((own_f2 W x).lt r hr).1); have HX1 := Lib.hid (x_f2 hg1))
            | (refine step_appF rfl (.tmp 44) (.tmp 47) rfl (base := W.heap.size) rfl (own_f3 W x) rfl (List.length_take_of_le HKL.out).symm (HHD.out.below (by go_split_ands; assumption)) HCN.out (by simp; omega) (by simp; omega) ?_; intro v1 w1 hown1 hg1 hat1; have hb1 : Below W.heap.size W w1 := below_grownF (by go_split_ands; assumption) hg1 (fun r hr => ((own_f3 W x).lt r hr).1); have HX1 := Lib.hid (x_f3 hg1))
            | (refine step_appF rfl (.tmp 48) (.tmp 50) rfl (base := W.heap.size) rfl (World.ownsRow.alloc hown1 _) rfl rfl (field_one w1 x _) (by simp) (by simp; omega) (by have := hb1.size; simp; omega) ?_; intro v2 w2 hown2 hg2 hat2; have hb2 : Below W.heap.size W w2 := below_grownF (hb1.alloc hb1.size _) hg2 (fun r hr => (hown1.lt r hr).1))
            | (refine step_appF rfl (.tmp 48) (.tmp 50) rfl (base := W.heap.size) rfl hown1 rfl rfl HX1.out (by simp) (by simp; omega) hb1.size ?_; intro v2 w2 hown2 hg2 hat2; have hb2 : Below W.heap.size W w2 := below_grownF hb1 hg2 (fun r hr => (hown1.lt r hr).1))
            | (refine step_appF rfl (.tmp 51) (.tmp 52) rfl (base := W.heap.size) rfl hown2 rfl HRL.out (HTL.out.below hb2) hcn' (by simp; omega) hb2.size ?_; intro v3 w3 hown3 hg3 hat3; have hb3 : Below W.heap.size W w3 := below_grownF hb2 hg3 (fun r hr => (hown2.lt r hr).1))
            | fail)
        all_goals
          go_wp2_with fail
          go_ret
          exact ⟨_, rfl, by rw [HNX.out]; exact own_lowerF hBW.size (by rw [show l.take k ++ x :: rest = [] ++ l.take k ++ [x] ++ rest from by simp]; exact hown3), hBW.trans (hb3.mono hBW.size)⟩
      · go_wp2_with fail
        go_quiet (fail)
        go_wp2_with fail
        go_quiet (fail)
        go_wp2_with fail
        refine abstract_worldF (fun W => Below w.heap.size w W ∧ Fields W A l ∧ W.cell? ⟨w.heap.size, 0, none⟩ = some (.string x.n) ∧ W.cell? ⟨w.heap.size, 1, none⟩ = some (.int .i64 x.v)) ⟨by first | exact belowN' (belowN' HBW0.out _) _ | exact belowN' HBW0.out _, HLW0.out.below (by first | exact belowN' (belowN' (bl W0) _) _ | exact belowN' (bl W0) _), x0, x1⟩ ?_
        rintro W ⟨hBW, hOW, y0, y1⟩
        have MK := Lib.hid (show ∀ w', Below W.heap.size W w' → (Below W.heap.size W w' ∧ w'.cell? ⟨w.heap.size, 0, none⟩ = some (.string x.n) ∧ w'.cell? ⟨w.heap.size, 1, none⟩ = some (.int .i64 x.v)) from fun w' h => ⟨h, keepc h y0, keepc h y1⟩)
        have HTL := Lib.hid (show Fields W (Option.map (fun x => x.add (k * 2)) A) rest by rw [HRT.out]; exact Fields.nil _ _)
        have HRL := Lib.hid (show 0 = rest.length by omega)
        have hcn' : Option.map (fun x => Addr.add x (k * 2)) A = none → c - k = 0 := fun h => by
          cases A with
          | none => rw [HCN.out rfl, Nat.zero_sub]
          | some a => cases h
        have HHD := Lib.hid (hOW.take k)
        clear hOW
        go_region_held3 (fun w' => Below W.heap.size W w' ∧ w'.cell? ⟨w.heap.size, 0, none⟩ = some (.string x.n) ∧ w'.cell? ⟨w.heap.size, 1, none⟩ = some (.int .i64 x.v))
          (first | exact MK.out _ ((Below.refl _ _).drew) | exact MK.out _ hb3 | exact MK.out _ hb2 | exact MK.out _ (hb1.alloc hb1.size _) | exact MK.out _ hb1 | exact MK.out _ (by go_grown) | fail)
          (first
            | (refine step_appF rfl (.tmp 44) (.tmp 47) rfl (base := W.heap.size) rfl (own_f1 W) rfl (List.length_take_of_le HKL.out).symm (HHD.out.below (by go_split_ands; assumption)) HCN.out (by simp; omega) (by simp) ?_; intro v1 w1 hown1 hg1 hat1; have hb1 : Below W.heap.size W w1 := below_grownF (by go_split_ands; assumption) hg1 (fun r hr => ((own_f1 W).lt r hr).1))
            | (refine step_appF rfl (.tmp 44) (.tmp 47) rfl (base := W.heap.size) rfl (own_f2 W x) rfl (List.length_take_of_le HKL.out).symm (HHD.out.below (by go_split_ands; assumption)) HCN.out (by simp; omega) (by simp; omega) ?_; intro v1 w1 hown1 hg1 hat1; have hb1 : Below W.heap.size W w1 := below_grownF (by go_split_ands; assumption) hg1 (fun r hr => ((own_f2 W x).lt r hr).1); have HX1 := Lib.hid (x_f2 hg1))
            | (refine step_appF rfl (.tmp 44) (.tmp 47) rfl (base := W.heap.size) rfl (own_f3 W x) rfl (List.length_take_of_le HKL.out).symm (HHD.out.below (by go_split_ands; assumption)) HCN.out (by simp; omega) (by simp; omega) ?_; intro v1 w1 hown1 hg1 hat1; have hb1 : Below W.heap.size W w1 := below_grownF (by go_split_ands; assumption) hg1 (fun r hr => ((own_f3 W x).lt r hr).1); have HX1 := Lib.hid (x_f3 hg1))
            | (refine step_appF rfl (.tmp 48) (.tmp 50) rfl (base := W.heap.size) rfl (World.ownsRow.alloc hown1 _) rfl rfl (field_one w1 x _) (by simp) (by simp; omega) (by have := hb1.size; simp; omega) ?_; intro v2 w2 hown2 hg2 hat2; have hb2 : Below W.heap.size W w2 := below_grownF (hb1.alloc hb1.size _) hg2 (fun r hr => (hown1.lt r hr).1))
            | (refine step_appF rfl (.tmp 48) (.tmp 50) rfl (base := W.heap.size) rfl hown1 rfl rfl HX1.out (by simp) (by simp; omega) hb1.size ?_; intro v2 w2 hown2 hg2 hat2; have hb2 : Below W.heap.size W w2 := below_grownF hb1 hg2 (fun r hr => (hown1.lt r hr).1))
            | (refine step_appF rfl (.tmp 51) (.tmp 52) rfl (base := W.heap.size) rfl hown2 rfl HRL.out (HTL.out.below hb2) hcn' (by simp; omega) hb2.size ?_; intro v3 w3 hown3 hg3 hat3; have hb3 : Below W.heap.size W w3 := below_grownF hb2 hg3 (fun r hr => (hown2.lt r hr).1))
            | fail)
        all_goals
          go_wp2_with fail
          go_ret
          exact ⟨_, rfl, by rw [HNX.out]; exact own_lowerF hBW.size (by rw [show l.take k ++ x :: rest = [] ++ l.take k ++ [x] ++ rest from by simp]; exact hown3), hBW.trans (hb3.mono hBW.size)⟩

end Go.Proofs.YtaoobliajgcdmaaGreat

/-
  The document's Over of fields.
-/
namespace Go.Proofs.YtaoobliajgcdmaaGreat
open Go.RowKit

theorem ownF_lower {w : World} {b b' : Nat} {v : Value} {l : List Fd} (hb : b ≤ b') (h : ownF w b' v l) : ownF w b v l := by
  refine ⟨h.1, ?_⟩
  rcases h.2 with h2 | ⟨g, cap, cur, hv, hg, r⟩
  · exact .inl h2
  · exact .inr ⟨g, cap, cur, hv, by omega, r⟩
theorem OF.from {W w w' : World} {l : List Fd} {v : Value} (hb : Below W.heap.size W w) (h : OF w l v w') : OF W l v w' := ⟨ownF_lower hb.size h.own, chain hb h.bel⟩

set_option maxHeartbeats 4000000 in
set_option maxRecDepth 10000 in
theorem doverO_any (w : World) (A : Option Addr) (c : Nat) (L : List (List Fd)) (hL : RowsF w A L) (hT : L.flatten.length ≤ 100000) (hn : L.length ≤ 9223372036854775807) (hrow : ∀ l ∈ L, l.length ≤ 9223372036854775807) :
    Calls Tryz.prog 74 #[.slice A L.length c] w fun e w' => ∃ v, e = .returned v ∧ OF w (overL L.flatten) v w' := by
  have HL := Lib.hid hL
  have HT := Lib.hid hT
  have HR := Lib.hid hrow
  obtain ⟨n, hnm⟩ : ∃ n, L.length = n := ⟨_, rfl⟩
  rw [hnm] at hn ⊢
  have HN := Lib.hid hnm
  clear hL hT hnm hrow
  go_enter Tryz.func74, Tryz.ntmps74
  go_wp2_with fail
  go_loopw [3, 4] (fun o i wr => ∃ k acc, k ≤ n ∧ i = .int .i64 (k : Nat) ∧ acc = overL (L.take k).flatten ∧ OF w acc o wr) (fun _ i _ => n - (intOf i).toNat)
  case atStart => exact ⟨0, [], Nat.zero_le _, rfl, rfl, OF.nil w⟩
  case round =>
    obtain ⟨k, acc0, hk, rfl, ha0, hA0⟩ := hrel
    have HA0 := Lib.hid ha0
    have HO0 := Lib.hid hA0
    clear ha0 hA0
    by_cases hlt : k < n
    · have hlt' : (k : Int) < (n : Int) := by omega
      obtain ⟨row, hrow⟩ : ∃ row, L[k]? = some row := ⟨_, List.getElem?_eq_getElem (by have := HN.out; omega)⟩
      obtain ⟨g, off, v, rfl, cv, B, d, rfl, hF, hcd, hnd⟩ := HL.out k row hrow
      have HCV := Lib.hid cv
      have HF := Lib.hid hF
      have HROW := Lib.hid hrow
      obtain ⟨m, hm⟩ : ∃ m, row.length = m := ⟨_, rfl⟩
      have hm63 : m ≤ 9223372036854775807 := by rw [← hm]; exact HR.out row (List.mem_of_getElem? hrow)
      have HM := Lib.hid hm
      rw [hm] at HCV
      clear cv hF hrow hm hcd hnd
      go_wp2_with fail
      go_loopw [3, 5] (fun o j wr' => ∃ t acc, t ≤ m ∧ j = .int .i64 (t : Nat) ∧ acc = overL ((L.take k).flatten ++ row.take t) ∧ OF w acc o wr') (fun _ j _ => m - (intOf j).toNat)
      case atStart => exact ⟨0, acc0, Nat.zero_le _, rfl, by rw [HA0.out, List.take_zero, List.append_nil], HO0.out⟩
      case round =>
        obtain ⟨t, acc, ht, rfl, ha, hA⟩ := hrel
        have HAC := Lib.hid ha
        have hB := hA.bel
        have HOF := Lib.hid hA
        obtain ⟨C, e, rfl, hFa, hce, hne⟩ := hA.list
        have HFA := Lib.hid hFa
        have HNE := Lib.hid hne
        have HCE := Lib.hid hce
        have HB := Lib.hid hB
        have cv1 := keepc (hB) HCV.out
        clear ha hFa hne hB hce hA
        by_cases hlt2 : t < m
        · have hlt2' : (t : Int) < (m : Int) := by omega
          obtain ⟨f, hf⟩ : ∃ f, row[t]? = some f := ⟨_, List.getElem?_eq_getElem (by have := HM.out; omega)⟩
          obtain ⟨g2, off2, rfl, c0, c1⟩ := (HF.out.below HB.out) t f hf
          have HX := Lib.hid (show layL acc f = overL ((L.take k).flatten ++ row.take (t + 1)) by
            rw [List.take_add_one, hf, Option.toList_some, ← List.append_assoc, overL_snoc, HAC.out])
          have HLEN := Lib.hid (show acc.length ≤ 100000 by
            rw [HAC.out]
            have h1 := overL_length ((L.take k).flatten ++ row.take t)
            have h2 := flat_pre HROW.out t
            have := HT.out
            omega)
          have CL := Lib.hid (dlay_any wr C e acc f HFA.out HCE.out HNE.out HLEN.out)
          clear hf
          go_wp2_with (go_at_call 94; (with_reducible refine CL.out.mono ?_); rintro e2 w2 ⟨v2, rfl, hown2, hb2⟩)
          exact ⟨⟨t + 1, _, by omega, by go_num, HX.out, ⟨ownF_lower HB.out.size hown2, chain HB.out hb2⟩⟩, by simp [intOf] <;> omega⟩
        · obtain rfl : t = m := by omega
          have hlt2' : ¬ (t : Int) < (t : Int) := by omega
          have HX := Lib.hid (show acc = overL (L.take (k + 1)).flatten by
            rw [HAC.out, flat_next HROW.out, List.take_of_length_le (l := row) (by have := HM.out; omega)])
          go_wp2_with fail
          exact ⟨⟨k + 1, acc, by omega, by go_num, HX.out, HOF.out⟩, by simp [intOf] <;> omega⟩
    · obtain rfl : k = n := by omega
      have hlt' : ¬ (k : Int) < (k : Int) := by omega
      have HX := Lib.hid (show acc0 = overL L.flatten by rw [HA0.out, List.take_of_length_le (by have := HN.out; omega)])
      go_wp2_with fail
      go_ret
      exact ⟨_, rfl, by rw [← HX.out]; exact HO0.out⟩

theorem dover_any (w : World) (A : Option Addr) (c : Nat) (L : List (List Fd)) (hL : RowsF w A L) (hT : L.flatten.length ≤ 100000) (hn : L.length ≤ 9223372036854775807) (hrow : ∀ l ∈ L, l.length ≤ 9223372036854775807) :
    Calls Tryz.prog 74 #[.slice A L.length c] w fun e w' => ∃ v, e = .returned v ∧ ListF w' v (overL L.flatten) ∧ Below w.heap.size w w' :=
  (doverO_any w A c L hL hT hn hrow).mono fun _ _ ⟨v, he, h⟩ => ⟨v, he, h.list, h.bel⟩

end Go.Proofs.YtaoobliajgcdmaaGreat

/-
  The document's Order of versions. (Made by wip/gen/vorder.py.)
-/
namespace Go.Proofs.YtaoobliajgcdmaaGreat
open Go.RowKit

theorem abstract_worldV {P : Program} {code : Code} {Q : Exit → Act → World → Prop} {a : Act} {w : World} (R : World → Prop) (h0 : R w) (h : ∀ W, R W → Code.wp P code Q a W) : Code.wp P code Q a w := h w h0
section
variable {α : Type} {E : El α}
theorem ownE_f1 (W : World) : ownE E (W.alloc (.cells #[] E.e)).drew W.heap.size (.slice (some ⟨W.heap.size, 0, none⟩) 0 0) ([] : List α) := ownE_empty (heap_alloc_new W _) (Nat.le_refl _)
theorem ownE_f2 (W : World) (o : Obj) : ownE E ((W.alloc (.cells #[] E.e)).alloc o).drew W.heap.size (.slice (some ⟨W.heap.size, 0, none⟩) 0 0) ([] : List α) :=
  ownE_empty ((Below.heap_alloc (W.alloc (.cells #[] E.e)) _ W.heap.size (by simp)).trans (heap_alloc_new W _)) (Nat.le_refl _)
theorem ownE_f3 (W : World) (o : Obj) : ownE E ((W.alloc o).alloc (.cells #[] E.e)).drew W.heap.size (.slice (some ⟨W.heap.size + 1, 0, none⟩) 0 0) ([] : List α) :=
  ownE_empty (w := ((W.alloc o).alloc (.cells #[] E.e))) (by have := heap_alloc_new (W.alloc o) (.cells #[] E.e); simpa using this) (by omega)
/-- One element in a block of its own. -/
theorem rowE_cells {w : World} {b : Nat} {x : α} (h : ∀ j u, (E.cells x)[j]? = some u → w.cell? ⟨b, j, none⟩ = some u) : RowE E w (some ⟨b, 0, none⟩) [x] := fun i y hy => by
  rcases i with _ | i
  · obtain rfl : x = y := by simpa using hy
    exact ⟨b, 0, rfl, fun j u hu => by simpa using h j u hu⟩
  · simp at hy
end
/-- The block of one version. -/
theorem seven {p : Nat → Value → Prop} {a b c d e f g : Value} (h0 : p 0 a) (h1 : p 1 b) (h2 : p 2 c) (h3 : p 3 d) (h4 : p 4 e) (h5 : p 5 f) (h6 : p 6 g) : ∀ j u, [a, b, c, d, e, f, g][j]? = some u → p j u := fun j u hu => by
  match j, hu with
  | 0, hu => obtain rfl : a = u := by simpa using hu
             exact h0
  | 1, hu => obtain rfl : b = u := by simpa using hu
             exact h1
  | 2, hu => obtain rfl : c = u := by simpa using hu
             exact h2
  | 3, hu => obtain rfl : d = u := by simpa using hu
             exact h3
  | 4, hu => obtain rfl : e = u := by simpa using hu
             exact h4
  | 5, hu => obtain rfl : f = u := by simpa using hu
             exact h5
  | 6, hu => obtain rfl : g = u := by simpa using hu
             exact h6
  | j + 7, hu => simp at hu
theorem xV_f2 {W w1 : World} {x : Vr} {T : TypeId} (hg : ((W.alloc (.cells #[] T)).alloc (ocV x)).drew.grownBy w1 (Value.slice (some ⟨W.heap.size, 0, none⟩) 0 0).ownBlock) : RowE EV w1 (some ⟨W.heap.size + 1, 0, none⟩) [x] :=
  rowE_cells (seven (hg.cell (by simp [go_sem]) (by simp [Value.ownBlock])) (hg.cell (by simp [go_sem]) (by simp [Value.ownBlock])) (hg.cell (by simp [go_sem]) (by simp [Value.ownBlock])) (hg.cell (by simp [go_sem]) (by simp [Value.ownBlock]))
    (hg.cell (by simp [go_sem]) (by simp [Value.ownBlock])) (hg.cell (by simp [go_sem]) (by simp [Value.ownBlock])) (hg.cell (by simp [go_sem]) (by simp [Value.ownBlock])))
theorem xV_f3 {W w1 : World} {x : Vr} {T : TypeId} (hg : ((W.alloc (ocV x)).alloc (.cells #[] T)).drew.grownBy w1 (Value.slice (some ⟨W.heap.size + 1, 0, none⟩) 0 0).ownBlock) : RowE EV w1 (some ⟨W.heap.size, 0, none⟩) [x] :=
  rowE_cells (seven (hg.cell (by simp [go_sem]) (by simp [Value.ownBlock])) (hg.cell (by simp [go_sem]) (by simp [Value.ownBlock])) (hg.cell (by simp [go_sem]) (by simp [Value.ownBlock])) (hg.cell (by simp [go_sem]) (by simp [Value.ownBlock]))
    (hg.cell (by simp [go_sem]) (by simp [Value.ownBlock])) (hg.cell (by simp [go_sem]) (by simp [Value.ownBlock])) (hg.cell (by simp [go_sem]) (by simp [Value.ownBlock])))

set_option maxHeartbeats 4000000 in
set_option maxRecDepth 10000 in
theorem dorder_any (w : World) (u : Value) (l : List Vr) (hl : VersL w u l) (hn : l.length ≤ 100000) :
    Calls Tryz.prog 73 #[u] w fun e w' => ∃ x, e = .returned x ∧ VersL w' x (ordL l) ∧ Below w.heap.size w w' := by
  obtain ⟨⟨A, c, rfl, hA, hc, hnc⟩, hVF⟩ := hl
  have HA := Lib.hid hA
  have HVF := Lib.hid hVF
  obtain ⟨n, hnm⟩ : ∃ n, l.length = n := ⟨_, rfl⟩
  rw [hnm] at hn ⊢
  have HN := Lib.hid hnm
  clear hA hc hnc hVF hnm
  go_enter Tryz.func73, Tryz.ntmps73
  go_wp2_with fail
  go_loopw [3, 4] (fun o i wr => ∃ t acc, t ≤ n ∧ i = .int .i64 (t : Nat) ∧ acc = ordL (l.take t) ∧ OE EV w acc o wr) (fun _ i _ => n - (intOf i).toNat)
  case atStart => exact ⟨0, [], Nat.zero_le _, rfl, rfl, OE.nil w⟩
  case round =>
    obtain ⟨t, acc, ht, rfl, hacc, hO⟩ := hrel
    by_cases hlt : t < n
    · have hlt' : (t : Int) < (n : Int) := by omega
      obtain ⟨x, hx⟩ : ∃ x, l[t]? = some x := ⟨_, List.getElem?_eq_getElem (by have := HN.out; omega)⟩
      obtain ⟨g, off, rfl, hX⟩ := (HA.out.below hO.bel).cells7 hx
      have HNXT := Lib.hid (show insV acc x = ordL (l.take (t + 1)) by rw [List.take_add_one, hx, Option.toList_some, ordL_snoc, hacc])
      have hsort : SortedV acc := by rw [hacc]; exact ordL_sorted _
      have HS := Lib.hid hsort
      obtain ⟨m, hm⟩ : ∃ m, acc.length = m := ⟨_, rfl⟩
      have hm5 : m ≤ 100000 := by rw [← hm, hacc, ordL_length, List.length_take]; omega
      obtain ⟨B, d, hu, hB, hBd, hBn⟩ := hO.list
      rw [hm] at hu hBd
      subst hu
      have HAM := Lib.hid hm
      have HO := Lib.hid hO
      have HX := Lib.hid hX
      have HB := Lib.hid hB
      have HBD := Lib.hid hBd
      have HBN := Lib.hid hBn
      have HROW := Lib.hid (show ∀ W, OE EV w acc (.slice B m d) W → RowE EV W B acc from fun W h => by
        obtain ⟨B', d', e, h1, _⟩ := h.list
        injection e with e1 e2 e3
        rw [e1]; exact h1)
      clear hX hacc hsort hm hO hB hBd hBn hx
      go_wp2_with fail
      go_loopw [5] (fun j wr' => ∃ k q, k ≤ m ∧ j = .int .i64 (k : Nat) ∧ (∀ j' y, k ≤ j' → acc[j']? = some y → x.st < y.st) ∧ wr' = wr.drewN q) (fun j _ => (intOf j).toNat)
      case atStart =>
        trace_state
        refine ⟨m, 0, Nat.le_refl _, rfl, ?_, rfl⟩
        intro j y hj hy
        rw [List.getElem?_eq_none (by have := HAM.out; omega)] at hy
        cases hy
      case round =>
        obtain ⟨k, q, hk, rfl, hgt, rfl⟩ := hrel
        have HGT := Lib.hid hgt
        clear hgt
        by_cases hk0 : k = 0
        · subst hk0
          have HNX := Lib.hid (show acc.take 0 ++ x :: acc.drop 0 = ordL (l.take (t + 1)) by rw [← HNXT.out, insV_from HS.out x 0 (Nat.zero_le _) HGT.out (.inl rfl)])
          have HK := Lib.hid (show 0 ≤ m from Nat.zero_le _)
          obtain ⟨B2, hs20, hfr, hnb2⟩ := slice_from (E := EV) (A := B) (n := m) (c := d) (k := 0) HK.out HBD.out HBN.out
          have hs2 : ∀ w, (Instr.slice 24 (.slice B m d) (some (.int .i64 0)) none none).run Tryz.prog w = .ok (.slice B2 (m) (d)) w := hs20
          have hs1 : ∀ w, (Instr.slice 24 (.slice B m d) none (some (.int .i64 0)) none).run Tryz.prog w = .ok (.slice B (0) d) w := slice_ahead (E := EV) (A := B) (n := m) (c := d) (k := 0) HK.out HBD.out
          have HFR := Lib.hid hfr
          have HNB2 := Lib.hid hnb2
          have HNB := Lib.hid HBN.out
          have HTK := Lib.hid (show 0 = (acc.take 0).length by rw [List.length_take, HAM.out]; have := HK.out; omega)
          have HDR := Lib.hid (show m = (acc.drop 0).length by rw [List.length_drop, HAM.out]; try omega)
          have HS1 := Lib.hid (show (acc.take 0).length ≤ 100000 by rw [List.length_take]; have := HAM.out; omega)
          have HS2 := Lib.hid (show (acc.drop 0).length ≤ 100000 by rw [List.length_drop]; have := HAM.out; omega)
          clear hk hs20 hfr hnb2
          go_wp2_with fail
          go_quiet (fail)
          go_wp2_with fail
          refine abstract_worldV (fun W => OE EV w acc (.slice B m d) W ∧ Cells7 W g (off + t * 7) x) ⟨HO.out.below (belowN (belowN (bl wr) _) _), HX.out.below (belowN (belowN (bl wr) _) _)⟩ ?_
          rintro W ⟨hOW, hXW⟩
          have HOW := Lib.hid hOW
          have MK := Lib.hid (show ∀ w', Below W.heap.size W w' → (Below W.heap.size W w' ∧ Cells7 w' g (off + t * 7) x) from fun w' h => ⟨h, hXW.below h⟩)
          have HHD := Lib.hid ((HROW.out W hOW).take 0)
          have HTL := Lib.hid (HFR.out W acc (HROW.out W hOW) HAM.out)
          clear hOW hXW
          go_region_held3 (fun w' => Below W.heap.size W w' ∧ Cells7 w' g (off + t * 7) x)
            (first | exact MK.out _ ((Below.refl _ _).drew) | exact MK.out _ hb3 | exact MK.out _ hb2 | exact MK.out _ (hb1.alloc hb1.size _) | exact MK.out _ hb1 | exact MK.out _ (by go_grown) | fail)
            (first
              | (refine step_appE (E := EV) rfl (.tmp 32) (.tmp 35) rfl rfl (base := W.heap.size) rfl (ownE_f1 W) rfl HTK.out (HHD.out.below (by go_split_ands; assumption)) HNB.out (by have := HS1.out; have := HS2.out; simp only [List.length_nil]; omega) (by simp) ?_; intro v1 w1 hown1 hg1 hat1; have hb1 : Below W.heap.size W w1 := below_grownE (by go_split_ands; assumption) hg1 (fun r hr => ((ownE_f1 (E := EV) W).lt r hr).1))
              | (refine step_appE (E := EV) rfl (.tmp 32) (.tmp 35) rfl rfl (base := W.heap.size) rfl (ownE_f2 W (ocV x)) rfl HTK.out (HHD.out.below (by go_split_ands; assumption)) HNB.out (by have := HS1.out; have := HS2.out; simp only [List.length_nil]; omega) (by simp; omega) ?_; intro v1 w1 hown1 hg1 hat1; have hb1 : Below W.heap.size W w1 := below_grownE (by go_split_ands; assumption) hg1 (fun r hr => ((ownE_f2 (E := EV) W (ocV x)).lt r hr).1); have HX1 := Lib.hid (xV_f2 hg1))
              | (refine step_appE (E := EV) rfl (.tmp 32) (.tmp 35) rfl rfl (base := W.heap.size) rfl (ownE_f3 W (ocV x)) rfl HTK.out (HHD.out.below (by go_split_ands; assumption)) HNB.out (by have := HS1.out; have := HS2.out; simp only [List.length_nil]; omega) (by simp; omega) ?_; intro v1 w1 hown1 hg1 hat1; have hb1 : Below W.heap.size W w1 := below_grownE (by go_split_ands; assumption) hg1 (fun r hr => ((ownE_f3 (E := EV) W (ocV x)).lt r hr).1); have HX1 := Lib.hid (xV_f3 hg1))
              | (refine step_appE (E := EV) rfl (.tmp 36) (.tmp 41) rfl rfl (base := W.heap.size) rfl (World.ownsRow.alloc hown1 _) rfl rfl (rowE_one w1 x _ rfl _) (by simp) (by have := HS1.out; have := HS2.out; simp only [List.length_append, List.length_nil, List.length_cons]; omega) (by have := hb1.size; simp; omega) ?_; intro v2 w2 hown2 hg2 hat2; have hb2 : Below W.heap.size W w2 := below_grownE (hb1.alloc hb1.size _) hg2 (fun r hr => (hown1.lt r hr).1))
              | (refine step_appE (E := EV) rfl (.tmp 36) (.tmp 41) rfl rfl (base := W.heap.size) rfl hown1 rfl rfl HX1.out (by simp) (by have := HS1.out; have := HS2.out; simp only [List.length_append, List.length_nil, List.length_cons]; omega) hb1.size ?_; intro v2 w2 hown2 hg2 hat2; have hb2 : Below W.heap.size W w2 := below_grownE hb1 hg2 (fun r hr => (hown1.lt r hr).1))
              | (refine step_appE (E := EV) rfl (.tmp 42) (.tmp 45) rfl rfl (base := W.heap.size) rfl hown2 rfl HDR.out (HTL.out.below hb2) HNB2.out (by have := HS1.out; have := HS2.out; simp only [List.length_append, List.length_nil, List.length_cons]; omega) hb2.size ?_; intro v3 w3 hown3 hg3 hat3; have hb3 : Below W.heap.size W w3 := below_grownE hb2 hg3 (fun r hr => (hown2.lt r hr).1))
              | fail)
          all_goals
            go_wp2_with fail
            exact ⟨⟨t + 1, _, by omega, by go_num, HNX.out, ⟨ownE_lower HOW.out.bel.size (by rw [show acc.take 0 ++ x :: acc.drop 0 = [] ++ acc.take 0 ++ [x] ++ acc.drop 0 from by simp]; exact hown3), HOW.out.bel.trans (hb3.mono HOW.out.bel.size)⟩⟩, by simp [intOf] <;> omega⟩
        · obtain ⟨i, hi⟩ : ∃ i, k = i + 1 := ⟨k - 1, by omega⟩
          obtain ⟨y, hy⟩ : ∃ y, acc[i]? = some y := ⟨_, List.getElem?_eq_getElem (by have := HAM.out; omega)⟩
          obtain ⟨g1, off1, rfl, hY⟩ := HB.out.cells7 hy
          have y1 := hY.2.1
          have x1 := HX.out.2.1
          have w1 : IntKind.i64.wrap ((k : Int) - 1) = (i : Int) := by rw [IntKind.wrap_i64]; omega
          have kp : (0 : Int) < (k : Int) := by omega
          have kq : decide (0 < k) = true := by rw [decide_eq_true_eq]; omega
          have im : (i : Int) < (m : Int) := by omega
          by_cases hst : x.st < y.st
          · have NX := Lib.hid (show ∀ j' z, i ≤ j' → acc[j']? = some z → x.st < z.st from fun j' z hj hz => by
              rcases Nat.lt_or_ge j' k with h1 | h1
              · obtain rfl : j' = i := by omega
                rw [hy] at hz
                rw [← Option.some.inj hz]; exact hst
              · exact HGT.out j' z h1 hz)
            have hik : i < k := by omega
            have him : i ≤ m := by omega
            clear hY hy hi
            go_wp2_with fail
            go_quiet (fail)
            go_wp2_with fail
            exact ⟨⟨i, _, him, by go_num, NX.out, rfl⟩, by simp [intOf] <;> omega⟩
          · have HNX := Lib.hid (show acc.take k ++ x :: acc.drop k = ordL (l.take (t + 1)) by rw [← HNXT.out, insV_from HS.out x k (by have := HAM.out; omega) HGT.out (.inr ⟨i, y, hi, hy, by omega⟩)])
            have HK := Lib.hid (show k ≤ m from hk)
            obtain ⟨B2, hs20, hfr, hnb2⟩ := slice_from (E := EV) (A := (some ⟨g1, off1, none⟩)) (n := m) (c := d) (k := k) HK.out HBD.out HBN.out
            have hs2 : ∀ w, (Instr.slice 24 (.slice (some ⟨g1, off1, none⟩) m d) (some (.int .i64 (k : Int))) none none).run Tryz.prog w = .ok (.slice B2 (m - k) (d - k)) w := hs20
            have hs1 : ∀ w, (Instr.slice 24 (.slice (some ⟨g1, off1, none⟩) m d) none (some (.int .i64 (k : Int))) none).run Tryz.prog w = .ok (.slice (some ⟨g1, off1, none⟩) (k) d) w := slice_ahead (E := EV) (A := (some ⟨g1, off1, none⟩)) (n := m) (c := d) (k := k) HK.out HBD.out
            have HFR := Lib.hid hfr
            have HNB2 := Lib.hid hnb2
            have HNB := Lib.hid HBN.out
            have HTK := Lib.hid (show k = (acc.take k).length by rw [List.length_take, HAM.out]; have := HK.out; omega)
            have HDR := Lib.hid (show m - k = (acc.drop k).length by rw [List.length_drop, HAM.out]; try omega)
            have HS1 := Lib.hid (show (acc.take k).length ≤ 100000 by rw [List.length_take]; have := HAM.out; omega)
            have HS2 := Lib.hid (show (acc.drop k).length ≤ 100000 by rw [List.length_drop]; have := HAM.out; omega)
            clear hk hs20 hfr hnb2 hY hy hi hk0
            go_wp2_with fail
            go_quiet (fail)
            go_wp2_with fail
            refine abstract_worldV (fun W => OE EV w acc (.slice (some ⟨g1, off1, none⟩) m d) W ∧ Cells7 W g (off + t * 7) x) ⟨HO.out.below (belowN (belowN (bl wr) _) _), HX.out.below (belowN (belowN (bl wr) _) _)⟩ ?_
            rintro W ⟨hOW, hXW⟩
            have HOW := Lib.hid hOW
            have MK := Lib.hid (show ∀ w', Below W.heap.size W w' → (Below W.heap.size W w' ∧ Cells7 w' g (off + t * 7) x) from fun w' h => ⟨h, hXW.below h⟩)
            have HHD := Lib.hid ((HROW.out W hOW).take k)
            have HTL := Lib.hid (HFR.out W acc (HROW.out W hOW) HAM.out)
            clear hOW hXW
            go_region_held3 (fun w' => Below W.heap.size W w' ∧ Cells7 w' g (off + t * 7) x)
              (first | exact MK.out _ ((Below.refl _ _).drew) | exact MK.out _ hb3 | exact MK.out _ hb2 | exact MK.out _ (hb1.alloc hb1.size _) | exact MK.out _ hb1 | exact MK.out _ (by go_grown) | fail)
              (first
                | (refine step_appE (E := EV) rfl (.tmp 32) (.tmp 35) rfl rfl (base := W.heap.size) rfl (ownE_f1 W) rfl HTK.out (HHD.out.below (by go_split_ands; assumption)) HNB.out (by have := HS1.out; have := HS2.out; simp only [List.length_nil]; omega) (by simp) ?_; intro v1 w1 hown1 hg1 hat1; have hb1 : Below W.heap.size W w1 := below_grownE (by go_split_ands; assumption) hg1 (fun r hr => ((ownE_f1 (E := EV) W).lt r hr).1))
                | (refine step_appE (E := EV) rfl (.tmp 32) (.tmp 35) rfl rfl (base := W.heap.size) rfl (ownE_f2 W (ocV x)) rfl HTK.out (HHD.out.below (by go_split_ands; assumption)) HNB.out (by have := HS1.out; have := HS2.out; simp only [List.length_nil]; omega) (by simp; omega) ?_; intro v1 w1 hown1 hg1 hat1; have hb1 : Below W.heap.size W w1 := below_grownE (by go_split_ands; assumption) hg1 (fun r hr => ((ownE_f2 (E := EV) W (ocV x)).lt r hr).1); have HX1 := Lib.hid (xV_f2 hg1))
                | (refine step_appE (E := EV) rfl (.tmp 32) (.tmp 35) rfl rfl (base := W.heap.size) rfl (ownE_f3 W (ocV x)) rfl HTK.out (HHD.out.below (by go_split_ands; assumption)) HNB.out (by have := HS1.out; have := HS2.out; simp only [List.length_nil]; omega) (by simp; omega) ?_; intro v1 w1 hown1 hg1 hat1; have hb1 : Below W.heap.size W w1 := below_grownE (by go_split_ands; assumption) hg1 (fun r hr => ((ownE_f3 (E := EV) W (ocV x)).lt r hr).1); have HX1 := Lib.hid (xV_f3 hg1))
                | (refine step_appE (E := EV) rfl (.tmp 36) (.tmp 41) rfl rfl (base := W.heap.size) rfl (World.ownsRow.alloc hown1 _) rfl rfl (rowE_one w1 x _ rfl _) (by simp) (by have := HS1.out; have := HS2.out; simp only [List.length_append, List.length_nil, List.length_cons]; omega) (by have := hb1.size; simp; omega) ?_; intro v2 w2 hown2 hg2 hat2; have hb2 : Below W.heap.size W w2 := below_grownE (hb1.alloc hb1.size _) hg2 (fun r hr => (hown1.lt r hr).1))
                | (refine step_appE (E := EV) rfl (.tmp 36) (.tmp 41) rfl rfl (base := W.heap.size) rfl hown1 rfl rfl HX1.out (by simp) (by have := HS1.out; have := HS2.out; simp only [List.length_append, List.length_nil, List.length_cons]; omega) hb1.size ?_; intro v2 w2 hown2 hg2 hat2; have hb2 : Below W.heap.size W w2 := below_grownE hb1 hg2 (fun r hr => (hown1.lt r hr).1))
                | (refine step_appE (E := EV) rfl (.tmp 42) (.tmp 45) rfl rfl (base := W.heap.size) rfl hown2 rfl HDR.out (HTL.out.below hb2) HNB2.out (by have := HS1.out; have := HS2.out; simp only [List.length_append, List.length_nil, List.length_cons]; omega) hb2.size ?_; intro v3 w3 hown3 hg3 hat3; have hb3 : Below W.heap.size W w3 := below_grownE hb2 hg3 (fun r hr => (hown2.lt r hr).1))
                | fail)
            all_goals
              go_wp2_with fail
              exact ⟨⟨t + 1, _, by omega, by go_num, HNX.out, ⟨ownE_lower HOW.out.bel.size (by rw [show acc.take k ++ x :: acc.drop k = [] ++ acc.take k ++ [x] ++ acc.drop k from by simp]; exact hown3), HOW.out.bel.trans (hb3.mono HOW.out.bel.size)⟩⟩, by simp [intOf] <;> omega⟩
    · obtain rfl : t = n := by omega
      have hlt' : ¬ (t : Int) < (t : Int) := by omega
      have HE := Lib.hid (show acc = ordL l by rw [hacc, List.take_of_length_le (by have := HN.out; omega)])
      have HO := Lib.hid hO
      clear hacc hO
      go_wp2_with fail
      go_ret
      exact ⟨_, rfl, ⟨by rw [← HE.out]; exact HO.out.list, fun v hv => (HVF.out v ((ordL_perm l).mem_iff.1 hv)).below HO.out.bel⟩, HO.out.bel⟩

end Go.Proofs.YtaoobliajgcdmaaGreat

/-
  The document's Of, Covers and At of versions.
-/
namespace Go.Proofs.YtaoobliajgcdmaaGreat
open Go.RowKit

/-- Few enough versions, of few enough fields. -/
def fewV (l : List Vr) : Prop := l.length ≤ 200 ∧ ∀ v ∈ l, v.fs.length ≤ 100
theorem flat_leV {L : List (List Fd)} {m : Nat} (h : ∀ l ∈ L, l.length ≤ m) : L.flatten.length ≤ L.length * m := by
  induction L with
  | nil => simp
  | cons a L ih =>
    rw [List.flatten_cons, List.length_append, List.length_cons, Nat.add_mul, Nat.one_mul]
    have h1 := h a List.mem_cons_self
    have h2 := ih fun l hl => h l (List.mem_cons_of_mem _ hl)
    omega
theorem counts_mem {l : List Vr} {fs : List Fd} (h : fs ∈ countsV l) : ∃ v ∈ l, v.fs = fs := by
  unfold countsV at h
  obtain ⟨v, hv, rfl⟩ := List.mem_map.1 h
  exact ⟨v, (ordL_perm l).mem_iff.1 (List.mem_filter.1 hv).1, rfl⟩
theorem counts_few {l : List Vr} (h : fewV l) : (countsV l).length ≤ 200 ∧ (countsV l).flatten.length ≤ 20000 ∧ ∀ fs ∈ countsV l, fs.length ≤ 100 := by
  have h1 : (countsV l).length ≤ 200 := by
    unfold countsV
    rw [List.length_map]
    have := List.length_filter_le (fun v : Vr => !v.gone) (ordL l)
    rw [ordL_length] at this
    have := h.1
    omega
  have h2 : ∀ fs ∈ countsV l, fs.length ≤ 100 := fun fs hf => by
    obtain ⟨v, hv, rfl⟩ := counts_mem hf
    exact h.2 v hv
  have h3 := flat_leV h2
  have : (countsV l).length * 100 ≤ 200 * 100 := Nat.mul_le_mul_right 100 h1
  exact ⟨h1, by omega, h2⟩
/-- Lists of fields as their values' parts. -/
def slOf (v : Vr) : Sl := ⟨v.fa, v.fs.length, v.fc⟩
theorem rows_of {w : World} {A : Option Addr} {vs : List Vr} (h : RowE EL w A (vs.map slOf)) (hv : ∀ v ∈ vs, VF w v) : RowsF w A (vs.map Vr.fs) := fun i l hl => by
  rw [List.getElem?_map] at hl
  cases hx : vs[i]? with
  | none => rw [hx] at hl; cases hl
  | some v =>
    rw [hx] at hl
    obtain rfl : v.fs = l := by simpa using hl
    obtain ⟨g, off, e, hc⟩ := h i (slOf v) (by rw [List.getElem?_map, hx]; rfl)
    refine ⟨g, off, _, e, ?_, (hv v (List.mem_of_getElem? hx)).list⟩
    have := hc 0 _ rfl
    have e1 : EL.sz = 1 := rfl
    rw [e1, Nat.mul_one, Nat.add_zero] at this
    exact this

set_option maxHeartbeats 4000000 in
set_option maxRecDepth 10000 in
theorem dofO_any (w : World) (u : Value) (l : List Vr) (hl : VersL w u l) (hf : fewV l) :
    Calls Tryz.prog 55 #[u] w fun e w' => ∃ x, e = .returned x ∧ OF w (ofL l) x w' := by
  have CO := Lib.hid (dorder_any w u l hl (by have := hf.1; omega))
  have HF := Lib.hid hf
  have HCF := Lib.hid (counts_few hf)
  obtain ⟨O, hO⟩ : ∃ O, ordL l = O := ⟨_, rfl⟩
  have HO := Lib.hid hO
  rw [hO] at CO
  have hOn : O.length ≤ 200 := by rw [← hO, ordL_length]; exact hf.1
  have HCNT := Lib.hid (show countsV l = (O.filter fun v => !v.gone).map Vr.fs by unfold countsV; rw [hO])
  clear hl hO hf
  go_enter Tryz.func55, Tryz.ntmps55
  go_wp2_with (go_at_call 73; (with_reducible refine CO.out.mono ?_); rintro e w1 ⟨x1, rfl, ⟨⟨A1, c1, rfl, hr1, hc1, hn1⟩, hvf1⟩, hb1⟩; have HR1 := Lib.hid hr1; have HV1 := Lib.hid hvf1; have HB1 := Lib.hid hb1; clear hr1 hc1 hn1 hvf1 hb1)
  obtain ⟨n, hnm⟩ : ∃ n, O.length = n := ⟨_, rfl⟩
  rw [hnm] at hOn ⊢
  have HN := Lib.hid hnm
  clear hnm
  go_loopw [3, 4] (fun o i wr => ∃ t vs, t ≤ n ∧ i = .int .i64 (t : Nat) ∧ vs = (O.take t).filter (fun v => !v.gone) ∧ OE EL w1 (vs.map slOf) o wr) (fun _ i _ => n - (intOf i).toNat)
  case atStart => exact ⟨0, [], Nat.zero_le _, rfl, rfl, OE.nil w1⟩
  case round =>
    obtain ⟨t, vs, ht, rfl, hvs, hO⟩ := hrel
    have HVS := Lib.hid hvs
    have HO2 := Lib.hid hO
    have hlen : vs.length ≤ 200 := by
      rw [hvs]
      have := List.length_filter_le (fun v : Vr => !v.gone) (O.take t)
      rw [List.length_take] at this
      omega
    clear hvs hO
    by_cases hlt : t < n
    · have hlt' : (t : Int) < (n : Int) := by omega
      obtain ⟨x, hx⟩ : ∃ x, O[t]? = some x := ⟨_, List.getElem?_eq_getElem (by have := HN.out; omega)⟩
      obtain ⟨g, off, rfl, hX⟩ := (HR1.out.below HO2.out.bel).cells7 hx
      have z5 := hX.2.2.2.2.2.1
      have z6 := hX.2.2.2.2.2.2
      cases hg : x.gone with
      | true =>
        have NX := Lib.hid (show vs = (O.take (t + 1)).filter (fun v => !v.gone) by rw [List.take_add_one, hx, Option.toList_some, List.filter_append, HVS.out]; simp [hg])
        rw [hg] at z6
        clear hX hx hg z5
        go_wp2_with fail
        exact ⟨⟨t + 1, vs, by omega, by go_num, NX.out, HO2.out⟩, by simp [intOf] <;> omega⟩
      | false =>
        have NX := Lib.hid (show vs ++ [x] = (O.take (t + 1)).filter (fun v => !v.gone) by rw [List.take_add_one, hx, Option.toList_some, List.filter_append, HVS.out]; simp [hg])
        rw [hg] at z6
        have HLEN := Lib.hid hlen
        clear hX hx hg hlen
        go_wp2_with (first
          | (at_builtin; refine wpList_appE (E := EL) rfl (.tmp 19) (.tmp 25) rfl rfl (base := w1.heap.size) rfl (World.ownsRow.alloc HO2.out.own _) rfl rfl (rowE_one wr (slOf x) _ rfl _) (by simp) (by have := HLEN.out; simp; omega) (by have := HO2.out.bel.size; simp; omega) ?_; intro v2 w4 hown4 hg4; have HO4 := Lib.hid ((HO2.out.below ((bl wr).alloc (Nat.le_refl _) _)).grown hg4 hown4)))
        exact ⟨⟨t + 1, _, by omega, by go_num, NX.out, by rw [List.map_append]; exact HO4.out⟩, by simp [intOf] <;> omega⟩
    · obtain rfl : t = n := by omega
      have hlt' : ¬ (t : Int) < (t : Int) := by omega
      have HE := Lib.hid (show vs.map Vr.fs = countsV l by rw [HCNT.out, HVS.out, List.take_of_length_le (by have := HN.out; omega)])
      have hmem : ∀ v ∈ vs, VF w1 v := fun v hv => HV1.out v (by
        rw [HVS.out] at hv
        exact List.mem_of_mem_take (List.mem_filter.1 hv).1)
      obtain ⟨A2, c2, rfl, hr2, hc2, hn2⟩ := HO2.out.list
      have hc := HCF.out
      rw [← HE.out] at hc
      have CV := doverO_any wr A2 c2 (vs.map Vr.fs) (rows_of hr2 fun v hv => (hmem v hv).below HO2.out.bel) (by omega) (by omega) (fun f hf => by have := hc.2.2 f hf; omega)
      rw [HE.out, show (countsV l).length = (vs.map slOf).length by rw [← HE.out, List.length_map, List.length_map]] at CV
      have CV2 := Lib.hid CV
      have HB2 := Lib.hid (chain HB1.out HO2.out.bel)
      clear CV hmem hc hr2 hc2 hn2 hlen HCF
      generalize (vs.map slOf).length = m at *
      go_wp2_with (go_at_call 74; (with_reducible refine CV2.out.mono ?_); rintro e w5 ⟨x5, rfl, hl5⟩)
      go_ret
      exact ⟨_, rfl, hl5.from HB2.out⟩

theorem dof_any (w : World) (u : Value) (l : List Vr) (hl : VersL w u l) (hf : fewV l) :
    Calls Tryz.prog 55 #[u] w fun e w' => ∃ x, e = .returned x ∧ ListF w' x (ofL l) ∧ Below w.heap.size w w' :=
  (dofO_any w u l hl hf).mono fun _ _ ⟨v, he, h⟩ => ⟨v, he, h.list, h.bel⟩

end Go.Proofs.YtaoobliajgcdmaaGreat

/-
  The document's Covers and At of versions.
-/
namespace Go.Proofs.YtaoobliajgcdmaaGreat
open Go.RowKit

def rightS (f t : Int) : Bool := decide (-1099511627776 ≤ f) && decide (t ≤ 1099511627776) && decide (f < t)
def hasS (f t x : Int) : Bool := decide (f ≤ x) && decide (x < t)
theorem coversB_eq (v : Vr) (t : Int) : coversB v t = (!v.gone && rightS v.sf v.se && hasS v.sf v.se t) := rfl

set_option maxHeartbeats 1000000 in
theorem dright01_any (f t : Int) (w : World) : Ret 29 #[.agg #[.int .i64 f, .int .i64 t]] w (.bool (rightS f t)) := by
  by_cases h1 : -1099511627776 ≤ f
  · by_cases h2 : t ≤ 1099511627776
    · by_cases h3 : f < t
      · have HE := Lib.hid (show rightS f t = true by simp [rightS, h1, h2, h3])
        go_enter Tryz.func29, Tryz.ntmps29
        go_wp2_with fail
        go_ret
        exact ⟨ret_bool HE.out.symm, (bl w).alloc (Nat.le_refl _) _⟩
      · have HE := Lib.hid (show rightS f t = false by simp [rightS, h3])
        go_enter Tryz.func29, Tryz.ntmps29
        go_wp2_with fail
        go_ret
        exact ⟨ret_bool HE.out.symm, (bl w).alloc (Nat.le_refl _) _⟩
    · have HE := Lib.hid (show rightS f t = false by simp [rightS, h2])
      go_enter Tryz.func29, Tryz.ntmps29
      go_wp2_with fail
      go_ret
      exact ⟨ret_bool HE.out.symm, (bl w).alloc (Nat.le_refl _) _⟩
  · have HE := Lib.hid (show rightS f t = false by simp [rightS, h1])
    go_enter Tryz.func29, Tryz.ntmps29
    go_wp2_with fail
    go_ret
    exact ⟨ret_bool HE.out.symm, (bl w).alloc (Nat.le_refl _) _⟩
set_option maxHeartbeats 1000000 in
theorem dhas01_any (f t x : Int) (w : World) : Ret 30 #[.agg #[.int .i64 f, .int .i64 t], .int .i64 x] w (.bool (hasS f t x)) := by
  by_cases h1 : f ≤ x
  · by_cases h2 : x < t
    · have HE := Lib.hid (show hasS f t x = true by simp [hasS, h1, h2])
      go_enter Tryz.func30, Tryz.ntmps30
      go_wp2_with fail
      go_ret
      exact ⟨ret_bool HE.out.symm, (bl w).alloc (Nat.le_refl _) _⟩
    · have HE := Lib.hid (show hasS f t x = false by simp [hasS, h2])
      go_enter Tryz.func30, Tryz.ntmps30
      go_wp2_with fail
      go_ret
      exact ⟨ret_bool HE.out.symm, (bl w).alloc (Nat.le_refl _) _⟩
  · have HE := Lib.hid (show hasS f t x = false by simp [hasS, h1])
    go_enter Tryz.func30, Tryz.ntmps30
    go_wp2_with fail
    go_ret
    exact ⟨ret_bool HE.out.symm, (bl w).alloc (Nat.le_refl _) _⟩

set_option maxHeartbeats 4000000 in
set_option maxRecDepth 10000 in
theorem dcovers_any (v : Vr) (t : Int) (w : World) : Ret 28 #[vv v, .int .i64 t] w (.bool (coversB v t)) := by
  obtain ⟨id, st, ent, sf, se, fa, fc, fs, gone⟩ := v
  have CR := Lib.hid (fun w => dright01_any sf se w)
  have CH := Lib.hid (fun w => dhas01_any sf se t w)
  cases gone with
  | true =>
    have HE := Lib.hid (show coversB ⟨id, st, ent, sf, se, fa, fc, fs, true⟩ t = false from rfl)
    go_enter Tryz.func28, Tryz.ntmps28
    go_wp2_with fail
    go_ret
    exact ⟨ret_bool HE.out.symm, (bl w).alloc (Nat.le_refl _) _⟩
  | false =>
    cases hr : rightS sf se with
    | false =>
      have HE := Lib.hid (show coversB ⟨id, st, ent, sf, se, fa, fc, fs, false⟩ t = false by rw [coversB_eq, hr]; rfl)
      rw [hr] at CR
      clear hr
      go_enter Tryz.func28, Tryz.ntmps28
      go_wp2_with (go_at_call 29; (with_reducible refine (CR.out _).mono ?_); rintro e w2 ⟨rfl, hb2⟩)
      go_ret
      exact ⟨ret_bool HE.out.symm, ((bl w).alloc (Nat.le_refl _) _).trans (hb2.mono (by simp))⟩
    | true =>
      have HE := Lib.hid (show coversB ⟨id, st, ent, sf, se, fa, fc, fs, false⟩ t = hasS sf se t by rw [coversB_eq, hr]; rfl)
      rw [hr] at CR
      generalize hasS sf se t = hb at *
      clear hr
      go_enter Tryz.func28, Tryz.ntmps28
      go_wp2_with (first
        | (go_at_call 29; (with_reducible refine (CR.out _).mono ?_); rintro e w2 ⟨rfl, hb2⟩; have k3 : w2.cell? ⟨w.heap.size, 3, none⟩ = some (.int .i64 sf) := keepc hb2 (by simp [go_sem]); have k4 : w2.cell? ⟨w.heap.size, 4, none⟩ = some (.int .i64 se) := keepc hb2 (by simp [go_sem]))
        | (go_at_call 30; (with_reducible refine (CH.out _).mono ?_); rintro e w3 ⟨rfl, hb3⟩))
      go_ret
      exact ⟨ret_bool HE.out.symm, (((bl w).alloc (Nat.le_refl _) _).trans (hb2.mono (by simp))).trans (hb3.mono (by have := hb2.size; simp at this; omega))⟩

theorem few_filter {l : List Vr} (p : Vr → Bool) (h : fewV l) : fewV (l.filter p) := ⟨by have := List.length_filter_le p l; have := h.1; omega, fun v hv => h.2 v (List.mem_filter.1 hv).1⟩

set_option maxHeartbeats 4000000 in
set_option maxRecDepth 10000 in
theorem datO_any (w : World) (x : Int) (u : Value) (l : List Vr) (hl : VersL w u l) (hf : fewV l) :
    Calls Tryz.prog 31 #[.int .i64 x, u] w fun e w' => ∃ y, e = .returned y ∧ OF w (atL x l) y w' := by
  obtain ⟨⟨A, c, rfl, hA, hc, hnc⟩, hVF⟩ := hl
  have HA := Lib.hid hA
  have HVF := Lib.hid hVF
  have HF := Lib.hid hf
  obtain ⟨n, hnm⟩ : ∃ n, l.length = n := ⟨_, rfl⟩
  have hn2 : n ≤ 200 := by rw [← hnm]; exact hf.1
  rw [hnm] at hc ⊢
  have HN := Lib.hid hnm
  clear hA hc hnc hVF hnm hf
  go_enter Tryz.func31, Tryz.ntmps31
  go_wp2_with fail
  go_loopw [5, 6] (fun o i wr => ∃ t vs, t ≤ n ∧ i = .int .i64 (t : Nat) ∧ vs = (l.take t).filter (fun v => coversB v x) ∧ OE EV w vs o wr) (fun _ i _ => n - (intOf i).toNat)
  case atStart => exact ⟨0, [], Nat.zero_le _, rfl, rfl, OE.nil w⟩
  case round =>
    obtain ⟨t, vs, ht, rfl, hvs, hO⟩ := hrel
    have HVS := Lib.hid hvs
    have HO2 := Lib.hid hO
    have hlen : vs.length ≤ 200 := by
      rw [hvs]
      have := List.length_filter_le (fun v : Vr => coversB v x) (l.take t)
      rw [List.length_take] at this
      omega
    clear hvs hO
    by_cases hlt : t < n
    · have hlt' : (t : Int) < (n : Int) := by omega
      obtain ⟨v, hx⟩ : ∃ v, l[t]? = some v := ⟨_, List.getElem?_eq_getElem (by have := HN.out; omega)⟩
      obtain ⟨g, off, rfl, hX⟩ := (HA.out.below HO2.out.bel).cells7 hx
      have CC := Lib.hid (fun w => dcovers_any v x w)
      have HX := Lib.hid hX
      obtain ⟨z0, z1, z2, z3, z4, z5, z6⟩ := hX
      cases hg : coversB v x with
      | false =>
        have NX := Lib.hid (show vs = (l.take (t + 1)).filter (fun v => coversB v x) by rw [List.take_add_one, hx, Option.toList_some, List.filter_append, HVS.out]; simp [hg])
        rw [hg] at CC
        clear hx hg
        go_wp2_with (go_at_call 28; (with_reducible refine (CC.out _).mono ?_); rintro e w2 ⟨rfl, hb2⟩)
        exact ⟨⟨t + 1, vs, by omega, by go_num, NX.out, HO2.out.below hb2⟩, by simp [intOf] <;> omega⟩
      | true =>
        have NX := Lib.hid (show vs ++ [v] = (l.take (t + 1)).filter (fun v => coversB v x) by rw [List.take_add_one, hx, Option.toList_some, List.filter_append, HVS.out]; simp [hg])
        rw [hg] at CC
        have HLEN := Lib.hid hlen
        clear hx hg hlen
        go_wp2_with (first
          | (go_at_call 28; (with_reducible refine (CC.out _).mono ?_); rintro e w2 ⟨rfl, hb2⟩; have HO3 := Lib.hid (HO2.out.below hb2); obtain ⟨y0, y1, y2, y3, y4, y5, y6⟩ := HX.out.below hb2)
          | (at_builtin; refine wpList_appE (E := EV) rfl (.tmp 19) (.tmp 24) rfl rfl (base := w.heap.size) rfl (World.ownsRow.alloc HO3.out.own _) rfl rfl (rowE_one w2 v _ rfl _) (by simp) (by have := HLEN.out; simp; omega) (by have := HO3.out.bel.size; simp; omega) ?_; intro v2 w4 hown4 hg4; have HO4 := Lib.hid ((HO3.out.below ((bl w2).alloc (Nat.le_refl _) _)).grown hg4 hown4)))
        exact ⟨⟨t + 1, _, by omega, by go_num, NX.out, HO4.out⟩, by simp [intOf] <;> omega⟩
    · obtain rfl : t = n := by omega
      have hlt' : ¬ (t : Int) < (t : Int) := by omega
      have HE := Lib.hid (show vs = l.filter (fun v => coversB v x) by rw [HVS.out, List.take_of_length_le (by have := HN.out; omega)])
      have CO := Lib.hid (dofO_any wr _ vs ⟨HO2.out.list, fun v hv => (HVF.out v (by
        rw [HE.out] at hv
        exact (List.mem_filter.1 hv).1)).below HO2.out.bel⟩ (by rw [HE.out]; exact few_filter _ HF.out))
      have HAT := Lib.hid (show atL x l = ofL vs by rw [HE.out]; rfl)
      clear hlen
      go_wp2_with (go_at_call 55; (with_reducible refine CO.out.mono ?_); rintro e w5 ⟨x5, rfl, hl5⟩)
      go_ret
      exact ⟨_, rfl, by rw [HAT.out]; exact hl5.from HO2.out.bel⟩

theorem dat_any (w : World) (x : Int) (u : Value) (l : List Vr) (hl : VersL w u l) (hf : fewV l) :
    Calls Tryz.prog 31 #[.int .i64 x, u] w fun e w' => ∃ y, e = .returned y ∧ ListF w' y (atL x l) ∧ Below w.heap.size w w' :=
  (datO_any w x u l hl hf).mono fun _ _ ⟨v, he, h⟩ => ⟨v, he, h.list, h.bel⟩

end Go.Proofs.YtaoobliajgcdmaaGreat

/-
  Plain facts on versions and rows as bytes: what may be recorded, what is put is taken.
-/
namespace Go.Proofs.YtaoobliajgcdmaaGreat

/-- What is wrong with an entity, a version, a row. -/
def entE (s : ByteArray) : Nat := if s.size = 0 then 2 else if 24 < s.size then 4 else 0
def rightV (v : Vr) : Nat :=
  if v.st < 1 ∨ 1099511627775 < v.st ∨ v.id < 1 ∨ v.st < v.id then 2
  else if entE v.ent ≠ 0 then entE v.ent
  else if v.gone then (if v.id = v.st ∨ 0 < v.fs.length ∨ v.sf ≠ 0 ∨ v.se ≠ 0 then 8 else 0)
  else if rightS v.sf v.se then rightE v.fs else 3
structure Rw where
  v : Vr
  un : Int
def rightR (r : Rw) : Nat := if rightV r.v ≠ 0 then rightV r.v else if r.un ≠ 4611686018427387904 ∧ (r.un ≤ r.v.st ∨ 1099511627775 < r.un) then 2 else 0
def liveB (r : Rw) (x : Int) : Bool := decide (r.v.st ≤ x) && decide (x < r.un) && !r.v.gone
/-- Which of two versions is ahead. -/
def cmpV (a b : Vr) : Int :=
  if lessN (nats a.ent) (nats b.ent) then -1
  else if nats a.ent = nats b.ent then (if a.sf < b.sf then -1 else if a.sf = b.sf then (if a.st < b.st then -1 else if a.st = b.st then 0 else 1) else 1)
  else 1
theorem cmpV_back (a b : Vr) : cmpV b a = 0 - cmpV a b := by
  unfold cmpV
  rcases lessN_or (nats a.ent) (nats b.ent) with h | h | h
  · have h2 : lessN (nats b.ent) (nats a.ent) = false := by
      cases hh : lessN (nats b.ent) (nats a.ent)
      · rfl
      · have := lessN_trans _ _ _ h hh; rw [lessN_self] at this; cases this
    have h3 : nats b.ent ≠ nats a.ent := fun e => by rw [e, lessN_self] at h; cases h
    rw [if_neg (by rw [h2]; simp), if_neg h3, if_pos h]; rfl
  · have h2 : lessN (nats a.ent) (nats b.ent) = false := by
      cases hh : lessN (nats a.ent) (nats b.ent)
      · rfl
      · have := lessN_trans _ _ _ h hh; rw [lessN_self] at this; cases this
    have h3 : nats a.ent ≠ nats b.ent := fun e => by rw [e, lessN_self] at h; cases h
    rw [if_pos h, if_neg (by rw [h2]; simp), if_neg h3]; rfl
  · rw [h, lessN_self]
    simp only [Bool.false_eq_true, if_false, if_true]
    (repeat' split) <;> omega

/-- The bytes of a version that may be. -/
def bodyV (v : Vr) : ByteArray := if v.gone then encS 1 else encS 0 ++ intS v.sf ++ encS (v.se - v.sf).toNat ++ putS v.fs
def bytesV (v : Vr) : ByteArray := encS v.id.toNat ++ encS v.st.toNat ++ textS v.ent ++ bodyV v
def putV (v : Vr) : ByteArray := if rightV v = 0 then bytesV v else ⟨#[]⟩
/-- A version without the place of its fields; none. -/
def contV (v : Vr) : Vr := ⟨v.id, v.st, v.ent, v.sf, v.se, none, 0, v.fs, v.gone⟩
def noV : Vr := ⟨0, 0, ⟨#[]⟩, 0, 0, none, 0, [], false⟩
abbrev TV := Vr × ByteArray × Nat
def badV (e : Nat) : TV := (noV, ⟨#[]⟩, e)
def endV (v : Vr) (r : ByteArray) : TV := if rightV v = 0 then (v, r, 0) else badV 8
def restV (id st : Int) (ent : ByteArray) (s : ByteArray) : TV :=
  if tkE s ≠ 0 then badV (tkE s)
  else if tkE (tkR s) ≠ 0 then badV (tkE (tkR s))
  else if (takeF (tkR (tkR s))).2.2 ≠ 0 then badV (takeF (tkR (tkR s))).2.2
  else endV ⟨id, st, ent, unzig (tkN s), unzig (tkN s) + (tkN (tkR s) : Int), none, 0, (takeF (tkR (tkR s))).1, false⟩ (takeF (tkR (tkR s))).2.1
def goneV (id st : Int) (ent : ByteArray) (s : ByteArray) : TV :=
  if tkE s ≠ 0 then badV (tkE s)
  else if 1 < tkN s then badV 8
  else if tkN s = 1 then endV ⟨id, st, ent, 0, 0, none, 0, [], true⟩ (tkR s)
  else restV id st ent (tkR s)
def entV (id st : Int) (s : ByteArray) : TV := if ttE s 24 ≠ 0 then badV (ttE s 24) else goneV id st (ttS s 24) (ttR s 24)
def takeVs (s : ByteArray) : TV :=
  if tkE s ≠ 0 then badV (tkE s) else if tkE (tkR s) ≠ 0 then badV (tkE (tkR s)) else entV (tkN s) (tkN (tkR s)) (tkR (tkR s))

theorem right_stamps {v : Vr} (h : rightV v = 0) : 1 ≤ v.st ∧ v.st ≤ 1099511627775 ∧ 1 ≤ v.id ∧ v.id ≤ v.st ∧ entE v.ent = 0 := by
  unfold rightV at h
  by_cases h1 : v.st < 1 ∨ 1099511627775 < v.st ∨ v.id < 1 ∨ v.st < v.id
  · rw [if_pos h1] at h; cases h
  · rw [if_neg h1] at h
    by_cases h2 : entE v.ent ≠ 0
    · rw [if_pos h2] at h; exact absurd h h2
    · exact ⟨by omega, by omega, by omega, by omega, by omega⟩
theorem right_gone {v : Vr} (h : rightV v = 0) (hg : v.gone = true) : v.fs = [] ∧ v.sf = 0 ∧ v.se = 0 := by
  have hs := right_stamps h
  unfold rightV at h
  rw [if_neg (by omega), if_neg (by omega), if_pos hg] at h
  by_cases h1 : v.id = v.st ∨ 0 < v.fs.length ∨ v.sf ≠ 0 ∨ v.se ≠ 0
  · rw [if_pos h1] at h; cases h
  · exact ⟨List.eq_nil_of_length_eq_zero (by omega), by omega, by omega⟩
theorem right_here {v : Vr} (h : rightV v = 0) (hg : v.gone = false) : rightS v.sf v.se = true ∧ rightE v.fs = 0 := by
  have hs := right_stamps h
  unfold rightV at h
  rw [if_neg (by omega), if_neg (by omega), if_neg (by rw [hg]; simp)] at h
  cases hr : rightS v.sf v.se with
  | false => rw [hr] at h; cases h
  | true => rw [hr] at h; exact ⟨rfl, h⟩
theorem span_bounds {f t : Int} (h : rightS f t = true) : -1099511627776 ≤ f ∧ t ≤ 1099511627776 ∧ f < t := by
  unfold rightS at h
  simp only [Bool.and_eq_true, decide_eq_true_eq] at h
  exact ⟨h.1.1, h.1.2, h.2⟩
theorem right_cont (v : Vr) : rightV (contV v) = rightV v := rfl
/-- What is put is taken. -/
theorem takeVs_put {v : Vr} (h : rightV v = 0) (b : ByteArray) : takeVs (putV v ++ b) = (contV v, b, 0) := by
  obtain ⟨s1, s2, s3, s4, s5⟩ := right_stamps h
  have hes : v.ent.size ≤ 24 := by
    unfold entE at s5
    by_cases h1 : v.ent.size = 0
    · omega
    · rw [if_neg h1] at s5
      by_cases h2 : 24 < v.ent.size
      · rw [if_pos h2] at s5; cases s5
      · omega
  have e0 : putV v ++ b = encS v.id.toNat ++ (encS v.st.toNat ++ (textS v.ent ++ (bodyV v ++ b))) := by
    unfold putV bytesV
    rw [if_pos h]
    simp only [ByteArray.append_assoc]
  obtain ⟨a1, a2, a3⟩ := tk_enc (n := v.id.toNat) (by omega) (encS v.st.toNat ++ (textS v.ent ++ (bodyV v ++ b)))
  obtain ⟨b1, b2, b3⟩ := tk_enc (n := v.st.toNat) (by omega) (textS v.ent ++ (bodyV v ++ b))
  obtain ⟨c1, c2, c3⟩ := tt_text (s := v.ent) (b := bodyV v ++ b) (most := 24) (by omega) (by omega)
  have fin : endV (contV v) b = (contV v, b, 0) := by unfold endV; rw [right_cont, if_pos h]
  have i1 : ((v.id.toNat : Nat) : Int) = v.id := by omega
  have i2 : ((v.st.toNat : Nat) : Int) = v.st := by omega
  rw [e0, takeVs, a1, a2, a3, b1, b2, b3, if_neg (by simp), if_neg (by simp), entV, c1, c2, c3, if_neg (by simp), i1, i2]
  cases hg : v.gone with
  | true =>
    obtain ⟨g1, g2, g3⟩ := right_gone h hg
    have eb : bodyV v = encS 1 := by unfold bodyV; rw [if_pos hg]
    obtain ⟨d1, d2, d3⟩ := tk_enc (n := 1) (by omega) b
    rw [eb, goneV, d1, d2, d3, if_neg (by simp), if_neg (by omega), if_pos rfl, ← fin]
    congr 1
    unfold contV
    rw [g1, g2, g3, hg]
  | false =>
    obtain ⟨g1, g2⟩ := right_here h hg
    obtain ⟨p1, p2, p3⟩ := span_bounds g1
    have eb : bodyV v ++ b = encS 0 ++ (intS v.sf ++ (encS (v.se - v.sf).toNat ++ (putS v.fs ++ b))) := by
      unfold bodyV
      rw [if_neg (by rw [hg]; simp)]
      simp only [ByteArray.append_assoc]
    obtain ⟨d1, d2, d3⟩ := tk_enc (n := 0) (by omega) (intS v.sf ++ (encS (v.se - v.sf).toNat ++ (putS v.fs ++ b)))
    have hv : valB v.sf = true := by unfold valB; simp only [Bool.and_eq_true, decide_eq_true_eq]; omega
    obtain ⟨q1, q2, q3⟩ := int_takenF hv (encS (v.se - v.sf).toNat ++ (putS v.fs ++ b))
    obtain ⟨r1, r2, r3⟩ := tk_enc (n := (v.se - v.sf).toNat) (by omega) (putS v.fs ++ b)
    have t1 := takeF_put g2 b
    rw [eb, goneV, d1, d2, d3, if_neg (by simp), if_neg (by omega), if_neg (by omega), restV, q1, q2, q3, r1, r2, r3, t1, if_neg (by simp), if_neg (by simp), if_neg (by simp), ← fin]
    congr 1
    unfold contV
    rw [hg, show v.sf + (((v.se - v.sf).toNat : Nat) : Int) = v.se by omega]

/-- Rows. -/
def putR (r : Rw) : ByteArray := if rightR r = 0 then putV r.v ++ encS (if r.un = 4611686018427387904 then 0 else r.un.toNat) else ⟨#[]⟩
abbrev TR := Rw × ByteArray × Nat
def noR : Rw := ⟨noV, 0⟩
def badR (e : Nat) : TR := (noR, ⟨#[]⟩, e)
def endR (r : Rw) (s : ByteArray) : TR := if rightR r = 0 then (r, s, 0) else badR 8
def untilI (n : Nat) : Int := if n = 0 then 4611686018427387904 else (n : Int)
def takeRs (s : ByteArray) : TR :=
  if (takeVs s).2.2 ≠ 0 then badR (takeVs s).2.2
  else if tkE (takeVs s).2.1 ≠ 0 then badR (tkE (takeVs s).2.1)
  else endR ⟨(takeVs s).1, untilI (tkN (takeVs s).2.1)⟩ (tkR (takeVs s).2.1)
def contR (r : Rw) : Rw := ⟨contV r.v, r.un⟩
theorem rightR_v {r : Rw} (h : rightR r = 0) : rightV r.v = 0 ∧ (r.un = 4611686018427387904 ∨ (r.v.st < r.un ∧ r.un ≤ 1099511627775)) := by
  unfold rightR at h
  by_cases h1 : rightV r.v ≠ 0
  · rw [if_pos h1] at h; exact absurd h h1
  · rw [if_neg h1] at h
    by_cases h2 : r.un ≠ 4611686018427387904 ∧ (r.un ≤ r.v.st ∨ 1099511627775 < r.un)
    · rw [if_pos h2] at h; cases h
    · exact ⟨by omega, by omega⟩
theorem takeRs_put {r : Rw} (h : rightR r = 0) (b : ByteArray) : takeRs (putR r ++ b) = (contR r, b, 0) := by
  obtain ⟨h1, h2⟩ := rightR_v h
  have hs := right_stamps h1
  have fin : endR (contR r) b = (contR r, b, 0) := by
    unfold endR
    rw [if_pos (show rightR (contR r) = 0 from h)]
  have e0 : putR r ++ b = putV r.v ++ (encS (if r.un = 4611686018427387904 then 0 else r.un.toNat) ++ b) := by
    unfold putR
    rw [if_pos h, ByteArray.append_assoc]
  have t := takeVs_put h1 (encS (if r.un = 4611686018427387904 then 0 else r.un.toNat) ++ b)
  have hn : (if r.un = 4611686018427387904 then 0 else r.un.toNat) < 4611686018427387904 := by split <;> omega
  obtain ⟨a1, a2, a3⟩ := tk_enc hn b
  rw [e0, takeRs, t]
  simp only [ne_eq, not_true_eq_false, if_false]
  rw [a1, a2, a3, if_neg (by simp), ← fin]
  congr 1
  unfold contR untilI
  congr 1
  by_cases hu : r.un = 4611686018427387904
  · rw [if_pos hu, if_pos rfl, hu]
  · rw [if_neg hu, if_neg (by omega)]; omega

end Go.Proofs.YtaoobliajgcdmaaGreat

/-
  The document's Entity, Right, RightRow, Live and Compare.
-/
namespace Go.Proofs.YtaoobliajgcdmaaGreat
open Go.RowKit

/-- A row as a value. -/
abbrev rv (r : Rw) : Value := .agg #[.int .i64 r.v.id, .int .i64 r.v.st, .string r.v.ent, .int .i64 r.v.sf, .int .i64 r.v.se, .slice r.v.fa r.v.fs.length r.v.fc, .bool r.v.gone, .int .i64 r.un]

end Go.Proofs.YtaoobliajgcdmaaGreat

/-
  The document's Put of fields.
-/
namespace Go.Proofs.YtaoobliajgcdmaaGreat
open Go.RowKit

theorem text_small {s : ByteArray} (h : s.size ≤ 12) : (textS s).size ≤ 30 := by
  rw [textS, ByteArray.size_append, encS_size]
  have := kN_le s.size
  omega
theorem int_small {v : Int} (h : valB v = true) : (intS v).size ≤ 10 := by
  rw [intS_enc h, encS_size]
  have := kN_le (zig v).toNat
  omega
theorem right_at : ∀ (l : List Fd) (o : Option ByteArray), rightG o l = 0 → ∀ f ∈ l, nameB f.n = true ∧ valB f.v = true
  | [], _, _, f, h => by simp at h
  | g :: l, o, h, f, hf => by
    obtain ⟨h1, h2, h3⟩ := behind_right.1 h
    rcases List.mem_cons.1 hf with rfl | hf
    · exact ⟨behind_name h1, h2⟩
    · exact right_at l _ h3 f hf
theorem right_in {l : List Fd} (h : rightE l = 0) : l.length ≤ 8 ∧ rightG none l = 0 := by
  unfold rightE at h
  by_cases h8 : 8 < l.length
  · rw [if_pos h8] at h; cases h
  · rw [if_neg h8] at h; exact ⟨by omega, h⟩
theorem ret_sie {s t : ByteArray} {a b : Int} (h : s = t) (k : a = b) : Ending.returned (.tuple #[.string s, .int .i64 a]) = .returned (.tuple #[.string t, .int .i64 b]) := by rw [h, k]

end Go.Proofs.YtaoobliajgcdmaaGreat

/-
  The document's Live, Compare, Put, PutRow and OneRow.
-/
namespace Go.Proofs.YtaoobliajgcdmaaGreat
open Go.RowKit

/-- A version in a block of its own. -/
abbrev BoxV (w : World) (g : Nat) (v : Vr) : Prop := w.cell? ⟨g, 0, none⟩ = some (.int .i64 v.id) ∧ w.cell? ⟨g, 1, none⟩ = some (.int .i64 v.st) ∧ w.cell? ⟨g, 2, none⟩ = some (.string v.ent) ∧ w.cell? ⟨g, 3, none⟩ = some (.int .i64 v.sf) ∧
  w.cell? ⟨g, 4, none⟩ = some (.int .i64 v.se) ∧ w.cell? ⟨g, 5, none⟩ = some (.slice v.fa v.fs.length v.fc) ∧ w.cell? ⟨g, 6, none⟩ = some (.bool v.gone)
theorem BoxV.below {w w' : World} {g : Nat} {v : Vr} (h : BoxV w g v) (hb : Below w.heap.size w w') : BoxV w' g v :=
  ⟨keepc hb h.1, keepc hb h.2.1, keepc hb h.2.2.1, keepc hb h.2.2.2.1, keepc hb h.2.2.2.2.1, keepc hb h.2.2.2.2.2.1, keepc hb h.2.2.2.2.2.2⟩
theorem boxV_new (w : World) (v : Vr) : BoxV (w.alloc (ocV v)) w.heap.size v := ⟨by simp [go_sem], by simp [go_sem], by simp [go_sem], by simp [go_sem], by simp [go_sem], by simp [go_sem], by simp [go_sem]⟩
theorem enc_small (n : Nat) : (encS n).size ≤ 10 := by rw [encS_size]; have := kN_le n; omega
theorem ent_small {v : Vr} (h : rightV v = 0) : v.ent.size ≤ 24 := by
  have := (right_stamps h).2.2.2.2
  unfold entE at this
  by_cases h1 : v.ent.size = 0
  · omega
  · rw [if_neg h1] at this
    by_cases h2 : 24 < v.ent.size
    · rw [if_pos h2] at this; cases this
    · omega
theorem text_small24 {s : ByteArray} (h : s.size ≤ 24) : (textS s).size ≤ 40 := by
  rw [textS, ByteArray.size_append, encS_size]
  have := kN_le s.size
  omega
theorem many_size : ∀ (l : List Fd) (o : Option ByteArray), rightG o l = 0 → (manyS l).size ≤ 40 * l.length
  | [], _, _ => Nat.le_refl _
  | f :: l, o, h => by
    obtain ⟨h1, h2, h3⟩ := behind_right.1 h
    have ih := many_size l _ h3
    have t1 := text_small (name_size (behind_name h1))
    have t2 := int_small h2
    rw [manyS, oneS, ByteArray.size_append, ByteArray.size_append, List.length_cons]
    omega
theorem putS_size (l : List Fd) : (putS l).size ≤ 1000 := by
  unfold putS
  by_cases h : rightE l = 0
  · rw [if_pos h, ByteArray.size_append, encS_size]
    obtain ⟨h8, hg⟩ := right_in h
    have := many_size l none hg
    have := kN_le l.length
    omega
  · rw [if_neg h]; exact Nat.zero_le _

end Go.Proofs.YtaoobliajgcdmaaGreat

/-
  The document's PutRow and OneRow.
-/
namespace Go.Proofs.YtaoobliajgcdmaaGreat
open Go.RowKit

/-- A row in a block of its own. -/
abbrev BoxR (w : World) (g : Nat) (r : Rw) : Prop := BoxV w g r.v ∧ w.cell? ⟨g, 7, none⟩ = some (.int .i64 r.un)
theorem BoxR.below {w w' : World} {g : Nat} {r : Rw} (h : BoxR w g r) (hb : Below w.heap.size w w') : BoxR w' g r := ⟨h.1.below hb, keepc hb h.2⟩
theorem bytesV_size {v : Vr} (h : rightV v = 0) : (putV v).size ≤ 2000 := by
  unfold putV bytesV bodyV
  rw [if_pos h]
  have h1 := enc_small v.id.toNat
  have h2 := enc_small v.st.toNat
  have h3 := text_small24 (ent_small h)
  have h4 := enc_small 0
  have h5 := enc_small 1
  have h6 := enc_small (v.se - v.sf).toNat
  have h7 := putS_size v.fs
  cases hg : v.gone with
  | true =>
    simp only [if_true, ByteArray.size_append]
    omega
  | false =>
    obtain ⟨g1, g2⟩ := right_here h hg
    obtain ⟨p1, p2, p3⟩ := span_bounds g1
    have hvb : valB v.sf = true := by unfold valB; simp only [Bool.and_eq_true, decide_eq_true_eq]; omega
    have h8 := int_small hvb
    simp only [Bool.false_eq_true, if_false, ByteArray.size_append]
    omega

/-- Are two rows one? -/
def sameR (a b : Rw) : Bool := sameV a.v b.v && decide (a.un = b.un)

end Go.Proofs.YtaoobliajgcdmaaGreat

/-
  Lists of rows in memory; are two lists of rows one, by the document?
-/
namespace Go.Proofs.YtaoobliajgcdmaaGreat
open Go.RowKit

abbrev cellsR (r : Rw) : List Value := [.int .i64 r.v.id, .int .i64 r.v.st, .string r.v.ent, .int .i64 r.v.sf, .int .i64 r.v.se, .slice r.v.fa r.v.fs.length r.v.fc, .bool r.v.gone, .int .i64 r.un]
/-- The cells of a row. -/
abbrev Cells8 (w : World) (g o : Nat) (r : Rw) : Prop := w.cell? ⟨g, o, none⟩ = some (.int .i64 r.v.id) ∧ w.cell? ⟨g, o + 1, none⟩ = some (.int .i64 r.v.st) ∧ w.cell? ⟨g, o + 2, none⟩ = some (.string r.v.ent) ∧ w.cell? ⟨g, o + 3, none⟩ = some (.int .i64 r.v.sf) ∧
  w.cell? ⟨g, o + 4, none⟩ = some (.int .i64 r.v.se) ∧ w.cell? ⟨g, o + 5, none⟩ = some (.slice r.v.fa r.v.fs.length r.v.fc) ∧ w.cell? ⟨g, o + 6, none⟩ = some (.bool r.v.gone) ∧ w.cell? ⟨g, o + 7, none⟩ = some (.int .i64 r.un)
theorem Cells8.below {w w' : World} {g o : Nat} {v : Rw} (h : Cells8 w g o v) (hb : Below w.heap.size w w') : Cells8 w' g o v :=
  ⟨keepc hb h.1, keepc hb h.2.1, keepc hb h.2.2.1, keepc hb h.2.2.2.1, keepc hb h.2.2.2.2.1, keepc hb h.2.2.2.2.2.1, keepc hb h.2.2.2.2.2.2.1, keepc hb h.2.2.2.2.2.2.2⟩
def sameRs : List Rw → List Rw → Bool
  | [], [] => true
  | a :: l, b :: m => sameR a b && sameRs l m
  | _, _ => false
theorem sameRs_len : ∀ (a b : List Rw), a.length ≠ b.length → sameRs a b = false
  | [], [], h => absurd rfl h
  | [], _ :: _, _ => rfl
  | _ :: _, [], _ => rfl
  | x :: a, y :: b, h => by
    rw [sameRs, sameRs_len a b (fun e => h (by simp [e])), Bool.and_false]

end Go.Proofs.YtaoobliajgcdmaaGreat

/-
  The world behind a stretch of a walk, named by what is known of it.
-/
namespace Go.Proofs.YtaoobliajgcdmaaGreat
open Go.RowKit

theorem abstract_worldW {P : Program} {code : Code} {Q : Exit → Act → World → Prop} {a : Act} {w : World} (R : World → Prop) (h0 : R w) (h : ∀ W, R W → Code.wp P code Q a W) : Code.wp P code Q a w := h w h0
theorem abstract_then {next : Act → World → Prop} {Q : Exit → Act → World → Prop} {a : Act} {w : World} (R : World → Prop) (h0 : R w) (h : ∀ W, R W → Exit.then next Q .normal a W) : Exit.then next Q .normal a w := h w h0

end Go.Proofs.YtaoobliajgcdmaaGreat

/-
  The document's Right, At, Same, Few, Spans and Known of pieces.
-/
namespace Go.Proofs.YtaoobliajgcdmaaGreat
open Go.RowKit

def chainT : Pc → List Pc → Bool
  | _, [] => true
  | p, q :: l => rightP q.f q.t && linkB p q && chainT q l
theorem rightT_cons : ∀ (l : List Pc) (p : Pc), rightT (p :: l) = (rightP p.f p.t && chainT p l)
  | [], p => by rw [rightT, chainT, Bool.and_true]
  | q :: l, p => by
    rw [rightT, rightT_cons l q, chainT]
    cases rightP p.f p.t <;> cases linkB p q <;> cases rightP q.f q.t <;> rfl
/-- Is it a timeline, seen from a place on? -/
def goT (l : List Pc) : Nat → Bool
  | 0 => rightT l
  | k + 1 => match l[k]? with
    | some p => chainT p (l.drop (k + 1))
    | none => true
theorem goT_zero {l : List Pc} {p : Pc} (h : l[0]? = some p) : goT l 0 = (rightP p.f p.t && goT l 1) := by
  cases l with
  | nil => simp at h
  | cons q l =>
    obtain rfl : q = p := by simpa using h
    exact rightT_cons l q
theorem goT_succ {l : List Pc} {k : Nat} {p q : Pc} (hp : l[k]? = some p) (hq : l[k + 1]? = some q) : goT l (k + 1) = (rightP q.f q.t && linkB p q && goT l (k + 2)) := by
  simp only [goT, hp, hq]
  rw [drop_consL hq, chainT]
theorem goT_end (l : List Pc) : goT l l.length = true := by
  cases l with
  | nil => rfl
  | cons p l =>
    show goT (p :: l) (l.length + 1) = true
    rw [goT, List.drop_of_length_le (by simp)]
    cases (p :: l)[l.length]? <;> rfl
set_option maxRecDepth 100000 in
theorem run_neq_sp (a b c d : Int) (w : World) : (binOp .neq 23 (.agg #[.int .i64 a, .int .i64 b]) (.agg #[.int .i64 c, .int .i64 d])).run Tryz.prog w = .ok (.bool (!decide (a = c ∧ b = d))) w := by
  rw [run_neq_struct, run_equalIn_struct w 9999 23 _ _ Tryz.underlying23 (by kernel_rfl)]
  have h3 := Tryz.underlying3
  have a3 : ∀ w, (isAgg 3).run Tryz.prog w = .ok false w := Tryz.isAgg3
  have c3 : Tryz.prog.cellsOf 3 = 1 := by kernel_rfl
  simp [Op.eqFields, Program.fieldsOf, Tryz.underlying23, part, a3, run_equalIn_int w 9998 _ .i64 .i64 _ _ h3]
  by_cases h1 : a = c
  · by_cases h2 : b = d <;> simp [h1, h2]
  · simp [h1]
theorem rightS_P (f t : Int) : rightS f t = rightP f t := by
  rw [Bool.eq_iff_iff]
  simp only [rightS, rightP, Bool.and_eq_true, decide_eq_true_eq]
theorem hasS_P (f t x : Int) : hasS f t x = inP f t x := rfl

set_option maxHeartbeats 4000000 in
set_option maxRecDepth 10000 in
theorem dtright_any (w : World) (u : Value) (l : List Pc) (hl : PcsL w u l) (hn : l.length ≤ 100000) (hfs : ∀ p ∈ l, p.fs.length ≤ 9223372036854775807) : Ret 18 #[u] w (.bool (rightT l)) := by
  obtain ⟨⟨A, c, rfl, hA, hc, hnc⟩, hPF⟩ := hl
  have HA := Lib.hid hA
  have HPF := Lib.hid hPF
  have HFS := Lib.hid hfs
  have HEND := Lib.hid (goT_end l)
  obtain ⟨n, hnm⟩ : ∃ n, l.length = n := ⟨_, rfl⟩
  obtain ⟨R, hR⟩ : ∃ R, rightT l = R := ⟨_, rfl⟩
  rw [hnm] at hn hc HEND ⊢
  rw [hR]
  have HN := Lib.hid hnm
  have HR := Lib.hid (show R = goT l 0 from hR.symm)
  clear hA hc hnc hPF hnm hR hfs
  go_enter Tryz.func18, Tryz.ntmps18
  go_wp2_with fail
  go_loopw [3] (fun i wr => ∃ k : Nat, k ≤ n ∧ i = .int .i64 k ∧ R = goT l k ∧ Below w.heap.size w wr) (fun i _ => n - (intOf i).toNat)
  case atStart => exact ⟨0, Nat.zero_le _, rfl, HR.out, bl w⟩
  case round =>
    obtain ⟨k, hk, rfl, hg, hW⟩ := hrel
    have HGK := Lib.hid hg
    have HW := Lib.hid hW
    clear hW hg
    by_cases hlt : k < n
    · have hlt' : (k : Int) < (n : Int) := by omega
      obtain ⟨q, hx⟩ : ∃ q, l[k]? = some q := ⟨_, List.getElem?_eq_getElem (by have := HN.out; omega)⟩
      obtain ⟨g, off, rfl, hX⟩ := (HA.out.below HW.out).cells3 hx
      have HV := Lib.hid hx
      have HX := Lib.hid hX
      have CR := Lib.hid (fun w => dright01_any q.f q.t w)
      obtain ⟨z0, z1, z2⟩ := hX
      clear hx
      rw [rightS_P] at CR
      cases hr : rightP q.f q.t with
      | false =>
        rw [hr] at CR
        have NX := Lib.hid (show R = false by
          rw [HGK.out]
          rcases Nat.eq_zero_or_pos k with rfl | hk0
          · rw [goT_zero HV.out, hr]; rfl
          · obtain ⟨j, rfl⟩ : ∃ j, k = j + 1 := ⟨k - 1, by omega⟩
            obtain ⟨p, hp⟩ : ∃ p, l[j]? = some p := ⟨_, List.getElem?_eq_getElem (by have := HN.out; omega)⟩
            rw [goT_succ hp HV.out, hr]; rfl)
        clear hr
        go_wp2_with (go_at_call 29; (with_reducible refine (CR.out _).mono ?_); rintro e w2 ⟨rfl, hb2⟩)
        go_ret
        exact ⟨ret_bool NX.out.symm, chain HW.out hb2⟩
      | true =>
        rw [hr] at CR
        have HRT := Lib.hid hr
        clear hr
        rcases Nat.eq_zero_or_pos k with hk0 | hk0
        · subst hk0
          have hX0 := HX.out
          rw [Nat.zero_mul, Nat.add_zero] at hX0
          clear z0 z1 z2
          have HX0 := Lib.hid hX0
          obtain ⟨z0, z1, z2⟩ := hX0
          have NX := Lib.hid (show R = goT l 1 by rw [HGK.out, goT_zero HV.out, HRT.out]; rfl)
          go_wp2_with (go_at_call 29; (with_reducible refine (CR.out _).mono ?_); rintro e w2 ⟨rfl, hb2⟩)
          go_quiet (fail)
          go_wp2_with fail
          exact ⟨⟨1, by omega, by go_num, NX.out, belowN (chain HW.out hb2) _⟩, by simp [intOf] <;> omega⟩
        · obtain ⟨j, hkj⟩ : ∃ j, k = j + 1 := ⟨k - 1, by omega⟩
          obtain ⟨p, hp⟩ : ∃ p, l[j]? = some p := ⟨_, List.getElem?_eq_getElem (by have := HN.out; omega)⟩
          obtain ⟨g', off', he, hP⟩ := (HA.out.below HW.out).cells3 hp
          injection he with he
          injection he with e1 e2 _
          subst e1 e2
          have HP := Lib.hid hp
          have HPP := Lib.hid hP
          have HG1 := Lib.hid (show R = (linkB p q && goT l (k + 1)) by
            have hV := HV.out
            rw [HGK.out, hkj]
            rw [hkj] at hV
            rw [goT_succ hp hV, HRT.out, Bool.true_and])
          have hkz : (0 : Int) < (k : Int) := by omega
          have hkz2 : 0 < k := hk0
          have hsub : IntKind.i64.wrap ((k : Int) - 1) = (j : Int) := by rw [IntWalk.i64_in _ (by omega)]; omega
          have hjn : (j : Int) < (n : Int) := by omega
          have hjn2 : j < n := by omega
          clear hp hP hkj
          by_cases h1 : q.f < p.t
          · have h1' : decide (q.f < p.t) = true := decide_eq_true h1
            have NX := Lib.hid (show R = false by
              have : linkB p q = false := by unfold linkB; rw [decide_eq_false (by omega), Bool.false_and]
              rw [HG1.out, this, Bool.false_and])
            go_wp2_with (go_at_call 29; (with_reducible refine (CR.out _).mono ?_); rintro e w2 ⟨rfl, hb2⟩; obtain ⟨x0, x1, x2⟩ := HX.out.below hb2; obtain ⟨y0, y1, y2⟩ := HPP.out.below hb2)
            go_quiet (fail)
            go_wp2_with fail
            go_ret
            exact ⟨ret_bool NX.out.symm, belowN (chain HW.out hb2) _⟩
          · have h1' : decide (q.f < p.t) = false := decide_eq_false h1
            by_cases h2 : p.t = q.f
            · have h2' : (p.t == q.f) = true := by simpa using h2
              have hsp : p.fs.length ≤ 9223372036854775807 := HFS.out p (List.mem_of_getElem? HP.out)
              have hsq : q.fs.length ≤ 9223372036854775807 := HFS.out q (List.mem_of_getElem? HV.out)
              have CO := Lib.hid (fun w' (h : Below wr.heap.size wr w') => dsamel_any w' (.slice p.fa p.fs.length p.fc) (.slice q.fa q.fs.length q.fc) p.fs q.fs (((HPF.out p (List.mem_of_getElem? HP.out)).below (chain HW.out h)).list) (((HPF.out q (List.mem_of_getElem? HV.out)).below (chain HW.out h)).list) hsp hsq)
              have HL := Lib.hid (show linkB p q = !sameF p.fs q.fs by unfold linkB; rw [decide_eq_true (by omega), decide_eq_false (by omega)]; rfl)
              generalize sameF p.fs q.fs = s at *
              cases s with
              | true =>
                have NX := Lib.hid (show R = false by rw [HG1.out, HL.out]; rfl)
                go_wp2_with (go_at_call 29; (with_reducible refine (CR.out _).mono ?_); rintro e w2 ⟨rfl, hb2⟩; have HB2 := Lib.hid hb2; have MK := Lib.hid (show ∀ w', Below w2.heap.size w2 w' → (Below w2.heap.size w2 w' ∧ Cells3 w' g (off + k * 3) q ∧ Cells3 w' g (off + j * 3) p) from fun w' h => ⟨h, HX.out.below (chain hb2 h), HPP.out.below (chain hb2 h)⟩); clear hb2)
                first
                  | (go_region_held3 (fun w' => Below w2.heap.size w2 w' ∧ Cells3 w' g (off + k * 3) q ∧ Cells3 w' g (off + j * 3) p)
                      (first | exact MK.out _ ((bl w2).drew) | exact MK.out _ hb1 | fail)
                      (first | (go_at_call 19; (refine (CO.out _ (chain HB2.out (by go_split_ands; assumption))).mono ?_); (rintro e w1 ⟨rfl, hb0⟩); (have hb1 := chain (by go_split_ands; assumption) hb0); clear hb0) | fail))
                  | fail
                go_wp2_with fail
                go_ret
                exact ⟨ret_bool NX.out.symm, chain (chain HW.out HB2.out) hb1⟩
              | false =>
                have NX := Lib.hid (show R = goT l (k + 1) by rw [HG1.out, HL.out]; rfl)
                go_wp2_with (go_at_call 29; (with_reducible refine (CR.out _).mono ?_); rintro e w2 ⟨rfl, hb2⟩; have HB2 := Lib.hid hb2; have MK := Lib.hid (show ∀ w', Below w2.heap.size w2 w' → (Below w2.heap.size w2 w' ∧ Cells3 w' g (off + k * 3) q ∧ Cells3 w' g (off + j * 3) p) from fun w' h => ⟨h, HX.out.below (chain hb2 h), HPP.out.below (chain hb2 h)⟩); clear hb2)
                first
                  | (go_region_held3 (fun w' => Below w2.heap.size w2 w' ∧ Cells3 w' g (off + k * 3) q ∧ Cells3 w' g (off + j * 3) p)
                      (first | exact MK.out _ ((bl w2).drew) | exact MK.out _ hb1 | fail)
                      (first | (go_at_call 19; (refine (CO.out _ (chain HB2.out (by go_split_ands; assumption))).mono ?_); (rintro e w1 ⟨rfl, hb0⟩); (have hb1 := chain (by go_split_ands; assumption) hb0); clear hb0) | fail))
                  | fail
                go_wp2_with fail
                exact ⟨⟨k + 1, by omega, by go_num, NX.out, chain (chain HW.out HB2.out) hb1⟩, by simp [intOf] <;> omega⟩
            · have h2' : (p.t == q.f) = false := by simpa using h2
              have NX := Lib.hid (show R = goT l (k + 1) by
                have : linkB p q = true := by unfold linkB; rw [decide_eq_true (by omega), decide_eq_true h2]; rfl
                rw [HG1.out, this, Bool.true_and])
              go_wp2_with (go_at_call 29; (with_reducible refine (CR.out _).mono ?_); rintro e w2 ⟨rfl, hb2⟩; obtain ⟨x0, x1, x2⟩ := HX.out.below hb2; obtain ⟨y0, y1, y2⟩ := HPP.out.below hb2)
              go_quiet (fail)
              go_wp2_with fail
              exact ⟨⟨k + 1, by omega, by go_num, NX.out, belowN (chain HW.out hb2) _⟩, by simp [intOf] <;> omega⟩
    · obtain rfl : k = n := by omega
      have hlt' : ¬ (k : Int) < (k : Int) := by omega
      have NX := Lib.hid (show R = true by rw [HGK.out, HEND.out])
      go_wp2_with fail
      go_ret
      exact ⟨ret_bool NX.out.symm, HW.out⟩

/-- Where the fields lie that a list has at a time. -/
def AtD (l : List Pc) (x : Int) (A : Option Addr) (c : Nat) : Prop := match valP l x with
  | some p => p ∈ l ∧ p.fa = A ∧ p.fc = c
  | none => A = none ∧ c = 0
theorem AtD.some {l : List Pc} {x : Int} {p : Pc} (h : valP l x = some p) : AtD l x p.fa p.fc := by
  unfold AtD
  rw [h]
  exact ⟨(valP_mem h).1, rfl, rfl⟩
theorem AtD.none {l : List Pc} {x : Int} (h : valP l x = none) : AtD l x none 0 := by
  unfold AtD
  rw [h]
  exact ⟨rfl, rfl⟩
theorem AtD.pf {w : World} {l : List Pc} {x : Int} {A : Option Addr} {c : Nat} (h : AtD l x A c) (hl : ∀ p ∈ l, PF w p) (f t : Int) : PF w ⟨f, t, A, c, firstF l x⟩ := by
  unfold AtD at h
  cases hv : valP l x with
  | none =>
    rw [hv] at h
    obtain ⟨rfl, rfl⟩ := h
    have e : firstF l x = [] := by rw [firstF, fsP, hv]; rfl
    rw [e]
    exact ⟨Fields.nil _ _, Nat.le_refl _, fun _ => rfl⟩
  | some p =>
    rw [hv] at h
    obtain ⟨hm, rfl, rfl⟩ := h
    have e : firstF l x = p.fs := by rw [firstF, fsP, hv]; rfl
    rw [e]
    exact hl p hm

set_option maxHeartbeats 4000000 in
set_option maxRecDepth 10000 in
theorem dtat_any (w : World) (u : Value) (l : List Pc) (x : Int) (hl : PcsL w u l) (hn : l.length ≤ 100000) : Calls Tryz.prog 17 #[u, .int .i64 x] w fun e w' => ∃ A c, e = .returned (.tuple #[.slice A (firstF l x).length c, .bool (fsP l x).isSome]) ∧ AtD l x A c ∧ Below w.heap.size w w' := by
  obtain ⟨⟨A, c, rfl, hA, hc, hnc⟩, hPF⟩ := hl
  have HA := Lib.hid hA
  obtain ⟨n, hnm⟩ : ∃ n, l.length = n := ⟨_, rfl⟩
  rw [hnm] at hn hc ⊢
  have HN := Lib.hid hnm
  clear hA hc hnc hPF hnm
  go_enter Tryz.func17, Tryz.ntmps17
  go_wp2_with fail
  go_loopw [6] (fun i wr => ∃ k : Nat, k ≤ n ∧ i = .int .i64 k ∧ valP l x = valP (l.drop k) x ∧ Below w.heap.size w wr) (fun i _ => n - (intOf i).toNat)
  case atStart => exact ⟨0, Nat.zero_le _, rfl, rfl, bl w⟩
  case round =>
    obtain ⟨k, hk, rfl, hg, hW⟩ := hrel
    have HG := Lib.hid hg
    have HW := Lib.hid hW
    clear hg hW
    by_cases hlt : k < n
    · have hlt' : (k : Int) < (n : Int) := by omega
      obtain ⟨p, hx⟩ : ∃ p, l[k]? = some p := ⟨_, List.getElem?_eq_getElem (by have := HN.out; omega)⟩
      obtain ⟨g, off, rfl, hX⟩ := (HA.out.below HW.out).cells3 hx
      have HV := Lib.hid hx
      have HX := Lib.hid hX
      have CR := Lib.hid (fun w => dright01_any p.f p.t w)
      have CH := Lib.hid (fun w => dhas01_any p.f p.t x w)
      obtain ⟨z0, z1, z2⟩ := hX
      rw [rightS_P] at CR
      rw [hasS_P] at CH
      have HE := Lib.hid (show valP l x = if (rightP p.f p.t && inP p.f p.t x) = true then some p else valP (l.drop (k + 1)) x by rw [HG.out, drop_consL hx, valP]; rfl)
      clear hx
      generalize rightP p.f p.t = br at *
      generalize inP p.f p.t x = bi at *
      cases br with
      | false =>
        have NX := Lib.hid (show valP l x = valP (l.drop (k + 1)) x by rw [HE.out]; rfl)
        go_wp2_with (go_at_call 29; (with_reducible refine (CR.out _).mono ?_); rintro e w2 ⟨rfl, hb2⟩)
        exact ⟨⟨k + 1, by omega, by go_num, NX.out, chain HW.out hb2⟩, by simp [intOf] <;> omega⟩
      | true =>
        cases bi with
        | false =>
          have NX := Lib.hid (show valP l x = valP (l.drop (k + 1)) x by rw [HE.out]; rfl)
          go_wp2_with (first
            | (go_at_call 29; (with_reducible refine (CR.out _).mono ?_); rintro e w2 ⟨rfl, hb2⟩; obtain ⟨x0, x1, x2⟩ := HX.out.below hb2; have hc2 := chain HW.out hb2)
            | (go_at_call 30; (with_reducible refine (CH.out _).mono ?_); rintro e w3 ⟨rfl, hb3⟩; have hc3 := chain hc2 hb3))
          exact ⟨⟨k + 1, by omega, by go_num, NX.out, hc3⟩, by simp [intOf] <;> omega⟩
        | true =>
          have NX := Lib.hid (show valP l x = some p by rw [HE.out]; rfl)
          go_wp2_with (first
            | (go_at_call 29; (with_reducible refine (CR.out _).mono ?_); rintro e w2 ⟨rfl, hb2⟩; have HX2 := Lib.hid (HX.out.below hb2); obtain ⟨x0, x1, x2⟩ := HX.out.below hb2; have hc2 := chain HW.out hb2)
            | (go_at_call 30; (with_reducible refine (CH.out _).mono ?_); rintro e w3 ⟨rfl, hb3⟩; obtain ⟨y0, y1, y2⟩ := HX2.out.below hb3; have hc3 := chain hc2 hb3))
          go_ret2
          have e1 : fsP l x = some p.fs := by rw [fsP, NX.out]; rfl
          have e2 : firstF l x = p.fs := by rw [firstF, e1]; rfl
          exact ⟨p.fa, p.fc, by rw [e1, e2]; rfl, AtD.some NX.out, hc3⟩
    · obtain rfl : k = n := by omega
      have hlt' : ¬ (k : Int) < (k : Int) := by omega
      have NV := Lib.hid (show valP l x = none by rw [HG.out, List.drop_of_length_le (by have := HN.out; omega)]; rfl)
      have NX := Lib.hid (show fsP l x = none by rw [fsP, NV.out]; rfl)
      go_wp2_with fail
      go_ret2
      have e2 : firstF l x = [] := by rw [firstF, NX.out]; rfl
      exact ⟨none, 0, by rw [NX.out, e2]; rfl, AtD.none NV.out, HW.out⟩

set_option maxHeartbeats 4000000 in
set_option maxRecDepth 10000 in
theorem dtsame_any (w : World) (ua ub : Value) (a b : List Pc) (ha : PcsL w ua a) (hb : PcsL w ub b) (hn : a.length ≤ 100000) (ha2 : ∀ p ∈ a, p.fs.length ≤ 9223372036854775807) (hb2 : ∀ p ∈ b, p.fs.length ≤ 9223372036854775807) : Ret 12 #[ua, ub] w (.bool (sameP a b)) := by
  obtain ⟨⟨A, c, rfl, hA, hc1, hc2⟩, hVA⟩ := ha
  obtain ⟨⟨B, d, rfl, hB, hd1, hd2⟩, hVB⟩ := hb
  clear hc1 hc2 hd1 hd2
  by_cases hnm : a.length ≠ b.length
  · have HS := Lib.hid (sameP_len a b hnm)
    have hne : ((a.length : Int) != (b.length : Int)) = true := by rw [bne_iff_ne]; omega
    clear hA hB hVA hVB ha2 hb2
    generalize a.length = n at *
    generalize b.length = m at *
    go_enter Tryz.func12, Tryz.ntmps12
    go_wp2_with fail
    go_ret
    exact ⟨ret_bool HS.out.symm, bl w⟩
  · obtain ⟨n, hn1⟩ : ∃ n, a.length = n := ⟨_, rfl⟩
    have hn2 : b.length = n := by omega
    obtain ⟨t, ht⟩ : ∃ t, sameP a b = t := ⟨_, rfl⟩
    have HT := Lib.hid ht
    rw [hn1] at hn ⊢
    rw [hn2, ht]
    have HA := Lib.hid hA
    have HB := Lib.hid hB
    have HVA := Lib.hid hVA
    have HVB := Lib.hid hVB
    have HA2 := Lib.hid ha2
    have HB2 := Lib.hid hb2
    have HN1 := Lib.hid hn1
    have HN2 := Lib.hid hn2
    clear hA hB hn1 hn2 hnm ht hVA hVB ha2 hb2
    go_enter Tryz.func12, Tryz.ntmps12
    go_wp2_with fail
    go_loopw [5] (fun i wr => ∃ k : Nat, k ≤ n ∧ i = .int .i64 k ∧ t = sameP (a.drop k) (b.drop k) ∧ Below w.heap.size w wr) (fun i _ => n - (intOf i).toNat)
    case atStart => exact ⟨0, Nat.zero_le _, rfl, HT.out.symm, bl w⟩
    case round =>
      obtain ⟨k, hk, rfl, hg, hW⟩ := hrel
      have HW := Lib.hid hW
      clear hW
      by_cases hlt : k < n
      · have hlt' : (k : Int) < (n : Int) := by omega
        obtain ⟨x, hx⟩ : ∃ x, a[k]? = some x := ⟨_, List.getElem?_eq_getElem (by have := HN1.out; omega)⟩
        obtain ⟨y, hy⟩ : ∃ y, b[k]? = some y := ⟨_, List.getElem?_eq_getElem (by have := HN2.out; omega)⟩
        obtain ⟨g1, off, rfl, hX⟩ := (HA.out.below HW.out).cells3 hx
        obtain ⟨g2, off', rfl, hY⟩ := (HB.out.below HW.out).cells3 hy
        have hsx := HA2.out x (List.mem_of_getElem? hx)
        have hsy := HB2.out y (List.mem_of_getElem? hy)
        have CO := Lib.hid (fun w' (h : Below wr.heap.size wr w') => dsamel_any w' (.slice x.fa x.fs.length x.fc) (.slice y.fa y.fs.length y.fc) x.fs y.fs (((HVA.out x (List.mem_of_getElem? hx)).below (chain HW.out h)).list) (((HVB.out y (List.mem_of_getElem? hy)).below (chain HW.out h)).list) hsx hsy)
        rw [drop_consL hx, drop_consL hy, sameP] at hg
        have HX := Lib.hid hX
        have HY := Lib.hid hY
        have MK := Lib.hid (show ∀ w', Below wr.heap.size wr w' → (Below wr.heap.size wr w' ∧ Cells3 w' g1 (off + k * 3) x ∧ Cells3 w' g2 (off' + k * 3) y) from fun w' h => ⟨h, hX.below h, hY.below h⟩)
        by_cases hsp : x.f = y.f ∧ x.t = y.t
        · have e1 : sameP1 x y = sameF x.fs y.fs := by unfold sameP1; rw [decide_eq_true hsp.1, decide_eq_true hsp.2]; rfl
          rw [e1] at hg
          have ef : (x.f == y.f) = true := by simpa using hsp.1
          have et : (x.t == y.t) = true := by simpa using hsp.2
          have EF := Lib.hid hsp
          generalize sameF x.fs y.fs = s at *
          clear e1 hsp hsx hsy hx hy
          cases s with
          | true =>
            have HG := Lib.hid (show t = sameP (a.drop (k + 1)) (b.drop (k + 1)) by rw [hg, Bool.true_and])
            clear hg hX hY
            go_wp2_with fail
            first
              | (go_region_held3 (fun w' => Below wr.heap.size wr w' ∧ Cells3 w' g1 (off + k * 3) x ∧ Cells3 w' g2 (off' + k * 3) y)
                  (first | exact MK.out _ ((bl wr).drew) | exact MK.out _ hb1 | fail)
                  (first | (go_at_call 19; (refine (CO.out _ (by go_split_ands; assumption)).mono ?_); (rintro e w1 ⟨rfl, hb0⟩); (have hb1 := chain (by go_split_ands; assumption) hb0); clear hb0) | fail))
              | fail
            go_wp2_with fail
            exact ⟨⟨k + 1, by omega, by go_num, HG.out, chain HW.out hb1⟩, by simp [intOf] <;> omega⟩
          | false =>
            have HG := Lib.hid (show t = false by rw [hg, Bool.false_and])
            clear hg hX hY
            go_wp2_with fail
            first
              | (go_region_held3 (fun w' => Below wr.heap.size wr w' ∧ Cells3 w' g1 (off + k * 3) x ∧ Cells3 w' g2 (off' + k * 3) y)
                  (first | exact MK.out _ ((bl wr).drew) | exact MK.out _ hb1 | fail)
                  (first | (go_at_call 19; (refine (CO.out _ (by go_split_ands; assumption)).mono ?_); (rintro e w1 ⟨rfl, hb0⟩); (have hb1 := chain (by go_split_ands; assumption) hb0); clear hb0) | fail))
              | fail
            go_wp2_with fail
            go_ret
            exact ⟨ret_bool HG.out.symm, chain HW.out hb1⟩
        · have e1 : sameP1 x y = false := by
            unfold sameP1
            have : (decide (x.f = y.f) && decide (x.t = y.t)) = false := by
              rw [Bool.and_eq_false_iff, decide_eq_false_iff_not, decide_eq_false_iff_not]
              by_cases h : x.f = y.f
              · exact .inr fun k => hsp ⟨h, k⟩
              · exact .inl h
            rw [this, Bool.false_and]
          have HG := Lib.hid (show t = false by rw [hg, e1, Bool.false_and])
          have hq : ∀ w, (binOp .neq 23 (.agg #[.int .i64 x.f, .int .i64 x.t]) (.agg #[.int .i64 y.f, .int .i64 y.t])).run Tryz.prog w = .ok (.bool true) w := fun w => by rw [run_neq_sp, decide_eq_false hsp]; rfl
          obtain ⟨z0, z1, z2⟩ := HX.out
          obtain ⟨y0, y1, y2⟩ := HY.out
          clear hg e1 hsp hsx hsy hx hy hX hY
          go_wp2_with fail
          go_quiet (fail)
          go_wp2_with fail
          go_ret
          exact ⟨ret_bool HG.out.symm, belowN HW.out _⟩
      · obtain rfl : k = n := by omega
        have hlt' : ¬ (k : Int) < (k : Int) := by omega
        rw [List.drop_of_length_le (by have := HN1.out; omega), List.drop_of_length_le (by have := HN2.out; omega)] at hg
        have HG := Lib.hid (show t = true from hg)
        clear hg
        go_wp2_with fail
        go_ret
        exact ⟨ret_bool HG.out.symm, HW.out⟩

end Go.Proofs.YtaoobliajgcdmaaGreat

/-
  The document's Clip.
-/
namespace Go.Proofs.YtaoobliajgcdmaaGreat
open Go.RowKit

/-- A span in a block of its own. -/
abbrev ocS (f t : Int) : Obj := .cells #[.int .i64 f, .int .i64 t] 23
abbrev BoxS (w : World) (g : Nat) (f t : Int) : Prop := w.cell? ⟨g, 0, none⟩ = some (.int .i64 f) ∧ w.cell? ⟨g, 1, none⟩ = some (.int .i64 t)
theorem BoxS.below {w w' : World} {g : Nat} {f t : Int} (h : BoxS w g f t) (hb : Below w.heap.size w w') : BoxS w' g f t := ⟨keepc hb h.1, keepc hb h.2⟩
theorem boxS_new (w : World) (f t : Int) : BoxS (w.alloc (ocS f t)) w.heap.size f t := ⟨by simp [go_sem], by simp [go_sem]⟩

theorem zboxSd {w w1 : World} (hb : Below (w.alloc (.cells #[.int .i64 0, .int .i64 0] 23)).drew.heap.size (w.alloc (.cells #[.int .i64 0, .int .i64 0] 23)).drew w1) : w1.cell? ⟨w.heap.size, 0, none⟩ = some (.int .i64 0) ∧ w1.cell? ⟨w.heap.size, 1, none⟩ = some (.int .i64 0) ∧ w1.frozen? ⟨w.heap.size, 0, none⟩ = false ∧ w1.frozen? ⟨w.heap.size, 1, none⟩ = false :=
  ⟨keepc hb (by simp [go_sem]), keepc hb (by simp [go_sem]), keepf hb (by simp) (by simp [go_sem]), keepf hb (by simp) (by simp [go_sem])⟩
theorem clip_next {a : Int × Int} {l : List Pc} {t : Nat} {p : Pc} (h : l[t]? = some p) : clipL a (l.take (t + 1)) = clipL a (l.take t) ++ (clipP a p).toList := by
  unfold clipL
  rw [List.take_add_one, h, Option.toList_some, List.filterMap_append]
  cases hc : clipP a p <;> simp [hc]
theorem OutP.apart {W w : World} {l : List Pc} {v : Value} (h : OutP W l v w) {B : Nat} (hB : w.heap.size ≤ B) : v.ownBlock ≠ some B := fun e => by
  have := (h.lt e).2
  omega
theorem Kb.alloc {o : Option Nat} {a w : World} (h : Kb o a w) (x : Obj) : Kb o a (w.alloc x) := h.trans (Kb.of_below ((bl w).alloc (Nat.le_refl _) x))
theorem Cells3.kb {o : Option Nat} {w w' : World} {g i : Nat} {p : Pc} (h : Cells3 w g i p) (k : Kb o w w') (hn : o ≠ some g) : Cells3 w' g i p := ⟨k.cell h.1 hn, k.cell h.2.1 hn, k.cell h.2.2 hn⟩
theorem two_storeS {w : World} {b : Nat} {u0 u1 : Value} (x y : Value) (h0 : w.cell? ⟨b, 0, none⟩ = some u0) (h1 : w.cell? ⟨b, 1, none⟩ = some u1) : ((w.setCell ⟨b, 0, none⟩ x).setCell ⟨b, 1, none⟩ y).cell? ⟨b, 0, none⟩ = some x ∧ ((w.setCell ⟨b, 0, none⟩ x).setCell ⟨b, 1, none⟩ y).cell? ⟨b, 1, none⟩ = some y :=
  ⟨(World.cell?_setCell_other _ ⟨b, 1, none⟩ ⟨b, 0, none⟩ _ (by simp)).trans (World.cell?_setCell_same _ ⟨b, 0, none⟩ _ h0), World.cell?_setCell_same _ ⟨b, 1, none⟩ _ ((World.cell?_setCell_other _ ⟨b, 0, none⟩ ⟨b, 1, none⟩ _ (by simp)).trans h1)⟩
theorem zboxS {w w1 : World} (hb : Below (w.alloc (.cells #[.int .i64 0, .int .i64 0] 23)).heap.size (w.alloc (.cells #[.int .i64 0, .int .i64 0] 23)) w1) : w1.cell? ⟨w.heap.size, 0, none⟩ = some (.int .i64 0) ∧ w1.cell? ⟨w.heap.size, 1, none⟩ = some (.int .i64 0) ∧ w1.frozen? ⟨w.heap.size, 0, none⟩ = false ∧ w1.frozen? ⟨w.heap.size, 1, none⟩ = false :=
  ⟨keepc hb (by simp [go_sem]), keepc hb (by simp [go_sem]), keepf hb (by simp) (by simp [go_sem]), keepf hb (by simp) (by simp [go_sem])⟩

set_option maxHeartbeats 4000000 in
set_option maxRecDepth 100000 in
theorem dtclip_any (w : World) (a : Int × Int) (u : Value) (l : List Pc) (hl : PcsL w u l) (hn : l.length ≤ 1000) (hfs : ∀ p ∈ l, p.fs.length ≤ 9223372036854775807) : Calls Tryz.prog 25 #[.agg #[.int .i64 a.1, .int .i64 a.2], u] w fun e w' => ∃ x, e = .returned x ∧ HasTL w' x (clipG a l) ∧ Below w.heap.size w w' := by
  have CR := Lib.hid (fun w' (h : Below w.heap.size w w') => dtright_any w' u l (hl.below h) (by omega) hfs)
  obtain ⟨⟨A, c, rfl, hA, hc, hnc⟩, hPF⟩ := hl
  have HA := Lib.hid hA
  have HPF := Lib.hid hPF
  obtain ⟨n, hnm⟩ : ∃ n, l.length = n := ⟨_, rfl⟩
  rw [hnm] at hn hc CR ⊢
  have HN := Lib.hid hnm
  obtain ⟨af, at', rfl⟩ : ∃ af at', a = (af, at') := ⟨a.1, a.2, rfl⟩
  have HB1 := Lib.hid (show Below w.heap.size w (w.alloc (ocS af at')) from (bl w).alloc (Nat.le_refl _) _)
  have HS1 := Lib.hid (boxS_new w af at')
  clear hA hc hnc hPF hnm hfs
  cases hr : rightT l with
  | false =>
    rw [hr] at CR
    have HG := Lib.hid (show ∀ x, clipG (af, at') l x = none from fun x => by unfold clipG; rw [hr]; rfl)
    clear hr
    go_enter Tryz.func25, Tryz.ntmps25
    go_wp2_with (go_at_call 18; (with_reducible refine (CR.out _ HB1.out).mono ?_); rintro e w2 ⟨rfl, hb2⟩)
    go_ret
    exact ⟨_, rfl, ⟨[], TimeL.nil _ _ HG.out⟩, chain HB1.out hb2⟩
  | true =>
    rw [hr] at CR
    have HTL := Lib.hid ((rightT_iff l).1 hr)
    have HG := Lib.hid (show ∀ x, fsP (clipL (af, at') l) x = clipG (af, at') l x from fun x => by unfold clipG; rw [hr]; rfl)
    clear hr
    go_enter Tryz.func25, Tryz.ntmps25
    go_wp2_with (go_at_call 18; (with_reducible refine (CR.out _ HB1.out).mono ?_); rintro e w2 ⟨rfl, hb2⟩; have HB2 := Lib.hid hb2; clear hb2)
    go_loopw [5, 6] (fun o i wr => ∃ (t : Nat) (L : List Pc), t ≤ n ∧ i = .int .i64 (t : Nat) ∧ L = clipL (af, at') (l.take t) ∧ OutP w2 L o wr) (fun _ i _ => n - (intOf i).toNat)
    case atStart => exact ⟨0, [], Nat.zero_le _, rfl, rfl, OutP.nil w2⟩
    case round =>
      obtain ⟨t, L, ht, rfl, hL, hO⟩ := hrel
      have HLL := Lib.hid hL
      have HO := Lib.hid hO
      clear hL hO
      have hW := chain (chain HB1.out HB2.out) HO.out.bel
      by_cases hlt : t < n
      · have hlt' : (t : Int) < (n : Int) := by omega
        obtain ⟨p, hx⟩ : ∃ p, l[t]? = some p := ⟨_, List.getElem?_eq_getElem (by have := HN.out; omega)⟩
        obtain ⟨g, off, rfl, hX⟩ := (HA.out.below hW).cells3 hx
        have HX := Lib.hid hX
        have HSB := Lib.hid ((HS1.out.below HB2.out).below HO.out.bel)
        have CM := Lib.hid (fun w => Co.dmeet_any af at' p.f p.t w)
        have HV := Lib.hid hx
        have HW := Lib.hid hW
        obtain ⟨z0, z1, z2⟩ := hX
        obtain ⟨y0, y1⟩ := HSB.out
        have HPP := Lib.hid (show PF w2 p from (HPF.out p (List.mem_of_getElem? hx)).below (chain HB1.out HB2.out))
        have HGO := Lib.hid (show u5.ownBlock ≠ some g from fun e => by
          have h1 := (HO.out.lt e).1
          obtain ⟨g', off', he, hX'⟩ := HA.out.cells3 hx
          injection he with he
          injection he with e1 _ _
          have h2 := lt_of_cell hX'.1
          have h3 := (chain HB1.out HB2.out).size
          omega)
        have HLEN := Lib.hid (show L.length ≤ 1000 by rw [HLL.out]; have := clip_length (af, at') (l.take t); rw [List.length_take] at this; omega)
        have hstep := clip_next (a := (af, at')) hx
        rw [← HLL.out] at hstep
        have NXF := Lib.hid (show Co.meetB af at' p.f p.t = false → L = clipL (af, at') (l.take (t + 1)) from fun h => by rw [hstep]; unfold clipP; rw [show Co.meetB (af, at').1 (af, at').2 p.f p.t = false from h]; simp)
        have NXT := Lib.hid (show Co.meetB af at' p.f p.t = true → L ++ [⟨Co.meetF af at' p.f p.t, Co.meetT af at' p.f p.t, p.fa, p.fc, p.fs⟩] = clipL (af, at') (l.take (t + 1)) from fun h => by rw [hstep]; unfold clipP; rw [show Co.meetB (af, at').1 (af, at').2 p.f p.t = true from h]; rfl)
        clear hx hW hstep
        generalize Co.meetF af at' p.f p.t = mf at *
        generalize Co.meetT af at' p.f p.t = mt at *
        generalize Co.meetB af at' p.f p.t = mb at *
        have MK := Lib.hid (show ∀ w', Below wr.heap.size wr w' → (Below wr.heap.size wr w' ∧ Cells3 w' g (off + t * 3) p ∧ BoxS w' w.heap.size af at') from fun w' h => ⟨h, HX.out.below h, HSB.out.below h⟩)
        go_upto_region 7 with fail
        refine wp_region_held_drew (S := fun w' => Below wr.heap.size wr w' ∧ Cells3 w' g (off + t * 3) p ∧ BoxS w' w.heap.size af at') (by kernel_rfl) (MK.out _ ((bl wr).drew)) (fun hHeld => ?_)
        refine wpAnyH_take (i := 0) (oi := _) (v := ?_) (by simp only [List.getElem?_toArray, List.getElem?_cons_zero]; rfl) (by kernel_rfl) (by kernel_rfl) (by kernel_rfl) (by exact fun _ _ _ h => h) (Or.inl ⟨by rfl, ?_⟩) (by assumption) ?_
        rotate_left 1
        · (intro w hSw; (try dsimp only at hSw); go_simp; try (with_reducible rfl))
        simp only [Act.put, List.setIfInBounds_toArray, List.set_cons_zero, List.set_cons_succ]
        refine wpAnyH_take (i := 1) (oi := _) (v := ?_) (by simp only [List.getElem?_toArray, List.getElem?_cons_succ, List.getElem?_cons_zero]; rfl) (by kernel_rfl) (by kernel_rfl) (by kernel_rfl) (by exact fun _ _ _ h => h) (Or.inl ⟨by rfl, ?_⟩) (by assumption) ?_
        rotate_left 1
        · (intro w hSw; (try dsimp only at hSw); go_simp; try (with_reducible rfl))
        simp only [Act.put, List.setIfInBounds_toArray, List.set_cons_zero, List.set_cons_succ]
        refine wpAnyH_take (i := 2) (oi := _) (v := ?_) (by simp only [List.getElem?_toArray, List.getElem?_cons_succ, List.getElem?_cons_zero]; rfl) (by kernel_rfl) (by kernel_rfl) (by kernel_rfl) (by exact fun _ _ _ h => h) (Or.inl ⟨by rfl, ?_⟩) (by assumption) ?_
        rotate_left 1
        · (intro w hSw; (try dsimp only at hSw); go_simp; try (with_reducible rfl))
        simp only [Act.put, List.setIfInBounds_toArray, List.set_cons_zero, List.set_cons_succ]
        refine wpAnyH_take (i := 3) (oi := _) (v := ?_) (by simp only [List.getElem?_toArray, List.getElem?_cons_succ, List.getElem?_cons_zero]; rfl) (by kernel_rfl) (by kernel_rfl) (by kernel_rfl) (by exact fun _ _ _ h => h) (Or.inl ⟨by rfl, ?_⟩) (by assumption) ?_
        rotate_left 1
        · (intro w hSw; (try dsimp only at hSw); go_simp; try (with_reducible rfl))
        simp only [Act.put, List.setIfInBounds_toArray, List.set_cons_zero, List.set_cons_succ]
        refine wpAnyH_take (i := 4) (oi := _) (v := ?_) (by simp only [List.getElem?_toArray, List.getElem?_cons_succ, List.getElem?_cons_zero]; rfl) (by kernel_rfl) (by kernel_rfl) (by kernel_rfl) (by exact fun _ _ _ h => h) (Or.inl ⟨by rfl, ?_⟩) (by assumption) ?_
        rotate_left 1
        · (intro w hSw; (try dsimp only at hSw); go_simp; try (with_reducible rfl))
        simp only [Act.put, List.setIfInBounds_toArray, List.set_cons_zero, List.set_cons_succ]
        refine wpAnyH_take (i := 5) (oi := _) (v := ?_) (by simp only [List.getElem?_toArray, List.getElem?_cons_succ, List.getElem?_cons_zero]; rfl) (by kernel_rfl) (by kernel_rfl) (by kernel_rfl) (by exact fun _ _ _ h => h) (Or.inl ⟨by rfl, ?_⟩) (by assumption) ?_
        rotate_left 1
        · (intro w hSw; (try dsimp only at hSw); go_simp; try (with_reducible rfl))
        simp only [Act.put, List.setIfInBounds_toArray, List.set_cons_zero, List.set_cons_succ]
        refine wpAnyH_ready (rs := [6, 10]) (by kernel_rfl) (by simp) ?_
        refine AllReadyH.cons (o := _) (by simp only [List.getElem?_toArray, List.getElem?_cons_succ, List.getElem?_cons_zero]; rfl) (fun K hK => ?_) ?_
        · go_simp
          go_at_call 40
          refine (CM.out _).mono ?_
          rintro e w1 ⟨rfl, hb0⟩
          have hb1 := chain hHeld.1 hb0
          try dsimp only
          refine hK.out _ _ (MK.out _ hb1) (fun hHeld => ?_)
          clear hK K
          try simp only [Act.put, List.setIfInBounds_toArray, List.set_cons_zero, List.set_cons_succ]
          refine wpAnyH_take (i := 7) (oi := _) (v := ?_) (by simp only [List.getElem?_toArray, List.getElem?_cons_succ, List.getElem?_cons_zero]; rfl) (by kernel_rfl) (by kernel_rfl) (by kernel_rfl) (by exact fun _ _ _ h => h) (Or.inl ⟨by rfl, ?_⟩) (by assumption) ?_
          rotate_left 1
          · (intro w hSw; (try dsimp only at hSw); go_simp; try (with_reducible rfl))
          simp only [Act.put, List.setIfInBounds_toArray, List.set_cons_zero, List.set_cons_succ]
          refine wpAnyH_take (i := 8) (oi := _) (v := ?_) (by simp only [List.getElem?_toArray, List.getElem?_cons_succ, List.getElem?_cons_zero]; rfl) (by kernel_rfl) (by kernel_rfl) (by kernel_rfl) (by exact fun _ _ _ h => h) (Or.inl ⟨by rfl, ?_⟩) (by assumption) ?_
          rotate_left 1
          · (intro w hSw; (try dsimp only at hSw); go_simp; try (with_reducible rfl))
          simp only [Act.put, List.setIfInBounds_toArray, List.set_cons_zero, List.set_cons_succ]
          refine wpAnyH_take (i := 9) (oi := _) (v := ?_) (by simp only [List.getElem?_toArray, List.getElem?_cons_succ, List.getElem?_cons_zero]; rfl) (by kernel_rfl) (by kernel_rfl) (by kernel_rfl) (by exact fun _ _ _ h => h) (Or.inl ⟨by rfl, ?_⟩) (by assumption) ?_
          rotate_left 1
          · (intro w hSw; (try dsimp only at hSw); go_simp; try (with_reducible rfl))
          simp only [Act.put, List.setIfInBounds_toArray, List.set_cons_zero, List.set_cons_succ]
          refine wpAnyH_ready (rs := [10]) (by kernel_rfl) (by simp) ?_
          refine AllReadyH.cons (o := _) (by simp only [List.getElem?_toArray, List.getElem?_cons_succ, List.getElem?_cons_zero]; rfl) (fun K hK => ?_) AllReadyH.nil
          go_simp
          try dsimp only
          refine hK.out _ _ (MK.out _ (hb1.alloc hb1.size _)) (fun hHeld => ?_)
          clear hK K
          try simp only [Act.put, List.setIfInBounds_toArray, List.set_cons_zero, List.set_cons_succ]
          refine wpAnyH_ready (rs := [11]) (by kernel_rfl) (by simp) ?_
          refine AllReadyH.cons (o := _) (by simp only [List.getElem?_toArray, List.getElem?_cons_succ, List.getElem?_cons_zero]; rfl) (fun K hK => ?_) AllReadyH.nil
          go_simp
          try dsimp only
          refine hK.out _ _ (MK.out _ (hb1.alloc hb1.size _)) (fun hHeld => ?_)
          clear hK K
          try simp only [Act.put, List.setIfInBounds_toArray, List.set_cons_zero, List.set_cons_succ]
          refine wpAnyH_take (i := 12) (oi := _) (v := ?_) (by simp only [List.getElem?_toArray, List.getElem?_cons_succ, List.getElem?_cons_zero]; rfl) (by kernel_rfl) (by kernel_rfl) (by kernel_rfl) (by exact fun _ _ _ h => h) (Or.inl ⟨by rfl, ?_⟩) (by assumption) ?_
          rotate_left 1
          · (intro w hSw; (try dsimp only at hSw); go_simp; try (with_reducible rfl))
          simp only [Act.put, List.setIfInBounds_toArray, List.set_cons_zero, List.set_cons_succ]
          refine wpAnyH_done (by kernel_rfl) ?_ _
          obtain ⟨k0, k1⟩ := boxS_new w1 mf mt
          have hB1 := hb1.alloc hb1.size (ocS mf mt)
          refine abstract_then (fun W => Below wr.heap.size wr W ∧ wr.heap.size ≤ w1.heap.size ∧ w1.heap.size < W.heap.size ∧ BoxS W w1.heap.size mf mt) ⟨hB1, hb1.size, by simp, k0, k1⟩ ?_
          rintro W3 ⟨hB3, hle3, hlt3, k0, k1⟩
          generalize w1.heap.size = B at *
          have hoB := HO.out.apart hle3
          have HO3 := Lib.hid (HO.out.below hB3)
          cases mb with
          | false =>
            have NX := Lib.hid (NXF.out rfl)
            go_wp2_with fail
            exact ⟨⟨t + 1, L, by omega, by go_num, NX.out, HO3.out⟩, by simp [intOf] <;> omega⟩
          | true =>
            have NX := Lib.hid (NXT.out rfl)
            have MK9 := Lib.hid (show ∀ w', Kb u5.ownBlock W3 w' → (Kb u5.ownBlock W3 w' ∧ Cells3 w' g (off + t * 3) p ∧ BoxS w' B mf mt) from fun w' h => ⟨h, (HX.out.below hB3).kb h HGO.out, h.cell k0 hoB, h.cell k1 hoB⟩)
            have HO4 := Lib.hid (HO3.out.below ((bl W3).drew))
            have KP4 := Lib.hid (show KP W3.drew u5.ownBlock ⟨mf, mt, p.fa, p.fc, p.fs⟩ from HO4.out.old ⟨HPP.out.1, HPP.out.2⟩)
            clear k0 k1
            go_upto_region 9 with fail
            first
              | (go_region_held3 (fun w' => Kb u5.ownBlock W3 w' ∧ Cells3 w' g (off + t * 3) p ∧ BoxS w' B mf mt)
                  (first | exact MK9.out _ (Kb.of_below ((bl W3).drew)) | exact MK9.out _ ((Kb.of_below ((bl W3).drew)).alloc _) | exact MK9.out _ hkb | fail)
                  (first
                    | (refine step_appE (E := EP) (xs := [⟨mf, mt, p.fa, p.fc, p.fs⟩]) rfl (.tmp 29) (.tmp 37) rfl rfl rfl (World.ownsRow.alloc HO4.out.own _) rfl rfl (by have hrow := rowE_one (E := EP) W3.drew ⟨mf, mt, p.fa, p.fc, p.fs⟩ #[.int .i64 mf, .int .i64 mt, .slice p.fa p.fs.length p.fc] rfl 62; first | exact hrow | (simp at hrow ⊢; exact hrow)) (fun h => by cases h) (by have := HLEN.out; simp; omega) (by have := HO4.out.bel.size; simp at this ⊢; omega) ?_; intro v' w4 hown4 hg4 ho4; (have hkb := ((Kb.of_below (o := u5.ownBlock) ((bl W3).drew)).alloc _).grown hg4); have HN4 := Lib.hid ((HO4.out.below ((bl W3.drew).alloc (Nat.le_refl _) _)).app (KP4.out.below ((bl W3.drew).alloc (Nat.le_refl _) _)) hg4 hown4 ho4))
                    | fail))
              | fail
            go_wp2_with fail
            exact ⟨⟨t + 1, L ++ [⟨mf, mt, p.fa, p.fc, p.fs⟩], by omega, by go_num, NX.out, HN4.out⟩, by simp [intOf] <;> omega⟩
        · refine AllReadyH.cons (o := _) (by simp only [List.getElem?_toArray, List.getElem?_cons_succ, List.getElem?_cons_zero]; rfl) (fun K hK => ?_) AllReadyH.nil
          go_simp
          try dsimp only
          refine hK.out _ _ (MK.out _ (((bl wr).drew).alloc (by simp) _)) (fun hHeld => ?_)
          clear hK K
          try simp only [Act.put, List.setIfInBounds_toArray, List.set_cons_zero, List.set_cons_succ]
          refine wpAnyH_ready (rs := [6]) (by kernel_rfl) (by simp) ?_
          refine AllReadyH.cons (o := _) (by simp only [List.getElem?_toArray, List.getElem?_cons_succ, List.getElem?_cons_zero]; rfl) (fun K hK => ?_) AllReadyH.nil
          go_simp
          go_at_call 40
          refine (CM.out _).mono ?_
          rintro e w1 ⟨rfl, hb0⟩
          have hb1 := chain hHeld.1 hb0
          have hz : w1.cell? ⟨wr.heap.size, 0, none⟩ = some (.int .i64 0) ∧ w1.cell? ⟨wr.heap.size, 1, none⟩ = some (.int .i64 0) ∧ w1.frozen? ⟨wr.heap.size, 0, none⟩ = false ∧ w1.frozen? ⟨wr.heap.size, 1, none⟩ = false := zboxSd hb0
          have hsz := hb0.size
          obtain ⟨k0, k1, f0, f1⟩ := hz
          try dsimp only
          refine hK.out _ _ (MK.out _ hb1) (fun hHeld => ?_)
          clear hK K
          try simp only [Act.put, List.setIfInBounds_toArray, List.set_cons_zero, List.set_cons_succ]
          refine wpAnyH_take (i := 7) (oi := _) (v := ?_) (by simp only [List.getElem?_toArray, List.getElem?_cons_succ, List.getElem?_cons_zero]; rfl) (by kernel_rfl) (by kernel_rfl) (by kernel_rfl) (by exact fun _ _ _ h => h) (Or.inl ⟨by rfl, ?_⟩) (by assumption) ?_
          rotate_left 1
          · (intro w hSw; (try dsimp only at hSw); go_simp; try (with_reducible rfl))
          simp only [Act.put, List.setIfInBounds_toArray, List.set_cons_zero, List.set_cons_succ]
          refine wpAnyH_take (i := 8) (oi := _) (v := ?_) (by simp only [List.getElem?_toArray, List.getElem?_cons_succ, List.getElem?_cons_zero]; rfl) (by kernel_rfl) (by kernel_rfl) (by kernel_rfl) (by exact fun _ _ _ h => h) (Or.inl ⟨by rfl, ?_⟩) (by assumption) ?_
          rotate_left 1
          · (intro w hSw; (try dsimp only at hSw); go_simp; try (with_reducible rfl))
          simp only [Act.put, List.setIfInBounds_toArray, List.set_cons_zero, List.set_cons_succ]
          refine wpAnyH_take (i := 9) (oi := _) (v := ?_) (by simp only [List.getElem?_toArray, List.getElem?_cons_succ, List.getElem?_cons_zero]; rfl) (by kernel_rfl) (by kernel_rfl) (by kernel_rfl) (by exact fun _ _ _ h => h) (Or.inl ⟨by rfl, ?_⟩) (by assumption) ?_
          rotate_left 1
          · (intro w hSw; (try dsimp only at hSw); go_simp; try (with_reducible rfl))
          simp only [Act.put, List.setIfInBounds_toArray, List.set_cons_zero, List.set_cons_succ]
          refine wpAnyH_ready (rs := [11]) (by kernel_rfl) (by simp) ?_
          refine AllReadyH.cons (o := _) (by simp only [List.getElem?_toArray, List.getElem?_cons_succ, List.getElem?_cons_zero]; rfl) (fun K hK => ?_) AllReadyH.nil
          go_simp
          try dsimp only
          refine hK.out _ _ (MK.out _ ((hb1.setCell (p := ⟨wr.heap.size, 0, none⟩) (Nat.le_refl _) _).setCell (p := ⟨wr.heap.size, 1, none⟩) (Nat.le_refl _) _)) (fun hHeld => ?_)
          clear hK K
          try simp only [Act.put, List.setIfInBounds_toArray, List.set_cons_zero, List.set_cons_succ]
          refine wpAnyH_take (i := 12) (oi := _) (v := ?_) (by simp only [List.getElem?_toArray, List.getElem?_cons_succ, List.getElem?_cons_zero]; rfl) (by kernel_rfl) (by kernel_rfl) (by kernel_rfl) (by exact fun _ _ _ h => h) (Or.inl ⟨by rfl, ?_⟩) (by assumption) ?_
          rotate_left 1
          · (intro w hSw; (try dsimp only at hSw); go_simp; try (with_reducible rfl))
          simp only [Act.put, List.setIfInBounds_toArray, List.set_cons_zero, List.set_cons_succ]
          refine wpAnyH_done (by kernel_rfl) ?_ _
          have hB1 := (hb1.setCell (p := ⟨wr.heap.size, 0, none⟩) (Nat.le_refl _) (.int .i64 mf)).setCell (p := ⟨wr.heap.size, 1, none⟩) (Nat.le_refl _) (.int .i64 mt)
          obtain ⟨q0, q1⟩ := two_storeS (.int .i64 mf) (.int .i64 mt) k0 k1
          have hl1 : wr.heap.size < w1.heap.size := by simp at hsz; omega
          clear k0 k1 f0 f1
          refine abstract_then (fun W => Below wr.heap.size wr W ∧ wr.heap.size ≤ wr.heap.size ∧ wr.heap.size < W.heap.size ∧ BoxS W wr.heap.size mf mt) ⟨hB1, Nat.le_refl _, by simpa [World.setCell] using hl1, q0, q1⟩ ?_
          rintro W3 ⟨hB3, hle3, hlt3, k0, k1⟩
          obtain ⟨B, hBB⟩ : ∃ B, wr.heap.size = B := ⟨_, rfl⟩
          have HBW := Lib.hid hBB
          rw [hBB] at k0 k1 hlt3 ⊢
          clear hle3
          have hle3 : wr.heap.size ≤ B := by rw [hBB]; exact Nat.le_refl _
          clear hBB
          have hoB := HO.out.apart hle3
          have HO3 := Lib.hid (HO.out.below hB3)
          cases mb with
          | false =>
            have NX := Lib.hid (NXF.out rfl)
            go_wp2_with fail
            exact ⟨⟨t + 1, L, by omega, by go_num, NX.out, HO3.out⟩, by simp [intOf] <;> omega⟩
          | true =>
            have NX := Lib.hid (NXT.out rfl)
            have MK9 := Lib.hid (show ∀ w', Kb u5.ownBlock W3 w' → (Kb u5.ownBlock W3 w' ∧ Cells3 w' g (off + t * 3) p ∧ BoxS w' B mf mt) from fun w' h => ⟨h, (HX.out.below hB3).kb h HGO.out, h.cell k0 hoB, h.cell k1 hoB⟩)
            have HO4 := Lib.hid (HO3.out.below ((bl W3).drew))
            have KP4 := Lib.hid (show KP W3.drew u5.ownBlock ⟨mf, mt, p.fa, p.fc, p.fs⟩ from HO4.out.old ⟨HPP.out.1, HPP.out.2⟩)
            clear k0 k1
            go_upto_region 9 with fail
            first
              | (go_region_held3 (fun w' => Kb u5.ownBlock W3 w' ∧ Cells3 w' g (off + t * 3) p ∧ BoxS w' B mf mt)
                  (first | exact MK9.out _ (Kb.of_below ((bl W3).drew)) | exact MK9.out _ ((Kb.of_below ((bl W3).drew)).alloc _) | exact MK9.out _ hkb | fail)
                  (first
                    | (refine step_appE (E := EP) (xs := [⟨mf, mt, p.fa, p.fc, p.fs⟩]) rfl (.tmp 29) (.tmp 37) rfl rfl rfl (World.ownsRow.alloc HO4.out.own _) rfl rfl (by have hrow := rowE_one (E := EP) W3.drew ⟨mf, mt, p.fa, p.fc, p.fs⟩ #[.int .i64 mf, .int .i64 mt, .slice p.fa p.fs.length p.fc] rfl 62; first | exact hrow | (simp at hrow ⊢; exact hrow)) (fun h => by cases h) (by have := HLEN.out; simp; omega) (by have := HO4.out.bel.size; simp at this ⊢; omega) ?_; intro v' w4 hown4 hg4 ho4; (have hkb := ((Kb.of_below (o := u5.ownBlock) ((bl W3).drew)).alloc _).grown hg4); have HN4 := Lib.hid ((HO4.out.below ((bl W3.drew).alloc (Nat.le_refl _) _)).app (KP4.out.below ((bl W3.drew).alloc (Nat.le_refl _) _)) hg4 hown4 ho4))
                    | fail))
              | fail
            go_wp2_with fail
            exact ⟨⟨t + 1, L ++ [⟨mf, mt, p.fa, p.fc, p.fs⟩], by omega, by go_num, NX.out, HN4.out⟩, by simp [intOf] <;> omega⟩
      · obtain rfl : t = n := by omega
        have hlt' : ¬ (t : Int) < (t : Int) := by omega
        have HE := Lib.hid (show L = clipL (af, at') l by rw [HLL.out, List.take_of_length_le (by have := HN.out; omega)])
        have HT := Lib.hid (show TimeL wr u5 (clipG (af, at') l) L from ⟨HO.out.pcs, by rw [HE.out]; exact clip_tl HTL.out, fun x => by rw [HE.out]; exact HG.out x, by rw [HE.out]; have := clip_length (af, at') l; have := HN.out; omega⟩)
        go_wp2_with fail
        go_ret
        exact ⟨_, rfl, ⟨L, HT.out⟩, hW⟩

end Go.Proofs.YtaoobliajgcdmaaGreat

/-
  slices.Clone of fields and of versions.
-/
namespace Go.Proofs.YtaoobliajgcdmaaGreat
open Go.RowKit

set_option maxHeartbeats 1000000 in
set_option maxRecDepth 100000 in
theorem cloneF_any (w : World) (A : Option Addr) (c : Nat) (l : List Fd) (hF : Fields w A l) (hnc : A = none → c = 0) (hn : l.length ≤ 1000000) :
    Calls Tryz.prog 46 #[.slice A l.length c] w fun e w' => ∃ v, e = .returned v ∧ OF w l v w' := by
  have q22 : ∀ (w : World) (a : Option Addr) (n c n' c' : Nat), (binOp .eql 34 (.slice a n c) (.slice none n' c')).run Tryz.prog w = .ok (.bool a.isNone) w := fun w a n c n' c' => Lib.run_eql_slice_nil w _ _ a n c n' c' Tryz.underlying34
  rcases A with _ | ad
  · obtain rfl : l = [] := by
      rcases l with _ | ⟨x, xs⟩
      · rfl
      · obtain ⟨_, _, h, _⟩ := hF 0 x (by simp)
        cases h
    obtain rfl := hnc rfl
    go_enter Tryz.func46, Tryz.ntmps46
    go_wp2_with fail
    go_ret
    exact ⟨_, rfl, OF.nil w⟩
  · have HF := Lib.hid hF
    have HO := Lib.hid (show OF w [] (.slice (some ⟨w.heap.size, 0, none⟩) 0 0) (w.alloc (.cells #[] FT)) from ⟨own_emptyF (heap_alloc_new w _) (Nat.le_refl _), (bl w).alloc (Nat.le_refl _) _⟩)
    clear hF hnc
    obtain ⟨n, hnm⟩ : ∃ n, l.length = n := ⟨_, rfl⟩
    rw [hnm] at hn ⊢
    have HN := Lib.hid hnm
    clear hnm
    go_enter Tryz.func46, Tryz.ntmps46
    go_wp2_with (first
      | (at_builtin; refine wpList_appF rfl (.tmp 5) (.tmp 6) rfl rfl HO.out.own rfl HN.out.symm (HF.out.below ((bl w).alloc (Nat.le_refl _) _)) (fun h => by cases h) (by simp; have := HN.out; omega) (by simp) ?_; intro v' w3 hown3 hg3; have HN3 := Lib.hid (HO.out.grown hg3 hown3); clear hown3 hg3)
      | go_in)
    go_ret
    exact ⟨_, rfl, by simpa using HN3.out⟩

set_option maxHeartbeats 1000000 in
set_option maxRecDepth 100000 in
theorem cloneV_any (w : World) (A : Option Addr) (c : Nat) (l : List Vr) (hF : RowE EV w A l) (hnc : A = none → c = 0) (hn : l.length ≤ 1000) :
    Calls Tryz.prog 75 #[.slice A l.length c] w fun e w' => ∃ v, e = .returned v ∧ OE EV w l v w' := by
  have q22 : ∀ (w : World) (a : Option Addr) (n c n' c' : Nat), (binOp .eql 24 (.slice a n c) (.slice none n' c')).run Tryz.prog w = .ok (.bool a.isNone) w := fun w a n c n' c' => Lib.run_eql_slice_nil w _ _ a n c n' c' Tryz.underlying24
  rcases A with _ | ad
  · obtain rfl : l = [] := by
      rcases l with _ | ⟨x, xs⟩
      · rfl
      · obtain ⟨_, _, h, _⟩ := hF 0 x (by simp)
        cases h
    obtain rfl := hnc rfl
    go_enter Tryz.func75, Tryz.ntmps75
    go_wp2_with fail
    go_ret
    exact ⟨_, rfl, OE.nil w⟩
  · have HF := Lib.hid hF
    have HO := Lib.hid (show OE EV w [] (.slice (some ⟨w.heap.size, 0, none⟩) 0 0) (w.alloc (.cells #[] 50)) from ⟨ownE_empty (E := EV) (heap_alloc_new w _) (Nat.le_refl _), (bl w).alloc (Nat.le_refl _) _⟩)
    clear hF hnc
    obtain ⟨n, hnm⟩ : ∃ n, l.length = n := ⟨_, rfl⟩
    rw [hnm] at hn ⊢
    have HN := Lib.hid hnm
    clear hnm
    go_enter Tryz.func75, Tryz.ntmps75
    go_wp2_with (first
      | (at_builtin; refine wpList_appE (E := EV) rfl (.tmp 5) (.tmp 6) rfl rfl (base := w.heap.size) rfl HO.out.own rfl HN.out.symm (HF.out.below ((bl w).alloc (Nat.le_refl _) _)) (fun h => by cases h) (by simp; have := HN.out; omega) (by simp) ?_; intro v' w3 hown3 hg3; have HN3 := Lib.hid (HO.out.grown hg3 hown3); clear hown3 hg3)
      | go_in)
    go_ret
    exact ⟨_, rfl, by simpa using HN3.out⟩

end Go.Proofs.YtaoobliajgcdmaaGreat

/-
  The program's rising: a list of versions of its own, in order by stamps.
-/
namespace Go.Proofs.YtaoobliajgcdmaaGreat
open Go.RowKit Go.Sort

/-- How stamps are told apart. -/
def cmpI (a b : Int) : Int := if a < b then -1 else if b < a then 1 else 0
def cfV (x y : Vr) : Int := cmpI x.st y.st
theorem stampV : StampLt cfV := fun x y => by
  unfold ltOf cfV cmpI
  by_cases h : x.st < y.st
  · simp [h]
  · by_cases h2 : y.st < x.st <;> simp [h, h2]
theorem isNaN_any (a : Int) (w : World) : Calls Tryz.prog 81 #[.int .i64 a] w fun e w' => e = .returned (.bool false) ∧ w' = w := by
  go_enter Tryz.func81, Tryz.ntmps81
  go_wp2_with fail
  go_ret
  exact ⟨by simp, rfl⟩
set_option maxHeartbeats 1000000 in
theorem compare_any (a b : Int) (w : World) : Calls Tryz.prog 62 #[.int .i64 a, .int .i64 b] w fun e w' => e = .returned (.int .i64 (cmpI a b)) ∧ w' = w := by
  have CN := Lib.hid isNaN_any
  by_cases h1 : a < b
  · have HE := Lib.hid (show cmpI a b = -1 by simp [cmpI, h1])
    go_enter Tryz.func62, Tryz.ntmps62
    go_wp2_with (go_at_call 81; (with_reducible refine (CN.out _ _).mono ?_); rintro e w2 ⟨rfl, h2⟩; obtain rfl := h2.symm)
    go_ret
    exact ⟨by rw [HE.out]; rfl, rfl⟩
  · by_cases h2 : b < a
    · have HE := Lib.hid (show cmpI a b = 1 by simp [cmpI, h1, h2])
      go_enter Tryz.func62, Tryz.ntmps62
      go_wp2_with (go_at_call 81; (with_reducible refine (CN.out _ _).mono ?_); rintro e w2 ⟨rfl, h2⟩; obtain rfl := h2.symm)
      go_ret
      exact ⟨by rw [HE.out]; rfl, rfl⟩
    · have HE := Lib.hid (show cmpI a b = 0 by simp [cmpI, h1, h2])
      go_enter Tryz.func62, Tryz.ntmps62
      go_wp2_with (go_at_call 81; (with_reducible refine (CN.out _ _).mono ?_); rintro e w2 ⟨rfl, h2⟩; obtain rfl := h2.symm)
      go_ret
      exact ⟨by rw [HE.out]; rfl, rfl⟩

set_option maxHeartbeats 1000000 in
theorem byStamp_any : CmpV 77 #[] cfV := fun x y W => by
  show Calls Tryz.prog 77 #[vv x, vv y] W _
  have CC := Lib.hid (fun w' => compare_any x.st y.st w')
  unfold cfV
  obtain ⟨id, st, ent, sf, se, fa, fc, fs, gone⟩ := x
  obtain ⟨id', st', ent', sf', se', fa', fc', fs', gone'⟩ := y
  simp only at CC
  generalize cmpI st st' = r at *
  go_enter Tryz.func77, Tryz.ntmps77
  go_wp2_with (go_at_call 62; (with_reducible refine (CC.out _).mono ?_); rintro e w2 ⟨rfl, h2⟩; obtain rfl := h2.symm)
  go_ret
  exact ⟨rfl, 0, _, by rw [alloc_eq_grow, alloc_eq_grow, grow_grow]; rfl⟩

set_option maxHeartbeats 1000000 in
theorem prising_any (w : World) (u : Value) (l : List Vr) (hl : VersL w u l) (hn : l.length ≤ 1000) : Calls Tryz.prog 58 #[u] w fun e w' => ∃ x, e = .returned x ∧ OE EV w (ordL l) x w' := by
  obtain ⟨⟨A, c, rfl, hA, hc, hnc⟩, _⟩ := hl
  have CC := Lib.hid (cloneV_any w A c l hA hnc hn)
  have HN := Lib.hid hn
  clear hA hc hnc hn
  go_enter Tryz.func58, Tryz.ntmps58
  go_wp2_with (first
    | (go_at_call 75; (with_reducible refine CC.out.mono ?_); rintro e w1 ⟨x1, rfl, hO1⟩; have HO1 := Lib.hid hO1; clear hO1; have CS := Lib.hid (sort_vers w1 HO1.out.own (by have := HN.out; omega) cfV stampV 77 #[] (enters_of Tryz.func77 (by kernel_rfl) rfl) byStamp_any))
    | (go_at_call 76; (with_reducible refine CS.out.mono ?_); rintro e w2 ⟨rfl, hown2, hg2⟩; have HO2 := Lib.hid (HO1.out.grown hg2 hown2); clear hown2 hg2))
  go_ret
  exact ⟨_, rfl, HO2.out⟩

end Go.Proofs.YtaoobliajgcdmaaGreat

/-
  The program's Order: a list of its own, in order, each version's fields cloned.
-/
namespace Go.Proofs.YtaoobliajgcdmaaGreat
open Go.RowKit

/-- All that a version says. -/
abbrev sayV (v : Vr) : Int × Int × ByteArray × Int × Int × List Fd × Bool := (v.id, v.st, v.ent, v.sf, v.se, v.fs, v.gone)
/-- Two lists of versions say the same. -/
def Alike (L O : List Vr) : Prop := L.map sayV = O.map sayV
theorem alike_same : ∀ L O : List Vr, Alike L O → sameVs L O = true
  | [], [], _ => rfl
  | [], _ :: _, h => by simp [Alike] at h
  | _ :: _, [], h => by simp [Alike] at h
  | a :: L, b :: O, h => by
    unfold Alike at h
    rw [List.map_cons, List.map_cons] at h
    injection h with h1 h2
    rw [sameVs, alike_same L O h2]
    obtain ⟨id, st, ent, sf, se, fa, fc, fs, gone⟩ := a
    obtain ⟨id', st', ent', sf', se', fa', fc', fs', gone'⟩ := b
    simp only [sayV, Prod.mk.injEq] at h1
    obtain ⟨rfl, rfl, rfl, rfl, rfl, rfl, rfl⟩ := h1
    simp [sameV, sameF_self]
theorem alike_set {L O : List Vr} (h : Alike L O) {t : Nat} {v : Vr} (hv : L[t]? = some v) (fa : Option Addr) (fc : Nat) : Alike (L.set t { v with fa := fa, fc := fc }) O := by
  unfold Alike at *
  rw [List.map_set, ← h]
  apply List.ext_getElem?
  intro j
  rw [List.getElem?_set]
  split
  · rename_i e
    subst e
    rw [List.getElem?_map, hv, List.length_map, if_pos (List.getElem?_eq_some_iff.1 hv).1]
    rfl
  · rfl
theorem alike_len {L O : List Vr} (h : Alike L O) : L.length = O.length := by
  have := congrArg List.length h
  simpa using this
theorem alike_mem {L O : List Vr} (h : Alike L O) {v : Vr} (hv : v ∈ L) : ∃ x ∈ O, x.fs = v.fs := by
  have : sayV v ∈ O.map sayV := by rw [← h]; exact List.mem_map.2 ⟨v, hv, rfl⟩
  obtain ⟨x, hx, e⟩ := List.mem_map.1 this
  simp only [sayV, Prod.mk.injEq] at e
  exact ⟨x, hx, e.2.2.2.2.2.1⟩
/-- A list of versions that say what those of O say. -/
def LikeV (w : World) (u : Value) (O : List Vr) : Prop := ∃ L, VersL w u L ∧ Alike L O
theorem LikeV.below {w w' : World} {u : Value} {O : List Vr} (h : LikeV w u O) (hb : Below w.heap.size w w') : LikeV w' u O := by
  obtain ⟨L, h1, h2⟩ := h
  exact ⟨L, h1.below hb, h2⟩
/-- The fields of a version lie, and outside of a block. -/
def KV (w : World) (g : Nat) (v : Vr) : Prop := VF w v ∧ ∀ (k : Nat) (f : Fd), v.fs[k]? = some f → ∀ a, v.fa = some a → a.block ≠ g
theorem KV.below {w w' : World} {g : Nat} {v : Vr} (h : KV w g v) (hb : Below w.heap.size w w') : KV w' g v := ⟨h.1.below hb, h.2⟩
theorem KV.set {w : World} {g : Nat} {v : Vr} (h : KV w g v) (o : Nat) (u : Value) : KV (w.setCell ⟨g, o, none⟩ u) g v := by
  refine ⟨⟨fun k f hf => ?_, h.1.2⟩, h.2⟩
  obtain ⟨b, off, e, c0, c1⟩ := h.1.1 k f hf
  have hne : b ≠ g := h.2 k f hf _ e
  exact ⟨b, off, e, (World.cell?_setCell_other _ _ _ _ (fun e => hne (by injection e with e; exact e.symm))).trans c0, (World.cell?_setCell_other _ _ _ _ (fun e => hne (by injection e with e; exact e.symm))).trans c1⟩
theorem KV.old {w w' : World} {g : Nat} {v : Vr} (h : VF w v) (hb : Below w.heap.size w w') (hg : w.heap.size ≤ g) : KV w' g v := by
  refine ⟨h.below hb, fun k f hf a ha => ?_⟩
  obtain ⟨b, off, e, c0, _⟩ := h.1 k f hf
  rw [ha] at e
  obtain rfl := Option.some.inj e
  have := lt_of_cell c0
  show b ≠ g
  omega
theorem KV.new {W w : World} {g : Nat} {v : Vr} {u : Value} (ho : OF W v.fs u w) (hg : g < W.heap.size) : ∃ A c, u = .slice A v.fs.length c ∧ KV w g { v with fa := A, fc := c } := by
  obtain ⟨A, c, e, h1, h2, h3⟩ := ho.list
  refine ⟨A, c, e, ⟨h1, h2, h3⟩, fun k f hf a ha => ?_⟩
  have hA : A = some a := ha
  have := ho.own.lt a.block (by rw [e, hA]; rfl)
  omega
theorem flat_set : ∀ (L : List Vr) (t : Nat) (v : Vr) (fa : Option Addr) (fc : Nat), L[t]? = some v → (flatE EV L).set (t * 7 + 5) (.slice fa v.fs.length fc) = flatE EV (L.set t { v with fa := fa, fc := fc })
  | [], _, _, _, _, h => by simp at h
  | x :: L, 0, v, fa, fc, h => by
    obtain rfl : x = v := by simpa using h
    rw [flatE_cons, List.set_cons_zero, flatE_cons]
    rfl
  | x :: L, t + 1, v, fa, fc, h => by
    have ih := flat_set L t v fa fc (by simpa using h)
    have hl : (EV.cells x).length = 7 := EV.len x
    rw [flatE_cons, List.set_append_right _ _ (by rw [hl]; omega), hl, show (t + 1) * 7 + 5 - 7 = t * 7 + 5 by omega, ih, List.set_cons_succ, flatE_cons]
theorem ownE_set {w : World} {base g n c : Nat} {L : List Vr} (h : ownE EV w base (.slice (some ⟨g, 0, none⟩) n c) L) (hn : L.length = n) {t : Nat} {v : Vr} (hv : L[t]? = some v) (fa : Option Addr) (fc : Nat) :
    ownE EV (w.setCell ⟨g, t * 7 + 5, none⟩ (.slice fa v.fs.length fc)) base (.slice (some ⟨g, 0, none⟩) n c) (L.set t { v with fa := fa, fc := fc }) := by
  subst hn
  have := (World.ownsRow.stored h (t * 7 + 5) (.slice fa v.fs.length fc)).1
  rw [flat_set L t v fa fc hv] at this
  unfold ownE
  rw [List.length_set]
  exact this

set_option maxHeartbeats 4000000 in
set_option maxRecDepth 10000 in
theorem porder_any (w : World) (u : Value) (l : List Vr) (hl : VersL w u l) (hf : fewV l) : Calls Tryz.prog 34 #[u] w fun e w' => ∃ x, e = .returned x ∧ LikeV w' x (ordL l) ∧ Below w.heap.size w w' := by
  have CR := Lib.hid (prising_any w u l hl (by have := hf.1; omega))
  obtain ⟨O, hO⟩ : ∃ O, ordL l = O := ⟨_, rfl⟩
  rw [hO] at CR ⊢
  have hOn : O.length ≤ 200 := by rw [← hO, ordL_length]; exact hf.1
  have HVF := Lib.hid (show ∀ v ∈ O, VF w v ∧ v.fs.length ≤ 100 from fun v hv => by
    rw [← hO] at hv
    have hv := (ordL_perm l).mem_iff.1 hv
    exact ⟨hl.2 v hv, hf.2 v hv⟩)
  clear hl hf hO
  obtain ⟨n, hnm⟩ : ∃ n, O.length = n := ⟨_, rfl⟩
  have HN := Lib.hid hnm
  rw [hnm] at hOn
  go_enter Tryz.func34, Tryz.ntmps34
  go_wp2_with (go_at_call 58; (with_reducible refine CR.out.mono ?_); rintro e w1 ⟨x1, rfl, hO1⟩; obtain ⟨A1, c1, rfl, _⟩ := hO1.list; rw [HN.out] at hO1 ⊢; have HO1 := Lib.hid hO1; clear hO1)
  clear hnm CR
  go_loopw [9] (fun i wr => ∃ t L, t ≤ n ∧ i = .int .i64 (t : Nat) ∧ Alike L O ∧ (∀ v ∈ L, ∀ g c, A1 = some ⟨g, c, none⟩ → KV wr g v) ∧ OE EV w L (.slice A1 n c1) wr) (fun i _ => n - (intOf i).toNat)
  case atStart =>
    refine ⟨0, O, Nat.zero_le _, rfl, rfl, fun v hv g c e => KV.old (HVF.out v hv).1 HO1.out.bel ?_, HO1.out⟩
    exact (HO1.out.own.lt g (by rw [e]; rfl)).1
  case round =>
    obtain ⟨t, L, ht, rfl, hal, hkv, hOw⟩ := hrel
    have HAL := Lib.hid hal
    have HKV := Lib.hid hkv
    have HOW := Lib.hid hOw
    have hLn : L.length = n := by rw [alike_len hal]; exact HN.out
    have HL := Lib.hid hLn
    clear hal hkv hOw hLn
    by_cases hlt : t < n
    · have hlt' : (t : Int) < (n : Int) := by omega
      obtain ⟨v, hv⟩ : ∃ v, L[t]? = some v := ⟨_, List.getElem?_eq_getElem (by have := HL.out; omega)⟩
      obtain ⟨g, hA⟩ : ∃ g, A1 = some ⟨g, 0, none⟩ := by
        rcases HOW.out.own.2 with ⟨e, h0⟩ | ⟨g, cap, cur, e, _⟩
        · have := HL.out; omega
        · injection e with e1
          exact ⟨g, e1⟩
      subst hA
      have z5 : wr.cell? ⟨g, t * 7 + 5, none⟩ = some (.slice v.fa v.fs.length v.fc) := by
        obtain ⟨A2, c2, e2, hr, _⟩ := HOW.out.list
        injection e2 with e2
        rw [← e2] at hr
        have := hr.at hv (j := 5) rfl
        rwa [Nat.zero_add] at this
      have HG := Lib.hid (show g < wr.heap.size from (HOW.out.own.lt g rfl).2)
      have HFZ := Lib.hid (show ∀ w', Below wr.heap.size wr w' → w'.frozen? ⟨g, t * 7 + 5, none⟩ = false from fun w' h => World.ownsRow.frozenAt (by have := HL.out; have e := ownE_below HOW.out.own h; unfold ownE at e; rw [this] at e; exact e) _)
      have hvk := HKV.out v (List.mem_of_getElem? hv) g 0 rfl
      have CC := Lib.hid (cloneF_any wr v.fa v.fc v.fs hvk.1.1 hvk.1.2.2 (by
        obtain ⟨x, hx, e⟩ := alike_mem HAL.out (List.mem_of_getElem? hv)
        rw [← e]; have := (HVF.out x hx).2; omega))
      have HV := Lib.hid hv
      clear hv hvk
      have K5 := Lib.hid (fun w' (h : Below wr.heap.size wr w') => keepc h z5)
      go_wp2_with (go_at_call 46; (with_reducible refine CC.out.mono ?_); rintro e w2 ⟨u2, rfl, hO2⟩; obtain ⟨A2, c2, rfl, hk2⟩ := KV.new (g := g) hO2 HG.out; have k5 := K5.out w2 hO2.bel; have f5 := HFZ.out w2 hO2.bel; have HO2 := Lib.hid hO2; have HK2 := Lib.hid hk2; clear hO2 hk2)
      refine ⟨⟨t + 1, L.set t { v with fa := A2, fc := c2 }, by omega, by go_num, alike_set HAL.out HV.out _ _, ?_, ?_⟩, by simp [intOf] <;> omega⟩
      · intro x hx g' c' e
        injection e with e
        injection e with e1
        subst e1
        refine KV.set ?_ _ _
        rcases List.mem_or_eq_of_mem_set hx with hx | rfl
        · exact (HKV.out x hx g 0 rfl).below HO2.out.bel
        · exact HK2.out
      · have h2 := HOW.out.below HO2.out.bel
        exact ⟨ownE_set h2.own HL.out HV.out A2 c2, h2.bel.setCell (p := ⟨g, _, none⟩) (HOW.out.own.lt g rfl).1 _⟩
    · obtain rfl : t = n := by omega
      have hlt' : ¬ (t : Int) < (t : Int) := by omega
      have HVL := Lib.hid (show ∀ v ∈ L, VF wr v from fun v hv => by
        rcases HOW.out.own.2 with ⟨e, h0⟩ | ⟨g, cap, cur, e, _⟩
        · have := List.eq_nil_of_length_eq_zero h0
          rw [this] at hv; cases hv
        · injection e with e1
          exact (HKV.out v hv g 0 e1).1)
      go_wp2_with fail
      go_ret
      exact ⟨_, rfl, ⟨L, ⟨by have := HOW.out.list; exact this, HVL.out⟩, HAL.out⟩, HOW.out.bel⟩

end Go.Proofs.YtaoobliajgcdmaaGreat

/-
  A map from names to values: what is asked at a name is what fields said last; its entries, gone over in whatever order.
-/
namespace Go.Proofs.YtaoobliajgcdmaaGreat
open Go.RowKit
open Go.Maps (Keyed)

abbrev MT : TypeId := 121
abbrev KT : TypeId := 9
abbrev VT : TypeId := 3
theorem keyS : Keyed Tryz.prog KT := Maps.string_keyed Tryz.underlying9
/-- How a value of a map reads. -/
def anyI (v : Value) : Option (DataW Unit × List MemPlace) :=
  match v with
  | .int .i64 a => some (.lit (.int .i64 a), [])
  | _ => none
theorem anyI_inv (v : Value) (y : DataW Unit × List MemPlace) (h : anyI v = some y) : ∃ c, v = .int .i64 c := by
  unfold anyI at h
  split at h
  · exact ⟨_, rfl⟩
  · cases h
theorem keyS_inv (key : Value) (kl : Lit) (h : keyOf Tryz.prog KT key = some kl) : ∃ x : ByteArray, key = .string x := by
  obtain ⟨x, hx, _⟩ := Maps.keyOf_str Tryz.underlying9 h
  exact ⟨_, hx⟩
set_option maxRecDepth 100000 in
theorem keyS_lit {x : ByteArray} {kl : Lit} (h : keyOf Tryz.prog KT (.string x) = some kl) : kl = .string x.data.toList := by
  obtain ⟨y, hy, hk, _⟩ := Maps.keyOf_str Tryz.underlying9 h
  injection hy with hy
  rw [hk, hy]
abbrev MapF (w : World) (B n : Nat) (D : DataW Unit) : Prop := w.ownsMap Tryz.prog KT anyI B n D
/-- What is asked at a name is what the fields say last. -/
def Says (D : DataW Unit) (l : List Fd) : Prop := Maps.IsMap D ∧ ∀ (s : ByteArray) (zd : DataW Unit), D.atKey (.string s.data.toList) zd = match lastL l s with | some v => .lit (.int .i64 v) | none => zd
theorem Says.nil : Says (.map []) [] := ⟨Maps.isMap_empty, fun _ _ => rfl⟩
theorem key_ne {a b : ByteArray} (h : nats a ≠ nats b) : (Lit.string a.data.toList) ≠ .string b.data.toList := fun e => by
  injection e with e
  exact h (by unfold nats; rw [e])
theorem keyLit (l : List UInt8) : Go.WideAt.IsKeyLit (.string l) := by trivial
theorem Says.put {D : DataW Unit} {l : List Fd} {f : Fd} (h : Says D l) : Says (D.put (.string f.n.data.toList) (.lit (.int .i64 f.v))) (l ++ [f]) := by
  refine ⟨h.1.put _ _, fun s zd => ?_⟩
  rw [lastL_append, lastL, lastL]
  by_cases e : nats f.n = nats s
  · have e2 := nats_inj e
    rw [if_pos e, ← e2, Maps.atKey_put_same h.1 (keyLit _)]
  · rw [if_neg e, Maps.atKey_put_other (key_ne (fun e' => e e'.symm)), h.2]
theorem Says.has {D : DataW Unit} {l : List Fd} (h : Says D l) (s : ByteArray) : Maps.has D (.string s.data.toList) = (lastL l s).isSome := by
  cases e : lastL l s with
  | some v => exact Maps.has_true_of_atKey (y := .lit (.int .i64 v)) (fun z => by rw [h.2, e])
  | none => exact Maps.has_false_of_atKey (fun z => by rw [h.2, e])
/-- The fields that have come of those that are said. -/
def Got (all : List Fd) (left : Lit → Bool) (acc : List Fd) : Prop := Apart acc ∧ ∀ s : ByteArray, getL acc s = if left (.string s.data.toList) = true then none else lastL all s
theorem Got.start {D : DataW Unit} {all : List Fd} (h : Says D all) : Got all (Maps.has D) [] := by
  refine ⟨List.Pairwise.nil, fun s => ?_⟩
  rw [h.has, getL]
  cases lastL all s <;> rfl
theorem getL_append : ∀ (l m : List Fd) (s : ByteArray), getL (l ++ m) s = match getL l s with | some v => some v | none => getL m s
  | [], _, _ => rfl
  | f :: l, m, s => by
    rw [List.cons_append, getL, getL]
    by_cases h : nats f.n = nats s
    · rw [if_pos h, if_pos h]
    · rw [if_neg h, if_neg h, getL_append l m s]
theorem Got.step {D : DataW Unit} {all acc : List Fd} {left : Lit → Bool} {x : ByteArray} {c : Int} (hg : Got all left acc) (h : Says D all) (hlk : left (.string x.data.toList) = true) (hat : ∀ zd, D.atKey (.string x.data.toList) zd = .lit (.int .i64 c)) :
    Got all (fun z => left z && !z.sameKey (.string x.data.toList)) (acc ++ [⟨x, c⟩]) := by
  have hx : getL acc x = none := by rw [hg.2, if_pos hlk]
  have hc : lastL all x = some c := by
    have := h.2 x .nil
    rw [hat] at this
    cases e : lastL all x with
    | none => rw [e] at this; cases this
    | some v =>
      rw [e] at this
      injection this with this
      injection this with _ this
      rw [this]
  refine ⟨apart_snoc hg.1 (fun g hgm e => ?_), fun s => ?_⟩
  · have := getL_mem hg.1 hgm
    rw [nats_inj e, hx] at this
    cases this
  · rw [getL_append, hg.2 s, getL, getL]
    by_cases e : nats x = nats s
    · have e2 := nats_inj e
      subst e2
      rw [if_pos hlk, if_pos rfl, if_neg (by simp [Lit.sameKey]), hc]
    · have k := Maps.sameKey_ne (key_ne (fun e' => e e'.symm) : (Lit.string s.data.toList) ≠ .string x.data.toList)
      simp only [k, if_neg e]
      cases left (.string s.data.toList)
      · simp
        cases lastL all s <;> rfl
      · simp
theorem Got.done {all acc m : List Fd} {left : Lit → Bool} (hg : Got all left acc) (hl : ∀ kl, left kl = false) (hp : acc.Perm m) (hs : m.Pairwise (fun x y => aheadB y.n x.n = false)) : m = overL all := by
  apply rises_ext _ _ (rises_of m hs (hg.1.perm hp)) (overL_rises _)
  intro s
  rw [overL_get, ← getL_perm hg.1 hp, hg.2, hl, if_neg (by simp)]
theorem map_size {w : World} {B n : Nat} {D : DataW Unit} (h : MapF w B n D) : Maps.size D ≤ n := by
  obtain ⟨es, clock, _, _, hs, rfl⟩ := h
  show (List.foldr DataW.insert [] _).length ≤ n
  rw [length_sorted, List.length_map, Array.length_toList]
  exact hs
/-- The map that the call made: block B, what it says of the fields that have been put. -/
structure OM (W : World) (l : List Fd) (D : DataW Unit) (w : World) : Prop where
  map : MapF w W.heap.size l.length D
  says : Says D l
  bel : Below W.heap.size W w
theorem OM.nil (W : World) : OM W [] (.map []) (W.alloc (.map #[] 0)) := ⟨World.ownsMap_made _ _ _ _, Says.nil, (bl W).alloc (Nat.le_refl _) _⟩
theorem OM.alloc {W w : World} {l : List Fd} {D : DataW Unit} (h : OM W l D w) (o : Obj) : OM W l D (w.alloc o) := ⟨h.map.alloc o, h.says, h.bel.alloc h.bel.size _⟩
theorem OM.put {W w w' : World} {l : List Fd} {D : DataW Unit} {f : Fd} (h : OM W l D w) (hm : w'.ownsMap Tryz.prog KT anyI W.heap.size (l.length + 1) (D.put (.string f.n.data.toList) (.lit (.int .i64 f.v)))) (hg : w.grownBy w' (some W.heap.size)) :
    OM W (l ++ [f]) (D.put (.string f.n.data.toList) (.lit (.int .i64 f.v))) w' :=
  ⟨by rw [List.length_append, List.length_singleton]; exact hm, h.says.put, h.bel.grown hg h.bel.size (fun j hj => by cases hj; exact Nat.le_refl _)⟩
theorem ne_iter {w : World} {base B r n cnt : Nat} {v : Value} {l : List Fd} {D : DataW Unit} {left : Lit → Bool} (h : ownF w base v l) (hr : w.ranges Tryz.prog KT anyI B r n D left cnt) : v.ownBlock ≠ some r ∧ v.ownBlock ≠ some B := by
  obtain ⟨es, clock, since, seen, c0, hb, _, _, _, hr, _⟩ := hr
  rcases h.2 with ⟨rfl, _⟩ | ⟨g, cap, cur, rfl, _, hg, _⟩
  · exact ⟨fun e => (by cases e), fun e => (by cases e)⟩
  · refine ⟨fun e => ?_, fun e => ?_⟩
    · obtain rfl := Option.some.inj e
      rw [hg] at hr; cases hr
    · obtain rfl := Option.some.inj e
      rw [hg] at hb; cases hb
/-- A block that is not the list's own is turned. -/
theorem OF.other {W w w' : World} {l : List Fd} {v : Value} {row : Option Nat} (h : OF W l v w) (hg : w.grownBy w' row) (hne : v.ownBlock ≠ row) (hr : ∀ j, row = some j → W.heap.size ≤ j) : OF W l v w' :=
  ⟨h.own.kept hg (by cases hv : v.ownBlock with
    | none => exact Or.inl rfl
    | some b => exact Or.inr (hv ▸ hne)), h.bel.grown hg h.bel.size hr⟩

end Go.Proofs.YtaoobliajgcdmaaGreat
