/-
  Borders: an iterator over the ends of a list's cover; what a loop over it sees.
-/
import Derived.Test.YtmfkcbanjlmmhaaCmake
import Derived.RangeFuncNested
import Derived.RangeFuncBound
import Derived.RangeFuncCalls
import Derived.RangeFuncLeaves
import Derived.RangeFuncBox
import Derived.Shelf.Abstract
import Derived.Shelf.RegionOpen
import Derived.WalkKit
import Derived.OwnWalkIn
import Derived.TacticsInMore
import Derived.LoopNIn
import Derived.LoopIn
namespace Go.Proofs.Ytmfkcbanjlmmhaa
open Go.RowKit Go.Sort Go.Shelf

attribute [local go_sem] Oper.semAt_some

/-- Where the iterator's cover lies: in a variable of its own, the list in a block of its own. -/
def It (B base : Nat) (v : Value) (m : List Sp) (W : World) : Prop := Boxed W B 22 v ∧ W.ownsRow base 36 2 v m.length (flat m)
/-- What Borders leaves. -/
def BordersPost (l : List Sp) (w : World) (e : Ending) (w' : World) : Prop :=
  ∃ B v m, e = .returned (.func (.func 43) #[] #[.pointer (some ⟨B, 0, none⟩)]) ∧ It B w.heap.size v m w' ∧ CovOf m (Mem l) ∧ m.length ≤ l.length ∧ Below w.heap.size w w'

set_option maxHeartbeats 1000000 in
theorem borders_any (w : World) (A : Option Addr) (c : Nat) (l : List Sp) (hl : Spans w A l) (hn : l.length ≤ 1000000) :
    Calls Try.prog 25 #[.slice A l.length c] w (BordersPost l w) := by
  go_enter Try.func25, Try.ntmps25
  go_wp2_with (go_at_call 10; refine (make_own _ _ _ _ hl hn).mono ?_; rintro e w1 ⟨v, m, rfl, hR, hc, hm⟩; have hv := hR; obtain ⟨A3, c3, rfl, _⟩ := own_spans hv.1; clear hv)
  go_ret
  exact ⟨_, _, m, rfl, ⟨Boxed.new _ _ _, hR.1.alloc _⟩, hc, hm, hR.2.alloc hR.2.size _⟩

/-- Blocks that hold spans, or lists of spans, lie as they lay. -/
def KpS (W W' : World) : Prop := ∀ (b : Nat) (cur : Array Value) (t : TypeId), (t = 22 ∨ t = 36) → W.heap[b]? = some (.cells cur t (0, 0)) → W'.heap[b]? = some (.cells cur t (0, 0))
theorem KpS.refl (W : World) : KpS W W := fun _ _ _ _ h => h
theorem KpS.trans {A B C : World} (h : KpS A B) (k : KpS B C) : KpS A C := fun b cur t ht hb => k b cur t ht (h b cur t ht hb)
theorem KpS.alloc (W : World) (o : Obj) : KpS W (W.alloc o) := fun b cur t _ hb => (Below.heap_alloc W o b (Array.getElem?_eq_some_iff.1 hb).1).trans hb
theorem KpS.grown {W W' : World} {row : Option Nat} (hg : W.grownBy W' row) (hr : ∀ g, row = some g → ∃ cur t, t ≠ 22 ∧ t ≠ 36 ∧ W.heap[g]? = some (.cells cur t (0, 0))) : KpS W W' := fun b cur t ht hb => by
  refine (hg.block b (Array.getElem?_eq_some_iff.1 hb).1 fun e => ?_).trans hb
  obtain ⟨cur', t', h1, h2, h3⟩ := hr b e.symm
  rw [hb] at h3
  injection h3 with h3
  injection h3 with _ h3 _
  subst h3
  rcases ht with h | h
  · exact h1 h
  · exact h2 h
theorem KpS.set {W : World} {B : Nat} {ty : TypeId} {u : Value} (hB : Boxed W B ty u) (h1 : ty ≠ 22) (h2 : ty ≠ 36) (v : Value) : KpS W (W.setCell ⟨B, 0, none⟩ v) := fun b cur t ht hb => by
  have hne : b ≠ B := by
    rintro rfl
    rw [show W.heap[b]? = _ from hB] at hb
    injection hb with hb
    injection hb with _ hb _
    subst hb
    rcases ht with h | h
    · exact h1 h
    · exact h2 h
  exact (Below.heap_setCell W ⟨B, 0, none⟩ v b hne).trans hb
theorem KpS.putObj {W : World} {l : Nat} {o : Obj} (h : W.heap[l]? = some o) (hc : o.isCells = false) (o' : Obj) : KpS W (W.putObj l o') := fun b cur t _ hb => by
  have hne : b ≠ l := by
    rintro rfl
    rw [h] at hb
    injection hb with hb
    subst hb
    cases hc
  exact ((grownBy_putObj' W l o').block b (Array.getElem?_eq_some_iff.1 hb).1 (by simpa using hne)).trans hb
theorem It.keptK {B base : Nat} {v : Value} {m : List Sp} {W W' : World} (h : It B base v m W) (k : KpS W W') : It B base v m W' := by
  refine ⟨k _ _ _ (.inl rfl) h.1, h.2.1, ?_⟩
  rcases h.2.2 with h2 | ⟨g, cap, cur, hv, hg, hb, r⟩
  · exact .inl h2
  · exact .inr ⟨g, cap, cur, hv, hg, k _ _ _ (.inr rfl) hb, r⟩
theorem It.alloc {B base : Nat} {v : Value} {m : List Sp} {W : World} (h : It B base v m W) (o : Obj) : It B base v m (W.alloc o) := ⟨h.1.alloc o, h.2.alloc o⟩
/-- The cells of the cover's spans. -/
theorem It.at {B base : Nat} {v : Value} {m : List Sp} {W : World} (h : It B base v m W) {k : Nat} {f t : Int} (hp : m[k]? = some (f, t)) : ∃ g c, v = .slice (some ⟨g, 0, none⟩) m.length c ∧ W.cell? ⟨g, k * 2, none⟩ = some (.int .i64 f) ∧ W.cell? ⟨g, k * 2 + 1, none⟩ = some (.int .i64 t) := by
  have hlt : k < m.length := (List.getElem?_eq_some_iff.1 hp).1
  obtain ⟨g, c, rfl, hat, _, _⟩ := own_spansAt h.2 (by omega)
  obtain ⟨c0, c1⟩ := hat k _ hp
  exact ⟨g, c, rfl, c0, c1⟩
theorem bord_upto {m : List Sp} {k : Nat} {f t : Int} (hp : m[k]? = some (f, t)) : bord (m.take (k + 1)) = bord (m.take k) ++ [f, t] := by rw [take_snoc hp, bord_snoc]
theorem bord_pre (m : List Sp) (k : Nat) : bord (m.take k) <+: bord m := by
  refine ⟨bord (m.drop k), ?_⟩
  simp only [bord]
  rw [← List.flatMap_append, List.take_append_drop]
theorem bord_pre1 {m : List Sp} {k : Nat} {f t : Int} (hp : m[k]? = some (f, t)) : bord (m.take k) ++ [f] <+: bord m :=
  List.IsPrefix.trans ⟨[t], by rw [bord_upto hp]; simp⟩ (bord_pre m (k + 1))
theorem pre_lt {l : List Int} {p : List Int} {x : Int} (h : p ++ [x] <+: l) : p.length < l.length := by
  have := h.length_le
  simp at this
  omega

set_option maxRecDepth 100000 in
set_option maxHeartbeats 4000000 in
theorem borders_in (F : Fence) (n : Nat) (hf : F.fn 43) (hro : F.round = none) (hn : 1 ≤ n) (l B base : Nat) (v : Value) (m : List Sp) (hm : m.length ≤ 1000000) (J Jx : List Int → World → Prop)
    (hY : ∀ pre x W, J pre W → pre.length < (bord m).length → YieldAt F (n - 1) Try.prog l #[.int .i64 x] W fun e W' =>
      (e = .returned (.bool true) ∧ J (pre ++ [x]) W' ∧ KpS W W') ∨ (e = .returned (.bool false) ∧ Jx (pre ++ [x]) W'))
    (W : World) (hW : It B base v m W) (hJa : ∀ pre W1 (o : Obj), J pre W1 → J pre (W1.alloc o)) (h0 : J [] W) :
    CallsIn F n Try.prog 43 #[.func (.yield l) #[] #[], .pointer (some ⟨B, 0, none⟩)] W fun e W' => (∃ v, e = .returned v) ∧
      ((∃ ys, ys = bord m ∧ J ys W') ∨ (∃ pre, pre <+: bord m ∧ Jx pre W')) := by
  obtain ⟨A1, c1, rfl, _⟩ := own_spans hW.2
  have hB := hW.1.cell
  obtain ⟨N, hN⟩ : ∃ N, N = m.length := ⟨_, rfl⟩
  have HI := Lib.hid hW
  have HN := Lib.hid hN
  rw [← hN] at hB hm
  clear hW hN
  refine callsIn_of_wp Try.func43 rfl hf ?_ hro
  simp only [Try.ntmps43, List.size_toArray, List.length_cons, List.length_nil, Nat.reduceAdd, Nat.reduceSub, Array.replicate_succ, Array.replicate_zero, List.push_toArray, List.append_toArray, List.nil_append, List.cons_append]
  gi_wp2
  gi_loopw [7] (fun i wr => ∃ k : Nat, k ≤ N ∧ i = .int .i64 k ∧ J (bord (m.take k)) wr ∧ It B base (.slice A1 m.length c1) m wr)
    (fun i _ => N - (intOf i).toNat)
  case atStart => exact ⟨0, Nat.zero_le _, rfl, h0, HI.out⟩
  case round =>
    obtain ⟨k, hk, rfl, hJs, hI⟩ := hrel
    by_cases hlt : k < N
    · obtain ⟨⟨f, t⟩, hp⟩ : ∃ p, m[k]? = some p := ⟨_, List.getElem?_eq_getElem (by have := HN.out; omega)⟩
      obtain ⟨g, c, hv, c0, c1'⟩ := hI.at hp
      injection hv with hv _ hc
      subst hv hc
      have hI1 := hI.alloc (.cells #[.int .i64 f, .int .i64 t] 36)
      obtain ⟨fn, tmps, assign, body, hy, hR⟩ := hY _ f _ (hJa _ _ (.cells #[.int .i64 f, .int .i64 t] 36) hJs) (pre_lt (bord_pre1 hp))
      have HJ := Lib.hid hI1
      have HP := Lib.hid hp
      clear hI1 hp hI hJs
      have b0 : (wr.alloc (.cells #[.int .i64 f, .int .i64 t] 36)).heap[wr.heap.size]? = some (.cells #[.int .i64 f, .int .i64 t] 36 (0, 0)) := heap_alloc_new wr _
      gi_wp2
      refine hR.mono ?_
      rintro e W3 (⟨rfl, hJ3, hk3⟩ | ⟨rfl, hJx3⟩)
      · have HJ3 := Lib.hid (HJ.out.keptK hk3)
        have b3 := hk3 _ _ _ (.inr rfl) b0
        have d1 : W3.cell? ⟨wr.heap.size, 1, none⟩ = some (.int .i64 t) := by simp [World.cell?, b3]
        obtain ⟨fn2, tmps2, assign2, body2, hy2, hR2⟩ := hY _ t W3 hJ3 (pre_lt (x := t) (by rw [List.append_assoc]; rw [show ([f] : List Int) ++ [t] = [f, t] from rfl, ← bord_upto HP.out]; exact bord_pre m (k + 1)))
        gi_wp2
        refine hR2.mono ?_
        rintro e W4 (⟨rfl, hJ4, hk4⟩ | ⟨rfl, hJx4⟩)
        · gi_wp2
          go_roundw
          case rel => exact ⟨k + 1, by omega, by simp, by rw [bord_upto HP.out]; simpa using hJ4, HJ3.out.keptK hk4⟩
          case measure => simp [intOf]; omega
        · gi_wp2
          refine bodyPost_ret (results_none rfl _ _ _) rfl ?_
          exact ⟨⟨_, rfl⟩, .inr ⟨_, by rw [List.append_assoc, show ([f] : List Int) ++ [t] = [f, t] from rfl, ← bord_upto HP.out]; exact bord_pre m (k + 1), hJx4⟩⟩
      · gi_wp2
        refine ⟨fun _ h => (by cases h), ?_⟩
        gi_wp2
        refine bodyPost_ret (results_none rfl _ _ _) rfl ?_
        exact ⟨⟨_, rfl⟩, .inr ⟨_, bord_pre1 HP.out, hJx3⟩⟩
    · gi_wp2
      go_end0
      exact ⟨⟨_, rfl⟩, .inl ⟨_, rfl, by have h : bord (m.take k) = bord m := by rw [List.take_of_length_le (by have := HN.out; omega)]
                                        rw [← h]; exact hJs⟩⟩

theorem borders_stops (F : Fence) (n : Nat) (hf : F.fn 43) (hro : F.round = none) (hn : 1 ≤ n) (B base : Nat) (v : Value) (m : List Sp) (hm : m.length ≤ 1000000) (w : World) (hI : It B base v m w) :
    SeqStopsK F n Try.prog 43 #[.pointer (some ⟨B, 0, none⟩)] (fun x : Int => #[Value.int .i64 x]) KpS (fun ys => ys = bord m) (fun pre => pre <+: bord m) (bord m).length w := fun l J Jx W hW hJ _ hY h0 =>
  borders_in F n hf hro hn l B base v m hm J Jx hY W (hI.keptK fun b cur t _ hb => (hW.block b (Array.getElem?_eq_some_iff.1 hb).1).trans hb) (fun pre W1 o h => hJ _ _ _ none h (World.grownBy_alloc W1 o none) (by simp)) h0

end Go.Proofs.Ytmfkcbanjlmmhaa
