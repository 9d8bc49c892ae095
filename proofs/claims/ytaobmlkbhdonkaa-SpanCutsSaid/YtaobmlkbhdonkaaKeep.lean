/-
  The function that keeper gives back puts one span behind those that are there, if it has a time; nothing else turns.
-/
import Derived.Test.YtaobmlkbhdonkaaSame
import Derived.Deep.AppendLies
import Derived.Deep.RegionLaw
import Derived.OneCell
namespace Go.Proofs.Ytaobmlkbhdonkaa
open Go.RowKit

theorem Try.infoSpan : (Try.prog.info? 23).map (fun i => (i.zero, i.size, i.bytes)) = some (some (.agg #[.int .i64 0, .int .i64 0]), 2, 16) := by kernel_rfl

/-- The spans of a list as cells. -/
def flat (l : List (Int × Int)) : List Value := l.flatMap fun p => [.int .i64 p.1, .int .i64 p.2]
/-- What keep makes of the list. -/
def kept (l : List (Int × Int)) (f t : Int) : List (Int × Int) := if f < t then l ++ [(f, t)] else l

theorem flat_snoc (l : List (Int × Int)) (f t : Int) : flat (l ++ [(f, t)]) = flat l ++ [.int .i64 f, .int .i64 t] := by simp [flat]

/-- Below base nothing has turned but block b. -/
structure Aside (base b : Nat) (w w' : World) : Prop where
  os : w'.os = w.os
  tape : w'.tape = w.tape
  output : w'.output = w.output
  size : w.heap.size ≤ w'.heap.size
  block : ∀ k, k < base → k ≠ b → w'.heap[k]? = w.heap[k]?

theorem Aside.refl (base b : Nat) (w : World) : Aside base b w w := ⟨rfl, rfl, rfl, Nat.le_refl _, fun _ _ _ => rfl⟩
theorem Aside.trans {base b : Nat} {w w' w'' : World} (h : Aside base b w w') (k : Aside base b w' w'') : Aside base b w w'' :=
  ⟨k.os.trans h.os, k.tape.trans h.tape, k.output.trans h.output, Nat.le_trans h.size k.size, fun i hi hn => (k.block i hi hn).trans (h.block i hi hn)⟩

/-- What keep leaves. -/
def KeepPost (base b : Nat) (l : List (Int × Int)) (w : World) (e : Ending) (w' : World) : Prop :=
  e = .returned (.tuple #[]) ∧ ∃ v, w'.heap[b]? = some (.cells #[v] 36 (0, 0)) ∧ w'.ownsRow base 23 2 v l.length (flat l) ∧ Aside base b w w'

theorem news_two (w : World) (f t : Int) (ty : TypeId) : ∀ j u, [Value.int .i64 f, Value.int .i64 t][j]? = some u → (w.alloc (.cells #[.int .i64 f, .int .i64 t] ty)).cell? ((⟨w.heap.size, 0, none⟩ : Addr).add j) = some u :=
  World.news_of_block (cs := #[.int .i64 f, .int .i64 t]) (heap_alloc_new w _)

/-- A block below base is as it was behind the append. -/
theorem keep_old {w w1 : World} {o x : Obj} {v : Value} {base k n : Nat} {xs : List Value} (hg : (w.drew.alloc o).grownBy w1 v.ownBlock) (hown : w.ownsRow base 23 2 v n xs)
    (hk : w.heap[k]? = some x) (hlt : k < base) (hs : base ≤ w.heap.size) : w1.heap[k]? = some x := by
  rw [hg.block k (by simp; omega) (fun e => by have := hown.lt k e.symm; omega)]
  exact (Below.heap_alloc w.drew o k (by simp; omega)).trans hk

theorem keep_end {w w1 : World} {o : Obj} {v V : Value} {base b : Nat} {l : List (Int × Int)} {f t : Int} (h : f < t) (hv : w.heap[b]? = some (.cells #[v] 36 (0, 0))) (hb : b + 2 ≤ base) (hs : base ≤ w.heap.size)
    (hown : w.ownsRow base 23 2 v l.length (flat l)) (hg : (w.drew.alloc o).grownBy w1 v.ownBlock) (hown1 : w1.ownsRow base 23 2 V (l.length + 1) (flat l ++ [.int .i64 f, .int .i64 t])) :
    KeepPost base b (kept l f t) w (.returned (.tuple #[])) (w1.setCell ⟨b, 0, none⟩ V) := by
  refine ⟨rfl, V, one_setCell (keep_old hg hown hv (by omega) hs), ?_, hg.os, hg.tape, hg.output, ?_, fun k hk hn => ?_⟩
  · rw [kept, if_pos h, flat_snoc, List.length_append]
    exact ownsRow_setCell_below hown1 (by show b < base; omega) _
  · have := hg.size
    simp [World.setCell] at this ⊢
    omega
  · rw [Below.heap_setCell _ _ _ _ hn, hg.block k (by simp; omega) (fun e => by have := hown.lt k e.symm; omega)]
    exact Below.heap_alloc w.drew o k (by simp; omega)

set_option maxHeartbeats 800000 in
theorem keep_any (f t : Int) (b base : Nat) (v : Value) (l : List (Int × Int)) (w : World) (hp : w.heap[b + 1]? = some (.cells #[.pointer (some ⟨b, 0, none⟩)] 49 (0, 0)))
    (hv : w.heap[b]? = some (.cells #[v] 36 (0, 0))) (hb : b + 2 ≤ base) (hs : base ≤ w.heap.size) (hown : w.ownsRow base 23 2 v l.length (flat l)) (hl : l.length < 1000000) :
    Calls Try.prog 32 #[.int .i64 f, .int .i64 t, .pointer (some ⟨b + 1, 0, none⟩)] w (KeepPost base b (kept l f t) w) := by
  by_cases h : f < t
  · have c1 := cell_of_one hp
    have c0 := cell_of_one hv
    have hb0 : b < w.heap.size := by omega
    have hb1 : b + 1 < w.heap.size := by omega
    go_enter Try.func32, Try.ntmps32
    go_wp2
    obtain ⟨i0, hi, hz0, hz1, hz2⟩ := info_parts Try.infoSpan
    go_region_law (refine step_append_lies _ rfl (.tmp 11) (.tmp 15) 36 rfl base 23 i0 (.agg #[.int .i64 0, .int .i64 0]) 2 16 Try.underlying36 hi hz0 hz1 hz2 rfl (by decide) v l.length (flat l) rfl (World.ownsRow.alloc hown.drew _) ⟨w.heap.size, 0, none⟩ 1 1 [.int .i64 f, .int .i64 t] rfl rfl (news_two w.drew f t _) (by simp [Value.oneCell']) (by decide) (by unfold maxLen; omega) (by omega) (by simp; omega) _ rfl ?_; intro g cap w1 hown1 hgrow hat hlt; have e0 := cell_of_one (keep_old hgrow hown hv (by omega) hs); have e1 := free_of_one (keep_old hgrow hown hv (by omega) hs); have e2 := cell_of_one (keep_old hgrow hown hp (by omega) hs))
    all_goals go_end0
    all_goals exact keep_end h hv hb hs hown hgrow hown1
  · go_enter Try.func32, Try.ntmps32
    go_wp2
    go_end0
    exact ⟨rfl, v, hv, by rw [kept, if_neg (by omega)]; exact hown, Aside.refl _ _ _⟩

end Go.Proofs.Ytaobmlkbhdonkaa
