/-
  A row of bytes of the call's own: made, put, read as a text.
-/
import Derived.Test.YtnmnbnlokmmcmaaPbase
import Derived.Laws.OwnMore
import Derived.OwnWalk
import Derived.StillTailTactics
namespace Go.Proofs.Ytnmnbnlokmmcmaa
open Go.RowKit

/-- Block g holds the first n bytes of T. -/
def Arr (w : World) (g : Nat) (T : Nat → Nat) (n : Nat) : Prop := g < w.heap.size ∧ ∀ i, i < n → w.cell? ⟨g, i, none⟩ = some (.int .u8 (T i)) ∧ w.frozen? ⟨g, i, none⟩ = false
theorem Arr.below {W w : World} {g n : Nat} {T : Nat → Nat} (h : Arr W g T n) {B : Nat} (hg : g < B) (hb : Below B W w) : Arr w g T n :=
  ⟨Nat.lt_of_lt_of_le h.1 hb.size, fun i hi => ⟨(hb.cell (p := ⟨g, i, none⟩) hg).trans (h.2 i hi).1, (hb.frozen (p := ⟨g, i, none⟩) hg).trans (h.2 i hi).2⟩⟩
def upd (T : Nat → Nat) (p v : Nat) : Nat → Nat := fun q => if q = p then v else T q
theorem Arr.put {w : World} {g n p v : Nat} {T : Nat → Nat} (h : Arr w g T n) (hp : p < n) : Arr (w.setCell ⟨g, p, none⟩ (.int .u8 v)) g (upd T p v) n := by
  refine ⟨by simpa [World.setCell] using h.1, fun i hi => ?_⟩
  obtain ⟨c, f⟩ := h.2 i hi
  unfold upd
  by_cases e : i = p
  · subst e
    rw [if_pos rfl]
    exact ⟨World.cell?_setCell_same w _ _ c, by simpa [go_sem] using f⟩
  · rw [if_neg e]
    exact ⟨(World.cell?_setCell_other w _ _ _ (by simp [e])).trans c, by simpa [go_sem] using f⟩
theorem Arr.drewN {w : World} {g n : Nat} {T : Nat → Nat} (h : Arr w g T n) (q : Nat) : Arr (w.drewN q) g T n := h
theorem Arr.congr {w : World} {g n : Nat} {T U : Nat → Nat} (h : Arr w g T n) (e : ∀ i, i < n → T i = U i) : Arr w g U n := ⟨h.1, fun i hi => by rw [← e i hi]; exact h.2 i hi⟩

theorem Try.infoByte : (Try.prog.info? 5).map (fun i => (i.zero, i.size, i.bytes)) = some (some (.int .u8 0), 1, 1) := by kernel_rfl

/-- A row of noughts is made. -/
theorem make_bytes (w : World) (n : Nat) (hn : n ≤ 100000) : ∃ w', (Instr.makeSlice 58 (.int .i64 (n : Int)) (.int .i64 (n : Int))).run Try.prog w = .ok (.slice (some ⟨w.heap.size, 0, none⟩) n n) w' ∧
    Arr w' w.heap.size (fun _ => 0) n ∧ Below w.heap.size w w' := by
  obtain ⟨i0, hi, hz0, hz1, hz2⟩ := info_parts Try.infoByte
  obtain ⟨w', hrun, hown, hg⟩ := run_make_full (P := Try.prog) w w.heap.size 58 5 i0 (.int .u8 0) 1 Try.underlying58 hi hz0 hz1 .i64 .i64 n (by rw [hz2]; omega) (by unfold maxLen; omega) (Nat.le_refl _)
  refine ⟨w', hrun, ⟨(hown.lt _ rfl).2, fun i hi => ⟨?_, hown.frozenAt i⟩⟩, (Below.refl _ _).grown hg (Nat.le_refl _) (fun k hk => by cases hk)⟩
  have hl : (madeCells (Value.int .u8 0).cells (n * 1)).toList[i]? = some (.int .u8 0) := by
    simp [madeCells, Value.cells, hi]
    rw [Nat.mod_one]; rfl
  have := hown.cells (g := w.heap.size) rfl i _ hl
  have add : (⟨w.heap.size, 0, none⟩ : Addr).add i = ⟨w.heap.size, 0 + i, none⟩ := by unfold Addr.add; split <;> simp_all
  rw [add, Nat.zero_add] at this
  exact this

/-- A row of bytes read as a text. -/
theorem conv_arr {w : World} {g n c : Nat} {T : Nat → Nat} {l : List Nat} (h : Arr w g T n) (hl : l.length = n) (hT : ∀ i, i < n → l[i]? = some (T i)) :
    (convert 58 9 (.slice (some ⟨g, 0, none⟩) n c)).run Try.prog w = .ok (.string (bytesN l)) w := by
  have k := run_convert_bytes_arg (P := Try.prog) w 58 5 Try.underlying58 Try.underlying5 g 0 n c (l.map fun n : Nat => (n : Int)) (by rw [List.length_map, hl]) (fun i hi => by
    rw [Nat.zero_add, (h.2 i hi).1, List.getD_eq_getElem?_getD, List.getElem?_map, hT i hi]
    rfl) 9 Try.underlying9
  rw [str_nums] at k
  exact k

end Go.Proofs.Ytnmnbnlokmmcmaa
