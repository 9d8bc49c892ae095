/-
  What the walks of keys stand on: bytes in memory, texts read at a place, results compared.
-/
import Derived.Test.YtdigbcglokjbjaaRows
import Derived.Test.YtdigbcglokjbjaaProg
import Derived.Test.YtdigbcglokjbjaaSparts
import Derived.WalkKit
import Derived.WalkSpells
import Derived.WalkLawsBesides
import Derived.WalkArith
import Derived.Deep.QuietTactic
import Derived.Deep.RegionHeld3
import Derived.BigQuiet
import Derived.Handy
import Derived.RegionTactic
import Derived.ChangeAlike
import Derived.Lib.Hide
import Derived.Deep.Light
import Derived.Deep.CutRange
import Derived.ChangeKeysEq
import Derived.Laws.OwnMore
import Derived.OwnWalk
import Derived.StillTailTactics
import Derived.Deep.CutBlock
import Derived.Deep.AppendLies
import Derived.Maps.AppendAt
import Derived.OneCell
namespace Go.Proofs.Ytdigbcglokjbjaa
open Go.RowKit

abbrev Same (F : Nat) (args : Array Value) (w : World) (v : Value) : Prop := Calls Try.prog F args w fun e w' => e = .returned v ∧ w' = w
theorem bl (w : World) : Below w.heap.size w w := Below.refl _ _
theorem chain {W w w1 : World} (h : Below W.heap.size W w) (hb : Below w.heap.size w w1) : Below W.heap.size W w1 := h.trans (hb.mono h.size)
theorem keepc {w w1 : World} (hb : Below w.heap.size w w1) {b o : Nat} {v : Value} (h : w.cell? ⟨b, o, none⟩ = some v) : w1.cell? ⟨b, o, none⟩ = some v := by
  have : b < w.heap.size := by
    rcases Nat.lt_or_ge b w.heap.size with h' | h'
    · exact h'
    · simp [World.cell?, Array.getElem?_eq_none h'] at h
  exact (hb.cell (p := ⟨b, o, none⟩) this).trans h
theorem ret_int {k : IntKind} {a b : Int} (h : a = b) : Ending.returned (.int k a) = .returned (.int k b) := by rw [h]

abbrev Ret (F : Nat) (args : Array Value) (w : World) (v : Value) : Prop := Calls Try.prog F args w fun e w' => e = .returned v ∧ Below w.heap.size w w'
theorem ret_s {s t : ByteArray} (h : s = t) : Ending.returned (.string s) = .returned (.string t) := by rw [h]
theorem ret_ise {a b c d : Int} {s t : ByteArray} (h : a = b) (k : s = t) (l : c = d) : Ending.returned (.tuple #[.int .i64 a, .string s, .int .i64 c]) = .returned (.tuple #[.int .i64 b, .string t, .int .i64 d]) := by rw [h, k, l]
theorem ret_sse {s t u v : ByteArray} {c d : Int} (h : s = t) (k : u = v) (l : c = d) : Ending.returned (.tuple #[.string s, .string u, .int .i64 c]) = .returned (.tuple #[.string t, .string v, .int .i64 d]) := by rw [h, k, l]
theorem belowN {n : Nat} {W w : World} (h : Below n W w) (q : Nat) : Below n W (w.drewN q) := h.trans ⟨rfl, rfl, rfl, Nat.le_refl _, fun _ _ => rfl⟩

/-- Block g holds the first n bytes of T. -/
def Arr (w : World) (g : Nat) (T : Nat → Nat) (n : Nat) : Prop := g < w.heap.size ∧ ∀ i, i < n → w.cell? ⟨g, i, none⟩ = some (.int .u8 (T i)) ∧ w.frozen? ⟨g, i, none⟩ = false
theorem Arr.below {W w : World} {g n : Nat} {T : Nat → Nat} (h : Arr W g T n) {B : Nat} (hg : g < B) (hb : Below B W w) : Arr w g T n :=
  ⟨Nat.lt_of_lt_of_le h.1 hb.size, fun i hi => ⟨(hb.cell (p := ⟨g, i, none⟩) hg).trans (h.2 i hi).1, (hb.frozen (p := ⟨g, i, none⟩) hg).trans (h.2 i hi).2⟩⟩
def upd (T : Nat → Nat) (p v : Nat) : Nat → Nat := fun q => if q = p then v else T q
theorem Arr.put {w : World} {g n p v : Nat} {T : Nat → Nat} (h : Arr w g T n) (hp : p < n) : Arr (w.setCell ⟨g, p, none⟩ (.int .u8 v)) g (upd T p v) n := by
  refine ⟨by simpa [World.setCell] using h.1, fun i hi => ?_⟩
  obtain ⟨c, f⟩ := h.2 i hi
  unfold upd
  by_cases e : i = p
  · subst e
    rw [if_pos rfl]
    exact ⟨World.cell?_setCell_same w _ _ c, by simpa [go_sem] using f⟩
  · rw [if_neg e]
    exact ⟨(World.cell?_setCell_other w _ _ _ (by simp [e])).trans c, by simpa [go_sem] using f⟩
theorem Arr.drewN {w : World} {g n : Nat} {T : Nat → Nat} (h : Arr w g T n) (q : Nat) : Arr (w.drewN q) g T n := h
theorem Arr.congr {w : World} {g n : Nat} {T U : Nat → Nat} (h : Arr w g T n) (e : ∀ i, i < n → T i = U i) : Arr w g U n := ⟨h.1, fun i hi => by rw [← e i hi]; exact h.2 i hi⟩

theorem Try.infoByte : (Try.prog.info? 5).map (fun i => (i.zero, i.size, i.bytes)) = some (some (.int .u8 0), 1, 1) := by kernel_rfl

/-- A row of noughts is made. -/
theorem make_bytes (w : World) (n : Nat) (hn : n ≤ 100000) : ∃ w', (Instr.makeSlice 36 (.int .i64 (n : Int)) (.int .i64 (n : Int))).run Try.prog w = .ok (.slice (some ⟨w.heap.size, 0, none⟩) n n) w' ∧
    Arr w' w.heap.size (fun _ => 0) n ∧ Below w.heap.size w w' := by
  obtain ⟨i0, hi, hz0, hz1, hz2⟩ := info_parts Try.infoByte
  obtain ⟨w', hrun, hown, hg⟩ := run_make_full (P := Try.prog) w w.heap.size 36 5 i0 (.int .u8 0) 1 Try.underlying36 hi hz0 hz1 .i64 .i64 n (by rw [hz2]; omega) (by unfold maxLen; omega) (Nat.le_refl _)
  refine ⟨w', hrun, ⟨(hown.lt _ rfl).2, fun i hi => ⟨?_, hown.frozenAt i⟩⟩, (Below.refl _ _).grown hg (Nat.le_refl _) (fun k hk => by cases hk)⟩
  have hl : (madeCells (Value.int .u8 0).cells (n * 1)).toList[i]? = some (.int .u8 0) := by
    simp [madeCells, Value.cells, hi]
    rw [Nat.mod_one]; rfl
  have := hown.cells (g := w.heap.size) rfl i _ hl
  have add : (⟨w.heap.size, 0, none⟩ : Addr).add i = ⟨w.heap.size, 0 + i, none⟩ := by unfold Addr.add; split <;> simp_all
  rw [add, Nat.zero_add] at this
  exact this

/-- A row of bytes read as a text. -/
theorem conv_arr {w : World} {g n c : Nat} {T : Nat → Nat} {l : List Nat} (h : Arr w g T n) (hl : l.length = n) (hT : ∀ i, i < n → l[i]? = some (T i)) :
    (convert 36 9 (.slice (some ⟨g, 0, none⟩) n c)).run Try.prog w = .ok (.string (bytesN l)) w := by
  have k := run_convert_bytes_arg (P := Try.prog) w 36 5 Try.underlying36 Try.underlying5 g 0 n c (l.map fun n : Nat => (n : Int)) (by rw [List.length_map, hl]) (fun i hi => by
    rw [Nat.zero_add, (h.2 i hi).1, List.getD_eq_getElem?_getD, List.getElem?_map, hT i hi]
    rfl) 9 Try.underlying9
  rw [str_nums] at k
  exact k

theorem index_run {s : ByteArray} {i c : Nat} (h : (nats s)[i]? = some c) (w : World) : (Instr.index 9 (.string s) (.int .i64 (i : Int))).run Try.prog w = .ok (.int .u8 (c : Int)) w := by
  have hi : i < s.size := by
    rw [← nats_length]
    rcases Nat.lt_or_ge i (nats s).length with h' | h'
    · exact h'
    · rw [List.getElem?_eq_none h'] at h; cases h
  rw [nats_get hi] at h
  injection h with h
  rw [run_index_string w 9 s .i64 i Try.underlying9, dif_pos (by omega)]
  simp only [Int.toNat_natCast, h]

theorem cut_run {s : ByteArray} {i j : Nat} (h0 : i ≤ j) (h1 : j ≤ s.size) (w : World) : (Instr.slice 9 (.string s) (some (.int .i64 (i : Int))) (some (.int .i64 (j : Int))) none).run Try.prog w = .ok (.string (s.extract i j)) w := by
  rw [run_slice_string w 9 s .i64 .i64 (i : Int) (j : Int) Try.underlying9 (by omega) (by omega) (by omega)]
  simp only [Int.toNat_natCast]
/-- One byte of a text, as a text. -/
theorem nats_one {s : ByteArray} {i c : Nat} (h : (nats s)[i]? = some c) : s.extract i (i + 1) = bytesN [c] := by
  have hc : c < 256 := nats_lt s c (List.mem_of_getElem? h)
  apply nats_inj
  rw [nats_extract, nats_bytes (by simpa using hc), show i + 1 - i = 1 from by omega]
  have hi : i < (nats s).length := by
    rcases Nat.lt_or_ge i (nats s).length with h' | h'
    · exact h'
    · rw [List.getElem?_eq_none h'] at h; cases h
  rw [List.drop_eq_getElem_cons hi, List.take_succ_cons, List.take_zero]
  rw [List.getElem?_eq_getElem hi] at h
  rw [Option.some.inj h]

end Go.Proofs.Ytdigbcglokjbjaa
