/-
  The table of the relations, as the row's condition lays it, opened: each name and each end lies in its cell; the world that the program's own door leaves meets the condition.
-/
import Derived.Test.YtegmegapkfbkeaaDoorNames
import Derived.Test.YtegmegapkfbkeaaDoorTie
import Derived.ProofKit
import Derived.LaidMore
import Derived.OpenShut
import Derived.Stop.Joined
import Derived.ChangeSame
import Derived.Lib.SmallJoins
namespace Go.Proofs.YtegmegapkfbkeaaDoor
open Go.ChangeShapes Go.WideShapes Go.ChangeAt Go.RowKit

theorem Tryd.own : ownKnob Tryd.prog.godebug = none := by kernel_rfl
theorem Tryd.gRel : Tryd.prog.globalNamed "erratum/allen.relations" = some 0 := by kernel_rfl
theorem Tryd.tRel : (Tryd.prog.globals[0]?).map (·.type) = some 49 := by kernel_rfl
theorem Tryd.cellsSpan : Tryd.prog.cellsOf 23 = 2 := by kernel_rfl
theorem Tryd.cellsInt : Tryd.prog.cellsOf 3 = 1 := by kernel_rfl
theorem Tryd.cellsStr : Tryd.prog.cellsOf 9 = 1 := by kernel_rfl
theorem Tryd.cellsLie : Tryd.prog.cellsOf 46 = 4 := by kernel_rfl
theorem Tryd.cellsRelation : Tryd.prog.cellsOf 48 = 5 := by kernel_rfl
theorem Tryd.cellsTab : Tryd.prog.cellsOf 49 = 65 := by kernel_rfl

def rowDatum (r : Nat) : DataW Unit := .agg [.lit (.string (nameL.getD r ⟨#[]⟩).data.toList), .agg [.lit (.int .i64 (ends r 0)), .lit (.int .i64 (ends r 1)), .lit (.int .i64 (ends r 2)), .lit (.int .i64 (ends r 3))]]
theorem laid_rows : (Rows.laid_erratum_allen_relations : DataW Unit) = .agg ((List.range 13).map rowDatum) := by kernel_rfl

variable {enc : TypeId × Value → Unit} {W : World} {base : Nat} {sp : Nat → Bool} {held : Bool}
theorem str_cell {n : Nat} {c : List Value} {bs : List UInt8} {y : DataW Unit × List MemPlace} (hy : y.1 = .lit (.string bs)) (h : DataW.trod enc Tryd.prog W base sp held n 9 c = some y) : ∃ s : ByteArray, c = [.string s] ∧ s.data.toList = bs := by
  cases n with
  | zero => simp [DataW.trod] at h
  | succ n =>
    unfold DataW.trod at h
    rw [Tryd.underlying9] at h
    simp only at h
    split at h <;> simp_all
    · obtain ⟨_, rfl⟩ := h
      simpa using hy
theorem int_cell {n : Nat} {c : List Value} {z : Int} {y : DataW Unit × List MemPlace} (hy : y.1 = .lit (.int .i64 z)) (h : DataW.trod enc Tryd.prog W base sp held n 3 c = some y) : c = [.int .i64 z] := by
  obtain ⟨k, e1, e2, _⟩ := DataW.trod_int Tryd.underlying3 h
  rw [e2] at hy
  simp at hy
  rw [e1, hy]

theorem lie_cells {n : Nat} {c : List Value} {f : Nat → Int} {y : DataW Unit × List MemPlace} (hy : y.1 = .agg [.lit (.int .i64 (f 0)), .lit (.int .i64 (f 1)), .lit (.int .i64 (f 2)), .lit (.int .i64 (f 3))])
    (h : DataW.trod enc Tryd.prog W base sp held n 46 c = some y) : ∀ i, i < 4 → c[i]? = some (.int .i64 (f i)) := by
  obtain ⟨xs, m, _, hx, hl, hn, hel⟩ := DataW.trod_array Tryd.underlying46 h
  rw [Tryd.cellsInt] at hel
  rw [hx] at hy
  simp only [DataW.agg.injEq] at hy
  intro i hi
  have hxi : ∃ x, xs[i]? = some x := ⟨_, List.getElem?_eq_getElem (by omega)⟩
  obtain ⟨x, hxi⟩ := hxi
  have hx1 : x.1 = .lit (.int .i64 (f i)) := by
    have e : (xs.map (·.1))[i]? = some x.1 := by rw [List.getElem?_map, hxi]; rfl
    rw [hy] at e
    have : i = 0 ∨ i = 1 ∨ i = 2 ∨ i = 3 := by omega
    rcases this with rfl | rfl | rfl | rfl <;> simpa using e.symm
  have := int_cell hx1 ((hel i hi).trans hxi)
  have e2 : ((c.drop (i * 1)).take 1)[0]? = some (.int .i64 (f i)) := by rw [this]; rfl
  simpa using e2

theorem row_cells {n : Nat} {c : List Value} {r : Nat} {y : DataW Unit × List MemPlace} (hy : y.1 = rowDatum r)
    (h : DataW.trod enc Tryd.prog W base sp held n 48 c = some y) : c[0]? = some (.string (nameL.getD r ⟨#[]⟩)) ∧ ∀ i, i < 4 → c[i + 1]? = some (.int .i64 (ends r i)) := by
  obtain ⟨y0, y1, m, hx, hl, h0, h1⟩ := trod_struct2 Tryd.underlying48 h
  rw [hx] at hy
  simp only [rowDatum, DataW.agg.injEq, List.cons.injEq, and_true] at hy
  simp only at h0 h1
  rw [Tryd.cellsStr] at h0
  rw [Tryd.cellsLie] at h1
  obtain ⟨s, e0, e1⟩ := str_cell hy.1 h0
  have e2 := lie_cells (f := ends r) hy.2 h1
  refine ⟨?_, fun i hi => ?_⟩
  · have : ((c.drop 0).take 1)[0]? = some (.string s) := by rw [e0]; rfl
    have hs : s = nameL.getD r ⟨#[]⟩ := by
      apply ByteArray.ext
      exact Array.toList_inj.1 e1
    rw [← hs]
    simpa using this
  · have := e2 i hi
    rw [List.getElem?_take_of_lt hi, List.getElem?_drop] at this
    rwa [Nat.add_comm] at this

theorem tab_of_laid (h : laidMetH Tryd.prog [("erratum/allen.relations", Rows.laid_erratum_allen_relations)] W) : Tab W := by
  rw [MakeChecks.laidMetH_plain _ _ _ (by kernel_rfl)] at h
  obtain ⟨ps, ⟨g0, t0, cs0, f0, p0, q0, hg0, ht0, hv0, hd0, _⟩, _, _⟩ := h
  obtain rfl := Option.some.inj (Tryd.gRel.symm.trans hg0)
  obtain rfl := Option.some.inj (Tryd.tRel.symm.trans ht0)
  rw [laid_rows] at hd0
  obtain ⟨xs, m, _, hx, hl, hn, hel⟩ := DataW.trod_array Tryd.underlying49 hd0
  rw [Tryd.cellsRelation] at hel
  simp only [Prod.mk.injEq, DataW.agg.injEq] at hx
  have key : ∀ r, r < 13 → (cs0.toList)[r * 5]? = some (.string (nameL.getD r ⟨#[]⟩)) ∧ ∀ i, i < 4 → (cs0.toList)[r * 5 + (i + 1)]? = some (.int .i64 (ends r i)) := by
    intro r hr
    obtain ⟨x, hxi⟩ : ∃ x, xs[r]? = some x := ⟨_, List.getElem?_eq_getElem (by omega)⟩
    have hx1 : x.1 = rowDatum r := by
      have e : (xs.map (·.1))[r]? = some x.1 := by rw [List.getElem?_map, hxi]; rfl
      rw [← hx.1] at e
      rw [List.getElem?_map, List.getElem?_range hr] at e
      simpa using e.symm
    obtain ⟨k0, k1⟩ := row_cells hx1 ((hel r hr).trans hxi)
    refine ⟨?_, fun i hi => ?_⟩
    · rw [List.getElem?_take_of_lt (by omega), List.getElem?_drop] at k0
      exact k0
    · have := k1 i hi
      rw [List.getElem?_take_of_lt (by omega), List.getElem?_drop] at this
      exact this
  have cell : ∀ i, W.cell? ⟨0, i, none⟩ = cs0.toList[i]? := fun i => by rw [World.var?_cell hg0 hv0 i]; simp
  refine ⟨?_, fun r hr => ?_⟩
  · have := (cell 0).trans (key 0 (by decide)).1
    rcases Nat.eq_zero_or_pos W.heap.size with hz | hz
    · rw [World.cell?] at this
      simp_all
    · exact hz
  · obtain ⟨k0, k1⟩ := key r hr
    exact ⟨(cell _).trans k0, (cell _).trans (k1 0 (by decide)), (cell _).trans (k1 1 (by decide)), (cell _).trans (k1 2 (by decide)), (cell _).trans (k1 3 (by decide))⟩

theorem wf_range {t : Int} (h : (Lit.int .i64 t).wf = true) : -9223372036854775808 ≤ t ∧ t ≤ 9223372036854775807 := by
  simpa [Lit.wf, IntKind.min, IntKind.max, IntKind.bits, IntKind.signed] using h

/-- The world that the door leaves meets the condition. -/
theorem door_met (os : Os) (args : Array Value) : laidMetH Tryd.prog [("erratum/allen.relations", Rows.laid_erratum_allen_relations)] ((World.doorLaid Tryd.prog 400 os).forCall (fun _ _ => 0) ⟨#[], args, []⟩).memory :=
  laidMetH_of_parts3 (fuel := 8) (laidMet_of_run' 8 (by kernel_rfl) (by kernel_rfl)) (by kernel_rfl) (by kernel_rfl)

end Go.Proofs.YtegmegapkfbkeaaDoor
