/-
  An argument that is a list of spans, or of numbers, lies in memory as such a list.
-/
import Derived.Test.YtmfkcbanjlmmhaaChecked
import Derived.Test.YtmfkcbanjlmmhaaCop
import Derived.Deep.SlicePairs
namespace Go.Proofs.Ytmfkcbanjlmmhaa
open Go.ChangeShapes Go.WideShapes Go.ChangeAt Go.RowKit Go.Joins Go.Deep

theorem Try.own : ownKnob Try.prog.godebug = none := by kernel_rfl
theorem Try.cellsSpan : Try.prog.cellsOf 36 = 2 := by kernel_rfl
theorem Try.laidOut : laidOutB Try.prog = true := by kernel_rfl
theorem Try.cellsInt : Try.prog.cellsOf 3 = 1 := by kernel_rfl

theorem plain_of_cell {w : World} {a : Addr} {v : Value} (h : w.cell? (a.add 0) = some v) : a = ⟨a.block, a.off, none⟩ := by
  obtain ⟨b, off, spot⟩ := a
  have hs : spot = none := by simpa [Addr.add] using World.cell?_spot h
  subst hs
  rfl

section
variable {H : Type} {enc : TypeId × Value → H} {W : World} {r : Reach} {base : Nat}

theorem arg_spans {v : Value} {d : DataW H} {p : List MemPlace} (hv : Value.okWide Try.prog W r base 22 v) (h : DataW.Trod enc Try.prog W 0 (fun _ => true) true 22 v d p) :
    ∃ A c l, v = .slice A (l : List (Int × Int)).length c ∧ Spans W A l ∧ (A = none → c = 0) := by
  obtain ⟨A, len, cap, rfl⟩ := okWide_slice Try.underlying22 hv
  obtain ⟨fuel, hf⟩ := h
  rcases open_slice_pairs Try.underlying22 Try.underlying36 Try.cellsSpan rfl rfl Try.cellsInt Try.cellsInt hf with ⟨hcs, _⟩ | ⟨a, len', cap', m, n, V0, V1, D0, D1, P0, P1, hcs, _, hl, _, hm, _, hx⟩
  · simp [Value.cells] at hcs
    obtain ⟨rfl, rfl, rfl⟩ := hcs
    exact ⟨none, 0, [], rfl, Spans.nil _ _, fun _ => rfl⟩
  · simp [Value.cells] at hcs
    obtain ⟨rfl, rfl, rfl⟩ := hcs
    simp only [if_true] at hm
    subst hm
    refine ⟨some a, m, (List.range len).map fun i => (intOf (V0 i), intOf (V1 i)), by simp, fun i q hq => ?_, fun h => by cases h⟩
    have hi : i < len := by
      rcases Nat.lt_or_ge i len with hlt | hge
      · exact hlt
      · rw [List.getElem?_eq_none (by simpa using hge)] at hq
        cases hq
    have hq' : q = (intOf (V0 i), intOf (V1 i)) := by
      rw [List.getElem?_map, List.getElem?_range hi] at hq
      simpa using hq.symm
    obtain ⟨z0, z1, zt, _⟩ := hx 0 (by omega)
    have ha := plain_of_cell (by simpa using z0)
    obtain ⟨c0, c1, t0, t1⟩ := hx i (by omega)
    obtain ⟨x0, e0, _, _⟩ := DataW.trod_int Try.underlying3 t0
    obtain ⟨x1, e1, _, _⟩ := DataW.trod_int Try.underlying3 t1
    simp at e0 e1
    rw [e0] at c0
    rw [e1] at c1
    rw [ha, Go.WideShapes.add_plain] at c0 c1
    refine ⟨a.block, a.off, by rw [← ha], ?_, ?_⟩
    · rw [hq', e0]; exact c0
    · rw [hq', e1, Nat.add_assoc]; exact c1

end

end Go.Proofs.Ytmfkcbanjlmmhaa
