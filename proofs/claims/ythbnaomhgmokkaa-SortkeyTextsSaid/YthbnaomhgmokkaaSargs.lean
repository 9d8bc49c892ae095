/-
  An argument that is a list of parts.
-/
import Derived.Test.YthbnaomhgmokkaaChecked
import Derived.Test.YthbnaomhgmokkaaSown
import Derived.ProofKit
import Derived.SizedLaws
import Derived.ChangeMaps5
import Derived.Lib.SmallJoins
import Derived.Deep.SlicePairs
import Derived.OpenShut
namespace Go.Proofs.Ythbnaomhgmokkaa
open Go.ChangeShapes Go.WideShapes Go.ChangeAt Go.RowKit Go.Joins Go.ChangeMaps Go.Deep

theorem Try.own : ownKnob Try.prog.godebug = none := by kernel_rfl
theorem Try.laidOut : laidOutB Try.prog = true := by kernel_rfl
theorem Try.cellsPart : Try.prog.cellsOf 50 = 3 := by kernel_rfl
theorem Try.cells3i : Try.prog.cellsOf 3 = 1 := by kernel_rfl
theorem Try.cells3b : Try.prog.cellsOf 4 = 1 := by kernel_rfl
theorem Try.cells3s : Try.prog.cellsOf 9 = 1 := by kernel_rfl

instance : Inhabited Prt := ⟨⟨false, 0, ⟨#[]⟩⟩⟩
theorem plain_of_cell {w : World} {a : Addr} {v : Value} (h : w.cell? (a.add 0) = some v) : a = ⟨a.block, a.off, none⟩ := by
  obtain ⟨b, off, spot⟩ := a
  have hs : spot = none := by simpa [Addr.add] using World.cell?_spot h
  subst hs
  rfl
theorem isI_of_wf {n : Int} (h : (Lit.int .i64 n).wf = true) : isI n := by
  have h1 : IntKind.i64.min = -9223372036854775808 := rfl
  have h2 : IntKind.i64.max = 9223372036854775807 := rfl
  simp only [Lit.wf, Bool.and_eq_true, decide_eq_true_eq] at h
  unfold isI
  omega

section
variable {H : Type} {enc : TypeId × Value → H} {W : World} {r : Reach} {base : Nat}

theorem arg_parts {v : Value} {d : DataW H} {p : List MemPlace} (hv : Value.okWide Try.prog W r base 34 v) (h : DataW.Trod enc Try.prog W 0 (fun _ => true) true 34 v d p) :
    ∃ A c l, v = .slice A (l : List Prt).length c ∧ Parts W A l ∧ (∀ q ∈ l, isI q.n ∧ q.s.size ≤ 9223372036854775807) ∧ l.length ≤ 9223372036854775807 := by
  obtain ⟨A, len, cap, rfl⟩ := okWide_slice Try.underlying34 hv
  obtain ⟨fuel, hf⟩ := h
  rcases open_slice Try.underlying34 hf with ⟨hcs, _⟩ | ⟨a, len', cap', m, n, D, Pl, hcs, _, hl, hmx, hm, _, hx⟩
  · simp [Value.cells] at hcs
    obtain ⟨rfl, rfl, rfl⟩ := hcs
    exact ⟨none, 0, [], rfl, Parts.nil _ _, by simp, by simp⟩
  · simp [Value.cells] at hcs
    obtain ⟨rfl, rfl, rfl⟩ := hcs
    simp only [if_true] at hm
    subst hm
    have each : ∀ i, i < len → ∃ q : Prt, W.cell? (a.add (i * 3)) = some (.bool q.i) ∧ W.cell? (a.add (i * 3 + 1)) = some (.int .i64 q.n) ∧ W.cell? (a.add (i * 3 + 2)) = some (.string q.s) ∧ isI q.n ∧ q.s.size ≤ 9223372036854775807 := by
      intro i hi
      obtain ⟨cs', h1, h2⟩ := hx i (by omega)
      rw [Try.cellsPart] at h1
      obtain ⟨_, hlen, hcell⟩ := World.cells?_some h1
      obtain ⟨xs, k, hk, hxy, _, hxl, hf⟩ := DataW.trod_struct Try.underlying50 h2
      match xs, hxl, cs', hlen with
      | [y0, y1, y2], _, [v0, v1, v2], _ =>
        have g0 := hf 0 _ rfl
        have g1 := hf 1 _ rfl
        have g2 := hf 2 _ rfl
        simp [Try.cells3i, Try.cells3b, Try.cells3s] at g0 g1 g2
        obtain ⟨b, e0, _⟩ := DataW.trod_bool Try.underlying4 g0
        obtain ⟨x, e1, _, hw⟩ := DataW.trod_int Try.underlying3 g1
        obtain ⟨s, e2, _, hz⟩ := DataW.trod_string Try.underlying9 g2
        simp at e0 e1 e2
        subst e0 e1 e2
        have f0 := hcell 0 (by omega)
        have f1 := hcell 1 (by omega)
        have f2 := hcell 2 (by omega)
        rw [add_add] at f0 f1 f2
        exact ⟨⟨b, x, s⟩, by simpa using f0, by simpa using f1, by simpa using f2, isI_of_wf hw, by unfold maxLen at hz; omega⟩
    obtain ⟨q, hq⟩ := choose_lt each
    refine ⟨some a, m, (List.range len).map q, by simp, fun i x hxx => ?_, fun x hxx => ?_, by simp; unfold maxLen at hmx; omega⟩
    · have hi : i < len := by
        rcases Nat.lt_or_ge i len with hlt | hge
        · exact hlt
        · rw [List.getElem?_eq_none (by simpa using hge)] at hxx
          cases hxx
      obtain rfl : q i = x := by
        rw [List.getElem?_map, List.getElem?_range hi] at hxx
        simpa using hxx
      obtain ⟨z0, _⟩ := hq 0 (by omega)
      have ha := plain_of_cell (by simpa using z0)
      obtain ⟨c0, c1, c2, _⟩ := hq i hi
      rw [ha, Go.WideShapes.add_plain] at c0 c1 c2
      exact ⟨a.block, a.off, by rw [← ha], c0, by rw [Nat.add_assoc]; exact c1, by rw [Nat.add_assoc]; exact c2⟩
    · obtain ⟨i, hi, rfl⟩ := List.mem_map.1 hxx
      exact (hq i (List.mem_range.1 hi)).2.2.2

theorem arg_two {v : Value} {d : DataW H} {p : List MemPlace} (hv : Value.okWide Try.prog W r base 35 v) (h : DataW.Trod enc Try.prog W 0 (fun _ => true) true 35 v d p) :
    ∃ x y : ByteArray, v = .agg #[.string x, .string y] ∧ x.size ≤ 9223372036854775807 ∧ y.size ≤ 9223372036854775807 := by
  obtain ⟨fuel, hf⟩ := h
  obtain ⟨xs, m, _, _, hlen, hxl, hf⟩ := DataW.trod_array Try.underlying35 hf
  have hc2 : Try.prog.cellsOf 35 = 2 := by kernel_rfl
  rw [hc2] at hlen
  have g0 := hf 0 (by omega)
  have g1 := hf 1 (by omega)
  match xs, hxl with
  | [y0, y1], _ =>
    simp [Try.cells3s] at g0 g1
    obtain ⟨cs, rfl, hsz⟩ : ∃ cs, v = .agg cs ∧ cs.size = Try.prog.cellsOf 35 := by
      simp only [Value.okWide, Try.underlying35] at hv
      cases v <;> simp_all
    obtain ⟨x0, x1, rfl⟩ := array2 (hsz.trans hc2)
    obtain ⟨x, e0, _, z0⟩ := DataW.trod_string Try.underlying9 g0
    obtain ⟨y, e1, _, z1⟩ := DataW.trod_string Try.underlying9 g1
    simp [Value.cells] at e0 e1
    subst e0 e1
    exact ⟨x, y, rfl, by unfold maxLen at z0; omega, by unfold maxLen at z1; omega⟩

end

end Go.Proofs.Ythbnaomhgmokkaa
