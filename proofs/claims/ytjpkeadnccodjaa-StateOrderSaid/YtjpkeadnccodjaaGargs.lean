/-
  An argument that is a list of fields, or a list of lists of fields.
-/
import Derived.Test.YtjpkeadnccodjaaChecked
import Derived.Test.YtjpkeadnccodjaaGlist
import Derived.ProofKit
import Derived.SizedLaws
import Derived.ChangeMaps5
import Derived.Lib.SmallJoins
import Derived.Deep.SlicePairs
import Derived.OpenShut
namespace Go.Proofs.Ytjpkeadnccodjaa
open Go.ChangeShapes Go.WideShapes Go.ChangeAt Go.RowKit Go.Joins Go.ChangeMaps Go.Deep

theorem Try.own : ownKnob Try.prog.godebug = none := by kernel_rfl
theorem Try.laidOut : laidOutB Try.prog = true := by kernel_rfl
theorem Try.cellsField : Try.prog.cellsOf 48 = 2 := by kernel_rfl
theorem Try.cells3i : Try.prog.cellsOf 3 = 1 := by kernel_rfl
theorem Try.cells3s : Try.prog.cellsOf 9 = 1 := by kernel_rfl
theorem Try.cells3l : Try.prog.cellsOf 29 = 1 := by kernel_rfl

instance : Inhabited Fd := ⟨⟨⟨#[]⟩, 0⟩⟩
theorem plain_of_cell {w : World} {a : Addr} {v : Value} (h : w.cell? (a.add 0) = some v) : a = ⟨a.block, a.off, none⟩ := by
  obtain ⟨b, off, spot⟩ := a
  have hs : spot = none := by simpa [Addr.add] using World.cell?_spot h
  subst hs
  rfl
/-- Fields that may be. -/
def wellF (l : List Fd) : Prop := ∀ f ∈ l, (-9223372036854775808 ≤ f.v ∧ f.v ≤ 9223372036854775807) ∧ f.n.size ≤ 9223372036854775807
theorem int_of_wf {n : Int} (h : (Lit.int .i64 n).wf = true) : -9223372036854775808 ≤ n ∧ n ≤ 9223372036854775807 := by
  have h1 : IntKind.i64.min = -9223372036854775808 := rfl
  have h2 : IntKind.i64.max = 9223372036854775807 := rfl
  simp only [Lit.wf, Bool.and_eq_true, decide_eq_true_eq] at h
  omega
section
variable {H : Type} {enc : TypeId × Value → H} {W : World} {r : Reach} {base : Nat}

set_option maxRecDepth 100000 in
theorem fields_of {fuel : Nat} {v : Value} {x : DataW H × List MemPlace} (hf : DataW.trod enc Try.prog W 0 (fun _ => true) true fuel 29 [v] = some x) :
    ∃ l, ListF W v l ∧ wellF l ∧ l.length ≤ 9223372036854775807 := by
  rcases open_slice Try.underlying29 hf with ⟨hcs, _⟩ | ⟨a, len', cap', m, n, D, Pl, hcs, _, hl, hmx, hm, _, hx⟩
  · obtain rfl : v = .slice none 0 0 := by simpa using hcs
    exact ⟨[], ⟨none, 0, rfl, Fields.nil _ _, Nat.le_refl _, fun _ => rfl⟩, fun f hf => by simp at hf, by simp⟩
  · obtain rfl : v = .slice (some a) len' cap' := by simpa using hcs
    simp only [if_true] at hm
    subst hm
    have each : ∀ i, i < len' → ∃ q : Fd, W.cell? (a.add (i * 2)) = some (.string q.n) ∧ W.cell? (a.add (i * 2 + 1)) = some (.int .i64 q.v) ∧ (-9223372036854775808 ≤ q.v ∧ q.v ≤ 9223372036854775807) ∧ q.n.size ≤ 9223372036854775807 := by
      intro i hi
      obtain ⟨cs', h1, h2⟩ := hx i (by omega)
      rw [Try.cellsField] at h1
      obtain ⟨_, hlen, hcell⟩ := World.cells?_some h1
      obtain ⟨xs, k, hk, hxy, _, hxl, hf⟩ := DataW.trod_struct Try.underlying48 h2
      match xs, hxl, cs', hlen with
      | [y0, y1], _, [v0, v1], _ =>
        have g0 := hf 0 _ rfl
        have g1 := hf 1 _ rfl
        simp [Try.cells3i, Try.cells3s] at g0 g1
        obtain ⟨s, e0, _, hz⟩ := DataW.trod_string Try.underlying9 g0
        obtain ⟨x, e1, _, hw⟩ := DataW.trod_int Try.underlying3 g1
        simp at e0 e1
        subst e0 e1
        have f0 := hcell 0 (by omega)
        have f1 := hcell 1 (by omega)
        rw [add_add] at f0 f1
        exact ⟨⟨s, x⟩, by simpa using f0, by simpa using f1, int_of_wf hw, by unfold maxLen at hz; omega⟩
    obtain ⟨q, hq⟩ := choose_lt each
    refine ⟨(List.range len').map q, ⟨some a, m, by simp, fun i x hxx => ?_, by simpa using hl, by simp⟩, fun x hxx => ?_, by simp; unfold maxLen at hmx; omega⟩
    · have hi : i < len' := by
        rcases Nat.lt_or_ge i len' with hlt | hge
        · exact hlt
        · rw [List.getElem?_eq_none (by simpa using hge)] at hxx
          cases hxx
      obtain rfl : q i = x := by
        rw [List.getElem?_map, List.getElem?_range hi] at hxx
        simpa using hxx
      obtain ⟨z0, _⟩ := hq 0 (by omega)
      have ha := plain_of_cell (by simpa using z0)
      obtain ⟨c0, c1, _⟩ := hq i hi
      rw [ha, Go.WideShapes.add_plain] at c0 c1
      exact ⟨a.block, a.off, by rw [← ha], c0, by rw [Nat.add_assoc]; exact c1⟩
    · obtain ⟨i, hi, rfl⟩ := List.mem_map.1 hxx
      exact (hq i (List.mem_range.1 hi)).2.2

set_option maxRecDepth 100000 in
theorem arg_fields {v : Value} {d : DataW H} {p : List MemPlace} (hv : Value.okWide Try.prog W r base 29 v) (h : DataW.Trod enc Try.prog W 0 (fun _ => true) true 29 v d p) :
    ∃ l, ListF W v l ∧ wellF l ∧ l.length ≤ 9223372036854775807 := by
  obtain ⟨A, len, cap, rfl⟩ := okWide_slice Try.underlying29 hv
  obtain ⟨fuel, hf⟩ := h
  exact fields_of (by simpa [Value.cells] using hf)

set_option maxRecDepth 100000 in
theorem arg_rows {v : Value} {d : DataW H} {p : List MemPlace} (hv : Value.okWide Try.prog W r base 53 v) (h : DataW.Trod enc Try.prog W 0 (fun _ => true) true 53 v d p) :
    ∃ A c L, v = .slice A (L : List (List Fd)).length c ∧ RowsF W A L ∧ (∀ l ∈ L, wellF l ∧ l.length ≤ 9223372036854775807) ∧ L.length ≤ 9223372036854775807 := by
  obtain ⟨A, len, cap, rfl⟩ := okWide_slice Try.underlying53 hv
  obtain ⟨fuel, hf⟩ := h
  rcases open_slice Try.underlying53 hf with ⟨hcs, _⟩ | ⟨a, len', cap', m, n, D, Pl, hcs, _, hl, hmx, hm, _, hx⟩
  · simp [Value.cells] at hcs
    obtain ⟨rfl, rfl, rfl⟩ := hcs
    exact ⟨none, 0, [], rfl, fun i l h => by simp at h, by simp, by simp⟩
  · simp [Value.cells] at hcs
    obtain ⟨rfl, rfl, rfl⟩ := hcs
    simp only [if_true] at hm
    subst hm
    have each : ∀ i, i < len → ∃ q : Value × List Fd, W.cell? (a.add i) = some q.1 ∧ ListF W q.1 q.2 ∧ wellF q.2 ∧ q.2.length ≤ 9223372036854775807 := by
      intro i hi
      obtain ⟨cs', h1, h2⟩ := hx i (by omega)
      rw [Try.cells3l] at h1
      obtain ⟨_, hlen, hcell⟩ := World.cells?_some h1
      match cs', hlen with
      | [v0], _ =>
        obtain ⟨l, k1, k2, k3⟩ := fields_of h2
        have f0 := hcell 0 (by omega)
        rw [add_add] at f0
        exact ⟨(v0, l), by simpa using f0, k1, k2, k3⟩
    obtain ⟨q, hq⟩ := choose_lt each
    refine ⟨some a, m, (List.range len).map fun i => (q i).2, by simp, fun i x hxx => ?_, fun x hxx => ?_, by simp; unfold maxLen at hmx; omega⟩
    · have hi : i < len := by
        rcases Nat.lt_or_ge i len with hlt | hge
        · exact hlt
        · rw [List.getElem?_eq_none (by simpa using hge)] at hxx
          cases hxx
      obtain rfl : (q i).2 = x := by
        rw [List.getElem?_map, List.getElem?_range hi] at hxx
        simpa using hxx
      obtain ⟨z0, _⟩ := hq 0 (by omega)
      have ha := plain_of_cell z0
      obtain ⟨c0, c1, _⟩ := hq i hi
      rw [ha, Go.WideShapes.add_plain] at c0
      exact ⟨a.block, a.off, (q i).1, by rw [← ha], c0, c1⟩
    · obtain ⟨i, hi, rfl⟩ := List.mem_map.1 hxx
      exact ⟨(hq i (List.mem_range.1 hi)).2.2.1, (hq i (List.mem_range.1 hi)).2.2.2⟩

end

end Go.Proofs.Ytjpkeadnccodjaa
