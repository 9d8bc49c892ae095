/-
  An argument that is a list of versions.
-/
import Derived.Test.YtjpkeadnccodjaaGargs
import Derived.Test.YtjpkeadnccodjaaVmem
namespace Go.Proofs.Ytjpkeadnccodjaa
open Go.ChangeShapes Go.WideShapes Go.ChangeAt Go.RowKit Go.Joins Go.ChangeMaps Go.Deep

theorem Try.cellsVersion : Try.prog.cellsOf 45 = 7 := by kernel_rfl
theorem Try.cellsSpan : Try.prog.cellsOf 43 = 2 := by kernel_rfl
theorem Try.cells3b : Try.prog.cellsOf 4 = 1 := by kernel_rfl
instance : Inhabited Vr := ⟨⟨0, 0, ⟨#[]⟩, 0, 0, none, 0, [], false⟩⟩

section
variable {H : Type} {enc : TypeId × Value → H} {W : World} {r : Reach} {base : Nat}

set_option maxRecDepth 100000 in
theorem arg_vers {v : Value} {d : DataW H} {p : List MemPlace} (hv : Value.okWide Try.prog W r base 22 v) (h : DataW.Trod enc Try.prog W 0 (fun _ => true) true 22 v d p) :
    ∃ l, VersL W v l ∧ (∀ x ∈ l, okF x.fs) ∧ l.length ≤ 9223372036854775807 := by
  obtain ⟨A, len, cap, rfl⟩ := okWide_slice Try.underlying22 hv
  obtain ⟨fuel, hf⟩ := h
  rcases open_slice Try.underlying22 hf with ⟨hcs, _⟩ | ⟨a, len', cap', m, n, D, Pl, hcs, _, hl, hmx, hm, _, hx⟩
  · simp [Value.cells] at hcs
    obtain ⟨rfl, rfl, rfl⟩ := hcs
    exact ⟨[], ⟨ListE.nil _, fun v hv => by simp at hv⟩, fun v hv => by simp at hv, by simp⟩
  · simp [Value.cells] at hcs
    obtain ⟨rfl, rfl, rfl⟩ := hcs
    simp only [if_true] at hm
    subst hm
    have each : ∀ i, i < len → ∃ q : Vr, (∀ j u, (cellsV q)[j]? = some u → W.cell? (a.add (i * 7 + j)) = some u) ∧ VF W q ∧ okF q.fs := by
      intro i hi
      obtain ⟨cs', h1, h2⟩ := hx i (by omega)
      rw [Try.cellsVersion] at h1
      obtain ⟨_, hlen, hcell⟩ := World.cells?_some h1
      obtain ⟨xs, k, hk, hxy, _, hxl, hf⟩ := DataW.trod_struct Try.underlying45 h2
      match xs, hxl, cs', hlen with
      | [y0, y1, y2, y3, y4, y5], _, [v0, v1, v2, v3, v4, v5, v6], _ =>
        have g0 := hf 0 _ rfl
        have g1 := hf 1 _ rfl
        have g2 := hf 2 _ rfl
        have g3 := hf 3 _ rfl
        have g4 := hf 4 _ rfl
        have g5 := hf 5 _ rfl
        simp [Try.cells3i, Try.cells3s, Try.cells3b, Try.cells3l, Try.cellsSpan] at g0 g1 g2 g3 g4 g5
        obtain ⟨x0, e0, _, _⟩ := DataW.trod_int Try.underlying3 g0
        obtain ⟨x1, e1, _, _⟩ := DataW.trod_int Try.underlying3 g1
        obtain ⟨x2, e2, _, _⟩ := DataW.trod_string Try.underlying9 g2
        obtain ⟨xs3, k3, hk3, hxy3, _, hxl3, hf3⟩ := DataW.trod_struct Try.underlying43 g3
        obtain ⟨l4, hl4, hw4, _⟩ := fields_of g4
        obtain ⟨x5, e5, _⟩ := DataW.trod_bool Try.underlying4 g5
        match xs3, hxl3 with
        | [z0, z1], _ =>
          have s0 := hf3 0 _ rfl
          have s1 := hf3 1 _ rfl
          simp [Try.cells3i] at s0 s1
          obtain ⟨x3, e3, _, _⟩ := DataW.trod_int Try.underlying3 s0
          obtain ⟨x4, e4, _, _⟩ := DataW.trod_int Try.underlying3 s1
          simp at e0 e1 e2 e3 e4 e5
          subst e0 e1 e2 e3 e4 e5
          obtain ⟨B, c, rfl, hB, hc, hnc⟩ := hl4
          refine ⟨⟨x0, x1, x2, x3, x4, B, c, l4, x5⟩, fun j u hu => ?_, ⟨hB, hc, hnc⟩, fun f hf => (hw4 f hf).2⟩
          have hj : j < 7 := by
            rcases Nat.lt_or_ge j 7 with h' | h'
            · exact h'
            · rw [List.getElem?_eq_none (by simpa using h')] at hu; cases hu
          have f0 := hcell j hj
          rw [add_add] at f0
          have hh : ([Value.int .i64 x0, .int .i64 x1, .string x2, .int .i64 x3, .int .i64 x4, .slice B l4.length c, .bool x5] : List Value)[j]? = some u := hu
          rw [hh] at f0
          exact f0
    obtain ⟨q, hq⟩ := choose_lt each
    refine ⟨(List.range len).map q, ⟨⟨some a, m, by simp, fun i x hxx => ?_, by simpa using hl, by simp⟩, fun x hxx => ?_⟩, fun x hxx => ?_, by simp; unfold maxLen at hmx; omega⟩
    · have hi : i < len := by
        rcases Nat.lt_or_ge i len with hlt | hge
        · exact hlt
        · rw [List.getElem?_eq_none (by simpa using hge)] at hxx
          cases hxx
      obtain rfl : q i = x := by
        rw [List.getElem?_map, List.getElem?_range hi] at hxx
        simpa using hxx
      have z0 := (hq 0 (by omega)).1 0 _ rfl
      have ha := plain_of_cell (by simpa using z0)
      refine ⟨a.block, a.off, by rw [← ha], fun j u hu => ?_⟩
      have c0 := (hq i hi).1 j u hu
      rw [ha, Go.WideShapes.add_plain] at c0
      have e7 : EV.sz = 7 := rfl
      rw [e7, Nat.add_assoc]
      exact c0
    · obtain ⟨i, hi, rfl⟩ := List.mem_map.1 hxx
      exact (hq i (List.mem_range.1 hi)).2.1
    · obtain ⟨i, hi, rfl⟩ := List.mem_map.1 hxx
      exact (hq i (List.mem_range.1 hi)).2.2
end

end Go.Proofs.Ytjpkeadnccodjaa
