/-
  Texts joined into one: what the program's and the document's calls give back, piece by piece.
-/
import Derived.Test.YtmieonfdenjedaaDoorMg1
import Derived.Test.YtmieonfdenjedaaDoorMg2
import Derived.Test.YtmieonfdenjedaaDoorMg4
import Derived.Test.YtmieonfdenjedaaDoorChecked
import Derived.Test.YtmieonfdenjedaaDoorRows
import Derived.BigQuiet
import Derived.ChangeAlike
import Derived.ChangeKeysEq
import Derived.ChangeMaps5
import Derived.Deep.AppendLies
import Derived.Deep.CutBlock
import Derived.Deep.CutRange
import Derived.Deep.Light
import Derived.Deep.QuietTactic
import Derived.Deep.RegionHeld3
import Derived.Deep.RegionLaw
import Derived.Deep.SlicePairs
import Derived.Handy
import Derived.Laws.BytesArg
import Derived.Laws.OwnMore
import Derived.Laws.Strings
import Derived.Laws.StructEq
import Derived.Lib.Hide
import Derived.Lib.SmallJoins
import Derived.Maps.AppendAt
import Derived.OneCell
import Derived.OpenShut
import Derived.OwnWalk
import Derived.ProofKit
import Derived.RegionTactic
import Derived.SizedLaws
import Derived.StillTailTactics
import Derived.WalkArith
import Derived.WalkKit
import Derived.WalkLawsBesides
import Derived.WalkSpells
import Derived.Test.YtmieonfdenjedaaDoorTie
import Derived.ChangeSame
import Derived.Deep.Strs
import Derived.LaidMore
import Derived.Stop.Joined

/-
  Arguments that are a command by value, or a list of commands.
-/
namespace Go.Proofs.YtmieonfdenjedaaDoor
open Go.ChangeShapes Go.WideShapes Go.ChangeAt Go.RowKit Go.Joins Go.ChangeMaps Go.Deep
set_option maxRecDepth 100000

theorem Tryd.cellsCommand14 : Tryd.prog.cellsOf 26 = 6 := by kernel_rfl
instance inhabitedCm14 : Inhabited Cm := ⟨⟨0, ⟨#[]⟩, 0, 0, 0, none, 0, []⟩⟩
/-- What is said of a command that comes in. -/
def okC14 (c : Cm) : Prop := okF c.fs ∧ c.fs.length ≤ 9223372036854775807 ∧ c.ent.size ≤ 9223372036854775807

section
variable {H : Type} {enc : TypeId × Value → H} {W : World} {r : Reach} {base : Nat}

theorem cmd_of {fuel : Nat} {cs : List Value} {x : DataW H × List MemPlace} (hl : cs.length = 6) (hf : DataW.trod enc Tryd.prog W 0 (fun _ => true) true fuel 26 cs = some x) :
    ∃ q : Cm, cs = cellsC14 q ∧ CF14 W q ∧ okC14 q := by
  obtain ⟨xs, k, hk, hxy, _, hxl, hf⟩ := DataW.trod_struct Tryd.underlying26 hf
  match xs, hxl, cs, hl with
  | [y0, y1, y2, y3, y4], _, [v0, v1, v2, v3, v4, v5], _ =>
    have g0 := hf 0 _ rfl
    have g1 := hf 1 _ rfl
    have g2 := hf 2 _ rfl
    have g3 := hf 3 _ rfl
    have g4 := hf 4 _ rfl
    simp [Tryd.cells3i, Tryd.cells3s, Tryd.cells3l, Tryd.cellsSpan] at g0 g1 g2 g3 g4
    obtain ⟨x0, e0, _, _⟩ := DataW.trod_int Tryd.underlying3 g0
    obtain ⟨x1, e1, _, hz1⟩ := DataW.trod_string Tryd.underlying9 g1
    obtain ⟨x2, e2, _, _⟩ := DataW.trod_int Tryd.underlying3 g2
    obtain ⟨xs3, k3, hk3, hxy3, _, hxl3, hf3⟩ := DataW.trod_struct Tryd.underlying23 g3
    obtain ⟨l4, hl4, hw4, hn4⟩ := fields_of g4
    match xs3, hxl3 with
    | [z0, z1], _ =>
      have s0 := hf3 0 _ rfl
      have s1 := hf3 1 _ rfl
      simp [Tryd.cells3i] at s0 s1
      obtain ⟨x3, e3, _, _⟩ := DataW.trod_int Tryd.underlying3 s0
      obtain ⟨x4, e4, _, _⟩ := DataW.trod_int Tryd.underlying3 s1
      simp at e0 e1 e2 e3 e4
      subst e0 e1 e2 e3 e4
      obtain ⟨B, c, rfl, hB, hc, hnc⟩ := hl4
      exact ⟨⟨x0, x1, x2, x3, x4, B, c, l4⟩, rfl, ⟨hB, hc, hnc⟩, fun f hf => (hw4 f hf).2, hn4, by unfold maxLen at hz1; show x1.size ≤ _; omega⟩
theorem arg_cmd {v : Value} {d : DataW H} {p : List MemPlace} (hv : Value.okWide Tryd.prog W r base 26 v) (h : DataW.Trod enc Tryd.prog W 0 (fun _ => true) true 26 v d p) :
    ∃ q : Cm, v = cv14 q ∧ CF14 W q ∧ okC14 q := by
  obtain ⟨cs, rfl, hs⟩ := okWide_struct Tryd.underlying26 hv
  rw [Tryd.cellsCommand14] at hs
  obtain ⟨fuel, hf⟩ := h
  obtain ⟨q, e, h1, h2⟩ := cmd_of (cs := cs.toList) (by simpa using hs) hf
  exact ⟨q, by rw [show cs = #[.int .i64 q.k, .string q.ent, .int .i64 q.tg, .int .i64 q.sf, .int .i64 q.se, .slice q.fa q.fs.length q.fc] from by apply Array.toList_inj.1; rw [e]], h1, h2⟩
theorem arg_cmds {v : Value} {d : DataW H} {p : List MemPlace} (hv : Value.okWide Tryd.prog W r base 44 v) (h : DataW.Trod enc Tryd.prog W 0 (fun _ => true) true 44 v d p) :
    ∃ l, CmsL W v l ∧ (∀ c ∈ l, okC14 c) ∧ l.length ≤ 9223372036854775807 := by
  obtain ⟨A, len, cap, rfl⟩ := okWide_slice Tryd.underlying44 hv
  obtain ⟨fuel, hf⟩ := h
  rcases open_slice Tryd.underlying44 hf with ⟨hcs, _⟩ | ⟨a, len', cap', m, n, D, Pl, hcs, _, hl, hmx, hm, _, hx⟩
  · simp [Value.cells] at hcs
    obtain ⟨rfl, rfl, rfl⟩ := hcs
    exact ⟨[], ⟨ListE.nil _, fun c hc => by simp at hc⟩, fun c hc => by simp at hc, by simp⟩
  · simp [Value.cells] at hcs
    obtain ⟨rfl, rfl, rfl⟩ := hcs
    simp only [if_true] at hm
    subst hm
    have each : ∀ i, i < len → ∃ q : Cm, (∀ j u, (cellsC14 q)[j]? = some u → W.cell? (a.add (i * 6 + j)) = some u) ∧ CF14 W q ∧ okC14 q := by
      intro i hi
      obtain ⟨cs', h1, h2⟩ := hx i (by omega)
      rw [Tryd.cellsCommand14] at h1
      obtain ⟨_, hlen, hcell⟩ := World.cells?_some h1
      obtain ⟨q, e, k1, k2⟩ := cmd_of hlen h2
      refine ⟨q, fun j u hu => ?_, k1, k2⟩
      have hj : j < 6 := by
        rcases Nat.lt_or_ge j 6 with h' | h'
        · exact h'
        · rw [List.getElem?_eq_none (by simpa using h')] at hu; cases hu
      have f0 := hcell j hj
      rw [add_add, e, hu] at f0
      exact f0
    obtain ⟨q, hq⟩ := choose_lt each
    refine ⟨(List.range len).map q, ⟨⟨some a, m, by simp, fun i x hxx => ?_, by simpa using hl, by simp⟩, fun x hxx => ?_⟩, fun x hxx => ?_, by simp; unfold maxLen at hmx; omega⟩
    · have hi : i < len := by
        rcases Nat.lt_or_ge i len with hlt | hge
        · exact hlt
        · rw [List.getElem?_eq_none (by simpa using hge)] at hxx
          cases hxx
      obtain rfl : q i = x := by
        rw [List.getElem?_map, List.getElem?_range hi] at hxx
        simpa using hxx
      have z0 := (hq 0 (by omega)).1 0 _ rfl
      have ha := plain_of_cell (by simpa using z0)
      refine ⟨a.block, a.off, by rw [← ha], fun j u hu => ?_⟩
      have c0 := (hq i hi).1 j u hu
      rw [ha, Go.WideShapes.add_plain] at c0
      have e6 : EC14.sz = 6 := rfl
      rw [e6, Nat.add_assoc]
      exact c0
    · obtain ⟨i, hi, rfl⟩ := List.mem_map.1 hxx
      exact (hq i (List.mem_range.1 hi)).2.1
    · obtain ⟨i, hi, rfl⟩ := List.mem_map.1 hxx
      exact (hq i (List.mem_range.1 hi)).2.2
end

end Go.Proofs.YtmieonfdenjedaaDoor

/-
  The table of the commands' kinds, as the row's condition lays it, opened; the world that the program's own door leaves meets the condition.
-/
namespace Go.Proofs.YtmieonfdenjedaaDoor
open Go.ChangeShapes Go.WideShapes Go.ChangeAt Go.RowKit

theorem Tryd.gKinds : Tryd.prog.globalNamed "erratum/command.kinds" = some 0 := by kernel_rfl
theorem Tryd.tKinds : (Tryd.prog.globals[0]?).map (·.type) = some 84 := by kernel_rfl
theorem Tryd.cellsBool14 : Tryd.prog.cellsOf 4 = 1 := by kernel_rfl
theorem Tryd.cellsParts14 : Tryd.prog.cellsOf 54 = 3 := by kernel_rfl

def rowK (r : Nat) : DataW Unit := .agg [.lit (.bool (r == 1)), .lit (.bool (r == 2 || r == 3)), .lit (.bool (r == 1 || r == 2))]
theorem laid_kinds : (Rows.laid_erratum_command_kinds : DataW Unit) = .agg ((List.range 4).map rowK) := by kernel_rfl

variable {enc : TypeId × Value → Unit} {W : World} {base : Nat} {sp : Nat → Bool} {held : Bool}
theorem bool_cell {n : Nat} {c : List Value} {z : Bool} {y : DataW Unit × List MemPlace} (hy : y.1 = .lit (.bool z)) (h : DataW.trod enc Tryd.prog W base sp held n 4 c = some y) : c = [.bool z] := by
  obtain ⟨k, e1, e2⟩ := DataW.trod_bool Tryd.underlying4 h
  rw [e2] at hy
  simp at hy
  rw [e1, hy]
theorem rowK_cells {n : Nat} {c : List Value} {r : Nat} {y : DataW Unit × List MemPlace} (hy : y.1 = rowK r)
    (h : DataW.trod enc Tryd.prog W base sp held n 54 c = some y) : c[0]? = some (.bool (r == 1)) ∧ c[1]? = some (.bool (r == 2 || r == 3)) ∧ c[2]? = some (.bool (r == 1 || r == 2)) := by
  obtain ⟨xs, k, _, hx, _, hxl, hf⟩ := DataW.trod_struct Tryd.underlying54 h
  match xs, hxl with
  | [y0, y1, y2], _ =>
    have g0 := hf 0 _ rfl
    have g1 := hf 1 _ rfl
    have g2 := hf 2 _ rfl
    simp [Tryd.cellsBool14] at g0 g1 g2
    rw [hx] at hy
    simp only [rowK, DataW.agg.injEq, List.map_cons, List.map_nil, List.cons.injEq, and_true] at hy
    obtain ⟨h0, h1, h2⟩ := hy
    have e0 := bool_cell h0 g0
    have e1 := bool_cell h1 g1
    have e2 := bool_cell h2 g2
    refine ⟨?_, ?_, ?_⟩
    · have : (c.take 1)[0]? = some (.bool (r == 1)) := by rw [e0]; rfl
      simpa using this
    · have : ((c.drop 1).take 1)[0]? = some (.bool (r == 2 || r == 3)) := by rw [List.drop_one, e1]; rfl
      simpa using this
    · have : ((c.drop 2).take 1)[0]? = some (.bool (r == 1 || r == 2)) := by rw [e2]; rfl
      simpa using this

theorem tabK_of_laid (h : laidMetH Tryd.prog [("erratum/command.kinds", Rows.laid_erratum_command_kinds)] W) : TabK W := by
  rw [MakeChecks.laidMetH_plain _ _ _ (by kernel_rfl)] at h
  obtain ⟨ps, ⟨g0, t0, cs0, f0, p0, q0, hg0, ht0, hv0, hd0, _⟩, _, _⟩ := h
  obtain rfl := Option.some.inj (Tryd.gKinds.symm.trans hg0)
  obtain rfl := Option.some.inj (Tryd.tKinds.symm.trans ht0)
  rw [laid_kinds] at hd0
  obtain ⟨xs, m, _, hx, hl, hn, hel⟩ := DataW.trod_array Tryd.underlying84 hd0
  rw [Tryd.cellsParts14] at hel
  simp only [Prod.mk.injEq, DataW.agg.injEq] at hx
  have key : ∀ r, r < 4 → (cs0.toList)[r * 3]? = some (.bool (r == 1)) ∧ (cs0.toList)[r * 3 + 1]? = some (.bool (r == 2 || r == 3)) ∧ (cs0.toList)[r * 3 + 2]? = some (.bool (r == 1 || r == 2)) := by
    intro r hr
    obtain ⟨x, hxi⟩ : ∃ x, xs[r]? = some x := ⟨_, List.getElem?_eq_getElem (by omega)⟩
    have hx1 : x.1 = rowK r := by
      have e : (xs.map (·.1))[r]? = some x.1 := by rw [List.getElem?_map, hxi]; rfl
      rw [← hx.1] at e
      rw [List.getElem?_map, List.getElem?_range hr] at e
      simpa using e.symm
    obtain ⟨k0, k1, k2⟩ := rowK_cells hx1 ((hel r hr).trans hxi)
    rw [List.getElem?_take_of_lt (by omega), List.getElem?_drop] at k0 k1 k2
    exact ⟨k0, k1, k2⟩
  have cell : ∀ i, W.cell? ⟨0, i, none⟩ = cs0.toList[i]? := fun i => by rw [World.var?_cell hg0 hv0 i]; simp
  refine ⟨?_, fun r hr => ?_⟩
  · have := (cell 0).trans (key 0 (by decide)).1
    rcases Nat.eq_zero_or_pos W.heap.size with hz | hz
    · rw [World.cell?] at this
      simp_all
    · exact hz
  · obtain ⟨k0, k1, k2⟩ := key r hr
    exact ⟨(cell _).trans k0, (cell _).trans k1, (cell _).trans k2⟩

/-- The world that the door leaves meets the condition. -/
theorem doorK_met (os : Os) (args : Array Value) : laidMetH Tryd.prog [("erratum/command.kinds", Rows.laid_erratum_command_kinds)] ((World.doorLaid Tryd.prog 400 os).forCall (fun _ _ => 0) ⟨#[], args, []⟩).memory :=
  laidMetH_of_parts3 (fuel := 8) (laidMet_of_run' 8 (by kernel_rfl) (by kernel_rfl)) (by kernel_rfl) (by kernel_rfl)

end Go.Proofs.YtmieonfdenjedaaDoor
