/-
  Lists of numbers in memory, and lists of the call's own that are appended to.
-/
import Derived.Test.YtnmnbnlokmmcmaaPlay
import Derived.Maps.AppendAt
import Derived.Deep.AppendLies
import Derived.Deep.RegionLaw
import Derived.OneCell
namespace Go.Proofs.Ytnmnbnlokmmcmaa
open Go.RowKit

theorem Try.infoInt : (Try.prog.info? 3).map (fun i => (i.zero, i.size, i.bytes)) = some (some (.int .i64 0), 1, 8) := by kernel_rfl

/-- From A on the numbers of l lie, one behind the other. -/
def Ints (w : World) (A : Option Addr) (l : List Int) : Prop := ∀ i x, l[i]? = some x → ∃ g off, A = some ⟨g, off, none⟩ ∧ w.cell? ⟨g, off + i, none⟩ = some (.int .i64 x)

theorem lt_of_cell {w : World} {g o : Nat} {u : Value} (h : w.cell? ⟨g, o, none⟩ = some u) : g < w.heap.size := by
  rcases Nat.lt_or_ge g w.heap.size with hlt | hge
  · exact hlt
  · simp [World.cell?, Array.getElem?_eq_none hge] at h
theorem Ints.below {w w' : World} {A : Option Addr} {l : List Int} (h : Ints w A l) (hb : Below w.heap.size w w') : Ints w' A l := fun i x hx => by
  obtain ⟨g, off, rfl, c0⟩ := h i x hx
  exact ⟨g, off, rfl, (hb.cell (p := ⟨g, _, none⟩) (lt_of_cell c0)).trans c0⟩
theorem Ints.nil (w : World) (A : Option Addr) : Ints w A [] := fun i p h => by simp at h

abbrev ownI (w : World) (base : Nat) (v : Value) (ts : List Int) : Prop := w.ownsRow base 3 1 v ts.length (ts.map (Value.int .i64))
theorem own_ints {w : World} {base : Nat} {v : Value} {l : List Int} (h : ownI w base v l) : ∃ A c, v = .slice A l.length c ∧ Ints w A l ∧ (A = none → c = 0) := by
  rcases h.2 with ⟨hv, h0⟩ | ⟨g, cap, cur, hv, _⟩
  · obtain rfl : l = [] := List.eq_nil_of_length_eq_zero h0
    exact ⟨_, _, hv, Ints.nil _ _, fun _ => rfl⟩
  · refine ⟨_, _, hv, fun i x hx => ⟨g, 0, rfl, ?_⟩, fun h => by cases h⟩
    have add : ∀ n, (⟨g, 0, none⟩ : Addr).add n = ⟨g, 0 + n, none⟩ := fun n => by unfold Addr.add; split <;> simp_all
    have c0 := h.cells (g := g) (by rw [hv]; rfl) i (.int .i64 x) (by simp [hx])
    rwa [add] at c0
theorem own_below {w w' : World} {base e size n : Nat} {v : Value} {xs : List Value} (h : w.ownsRow base e size v n xs) (hb : Below w.heap.size w w') : w'.ownsRow base e size v n xs :=
  h.kept (row := none) ⟨hb.os, hb.tape, hb.output, hb.size, fun k hk _ => hb.block k hk⟩ (by cases v.ownBlock <;> simp)
theorem news_one (w : World) (x : Int) (ty : TypeId) : ∀ j u, [Value.int .i64 x][j]? = some u → (w.alloc (.cells #[.int .i64 x] ty)).cell? ((⟨w.heap.size, 0, none⟩ : Addr).add j) = some u :=
  World.news_of_block (cs := #[.int .i64 x]) (heap_alloc_new w _)

/-- v is a list of the call's own, with the numbers l. -/
structure OI (W : World) (l : List Int) (v : Value) (wr : World) : Prop where
  own : ownI wr W.heap.size v l
  bel : Below W.heap.size W wr
theorem OI.nil (W : World) : OI W [] (.slice none 0 0) W := ⟨World.ownsRow_nil _ _ _ _, bl W⟩
theorem OI.below {W w w' : World} {l : List Int} {v : Value} (h : OI W l v w) (hb : Below w.heap.size w w') : OI W l v w' := ⟨own_below h.own hb, chain h.bel hb⟩
theorem OI.app {W wr w2 : World} {l : List Int} {v v' : Value} {x : Int} {ty : TypeId} {o : Option Nat} (h : OI W l v wr) (ho : o = v.ownBlock) (hg : (wr.alloc (.cells #[.int .i64 x] ty)).grownBy w2 o)
    (hown : w2.ownsRow W.heap.size 3 1 v' (l.length + 1) (l.map (Value.int .i64) ++ [.int .i64 x])) : OI W (l ++ [x]) v' w2 := by
  subst ho
  refine ⟨by simpa [ownI] using hown, (h.bel.alloc h.bel.size _).grown hg (by have := h.bel.size; simp; omega) fun r hr => (h.own.lt r hr).1⟩

/-- The lowest i bits of v. -/
def bitsL (v i : Nat) : List Int := (List.range i).map fun j => ((bitAt v j : Nat) : Int)
theorem bitsL_length (v i : Nat) : (bitsL v i).length = i := by simp [bitsL]
theorem bitsL_succ (v i : Nat) : bitsL v (i + 1) = bitsL v i ++ [((bitAt v i : Nat) : Int)] := by simp [bitsL, List.range_succ]
theorem bitsL_get {v i j : Nat} (h : j < i) : (bitsL v i)[j]? = some ((bitAt v j : Nat) : Int) := by
  simp [bitsL, h]

end Go.Proofs.Ytnmnbnlokmmcmaa
