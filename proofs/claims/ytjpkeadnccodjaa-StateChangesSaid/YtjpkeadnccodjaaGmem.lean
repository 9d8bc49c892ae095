/-
  Fields in memory.
-/
import Derived.Test.YtjpkeadnccodjaaGbase
import Derived.Test.YtjpkeadnccodjaaGpure
namespace Go.Proofs.Ytjpkeadnccodjaa
open Go.RowKit

/-- A field as a value. -/
abbrev fv (f : Fd) : Value := .agg #[.string f.n, .int .i64 f.v]
/-- From A on the fields of l lie, one behind the other. -/
def Fields (w : World) (A : Option Addr) (l : List Fd) : Prop := ∀ i f, l[i]? = some f → ∃ g off, A = some ⟨g, off, none⟩ ∧ w.cell? ⟨g, off + i * 2, none⟩ = some (.string f.n) ∧ w.cell? ⟨g, off + i * 2 + 1, none⟩ = some (.int .i64 f.v)
theorem Fields.below {w w' : World} {A : Option Addr} {l : List Fd} (h : Fields w A l) (hb : Below w.heap.size w w') : Fields w' A l := fun i f hf => by
  obtain ⟨g, off, rfl, c0, c1⟩ := h i f hf
  exact ⟨g, off, rfl, keepc hb c0, keepc hb c1⟩
theorem Fields.nil (w : World) (A : Option Addr) : Fields w A [] := fun i f h => by simp at h
theorem Fields.at {w : World} {g off k : Nat} {f : Fd} {l : List Fd} (h : Fields w (some ⟨g, off, none⟩) l) (hf : l[k]? = some f) : w.cell? ⟨g, off + k * 2, none⟩ = some (.string f.n) ∧ w.cell? ⟨g, off + k * 2 + 1, none⟩ = some (.int .i64 f.v) := by
  obtain ⟨g', off', e, c0, c1⟩ := h k f hf
  injection e with e
  injection e with e1 e2
  subst e1 e2
  exact ⟨c0, c1⟩
/-- Fields whose names are not too long. -/
def okF (l : List Fd) : Prop := ∀ f ∈ l, f.n.size ≤ 9223372036854775807

theorem drop_consF {l : List Fd} {k : Nat} {f : Fd} (h : l[k]? = some f) : l.drop k = f :: l.drop (k + 1) := by
  have hk : k < l.length := by
    rcases Nat.lt_or_ge k l.length with h' | h'
    · exact h'
    · rw [List.getElem?_eq_none h'] at h; cases h
  rw [List.drop_eq_getElem_cons hk]
  rw [List.getElem?_eq_getElem hk] at h
  rw [Option.some.inj h]

end Go.Proofs.Ytjpkeadnccodjaa
