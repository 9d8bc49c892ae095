/-
  Versions in memory: lists of versions, of lists of fields, of texts.
-/
import Derived.Test.YtjpkeadnccodjaaVpure
import Derived.Test.YtjpkeadnccodjaaGlist
import Derived.Test.YtjpkeadnccodjaaElem
namespace Go.Proofs.Ytjpkeadnccodjaa
open Go.RowKit

abbrev cellsV (v : Vr) : List Value := [.int .i64 v.id, .int .i64 v.st, .string v.ent, .int .i64 v.sf, .int .i64 v.se, .slice v.fa v.fs.length v.fc, .bool v.gone]
/-- A version as a value. -/
abbrev vv (v : Vr) : Value := .agg #[.int .i64 v.id, .int .i64 v.st, .string v.ent, .int .i64 v.sf, .int .i64 v.se, .slice v.fa v.fs.length v.fc, .bool v.gone]
def EV : El Vr where
  s := 22
  e := 45
  sz := 7
  bys := 80
  z := .agg #[.int .i64 0, .int .i64 0, .string ⟨#[]⟩, .int .i64 0, .int .i64 0, .slice none 0 0, .bool false]
  cells := cellsV
  pos := by decide
  few := by decide
  len := fun _ => rfl
  one := fun x u hu => by
    simp only [cellsV, List.mem_cons, List.not_mem_nil, or_false] at hu
    rcases hu with rfl | rfl | rfl | rfl | rfl | rfl | rfl <;> rfl
  und := Try.underlying22
  info := by kernel_rfl
  zs := rfl
/-- A list of fields as its value's parts. -/
structure Sl where
  a : Option Addr
  n : Nat
  c : Nat
def EL : El Sl where
  s := 53
  e := 29
  sz := 1
  bys := 24
  z := .slice none 0 0
  cells := fun x => [.slice x.a x.n x.c]
  pos := by decide
  few := by decide
  len := fun _ => rfl
  one := fun x u hu => by
    obtain rfl : u = .slice x.a x.n x.c := by simpa using hu
    rfl
  und := Try.underlying53
  info := by kernel_rfl
  zs := rfl
def ES : El ByteArray where
  s := 39
  e := 9
  sz := 1
  bys := 16
  z := .string ⟨#[]⟩
  cells := fun x => [.string x]
  pos := by decide
  few := by decide
  len := fun _ => rfl
  one := fun x u hu => by
    obtain rfl : u = .string x := by simpa using hu
    rfl
  und := Try.underlying39
  info := by kernel_rfl
  zs := rfl
/-- The fields of a version lie where it says. -/
def VF (w : World) (v : Vr) : Prop := Fields w v.fa v.fs ∧ v.fs.length ≤ v.fc ∧ (v.fa = none → v.fc = 0)
theorem VF.below {w w' : World} {v : Vr} (h : VF w v) (hb : Below w.heap.size w w') : VF w' v := ⟨h.1.below hb, h.2⟩
theorem VF.list {w : World} {v : Vr} (h : VF w v) : ListF w (.slice v.fa v.fs.length v.fc) v.fs := ⟨v.fa, v.fc, rfl, h.1, h.2.1, h.2.2⟩
/-- A list of versions as a value. -/
def VersL (w : World) (u : Value) (l : List Vr) : Prop := ListE EV w u l ∧ ∀ v ∈ l, VF w v
theorem VersL.below {w w' : World} {u : Value} {l : List Vr} (h : VersL w u l) (hb : Below w.heap.size w w') : VersL w' u l := ⟨h.1.below hb, fun v hv => (h.2 v hv).below hb⟩
/-- The cells of a version. -/
abbrev Cells7 (w : World) (g o : Nat) (v : Vr) : Prop := w.cell? ⟨g, o, none⟩ = some (.int .i64 v.id) ∧ w.cell? ⟨g, o + 1, none⟩ = some (.int .i64 v.st) ∧ w.cell? ⟨g, o + 2, none⟩ = some (.string v.ent) ∧ w.cell? ⟨g, o + 3, none⟩ = some (.int .i64 v.sf) ∧
  w.cell? ⟨g, o + 4, none⟩ = some (.int .i64 v.se) ∧ w.cell? ⟨g, o + 5, none⟩ = some (.slice v.fa v.fs.length v.fc) ∧ w.cell? ⟨g, o + 6, none⟩ = some (.bool v.gone)
theorem RowE.cells7 {w : World} {A : Option Addr} {l : List Vr} (h : RowE EV w A l) {k : Nat} {v : Vr} (hv : l[k]? = some v) : ∃ g off, A = some ⟨g, off, none⟩ ∧ Cells7 w g (off + k * 7) v := by
  obtain ⟨g, off, rfl, hc⟩ := h k v hv
  exact ⟨g, off, rfl, hc 0 _ rfl, hc 1 _ rfl, hc 2 _ rfl, hc 3 _ rfl, hc 4 _ rfl, hc 5 _ rfl, hc 6 _ rfl⟩
theorem Cells7.below {w w' : World} {g o : Nat} {v : Vr} (h : Cells7 w g o v) (hb : Below w.heap.size w w') : Cells7 w' g o v :=
  ⟨keepc hb h.1, keepc hb h.2.1, keepc hb h.2.2.1, keepc hb h.2.2.2.1, keepc hb h.2.2.2.2.1, keepc hb h.2.2.2.2.2.1, keepc hb h.2.2.2.2.2.2⟩

theorem add_zero_addr (a : Addr) : a.add 0 = a := by
  obtain ⟨b, o, s⟩ := a
  cases s <;> simp [Addr.add]

section
variable {α : Type} {E : El α}
/-- A list is cut at a place: ahead of it, and from it on. -/
theorem slice_ahead {A : Option Addr} {n c k : Nat} (hk : k ≤ n) (hn : n ≤ c) (w : World) : (Instr.slice E.s (.slice A n c) none (some (.int .i64 (k : Int))) none).run Try.prog w = .ok (.slice A k c) w := by
  obtain ⟨i0, hi, hz0, hz1, hz2⟩ := info_parts E.info
  have hel : Try.prog.elem E.s = E.e := by simp [Program.elem, E.und]
  have hu : Try.prog.underlying E.s = some (.slice (Try.prog.elem E.s)) := by rw [hel]; exact E.und
  rw [run_slice_h w E.s A n c hu .i64 (k : Int) (by omega) (by omega)]
  simp [sizeOf, typeInfo, hel, hi, sliced, Result.andThen]
  cases A with
  | none => simp
  | some a => simp [add_zero_addr]
theorem slice_from {A : Option Addr} {n c k : Nat} (hk : k ≤ n) (hn : n ≤ c) (hc : A = none → c = 0) : ∃ B, (∀ w, (Instr.slice E.s (.slice A n c) (some (.int .i64 (k : Int))) none none).run Try.prog w = .ok (.slice B (n - k) (c - k)) w) ∧
    (∀ w (l : List α), RowE E w A l → l.length = n → RowE E w B (l.drop k)) ∧ (B = none → c - k = 0) := by
  obtain ⟨i0, hi, hz0, hz1, hz2⟩ := info_parts E.info
  have hel : Try.prog.elem E.s = E.e := by simp [Program.elem, E.und]
  have hu : Try.prog.underlying E.s = some (.slice (Try.prog.elem E.s)) := by rw [hel]; exact E.und
  have run : ∀ w, (Instr.slice E.s (.slice A n c) (some (.int .i64 (k : Int))) none none).run Try.prog w = .ok (sliced A k n c E.sz) w := fun w => by
    rw [run_slice_l w E.s A n c hu .i64 (k : Int) (by omega) (by omega)]
    simp [sizeOf, typeInfo, hel, hi, hz1, Result.andThen]
  cases A with
  | none => 
    have := hc rfl
    obtain rfl : c = 0 := this
    obtain rfl : n = 0 := by omega
    obtain rfl : k = 0 := by omega
    exact ⟨none, fun w => by rw [run w]; simp [sliced], fun w l h hl => by rw [List.drop_zero]; exact h, fun _ => rfl⟩
  | some a =>
    by_cases hck : c = k
    · obtain rfl : n = k := by omega
      subst hck
      exact ⟨some a, fun w => by rw [run w]; simp [sliced], fun w l h hl => by rw [List.drop_of_length_le (by omega)]; exact RowE.nil _ _, fun h => by cases h⟩
    · refine ⟨some (a.add (k * E.sz)), fun w => by rw [run w]; simp [sliced, hck], fun w l h hl => ?_, fun h => by cases h⟩
      rcases l with _ | ⟨x, l⟩
      · rw [List.drop_nil]; exact RowE.nil _ _
      · obtain ⟨g, off, he, _⟩ := h 0 x (by simp)
        obtain rfl : a = ⟨g, off, none⟩ := Option.some.inj he
        rw [Go.WideShapes.add_plain]
        exact h.drop k
end

end Go.Proofs.Ytjpkeadnccodjaa
