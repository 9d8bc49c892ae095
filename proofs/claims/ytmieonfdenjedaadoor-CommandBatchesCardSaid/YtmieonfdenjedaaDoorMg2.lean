/-
  Texts joined into one: what the program's and the document's calls give back, piece by piece.
-/
import Derived.Test.YtmieonfdenjedaaDoorMg1
import Derived.Test.YtmieonfdenjedaaDoorRows
import Derived.BigQuiet
import Derived.ChangeAlike
import Derived.ChangeKeysEq
import Derived.Deep.AppendLies
import Derived.Deep.CutBlock
import Derived.Deep.CutRange
import Derived.Deep.Light
import Derived.Deep.QuietTactic
import Derived.Deep.RegionHeld3
import Derived.Handy
import Derived.Laws.BytesArg
import Derived.Laws.OwnMore
import Derived.Laws.Strings
import Derived.Lib.Hide
import Derived.Maps.AppendAt
import Derived.OneCell
import Derived.OwnWalk
import Derived.RegionTactic
import Derived.StillTailTactics
import Derived.WalkArith
import Derived.WalkKit
import Derived.WalkLawsBesides
import Derived.WalkSpells
import Derived.Deep.RegionLaw
import Derived.Laws.StructEq

/-
  Lists of elements of one type in memory, whatever the type: read, owned, appended to.
-/
namespace Go.Proofs.YtmieonfdenjedaaDoor
open Go.RowKit

/-- An element's type: its cells, its zero value. -/
structure El (α : Type) where
  s : TypeId
  e : TypeId
  sz : Nat
  bys : Nat
  z : Value
  cells : α → List Value
  pos : 0 < sz
  few : bys ≤ 1000
  len : ∀ x, (cells x).length = sz
  one : ∀ x, ∀ u ∈ cells x, u.oneCell' = true
  und : Tryd.prog.underlying s = some (.slice e)
  info : (Tryd.prog.info? e).map (fun i => (i.zero, i.size, i.bytes)) = some (some z, sz, bys)
  zs : z.cells.size = sz

section
variable {α : Type} (E : El α)
/-- From A on the elements of l lie, one behind the other. -/
def RowE (w : World) (A : Option Addr) (l : List α) : Prop := ∀ i x, l[i]? = some x → ∃ g off, A = some ⟨g, off, none⟩ ∧ ∀ j u, (E.cells x)[j]? = some u → w.cell? ⟨g, off + i * E.sz + j, none⟩ = some u
/-- A list as a value. -/
def ListE (w : World) (v : Value) (l : List α) : Prop := ∃ A c, v = .slice A l.length c ∧ RowE E w A l ∧ l.length ≤ c ∧ (A = none → c = 0)
def flatE (l : List α) : List Value := l.flatMap E.cells
abbrev ownE (w : World) (base : Nat) (v : Value) (l : List α) : Prop := w.ownsRow base E.e E.sz v l.length (flatE E l)
variable {E}
theorem RowE.below {w w' : World} {A : Option Addr} {l : List α} (h : RowE E w A l) (hb : Below w.heap.size w w') : RowE E w' A l := fun i x hx => by
  obtain ⟨g, off, rfl, hc⟩ := h i x hx
  exact ⟨g, off, rfl, fun j u hu => keepc hb (hc j u hu)⟩
theorem RowE.nil (w : World) (A : Option Addr) : RowE E w A [] := fun i x h => by simp at h
theorem RowE.at {w : World} {g off k : Nat} {x : α} {l : List α} (h : RowE E w (some ⟨g, off, none⟩) l) (hx : l[k]? = some x) {j : Nat} {u : Value} (hu : (E.cells x)[j]? = some u) : w.cell? ⟨g, off + k * E.sz + j, none⟩ = some u := by
  obtain ⟨g', off', e, hc⟩ := h k x hx
  injection e with e
  injection e with e1 e2
  subst e1 e2
  exact hc j u hu
theorem RowE.take {w : World} {A : Option Addr} {l : List α} (h : RowE E w A l) (k : Nat) : RowE E w A (l.take k) := fun i x hx => by
  rcases Nat.lt_or_ge i k with hi | hi
  · rw [List.getElem?_take_of_lt hi] at hx
    exact h i x hx
  · rw [List.getElem?_take_eq_none hi] at hx
    cases hx
theorem RowE.drop {w : World} {g off : Nat} {l : List α} (h : RowE E w (some ⟨g, off, none⟩) l) (k : Nat) : RowE E w (some ⟨g, off + k * E.sz, none⟩) (l.drop k) := fun i x hx => by
  rw [List.getElem?_drop] at hx
  refine ⟨g, off + k * E.sz, rfl, fun j u hu => ?_⟩
  have := h.at hx hu
  rwa [Nat.add_mul, ← Nat.add_assoc off] at this
theorem ListE.below {w w' : World} {v : Value} {l : List α} (h : ListE E w v l) (hb : Below w.heap.size w w') : ListE E w' v l := by
  obtain ⟨A, c, e, h1, h2, h3⟩ := h
  exact ⟨A, c, e, h1.below hb, h2, h3⟩
theorem ListE.nil (w : World) : ListE E w (.slice none 0 0) ([] : List α) := ⟨none, 0, rfl, RowE.nil _ _, Nat.le_refl _, fun _ => rfl⟩
theorem ListE.form {w : World} {v : Value} {l : List α} (h : ListE E w v l) : ∃ A c, v = .slice A l.length c ∧ ListE E w (.slice A l.length c) l := by
  obtain ⟨A, c, rfl, h1⟩ := h
  exact ⟨A, c, rfl, A, c, rfl, h1⟩
theorem flatE_cons (x : α) (l : List α) : flatE E (x :: l) = E.cells x ++ flatE E l := by simp [flatE]
theorem flatE_append (l m : List α) : flatE E (l ++ m) = flatE E l ++ flatE E m := by simp [flatE]
theorem flatE_length : ∀ l : List α, (flatE E l).length = l.length * E.sz
  | [] => by simp [flatE]
  | x :: l => by rw [flatE_cons, List.length_append, E.len, flatE_length l, List.length_cons, Nat.add_mul, Nat.one_mul, Nat.add_comm]
theorem flatE_get : ∀ (l : List α) (i : Nat) (x : α), l[i]? = some x → ∀ j u, (E.cells x)[j]? = some u → (flatE E l)[i * E.sz + j]? = some u
  | [], _, _, h, _, _, _ => by simp at h
  | y :: l, 0, x, h, j, u, hu => by
    obtain rfl : y = x := by simpa using h
    have hj : j < (E.cells y).length := by
      rcases Nat.lt_or_ge j (E.cells y).length with h' | h'
      · exact h'
      · rw [List.getElem?_eq_none h'] at hu; cases hu
    rw [Nat.zero_mul, Nat.zero_add, flatE_cons, List.getElem?_append_left hj]
    exact hu
  | y :: l, i + 1, x, h, j, u, hu => by
    have ih := flatE_get l i x (by simpa using h) j u hu
    rw [flatE_cons, List.getElem?_append_right (by rw [E.len, Nat.add_mul]; omega), E.len, show (i + 1) * E.sz + j - E.sz = i * E.sz + j by rw [Nat.add_mul]; omega]
    exact ih
theorem flatE_one (l : List α) : ∀ u ∈ flatE E l, u.oneCell' = true := fun u hu => by
  obtain ⟨x, _, hx⟩ := List.mem_flatMap.1 hu
  exact E.one x u hx
theorem flatE_cell {w : World} {g off : Nat} {l : List α} (h : RowE E w (some ⟨g, off, none⟩) l) {j : Nat} {u : Value} (hu : (flatE E l)[j]? = some u) : w.cell? ((⟨g, off, none⟩ : Addr).add j) = some u := by
  have hj : j < l.length * E.sz := by
    rcases Nat.lt_or_ge j (flatE E l).length with h1 | h1
    · rw [flatE_length] at h1; exact h1
    · rw [List.getElem?_eq_none h1] at hu; cases hu
  have hq : j / E.sz < l.length := (Nat.div_lt_iff_lt_mul E.pos).2 hj
  obtain ⟨x, hx⟩ : ∃ x, l[j / E.sz]? = some x := ⟨_, List.getElem?_eq_getElem hq⟩
  have hr : j % E.sz < (E.cells x).length := by rw [E.len]; exact Nat.mod_lt _ E.pos
  obtain ⟨u', hu'⟩ : ∃ u', (E.cells x)[j % E.sz]? = some u' := ⟨_, List.getElem?_eq_getElem hr⟩
  have e1 := flatE_get l _ x hx _ u' hu'
  have ej : j / E.sz * E.sz + j % E.sz = j := by rw [Nat.mul_comm]; exact Nat.div_add_mod j E.sz
  rw [ej] at e1
  rw [hu] at e1
  injection e1 with e1
  have c := h.at hx hu'
  rw [Nat.add_assoc, ej] at c
  rw [Go.WideShapes.add_plain, e1]
  exact c
theorem ownE_list {w : World} {base : Nat} {v : Value} {l : List α} (h : ownE E w base v l) : ListE E w v l := by
  rcases h.2 with ⟨hv, h0⟩ | ⟨g, cap, cur, hv, _, _, hn, _⟩
  · obtain rfl : l = [] := List.eq_nil_of_length_eq_zero h0
    exact ⟨none, 0, hv, RowE.nil _ _, Nat.zero_le _, fun _ => rfl⟩
  · refine ⟨_, _, hv, fun i x hx => ⟨g, 0, rfl, fun j u hu => ?_⟩, hn, (fun h => by cases h)⟩
    have c0 := h.cells (g := g) (by rw [hv]; rfl) _ _ (flatE_get l i x hx j u hu)
    rw [Go.WideShapes.add_plain] at c0
    rw [Nat.add_assoc]
    exact c0
theorem ownE_below {w w' : World} {base : Nat} {v : Value} {l : List α} (h : ownE E w base v l) (hb : Below w.heap.size w w') : ownE E w' base v l :=
  h.kept (row := none) ⟨hb.os, hb.tape, hb.output, hb.size, fun k hk _ => hb.block k hk⟩ (by cases v.ownBlock <;> simp)
theorem ownE_lower {w : World} {b b' : Nat} {v : Value} {l : List α} (hb : b ≤ b') (h : ownE E w b' v l) : ownE E w b v l := by
  refine ⟨h.1, ?_⟩
  rcases h.2 with h2 | ⟨g, cap, cur, hv, hg, r⟩
  · exact .inl h2
  · exact .inr ⟨g, cap, cur, hv, by omega, r⟩
theorem ownE_nil (w : World) (base : Nat) : ownE E w base (.slice none 0 0) ([] : List α) := World.ownsRow_nil _ _ _ _
theorem ownE_empty {w : World} {b base : Nat} (h : w.heap[b]? = some (.cells #[] E.e (0, 0))) (hb : base ≤ b) : ownE E w base (.slice (some ⟨b, 0, none⟩) 0 0) ([] : List α) :=
  ⟨by simp [flatE], .inr ⟨b, 0, #[], rfl, hb, h, by simp, by simp [maxLen], by simp, by simp [flatE]⟩⟩

theorem run_appE (w : World) {base : Nat} {v : Value} {ts : List α} (hown : ownE E w base v ts) (B : Option Addr) (c : Nat) (xs : List α) (hx : RowE E w B xs) (hc : B = none → c = 0)
    (hl : ts.length + xs.length ≤ 1000000) (hbase : base ≤ w.heap.size) (ty : TypeId) :
    ∃ v' w', (Builtin.append_ #[E.s, E.s] ty #[v, .slice B xs.length c]).run Tryd.prog w = .ok v' w' ∧ ownE E w' base v' (ts ++ xs) ∧ w.grownBy w' v.ownBlock ∧ (v'.ownBlock = v.ownBlock ∨ v'.ownBlock = some w.heap.size) := by
  obtain ⟨i0, hi, hz0, hz1, hz2⟩ := info_parts E.info
  rcases B with _ | ad
  · obtain rfl : xs = [] := by
      rcases xs with _ | ⟨x, xs⟩
      · rfl
      · obtain ⟨_, _, h, _⟩ := hx 0 x (by simp)
        cases h
    obtain rfl := hc rfl
    exact ⟨v, w, run_append_owned_none (P := Tryd.prog) w base E.s ty E.e i0 E.sz E.und hi v _ _ hown, by simpa [ownE] using hown, World.grownBy.refl _ _, .inl rfl⟩
  · have hcell : ∀ j u, (flatE E xs)[j]? = some u → w.cell? (ad.add j) = some u := fun j u hu => by
      rcases xs with _ | ⟨p, xs⟩
      · simp [flatE] at hu
      · obtain ⟨g, off, he, _⟩ := hx 0 p (by simp)
        obtain rfl : ad = ⟨g, off, none⟩ := Option.some.inj he
        exact flatE_cell hx hu
    have hby : (ts.length + xs.length) * E.bys ≤ 1000000 * 1000 := Nat.mul_le_mul hl E.few
    obtain ⟨v', w', hrun, h2, h3, _, h5⟩ := run_append_own_at (P := Tryd.prog) w base E.s ty E.e i0 E.z E.sz E.bys E.und hi hz0 hz1 hz2 E.zs E.pos v _ _ hown ad xs.length c (flatE E xs) (flatE_length xs) hcell
      (flatE_one xs) (by unfold maxLen; omega) (by omega) hbase
    exact ⟨v', w', hrun, by unfold ownE; rw [flatE_append, List.length_append]; exact h2, h3, h5⟩

theorem step_appE {ops : Array Oper} {o : Oper} {a : Act} {w : World} {K : Act → World → Prop} {Q : Exit → Act → World → Prop} {F : Prop} (hgd : o.guard = none) (s x : Operand) {t : TypeId} (ht : t = E.s)
    (ho : o.op = .call { callee := .builtin .append, args := #[s, x], argTypes := #[t, t] })
    {base : Nat} {v : Value} {ts : List α} (hs : a.eval s = v) (hown : ownE E w base v ts) {B : Option Addr} {c m : Nat} {xs : List α} (hv : a.eval x = .slice B m c) (hm : m = xs.length) (hx : RowE E w B xs) (hc : B = none → c = 0)
    (hl : ts.length + xs.length ≤ 1000000) (hbase : base ≤ w.heap.size)
    (h : ∀ v' w', ownE E w' base v' (ts ++ xs) → w.grownBy w' v.ownBlock → (v'.ownBlock = v.ownBlock ∨ v'.ownBlock = some w.heap.size) → K (a.put o.dst v') w') :
    if Region.wanted o (yielded ops a.tmps) = true then Oper.wp Tryd.prog o a w K Q else F := by
  subst hm ht
  have hw : Region.wanted o (yielded ops a.tmps) = true := by simp [Region.wanted, hgd]
  rw [if_pos hw]
  obtain ⟨v', w', hrun, h2, h3, h4⟩ := run_appE w hown B c xs hx hc hl hbase o.type
  unfold Oper.wp execOp
  simp only [ho, resolve, invoke, builtin, Sem.run_bind, Sem.run_pure, Result.andThen_ok, List.map_toArray, List.map_cons, List.map_nil, hs, hv, hrun]
  exact h v' w' h2 h3 h4
theorem wpList_appE {ops : Array Oper} {rest : List Oper} {o : Oper} {a : Act} {w : World} {Q : Exit → Act → World → Prop} (hgd : o.guard = none) (s x : Operand) {t : TypeId} (ht : t = E.s)
    (ho : o.op = .call { callee := .builtin .append, args := #[s, x], argTypes := #[t, t] })
    {base : Nat} {v : Value} {ts : List α} (hs : a.eval s = v) (hown : ownE E w base v ts) {B : Option Addr} {c m : Nat} {xs : List α} (hv : a.eval x = .slice B m c) (hm : m = xs.length) (hx : RowE E w B xs) (hc : B = none → c = 0)
    (hl : ts.length + xs.length ≤ 1000000) (hbase : base ≤ w.heap.size)
    (h : ∀ v' w', ownE E w' base v' (ts ++ xs) → w.grownBy w' v.ownBlock → wpList Tryd.prog ops Q rest (a.put o.dst v') w') : wpList Tryd.prog ops Q (o :: rest) a w := by
  subst hm ht
  obtain ⟨v', w', hrun, h2, h3, h4⟩ := run_appE w hown B c xs hx hc hl hbase o.type
  refine wpList_plain hgd fun _ hK => ?_
  unfold Oper.wp execOp
  simp only [ho, resolve, invoke, builtin, Sem.run_bind, Sem.run_pure, Result.andThen_ok, List.map_toArray, List.map_cons, List.map_nil, hs, hv, hrun]
  exact hK _ _ (h v' w' h2 h3)

theorem below_grownE {a w w1 : World} {row : Option Nat} (h : Below a.heap.size a w) (hg : w.grownBy w1 row) (hr : ∀ r, row = some r → a.heap.size ≤ r) : Below a.heap.size a w1 := h.grown hg h.size hr
variable (E)
/-- A list of the call's own, whose blocks lie from that world on. -/
structure OE (W : World) (l : List α) (v : Value) (w : World) : Prop where
  own : ownE E w W.heap.size v l
  bel : Below W.heap.size W w
variable {E}
theorem OE.nil (W : World) : OE E W ([] : List α) (.slice none 0 0) W := ⟨ownE_nil _ _, bl W⟩
theorem OE.below {W w w' : World} {l : List α} {v : Value} (h : OE E W l v w) (hb : Below w.heap.size w w') : OE E W l v w' := ⟨ownE_below h.own hb, chain h.bel hb⟩
theorem OE.grown {W w w' : World} {l m : List α} {v v' : Value} (h : OE E W l v w) (hg : w.grownBy w' v.ownBlock) (hown : ownE E w' W.heap.size v' m) : OE E W m v' w' :=
  ⟨hown, below_grownE h.bel hg (fun r hr => (h.own.lt r hr).1)⟩
theorem OE.list {W w : World} {l : List α} {v : Value} (h : OE E W l v w) : ListE E w v l := ownE_list h.own
theorem OE.set {W w : World} {l : List α} {v : Value} (h : OE E W l v w) {b o : Nat} (u : Value) (hne : v.ownBlock ≠ some b) (hb : W.heap.size ≤ b) : OE E W l v (w.setCell ⟨b, o, none⟩ u) :=
  ⟨h.own.kept (row := some b) ⟨rfl, rfl, rfl, by simp [World.setCell], fun k _ hk => Below.heap_setCell _ _ _ _ (fun e => hk (by simp [e]))⟩ (Or.inr hne), h.bel.setCell (p := ⟨b, o, none⟩) hb u⟩
theorem OE.ne {W w : World} {l : List α} {v : Value} (h : OE E W l v w) : v.ownBlock ≠ some w.heap.size := fun e => by
  have := (h.own.lt _ e).2
  omega
/-- Elements that are laid in a new block. -/
theorem rowE_new (w : World) (l : List α) (T : TypeId) : RowE E (w.alloc (.cells (flatE E l).toArray T)) (some ⟨w.heap.size, 0, none⟩) l := fun i x hx => ⟨w.heap.size, 0, rfl, fun j u hu => by
  rw [cell_of_row _ _ _ _ T (0, 0) (heap_alloc_new w _), Nat.zero_add]
  have := flatE_get l i x hx j u hu
  simpa using this⟩
theorem listE_new (w : World) (l : List α) (T : TypeId) : ListE E (w.alloc (.cells (flatE E l).toArray T)) (.slice (some ⟨w.heap.size, 0, none⟩) l.length l.length) l := ⟨_, _, rfl, rowE_new w l T, Nat.le_refl _, fun h => by cases h⟩
theorem rowE_one (w : World) (x : α) (cs : Array Value) (hcs : cs.toList = E.cells x) (T : TypeId) : RowE E (w.alloc (.cells cs T)) (some ⟨w.heap.size, 0, none⟩) [x] := by
  have h := rowE_new (E := E) w [x] T
  rwa [show (flatE E [x]).toArray = cs from by rw [show flatE E [x] = E.cells x by simp [flatE], ← hcs]] at h
end

end Go.Proofs.YtmieonfdenjedaaDoor

/-
  Versions in memory: lists of versions, of lists of fields, of texts.
-/
namespace Go.Proofs.YtmieonfdenjedaaDoor
open Go.RowKit

abbrev cellsV (v : Vr) : List Value := [.int .i64 v.id, .int .i64 v.st, .string v.ent, .int .i64 v.sf, .int .i64 v.se, .slice v.fa v.fs.length v.fc, .bool v.gone]
/-- A version as a value. -/
abbrev vv (v : Vr) : Value := .agg #[.int .i64 v.id, .int .i64 v.st, .string v.ent, .int .i64 v.sf, .int .i64 v.se, .slice v.fa v.fs.length v.fc, .bool v.gone]
/-- A list of fields as its value's parts. -/
structure Sl where
  a : Option Addr
  n : Nat
  c : Nat
/-- A version in a block of its own. -/
abbrev ocV (v : Vr) : Obj := .cells #[.int .i64 v.id, .int .i64 v.st, .string v.ent, .int .i64 v.sf, .int .i64 v.se, .slice v.fa v.fs.length v.fc, .bool v.gone] 32
/-- The fields of a version lie where it says. -/
def VF (w : World) (v : Vr) : Prop := Fields w v.fa v.fs ∧ v.fs.length ≤ v.fc ∧ (v.fa = none → v.fc = 0)
theorem VF.below {w w' : World} {v : Vr} (h : VF w v) (hb : Below w.heap.size w w') : VF w' v := ⟨h.1.below hb, h.2⟩
theorem VF.list {w : World} {v : Vr} (h : VF w v) : ListF w (.slice v.fa v.fs.length v.fc) v.fs := ⟨v.fa, v.fc, rfl, h.1, h.2.1, h.2.2⟩
/-- The cells of a version. -/
abbrev Cells7 (w : World) (g o : Nat) (v : Vr) : Prop := w.cell? ⟨g, o, none⟩ = some (.int .i64 v.id) ∧ w.cell? ⟨g, o + 1, none⟩ = some (.int .i64 v.st) ∧ w.cell? ⟨g, o + 2, none⟩ = some (.string v.ent) ∧ w.cell? ⟨g, o + 3, none⟩ = some (.int .i64 v.sf) ∧
  w.cell? ⟨g, o + 4, none⟩ = some (.int .i64 v.se) ∧ w.cell? ⟨g, o + 5, none⟩ = some (.slice v.fa v.fs.length v.fc) ∧ w.cell? ⟨g, o + 6, none⟩ = some (.bool v.gone)
theorem Cells7.below {w w' : World} {g o : Nat} {v : Vr} (h : Cells7 w g o v) (hb : Below w.heap.size w w') : Cells7 w' g o v :=
  ⟨keepc hb h.1, keepc hb h.2.1, keepc hb h.2.2.1, keepc hb h.2.2.2.1, keepc hb h.2.2.2.2.1, keepc hb h.2.2.2.2.2.1, keepc hb h.2.2.2.2.2.2⟩

theorem add_zero_addr (a : Addr) : a.add 0 = a := by
  obtain ⟨b, o, s⟩ := a
  cases s <;> simp [Addr.add]

section
variable {α : Type} {E : El α}
/-- A list is cut at a place: ahead of it, and from it on. -/
theorem slice_ahead {A : Option Addr} {n c k : Nat} (hk : k ≤ n) (hn : n ≤ c) (w : World) : (Instr.slice E.s (.slice A n c) none (some (.int .i64 (k : Int))) none).run Tryd.prog w = .ok (.slice A k c) w := by
  obtain ⟨i0, hi, hz0, hz1, hz2⟩ := info_parts E.info
  have hel : Tryd.prog.elem E.s = E.e := by simp [Program.elem, E.und]
  have hu : Tryd.prog.underlying E.s = some (.slice (Tryd.prog.elem E.s)) := by rw [hel]; exact E.und
  rw [run_slice_h w E.s A n c hu .i64 (k : Int) (by omega) (by omega)]
  simp [sizeOf, typeInfo, hel, hi, sliced, Result.andThen]
  cases A with
  | none => simp
  | some a => simp [add_zero_addr]
theorem slice_from {A : Option Addr} {n c k : Nat} (hk : k ≤ n) (hn : n ≤ c) (hc : A = none → c = 0) : ∃ B, (∀ w, (Instr.slice E.s (.slice A n c) (some (.int .i64 (k : Int))) none none).run Tryd.prog w = .ok (.slice B (n - k) (c - k)) w) ∧
    (∀ w (l : List α), RowE E w A l → l.length = n → RowE E w B (l.drop k)) ∧ (B = none → c - k = 0) := by
  obtain ⟨i0, hi, hz0, hz1, hz2⟩ := info_parts E.info
  have hel : Tryd.prog.elem E.s = E.e := by simp [Program.elem, E.und]
  have hu : Tryd.prog.underlying E.s = some (.slice (Tryd.prog.elem E.s)) := by rw [hel]; exact E.und
  have run : ∀ w, (Instr.slice E.s (.slice A n c) (some (.int .i64 (k : Int))) none none).run Tryd.prog w = .ok (sliced A k n c E.sz) w := fun w => by
    rw [run_slice_l w E.s A n c hu .i64 (k : Int) (by omega) (by omega)]
    simp [sizeOf, typeInfo, hel, hi, hz1, Result.andThen]
  cases A with
  | none => 
    have := hc rfl
    obtain rfl : c = 0 := this
    obtain rfl : n = 0 := by omega
    obtain rfl : k = 0 := by omega
    exact ⟨none, fun w => by rw [run w]; simp [sliced], fun w l h hl => by rw [List.drop_zero]; exact h, fun _ => rfl⟩
  | some a =>
    by_cases hck : c = k
    · obtain rfl : n = k := by omega
      subst hck
      exact ⟨some a, fun w => by rw [run w]; simp [sliced], fun w l h hl => by rw [List.drop_of_length_le (by omega)]; exact RowE.nil _ _, fun h => by cases h⟩
    · refine ⟨some (a.add (k * E.sz)), fun w => by rw [run w]; simp [sliced, hck], fun w l h hl => ?_, fun h => by cases h⟩
      rcases l with _ | ⟨x, l⟩
      · rw [List.drop_nil]; exact RowE.nil _ _
      · obtain ⟨g, off, he, _⟩ := h 0 x (by simp)
        obtain rfl : a = ⟨g, off, none⟩ := Option.some.inj he
        rw [Go.WideShapes.add_plain]
        exact h.drop k
end

end Go.Proofs.YtmieonfdenjedaaDoor

/-
  A version, or a row, stored into a block of the call's own, and read behind a call.
-/
namespace Go.Proofs.YtmieonfdenjedaaDoor
open Go.RowKit

/-- Seven cells of one block, stored one behind the other. -/
theorem seven_store {w : World} {b : Nat} {u0 u1 u2 u3 u4 u5 u6 : Value} (x0 x1 x2 x3 x4 x5 x6 : Value) (h0 : w.cell? ⟨b, 0, none⟩ = some u0) (h1 : w.cell? ⟨b, 1, none⟩ = some u1) (h2 : w.cell? ⟨b, 2, none⟩ = some u2) (h3 : w.cell? ⟨b, 3, none⟩ = some u3) (h4 : w.cell? ⟨b, 4, none⟩ = some u4) (h5 : w.cell? ⟨b, 5, none⟩ = some u5) (h6 : w.cell? ⟨b, 6, none⟩ = some u6) :
    (((((((w.setCell ⟨b, 0, none⟩ x0).setCell ⟨b, 1, none⟩ x1).setCell ⟨b, 2, none⟩ x2).setCell ⟨b, 3, none⟩ x3).setCell ⟨b, 4, none⟩ x4).setCell ⟨b, 5, none⟩ x5).setCell ⟨b, 6, none⟩ x6).cell? ⟨b, 0, none⟩ = some x0 ∧ (((((((w.setCell ⟨b, 0, none⟩ x0).setCell ⟨b, 1, none⟩ x1).setCell ⟨b, 2, none⟩ x2).setCell ⟨b, 3, none⟩ x3).setCell ⟨b, 4, none⟩ x4).setCell ⟨b, 5, none⟩ x5).setCell ⟨b, 6, none⟩ x6).cell? ⟨b, 1, none⟩ = some x1 ∧ (((((((w.setCell ⟨b, 0, none⟩ x0).setCell ⟨b, 1, none⟩ x1).setCell ⟨b, 2, none⟩ x2).setCell ⟨b, 3, none⟩ x3).setCell ⟨b, 4, none⟩ x4).setCell ⟨b, 5, none⟩ x5).setCell ⟨b, 6, none⟩ x6).cell? ⟨b, 2, none⟩ = some x2 ∧ (((((((w.setCell ⟨b, 0, none⟩ x0).setCell ⟨b, 1, none⟩ x1).setCell ⟨b, 2, none⟩ x2).setCell ⟨b, 3, none⟩ x3).setCell ⟨b, 4, none⟩ x4).setCell ⟨b, 5, none⟩ x5).setCell ⟨b, 6, none⟩ x6).cell? ⟨b, 3, none⟩ = some x3 ∧ (((((((w.setCell ⟨b, 0, none⟩ x0).setCell ⟨b, 1, none⟩ x1).setCell ⟨b, 2, none⟩ x2).setCell ⟨b, 3, none⟩ x3).setCell ⟨b, 4, none⟩ x4).setCell ⟨b, 5, none⟩ x5).setCell ⟨b, 6, none⟩ x6).cell? ⟨b, 4, none⟩ = some x4 ∧ (((((((w.setCell ⟨b, 0, none⟩ x0).setCell ⟨b, 1, none⟩ x1).setCell ⟨b, 2, none⟩ x2).setCell ⟨b, 3, none⟩ x3).setCell ⟨b, 4, none⟩ x4).setCell ⟨b, 5, none⟩ x5).setCell ⟨b, 6, none⟩ x6).cell? ⟨b, 5, none⟩ = some x5 ∧ (((((((w.setCell ⟨b, 0, none⟩ x0).setCell ⟨b, 1, none⟩ x1).setCell ⟨b, 2, none⟩ x2).setCell ⟨b, 3, none⟩ x3).setCell ⟨b, 4, none⟩ x4).setCell ⟨b, 5, none⟩ x5).setCell ⟨b, 6, none⟩ x6).cell? ⟨b, 6, none⟩ = some x6 := by
  have O := fun (W : World) (i j : Nat) (x : Value) (h : i ≠ j) => World.cell?_setCell_other W ⟨b, i, none⟩ ⟨b, j, none⟩ x (fun e => h (by injection e))
  have a0 : w.cell? ⟨b, 0, none⟩ = some u0 := h0
  have a1 : (w.setCell ⟨b, 0, none⟩ x0).cell? ⟨b, 1, none⟩ = some u1 := ((O _ 0 1 _ (by decide)).trans h1)
  have a2 : ((w.setCell ⟨b, 0, none⟩ x0).setCell ⟨b, 1, none⟩ x1).cell? ⟨b, 2, none⟩ = some u2 := ((O _ 1 2 _ (by decide)).trans ((O _ 0 2 _ (by decide)).trans h2))
  have a3 : (((w.setCell ⟨b, 0, none⟩ x0).setCell ⟨b, 1, none⟩ x1).setCell ⟨b, 2, none⟩ x2).cell? ⟨b, 3, none⟩ = some u3 := ((O _ 2 3 _ (by decide)).trans ((O _ 1 3 _ (by decide)).trans ((O _ 0 3 _ (by decide)).trans h3)))
  have a4 : ((((w.setCell ⟨b, 0, none⟩ x0).setCell ⟨b, 1, none⟩ x1).setCell ⟨b, 2, none⟩ x2).setCell ⟨b, 3, none⟩ x3).cell? ⟨b, 4, none⟩ = some u4 := ((O _ 3 4 _ (by decide)).trans ((O _ 2 4 _ (by decide)).trans ((O _ 1 4 _ (by decide)).trans ((O _ 0 4 _ (by decide)).trans h4))))
  have a5 : (((((w.setCell ⟨b, 0, none⟩ x0).setCell ⟨b, 1, none⟩ x1).setCell ⟨b, 2, none⟩ x2).setCell ⟨b, 3, none⟩ x3).setCell ⟨b, 4, none⟩ x4).cell? ⟨b, 5, none⟩ = some u5 := ((O _ 4 5 _ (by decide)).trans ((O _ 3 5 _ (by decide)).trans ((O _ 2 5 _ (by decide)).trans ((O _ 1 5 _ (by decide)).trans ((O _ 0 5 _ (by decide)).trans h5)))))
  have a6 : ((((((w.setCell ⟨b, 0, none⟩ x0).setCell ⟨b, 1, none⟩ x1).setCell ⟨b, 2, none⟩ x2).setCell ⟨b, 3, none⟩ x3).setCell ⟨b, 4, none⟩ x4).setCell ⟨b, 5, none⟩ x5).cell? ⟨b, 6, none⟩ = some u6 := ((O _ 5 6 _ (by decide)).trans ((O _ 4 6 _ (by decide)).trans ((O _ 3 6 _ (by decide)).trans ((O _ 2 6 _ (by decide)).trans ((O _ 1 6 _ (by decide)).trans ((O _ 0 6 _ (by decide)).trans h6))))))
  refine ⟨?_, ?_, ?_, ?_, ?_, ?_, ?_⟩
  · exact ((O _ 6 0 _ (by decide)).trans ((O _ 5 0 _ (by decide)).trans ((O _ 4 0 _ (by decide)).trans ((O _ 3 0 _ (by decide)).trans ((O _ 2 0 _ (by decide)).trans ((O _ 1 0 _ (by decide)).trans (World.cell?_setCell_same _ _ _ a0)))))))
  · exact ((O _ 6 1 _ (by decide)).trans ((O _ 5 1 _ (by decide)).trans ((O _ 4 1 _ (by decide)).trans ((O _ 3 1 _ (by decide)).trans ((O _ 2 1 _ (by decide)).trans (World.cell?_setCell_same _ _ _ a1))))))
  · exact ((O _ 6 2 _ (by decide)).trans ((O _ 5 2 _ (by decide)).trans ((O _ 4 2 _ (by decide)).trans ((O _ 3 2 _ (by decide)).trans (World.cell?_setCell_same _ _ _ a2)))))
  · exact ((O _ 6 3 _ (by decide)).trans ((O _ 5 3 _ (by decide)).trans ((O _ 4 3 _ (by decide)).trans (World.cell?_setCell_same _ _ _ a3))))
  · exact ((O _ 6 4 _ (by decide)).trans ((O _ 5 4 _ (by decide)).trans (World.cell?_setCell_same _ _ _ a4)))
  · exact ((O _ 6 5 _ (by decide)).trans (World.cell?_setCell_same _ _ _ a5))
  · exact (World.cell?_setCell_same _ _ _ a6)

/-- Eight cells of one block, stored one behind the other. -/
theorem eight_store {w : World} {b : Nat} {u0 u1 u2 u3 u4 u5 u6 u7 : Value} (x0 x1 x2 x3 x4 x5 x6 x7 : Value) (h0 : w.cell? ⟨b, 0, none⟩ = some u0) (h1 : w.cell? ⟨b, 1, none⟩ = some u1) (h2 : w.cell? ⟨b, 2, none⟩ = some u2) (h3 : w.cell? ⟨b, 3, none⟩ = some u3) (h4 : w.cell? ⟨b, 4, none⟩ = some u4) (h5 : w.cell? ⟨b, 5, none⟩ = some u5) (h6 : w.cell? ⟨b, 6, none⟩ = some u6) (h7 : w.cell? ⟨b, 7, none⟩ = some u7) :
    ((((((((w.setCell ⟨b, 0, none⟩ x0).setCell ⟨b, 1, none⟩ x1).setCell ⟨b, 2, none⟩ x2).setCell ⟨b, 3, none⟩ x3).setCell ⟨b, 4, none⟩ x4).setCell ⟨b, 5, none⟩ x5).setCell ⟨b, 6, none⟩ x6).setCell ⟨b, 7, none⟩ x7).cell? ⟨b, 0, none⟩ = some x0 ∧ ((((((((w.setCell ⟨b, 0, none⟩ x0).setCell ⟨b, 1, none⟩ x1).setCell ⟨b, 2, none⟩ x2).setCell ⟨b, 3, none⟩ x3).setCell ⟨b, 4, none⟩ x4).setCell ⟨b, 5, none⟩ x5).setCell ⟨b, 6, none⟩ x6).setCell ⟨b, 7, none⟩ x7).cell? ⟨b, 1, none⟩ = some x1 ∧ ((((((((w.setCell ⟨b, 0, none⟩ x0).setCell ⟨b, 1, none⟩ x1).setCell ⟨b, 2, none⟩ x2).setCell ⟨b, 3, none⟩ x3).setCell ⟨b, 4, none⟩ x4).setCell ⟨b, 5, none⟩ x5).setCell ⟨b, 6, none⟩ x6).setCell ⟨b, 7, none⟩ x7).cell? ⟨b, 2, none⟩ = some x2 ∧ ((((((((w.setCell ⟨b, 0, none⟩ x0).setCell ⟨b, 1, none⟩ x1).setCell ⟨b, 2, none⟩ x2).setCell ⟨b, 3, none⟩ x3).setCell ⟨b, 4, none⟩ x4).setCell ⟨b, 5, none⟩ x5).setCell ⟨b, 6, none⟩ x6).setCell ⟨b, 7, none⟩ x7).cell? ⟨b, 3, none⟩ = some x3 ∧ ((((((((w.setCell ⟨b, 0, none⟩ x0).setCell ⟨b, 1, none⟩ x1).setCell ⟨b, 2, none⟩ x2).setCell ⟨b, 3, none⟩ x3).setCell ⟨b, 4, none⟩ x4).setCell ⟨b, 5, none⟩ x5).setCell ⟨b, 6, none⟩ x6).setCell ⟨b, 7, none⟩ x7).cell? ⟨b, 4, none⟩ = some x4 ∧ ((((((((w.setCell ⟨b, 0, none⟩ x0).setCell ⟨b, 1, none⟩ x1).setCell ⟨b, 2, none⟩ x2).setCell ⟨b, 3, none⟩ x3).setCell ⟨b, 4, none⟩ x4).setCell ⟨b, 5, none⟩ x5).setCell ⟨b, 6, none⟩ x6).setCell ⟨b, 7, none⟩ x7).cell? ⟨b, 5, none⟩ = some x5 ∧ ((((((((w.setCell ⟨b, 0, none⟩ x0).setCell ⟨b, 1, none⟩ x1).setCell ⟨b, 2, none⟩ x2).setCell ⟨b, 3, none⟩ x3).setCell ⟨b, 4, none⟩ x4).setCell ⟨b, 5, none⟩ x5).setCell ⟨b, 6, none⟩ x6).setCell ⟨b, 7, none⟩ x7).cell? ⟨b, 6, none⟩ = some x6 ∧ ((((((((w.setCell ⟨b, 0, none⟩ x0).setCell ⟨b, 1, none⟩ x1).setCell ⟨b, 2, none⟩ x2).setCell ⟨b, 3, none⟩ x3).setCell ⟨b, 4, none⟩ x4).setCell ⟨b, 5, none⟩ x5).setCell ⟨b, 6, none⟩ x6).setCell ⟨b, 7, none⟩ x7).cell? ⟨b, 7, none⟩ = some x7 := by
  have O := fun (W : World) (i j : Nat) (x : Value) (h : i ≠ j) => World.cell?_setCell_other W ⟨b, i, none⟩ ⟨b, j, none⟩ x (fun e => h (by injection e))
  have a0 : w.cell? ⟨b, 0, none⟩ = some u0 := h0
  have a1 : (w.setCell ⟨b, 0, none⟩ x0).cell? ⟨b, 1, none⟩ = some u1 := ((O _ 0 1 _ (by decide)).trans h1)
  have a2 : ((w.setCell ⟨b, 0, none⟩ x0).setCell ⟨b, 1, none⟩ x1).cell? ⟨b, 2, none⟩ = some u2 := ((O _ 1 2 _ (by decide)).trans ((O _ 0 2 _ (by decide)).trans h2))
  have a3 : (((w.setCell ⟨b, 0, none⟩ x0).setCell ⟨b, 1, none⟩ x1).setCell ⟨b, 2, none⟩ x2).cell? ⟨b, 3, none⟩ = some u3 := ((O _ 2 3 _ (by decide)).trans ((O _ 1 3 _ (by decide)).trans ((O _ 0 3 _ (by decide)).trans h3)))
  have a4 : ((((w.setCell ⟨b, 0, none⟩ x0).setCell ⟨b, 1, none⟩ x1).setCell ⟨b, 2, none⟩ x2).setCell ⟨b, 3, none⟩ x3).cell? ⟨b, 4, none⟩ = some u4 := ((O _ 3 4 _ (by decide)).trans ((O _ 2 4 _ (by decide)).trans ((O _ 1 4 _ (by decide)).trans ((O _ 0 4 _ (by decide)).trans h4))))
  have a5 : (((((w.setCell ⟨b, 0, none⟩ x0).setCell ⟨b, 1, none⟩ x1).setCell ⟨b, 2, none⟩ x2).setCell ⟨b, 3, none⟩ x3).setCell ⟨b, 4, none⟩ x4).cell? ⟨b, 5, none⟩ = some u5 := ((O _ 4 5 _ (by decide)).trans ((O _ 3 5 _ (by decide)).trans ((O _ 2 5 _ (by decide)).trans ((O _ 1 5 _ (by decide)).trans ((O _ 0 5 _ (by decide)).trans h5)))))
  have a6 : ((((((w.setCell ⟨b, 0, none⟩ x0).setCell ⟨b, 1, none⟩ x1).setCell ⟨b, 2, none⟩ x2).setCell ⟨b, 3, none⟩ x3).setCell ⟨b, 4, none⟩ x4).setCell ⟨b, 5, none⟩ x5).cell? ⟨b, 6, none⟩ = some u6 := ((O _ 5 6 _ (by decide)).trans ((O _ 4 6 _ (by decide)).trans ((O _ 3 6 _ (by decide)).trans ((O _ 2 6 _ (by decide)).trans ((O _ 1 6 _ (by decide)).trans ((O _ 0 6 _ (by decide)).trans h6))))))
  have a7 : (((((((w.setCell ⟨b, 0, none⟩ x0).setCell ⟨b, 1, none⟩ x1).setCell ⟨b, 2, none⟩ x2).setCell ⟨b, 3, none⟩ x3).setCell ⟨b, 4, none⟩ x4).setCell ⟨b, 5, none⟩ x5).setCell ⟨b, 6, none⟩ x6).cell? ⟨b, 7, none⟩ = some u7 := ((O _ 6 7 _ (by decide)).trans ((O _ 5 7 _ (by decide)).trans ((O _ 4 7 _ (by decide)).trans ((O _ 3 7 _ (by decide)).trans ((O _ 2 7 _ (by decide)).trans ((O _ 1 7 _ (by decide)).trans ((O _ 0 7 _ (by decide)).trans h7)))))))
  refine ⟨?_, ?_, ?_, ?_, ?_, ?_, ?_, ?_⟩
  · exact ((O _ 7 0 _ (by decide)).trans ((O _ 6 0 _ (by decide)).trans ((O _ 5 0 _ (by decide)).trans ((O _ 4 0 _ (by decide)).trans ((O _ 3 0 _ (by decide)).trans ((O _ 2 0 _ (by decide)).trans ((O _ 1 0 _ (by decide)).trans (World.cell?_setCell_same _ _ _ a0))))))))
  · exact ((O _ 7 1 _ (by decide)).trans ((O _ 6 1 _ (by decide)).trans ((O _ 5 1 _ (by decide)).trans ((O _ 4 1 _ (by decide)).trans ((O _ 3 1 _ (by decide)).trans ((O _ 2 1 _ (by decide)).trans (World.cell?_setCell_same _ _ _ a1)))))))
  · exact ((O _ 7 2 _ (by decide)).trans ((O _ 6 2 _ (by decide)).trans ((O _ 5 2 _ (by decide)).trans ((O _ 4 2 _ (by decide)).trans ((O _ 3 2 _ (by decide)).trans (World.cell?_setCell_same _ _ _ a2))))))
  · exact ((O _ 7 3 _ (by decide)).trans ((O _ 6 3 _ (by decide)).trans ((O _ 5 3 _ (by decide)).trans ((O _ 4 3 _ (by decide)).trans (World.cell?_setCell_same _ _ _ a3)))))
  · exact ((O _ 7 4 _ (by decide)).trans ((O _ 6 4 _ (by decide)).trans ((O _ 5 4 _ (by decide)).trans (World.cell?_setCell_same _ _ _ a4))))
  · exact ((O _ 7 5 _ (by decide)).trans ((O _ 6 5 _ (by decide)).trans (World.cell?_setCell_same _ _ _ a5)))
  · exact ((O _ 7 6 _ (by decide)).trans (World.cell?_setCell_same _ _ _ a6))
  · exact (World.cell?_setCell_same _ _ _ a7)

theorem seven_below {w0 w : World} {base b : Nat} {x0 x1 x2 x3 x4 x5 x6 : Value} (h : Below base w0 w) (hg : base ≤ b) : Below base w0 (((((((w.setCell ⟨b, 0, none⟩ x0).setCell ⟨b, 1, none⟩ x1).setCell ⟨b, 2, none⟩ x2).setCell ⟨b, 3, none⟩ x3).setCell ⟨b, 4, none⟩ x4).setCell ⟨b, 5, none⟩ x5).setCell ⟨b, 6, none⟩ x6) := (((((((h.setCell hg _).setCell hg _).setCell hg _).setCell hg _).setCell hg _).setCell hg _).setCell hg _)
theorem eight_below {w0 w : World} {base b : Nat} {x0 x1 x2 x3 x4 x5 x6 x7 : Value} (h : Below base w0 w) (hg : base ≤ b) : Below base w0 ((((((((w.setCell ⟨b, 0, none⟩ x0).setCell ⟨b, 1, none⟩ x1).setCell ⟨b, 2, none⟩ x2).setCell ⟨b, 3, none⟩ x3).setCell ⟨b, 4, none⟩ x4).setCell ⟨b, 5, none⟩ x5).setCell ⟨b, 6, none⟩ x6).setCell ⟨b, 7, none⟩ x7) := ((((((((h.setCell hg _).setCell hg _).setCell hg _).setCell hg _).setCell hg _).setCell hg _).setCell hg _).setCell hg _)

/-- The cells of a version in a block of its own, and that they may be stored into. -/
structure HoldV (w : World) (g : Nat) (v : Vr) : Prop where
  c : Cells7 w g 0 v
  f : w.frozen? ⟨g, 0, none⟩ = false ∧ w.frozen? ⟨g, 1, none⟩ = false ∧ w.frozen? ⟨g, 2, none⟩ = false ∧ w.frozen? ⟨g, 3, none⟩ = false ∧ w.frozen? ⟨g, 4, none⟩ = false ∧ w.frozen? ⟨g, 5, none⟩ = false ∧ w.frozen? ⟨g, 6, none⟩ = false
theorem holdV_new (w : World) (v : Vr) : HoldV (w.alloc (ocV v)) w.heap.size v :=
  ⟨⟨by simp [go_sem], by simp [go_sem], by simp [go_sem], by simp [go_sem], by simp [go_sem], by simp [go_sem], by simp [go_sem]⟩, ⟨by simp [go_sem], by simp [go_sem], by simp [go_sem], by simp [go_sem], by simp [go_sem], by simp [go_sem], by simp [go_sem]⟩⟩
theorem HoldV.below {w w' : World} {g : Nat} {v : Vr} (h : HoldV w g v) (hb : Below w.heap.size w w') : HoldV w' g v := by
  have hg := lt_of_cell h.c.1
  obtain ⟨f0, f1, f2, f3, f4, f5, f6⟩ := h.f
  exact ⟨h.c.below hb, keepf hb hg f0, keepf hb hg f1, keepf hb hg f2, keepf hb hg f3, keepf hb hg f4, keepf hb hg f5, keepf hb hg f6⟩

end Go.Proofs.YtmieonfdenjedaaDoor

/-
  What a call may turn: some cells, and nothing else; a version that is read into a block, cell by cell.
-/
namespace Go.Proofs.YtmieonfdenjedaaDoor
open Go.RowKit

/-- Whatever lay, lies, but for the cells M. -/
structure But (M : Nat → Nat → Prop) (w w' : World) : Prop where
  os : w'.os = w.os
  tape : w'.tape = w.tape
  output : w'.output = w.output
  size : w.heap.size ≤ w'.heap.size
  block : ∀ c, c < w.heap.size → (∀ o, ¬ M c o) → w'.heap[c]? = w.heap[c]?
  cell : ∀ c o, c < w.heap.size → ¬ M c o → w'.cell? ⟨c, o, none⟩ = w.cell? ⟨c, o, none⟩
  frz : ∀ c o, c < w.heap.size → w'.frozen? ⟨c, o, none⟩ = w.frozen? ⟨c, o, none⟩
theorem But.refl (M : Nat → Nat → Prop) (w : World) : But M w w := ⟨rfl, rfl, rfl, Nat.le_refl _, fun _ _ _ => rfl, fun _ _ _ _ => rfl, fun _ _ _ => rfl⟩
theorem But.trans {M : Nat → Nat → Prop} {a b c : World} (h : But M a b) (k : But M b c) : But M a c :=
  ⟨k.os.trans h.os, k.tape.trans h.tape, k.output.trans h.output, Nat.le_trans h.size k.size,
   fun i hi hm => (k.block i (Nat.lt_of_lt_of_le hi h.size) hm).trans (h.block i hi hm),
   fun i o hi hm => (k.cell i o (Nat.lt_of_lt_of_le hi h.size) hm).trans (h.cell i o hi hm),
   fun i o hi => (k.frz i o (Nat.lt_of_lt_of_le hi h.size)).trans (h.frz i o hi)⟩
theorem But.of_below {M : Nat → Nat → Prop} {w w' : World} (h : Below w.heap.size w w') : But M w w' :=
  ⟨h.os, h.tape, h.output, h.size, fun c hc _ => h.block c hc, fun c o hc _ => h.cell (p := ⟨c, o, none⟩) hc, fun c o hc => h.frozen (p := ⟨c, o, none⟩) hc⟩
theorem But.set {M : Nat → Nat → Prop} {a w : World} (h : But M a w) {b o : Nat} (hm : M b o) (u : Value) : But M a (w.setCell ⟨b, o, none⟩ u) :=
  ⟨h.os, h.tape, h.output, by have := h.size; simpa [World.setCell] using this,
   fun c hc hn => (Below.heap_setCell w ⟨b, o, none⟩ u c (fun e => hn o (by simp at e; rw [e]; exact hm))).trans (h.block c hc hn),
   fun c i hc hn => (World.cell?_setCell_other w ⟨b, o, none⟩ ⟨c, i, none⟩ u (fun e => hn (by injection e with e1 e2; subst e1 e2; exact hm))).trans (h.cell c i hc hn),
   fun c i hc => (World.frozen?_setCell _ _ _ _).trans (h.frz c i hc)⟩
theorem But.below {M : Nat → Nat → Prop} {w w' : World} (h : But M w w') {n : Nat} (hn : n ≤ w.heap.size) (hM : ∀ c o, M c o → n ≤ c) : Below n w w' :=
  ⟨h.os, h.tape, h.output, h.size, fun c hc => h.block c (by omega) (fun o hm => by have := hM c o hm; omega)⟩
theorem But.mono {M M' : Nat → Nat → Prop} {w w' : World} (h : But M w w') (hM : ∀ c o, c < w.heap.size → M c o → M' c o) : But M' w w' :=
  ⟨h.os, h.tape, h.output, h.size, fun c hc hn => h.block c hc (fun o hm => hn o (hM c o hc hm)), fun c o hc hn => h.cell c o hc (fun hm => hn (hM c o hc hm)), h.frz⟩
theorem But.keep {M : Nat → Nat → Prop} {w w' : World} (h : But M w w') {c o : Nat} {v : Value} (hc : w.cell? ⟨c, o, none⟩ = some v) (hm : ¬ M c o) : w'.cell? ⟨c, o, none⟩ = some v :=
  (h.cell c o (lt_of_cell hc) hm).trans hc
/-- From an earlier world on. -/
theorem But.ahead {M : Nat → Nat → Prop} {a w w' : World} (hb : Below a.heap.size a w) (h : But M w w') : But M a w' := (But.of_below hb).trans h
/-- The cells of a version in block b. -/
abbrev MV (b : Nat) : Nat → Nat → Prop := fun c o => c = b ∧ o < 7

/-- The fields of a version lie where it says, and from block n on. -/
def FarF (n : Nat) (w : World) (v : Vr) : Prop := VF w v ∧ ∀ a, v.fa = some a → n ≤ a.block
theorem FarF.but {M : Nat → Nat → Prop} {n : Nat} {w w' : World} {v : Vr} (h : FarF n w v) (hb : But M w w') (hM : ∀ c o, M c o → c < n) : FarF n w' v :=
  ⟨⟨fun i f hf => by
    obtain ⟨g, off, he, c0, c1⟩ := h.1.1 i f hf
    have hg : n ≤ g := h.2 _ he
    exact ⟨g, off, he, hb.keep c0 (fun hm => by have := hM _ _ hm; omega), hb.keep c1 (fun hm => by have := hM _ _ hm; omega)⟩, h.1.2⟩, h.2⟩
theorem FarF.below {n : Nat} {w w' : World} {v : Vr} (h : FarF n w v) (hb : Below w.heap.size w w') : FarF n w' v := ⟨h.1.below hb, h.2⟩
theorem FarF.nil {n : Nat} (w : World) (v : Vr) (h : v.fs = []) (h2 : v.fa = none) (h3 : v.fc = 0) : FarF n w v :=
  ⟨⟨by rw [h]; exact Fields.nil _ _, by rw [h]; exact Nat.zero_le _, fun _ => h3⟩, fun a ha => by rw [h2] at ha; cases ha⟩
theorem FarF.same {n : Nat} {w : World} {v v' : Vr} (h : FarF n w v) (h1 : v'.fa = v.fa) (h2 : v'.fc = v.fc) (h3 : v'.fs = v.fs) : FarF n w v' := by
  unfold FarF VF at h ⊢
  rw [h1, h2, h3]; exact h
theorem OF.far {W w : World} {l : List Fd} {u : Value} (h : OF W l u w) : ∃ A c, u = .slice A l.length c ∧ ∀ v : Vr, v.fa = A → v.fc = c → v.fs = l → FarF W.heap.size w v := by
  obtain ⟨A, c, rfl, hF, hc, hn⟩ := h.list
  refine ⟨A, c, rfl, fun v h1 h2 h3 => ?_⟩
  subst h1 h2 h3
  exact ⟨⟨hF, hc, hn⟩, fun a ha => (h.own.lt a.block (by rw [ha]; rfl)).1⟩

theorem HoldV.set0 {w : World} {b : Nat} {v : Vr} (h : HoldV w b v) (n : Int) : HoldV (w.setCell ⟨b, 0, none⟩ (.int .i64 n)) b {v with id := n} :=
  ⟨⟨World.cell?_setCell_same _ ⟨b, 0, none⟩ _ (h.c.1), (World.cell?_setCell_other _ ⟨b, 0, none⟩ ⟨b, 1, none⟩ _ (by simp)).trans (h.c.2.1), (World.cell?_setCell_other _ ⟨b, 0, none⟩ ⟨b, 2, none⟩ _ (by simp)).trans (h.c.2.2.1), (World.cell?_setCell_other _ ⟨b, 0, none⟩ ⟨b, 3, none⟩ _ (by simp)).trans (h.c.2.2.2.1), (World.cell?_setCell_other _ ⟨b, 0, none⟩ ⟨b, 4, none⟩ _ (by simp)).trans (h.c.2.2.2.2.1), (World.cell?_setCell_other _ ⟨b, 0, none⟩ ⟨b, 5, none⟩ _ (by simp)).trans (h.c.2.2.2.2.2.1), (World.cell?_setCell_other _ ⟨b, 0, none⟩ ⟨b, 6, none⟩ _ (by simp)).trans (h.c.2.2.2.2.2.2)⟩, (World.frozen?_setCell _ _ _ _).trans (h.f.1), (World.frozen?_setCell _ _ _ _).trans (h.f.2.1), (World.frozen?_setCell _ _ _ _).trans (h.f.2.2.1), (World.frozen?_setCell _ _ _ _).trans (h.f.2.2.2.1), (World.frozen?_setCell _ _ _ _).trans (h.f.2.2.2.2.1), (World.frozen?_setCell _ _ _ _).trans (h.f.2.2.2.2.2.1), (World.frozen?_setCell _ _ _ _).trans (h.f.2.2.2.2.2.2)⟩
theorem HoldV.set1 {w : World} {b : Nat} {v : Vr} (h : HoldV w b v) (n : Int) : HoldV (w.setCell ⟨b, 1, none⟩ (.int .i64 n)) b {v with st := n} :=
  ⟨⟨(World.cell?_setCell_other _ ⟨b, 1, none⟩ ⟨b, 0, none⟩ _ (by simp)).trans (h.c.1), World.cell?_setCell_same _ ⟨b, 1, none⟩ _ (h.c.2.1), (World.cell?_setCell_other _ ⟨b, 1, none⟩ ⟨b, 2, none⟩ _ (by simp)).trans (h.c.2.2.1), (World.cell?_setCell_other _ ⟨b, 1, none⟩ ⟨b, 3, none⟩ _ (by simp)).trans (h.c.2.2.2.1), (World.cell?_setCell_other _ ⟨b, 1, none⟩ ⟨b, 4, none⟩ _ (by simp)).trans (h.c.2.2.2.2.1), (World.cell?_setCell_other _ ⟨b, 1, none⟩ ⟨b, 5, none⟩ _ (by simp)).trans (h.c.2.2.2.2.2.1), (World.cell?_setCell_other _ ⟨b, 1, none⟩ ⟨b, 6, none⟩ _ (by simp)).trans (h.c.2.2.2.2.2.2)⟩, (World.frozen?_setCell _ _ _ _).trans (h.f.1), (World.frozen?_setCell _ _ _ _).trans (h.f.2.1), (World.frozen?_setCell _ _ _ _).trans (h.f.2.2.1), (World.frozen?_setCell _ _ _ _).trans (h.f.2.2.2.1), (World.frozen?_setCell _ _ _ _).trans (h.f.2.2.2.2.1), (World.frozen?_setCell _ _ _ _).trans (h.f.2.2.2.2.2.1), (World.frozen?_setCell _ _ _ _).trans (h.f.2.2.2.2.2.2)⟩
theorem HoldV.set2 {w : World} {b : Nat} {v : Vr} (h : HoldV w b v) (n : ByteArray) : HoldV (w.setCell ⟨b, 2, none⟩ (.string n)) b {v with ent := n} :=
  ⟨⟨(World.cell?_setCell_other _ ⟨b, 2, none⟩ ⟨b, 0, none⟩ _ (by simp)).trans (h.c.1), (World.cell?_setCell_other _ ⟨b, 2, none⟩ ⟨b, 1, none⟩ _ (by simp)).trans (h.c.2.1), World.cell?_setCell_same _ ⟨b, 2, none⟩ _ (h.c.2.2.1), (World.cell?_setCell_other _ ⟨b, 2, none⟩ ⟨b, 3, none⟩ _ (by simp)).trans (h.c.2.2.2.1), (World.cell?_setCell_other _ ⟨b, 2, none⟩ ⟨b, 4, none⟩ _ (by simp)).trans (h.c.2.2.2.2.1), (World.cell?_setCell_other _ ⟨b, 2, none⟩ ⟨b, 5, none⟩ _ (by simp)).trans (h.c.2.2.2.2.2.1), (World.cell?_setCell_other _ ⟨b, 2, none⟩ ⟨b, 6, none⟩ _ (by simp)).trans (h.c.2.2.2.2.2.2)⟩, (World.frozen?_setCell _ _ _ _).trans (h.f.1), (World.frozen?_setCell _ _ _ _).trans (h.f.2.1), (World.frozen?_setCell _ _ _ _).trans (h.f.2.2.1), (World.frozen?_setCell _ _ _ _).trans (h.f.2.2.2.1), (World.frozen?_setCell _ _ _ _).trans (h.f.2.2.2.2.1), (World.frozen?_setCell _ _ _ _).trans (h.f.2.2.2.2.2.1), (World.frozen?_setCell _ _ _ _).trans (h.f.2.2.2.2.2.2)⟩
theorem HoldV.set3 {w : World} {b : Nat} {v : Vr} (h : HoldV w b v) (n : Int) : HoldV (w.setCell ⟨b, 3, none⟩ (.int .i64 n)) b {v with sf := n} :=
  ⟨⟨(World.cell?_setCell_other _ ⟨b, 3, none⟩ ⟨b, 0, none⟩ _ (by simp)).trans (h.c.1), (World.cell?_setCell_other _ ⟨b, 3, none⟩ ⟨b, 1, none⟩ _ (by simp)).trans (h.c.2.1), (World.cell?_setCell_other _ ⟨b, 3, none⟩ ⟨b, 2, none⟩ _ (by simp)).trans (h.c.2.2.1), World.cell?_setCell_same _ ⟨b, 3, none⟩ _ (h.c.2.2.2.1), (World.cell?_setCell_other _ ⟨b, 3, none⟩ ⟨b, 4, none⟩ _ (by simp)).trans (h.c.2.2.2.2.1), (World.cell?_setCell_other _ ⟨b, 3, none⟩ ⟨b, 5, none⟩ _ (by simp)).trans (h.c.2.2.2.2.2.1), (World.cell?_setCell_other _ ⟨b, 3, none⟩ ⟨b, 6, none⟩ _ (by simp)).trans (h.c.2.2.2.2.2.2)⟩, (World.frozen?_setCell _ _ _ _).trans (h.f.1), (World.frozen?_setCell _ _ _ _).trans (h.f.2.1), (World.frozen?_setCell _ _ _ _).trans (h.f.2.2.1), (World.frozen?_setCell _ _ _ _).trans (h.f.2.2.2.1), (World.frozen?_setCell _ _ _ _).trans (h.f.2.2.2.2.1), (World.frozen?_setCell _ _ _ _).trans (h.f.2.2.2.2.2.1), (World.frozen?_setCell _ _ _ _).trans (h.f.2.2.2.2.2.2)⟩
theorem HoldV.set4 {w : World} {b : Nat} {v : Vr} (h : HoldV w b v) (n : Int) : HoldV (w.setCell ⟨b, 4, none⟩ (.int .i64 n)) b {v with se := n} :=
  ⟨⟨(World.cell?_setCell_other _ ⟨b, 4, none⟩ ⟨b, 0, none⟩ _ (by simp)).trans (h.c.1), (World.cell?_setCell_other _ ⟨b, 4, none⟩ ⟨b, 1, none⟩ _ (by simp)).trans (h.c.2.1), (World.cell?_setCell_other _ ⟨b, 4, none⟩ ⟨b, 2, none⟩ _ (by simp)).trans (h.c.2.2.1), (World.cell?_setCell_other _ ⟨b, 4, none⟩ ⟨b, 3, none⟩ _ (by simp)).trans (h.c.2.2.2.1), World.cell?_setCell_same _ ⟨b, 4, none⟩ _ (h.c.2.2.2.2.1), (World.cell?_setCell_other _ ⟨b, 4, none⟩ ⟨b, 5, none⟩ _ (by simp)).trans (h.c.2.2.2.2.2.1), (World.cell?_setCell_other _ ⟨b, 4, none⟩ ⟨b, 6, none⟩ _ (by simp)).trans (h.c.2.2.2.2.2.2)⟩, (World.frozen?_setCell _ _ _ _).trans (h.f.1), (World.frozen?_setCell _ _ _ _).trans (h.f.2.1), (World.frozen?_setCell _ _ _ _).trans (h.f.2.2.1), (World.frozen?_setCell _ _ _ _).trans (h.f.2.2.2.1), (World.frozen?_setCell _ _ _ _).trans (h.f.2.2.2.2.1), (World.frozen?_setCell _ _ _ _).trans (h.f.2.2.2.2.2.1), (World.frozen?_setCell _ _ _ _).trans (h.f.2.2.2.2.2.2)⟩
theorem HoldV.set6 {w : World} {b : Nat} {v : Vr} (h : HoldV w b v) (n : Bool) : HoldV (w.setCell ⟨b, 6, none⟩ (.bool n)) b {v with gone := n} :=
  ⟨⟨(World.cell?_setCell_other _ ⟨b, 6, none⟩ ⟨b, 0, none⟩ _ (by simp)).trans (h.c.1), (World.cell?_setCell_other _ ⟨b, 6, none⟩ ⟨b, 1, none⟩ _ (by simp)).trans (h.c.2.1), (World.cell?_setCell_other _ ⟨b, 6, none⟩ ⟨b, 2, none⟩ _ (by simp)).trans (h.c.2.2.1), (World.cell?_setCell_other _ ⟨b, 6, none⟩ ⟨b, 3, none⟩ _ (by simp)).trans (h.c.2.2.2.1), (World.cell?_setCell_other _ ⟨b, 6, none⟩ ⟨b, 4, none⟩ _ (by simp)).trans (h.c.2.2.2.2.1), (World.cell?_setCell_other _ ⟨b, 6, none⟩ ⟨b, 5, none⟩ _ (by simp)).trans (h.c.2.2.2.2.2.1), World.cell?_setCell_same _ ⟨b, 6, none⟩ _ (h.c.2.2.2.2.2.2)⟩, (World.frozen?_setCell _ _ _ _).trans (h.f.1), (World.frozen?_setCell _ _ _ _).trans (h.f.2.1), (World.frozen?_setCell _ _ _ _).trans (h.f.2.2.1), (World.frozen?_setCell _ _ _ _).trans (h.f.2.2.2.1), (World.frozen?_setCell _ _ _ _).trans (h.f.2.2.2.2.1), (World.frozen?_setCell _ _ _ _).trans (h.f.2.2.2.2.2.1), (World.frozen?_setCell _ _ _ _).trans (h.f.2.2.2.2.2.2)⟩
theorem HoldV.set5 {w : World} {b : Nat} {v : Vr} (h : HoldV w b v) (A : Option Addr) (c : Nat) (l : List Fd) : HoldV (w.setCell ⟨b, 5, none⟩ (.slice A l.length c)) b {v with fa := A, fc := c, fs := l} :=
  ⟨⟨(World.cell?_setCell_other _ ⟨b, 5, none⟩ ⟨b, 0, none⟩ _ (by simp)).trans (h.c.1), (World.cell?_setCell_other _ ⟨b, 5, none⟩ ⟨b, 1, none⟩ _ (by simp)).trans (h.c.2.1), (World.cell?_setCell_other _ ⟨b, 5, none⟩ ⟨b, 2, none⟩ _ (by simp)).trans (h.c.2.2.1), (World.cell?_setCell_other _ ⟨b, 5, none⟩ ⟨b, 3, none⟩ _ (by simp)).trans (h.c.2.2.2.1), (World.cell?_setCell_other _ ⟨b, 5, none⟩ ⟨b, 4, none⟩ _ (by simp)).trans (h.c.2.2.2.2.1), World.cell?_setCell_same _ ⟨b, 5, none⟩ _ (h.c.2.2.2.2.2.1), (World.cell?_setCell_other _ ⟨b, 5, none⟩ ⟨b, 6, none⟩ _ (by simp)).trans (h.c.2.2.2.2.2.2)⟩, (World.frozen?_setCell _ _ _ _).trans (h.f.1), (World.frozen?_setCell _ _ _ _).trans (h.f.2.1), (World.frozen?_setCell _ _ _ _).trans (h.f.2.2.1), (World.frozen?_setCell _ _ _ _).trans (h.f.2.2.2.1), (World.frozen?_setCell _ _ _ _).trans (h.f.2.2.2.2.1), (World.frozen?_setCell _ _ _ _).trans (h.f.2.2.2.2.2.1), (World.frozen?_setCell _ _ _ _).trans (h.f.2.2.2.2.2.2)⟩
theorem HoldV.other {w : World} {b : Nat} {v : Vr} (h : HoldV w b v) {c o : Nat} (hne : b ≠ c) (u : Value) : HoldV (w.setCell ⟨c, o, none⟩ u) b v :=
  ⟨⟨(World.cell?_setCell_other _ ⟨c, o, none⟩ ⟨b, 0, none⟩ _ (fun e => hne (by injection e with e1 e2; exact e1.symm))).trans (h.c.1), (World.cell?_setCell_other _ ⟨c, o, none⟩ ⟨b, 1, none⟩ _ (fun e => hne (by injection e with e1 e2; exact e1.symm))).trans (h.c.2.1), (World.cell?_setCell_other _ ⟨c, o, none⟩ ⟨b, 2, none⟩ _ (fun e => hne (by injection e with e1 e2; exact e1.symm))).trans (h.c.2.2.1), (World.cell?_setCell_other _ ⟨c, o, none⟩ ⟨b, 3, none⟩ _ (fun e => hne (by injection e with e1 e2; exact e1.symm))).trans (h.c.2.2.2.1), (World.cell?_setCell_other _ ⟨c, o, none⟩ ⟨b, 4, none⟩ _ (fun e => hne (by injection e with e1 e2; exact e1.symm))).trans (h.c.2.2.2.2.1), (World.cell?_setCell_other _ ⟨c, o, none⟩ ⟨b, 5, none⟩ _ (fun e => hne (by injection e with e1 e2; exact e1.symm))).trans (h.c.2.2.2.2.2.1), (World.cell?_setCell_other _ ⟨c, o, none⟩ ⟨b, 6, none⟩ _ (fun e => hne (by injection e with e1 e2; exact e1.symm))).trans (h.c.2.2.2.2.2.2)⟩, (World.frozen?_setCell _ _ _ _).trans (h.f.1), (World.frozen?_setCell _ _ _ _).trans (h.f.2.1), (World.frozen?_setCell _ _ _ _).trans (h.f.2.2.1), (World.frozen?_setCell _ _ _ _).trans (h.f.2.2.2.1), (World.frozen?_setCell _ _ _ _).trans (h.f.2.2.2.2.1), (World.frozen?_setCell _ _ _ _).trans (h.f.2.2.2.2.2.1), (World.frozen?_setCell _ _ _ _).trans (h.f.2.2.2.2.2.2)⟩

end Go.Proofs.YtmieonfdenjedaaDoor

/-
  Plain facts on the bytes of fields: what is put is taken, and what is taken is put as the same bytes.
-/
namespace Go.Proofs.YtmieonfdenjedaaDoor

theorem zig_range {v : Int} (h : valB v = true) : 0 ≤ zig v ∧ zig v ≤ 4611686018427387903 := by
  unfold valB at h
  simp only [Bool.and_eq_true, decide_eq_true_eq] at h
  unfold zig
  split <;> omega
theorem intS_enc {v : Int} (h : valB v = true) : intS v = encS (zig v).toNat := by
  have h2 := zig_range h
  unfold valB at h
  simp only [Bool.and_eq_true, decide_eq_true_eq] at h
  rw [(int_ok h rfl).1]
  obtain ⟨m, hm⟩ : ∃ m : Nat, zig v = (m : Int) := ⟨(zig v).toNat, by omega⟩
  rw [hm, (num_ok (n := m) (by omega)).1, Int.toNat_natCast]
theorem unzig_zig {v : Int} : unzig (zig v).toNat = v := by
  unfold zig unzig
  by_cases h : v < 0
  · rw [if_pos h, if_pos (by omega)]; omega
  · rw [if_neg h, if_neg (by omega)]; omega
theorem zig_unzig (n : Nat) : zig (unzig n) = (n : Int) := by
  unfold zig unzig
  by_cases h : n % 2 = 1
  · rw [if_pos h, if_pos (by omega)]; omega
  · rw [if_neg h, if_neg (by omega)]; omega
theorem valB_unzig {n : Nat} (h : n < 4611686018427387904) : valB (unzig n) = true := by
  unfold valB unzig
  simp only [Bool.and_eq_true, decide_eq_true_eq]
  split <;> omega
theorem int_takenF {v : Int} (h : valB v = true) (b : ByteArray) : unzig (tkN (intS v ++ b)) = v ∧ tkR (intS v ++ b) = b ∧ tkE (intS v ++ b) = 0 := by
  have h2 := zig_range h
  rw [intS_enc h]
  obtain ⟨k1, k2, k3⟩ := tk_enc (n := (zig v).toNat) (by omega) b
  exact ⟨by rw [k1, unzig_zig], k2, k3⟩
theorem int_againF {s : ByteArray} (h : tkE s = 0) : intS (unzig (tkN s)) ++ tkR s = s := by
  rw [intS_enc (valB_unzig (tkN_lt s)), zig_unzig, Int.toNat_natCast]
  exact tk_again h

/-- The bytes of a field, of fields. -/
def oneS (f : Fd) : ByteArray := textS f.n ++ intS f.v
def manyS : List Fd → ByteArray
  | [] => ⟨#[]⟩
  | f :: l => oneS f ++ manyS l
theorem empty_append (s : ByteArray) : (⟨#[]⟩ : ByteArray) ++ s = s := by
  apply nats_inj
  rw [nats_append]; rfl
theorem append_empty (s : ByteArray) : s ++ (⟨#[]⟩ : ByteArray) = s := by
  apply nats_inj
  rw [nats_append, nats_nil, List.append_nil]
theorem manyS_append : ∀ l m : List Fd, manyS (l ++ m) = manyS l ++ manyS m
  | [], m => by rw [List.nil_append, manyS, empty_append]
  | f :: l, m => by rw [List.cons_append, manyS, manyS, manyS_append l m, ByteArray.append_assoc]
/-- What Put answers. -/
def putS (l : List Fd) : ByteArray := if rightE l = 0 then encS l.length ++ manyS l else ⟨#[]⟩
/-- Is a name one, and behind the one ahead? -/
def behindB : Option ByteArray → ByteArray → Bool
  | none, s => nameB s
  | some p, s => nameB s && aheadB p s
/-- The fields that s begins with, behind a name. -/
def takeG : Nat → Option ByteArray → ByteArray → List Fd × ByteArray × Nat
  | 0, _, s => ([], s, 0)
  | n + 1, o, s =>
    if ttE s 12 ≠ 0 then ([], ⟨#[]⟩, ttE s 12)
    else if behindB o (ttS s 12) = false then ([], ⟨#[]⟩, 8)
    else if tkE (ttR s 12) ≠ 0 then ([], ⟨#[]⟩, tkE (ttR s 12))
    else if (takeG n (some (ttS s 12)) (tkR (ttR s 12))).2.2 ≠ 0 then ([], ⟨#[]⟩, (takeG n (some (ttS s 12)) (tkR (ttR s 12))).2.2)
    else (⟨ttS s 12, unzig (tkN (ttR s 12))⟩ :: (takeG n (some (ttS s 12)) (tkR (ttR s 12))).1, (takeG n (some (ttS s 12)) (tkR (ttR s 12))).2.1, 0)
def takeF (s : ByteArray) : List Fd × ByteArray × Nat :=
  if tkE s ≠ 0 then ([], ⟨#[]⟩, tkE s) else if 8 < tkN s then ([], ⟨#[]⟩, 4) else takeG (tkN s) none (tkR s)
/-- What is behind fields that have been taken. -/
def goOn (acc : List Fd) (t : List Fd × ByteArray × Nat) : List Fd × ByteArray × Nat := if t.2.2 ≠ 0 then ([], ⟨#[]⟩, t.2.2) else (acc ++ t.1, t.2.1, 0)
theorem takeG_err {n : Nat} {o : Option ByteArray} {s : ByteArray} (h : (takeG n o s).2.2 ≠ 0) : takeG n o s = ([], ⟨#[]⟩, (takeG n o s).2.2) := by
  cases n with
  | zero => exact absurd rfl h
  | succ n =>
    rw [takeG] at h ⊢
    by_cases h1 : ttE s 12 ≠ 0
    · rw [if_pos h1]
    · rw [if_neg h1] at h ⊢
      by_cases h2 : behindB o (ttS s 12) = false
      · rw [if_pos h2]
      · rw [if_neg h2] at h ⊢
        by_cases h3 : tkE (ttR s 12) ≠ 0
        · rw [if_pos h3]
        · rw [if_neg h3] at h ⊢
          by_cases h4 : (takeG n (some (ttS s 12)) (tkR (ttR s 12))).2.2 ≠ 0
          · rw [if_pos h4]
          · rw [if_neg h4] at h
            exact absurd rfl h
theorem goOn_start (t : List Fd × ByteArray × Nat) (h : t.2.2 ≠ 0 → t = ([], ⟨#[]⟩, t.2.2)) : goOn [] t = t := by
  unfold goOn
  by_cases h1 : t.2.2 ≠ 0
  · rw [if_pos h1]; exact (h h1).symm
  · rw [if_neg h1]
    have : t.2.2 = 0 := by omega
    rw [List.nil_append]
    obtain ⟨a, b, c⟩ := t
    obtain rfl : c = 0 := this
    rfl
theorem goOn_text {acc : List Fd} {n : Nat} {o : Option ByteArray} {s : ByteArray} (h : ttE s 12 ≠ 0) : goOn acc (takeG (n + 1) o s) = ([], ⟨#[]⟩, ttE s 12) := by
  rw [takeG, if_pos h, goOn, if_pos h]
theorem goOn_form {acc : List Fd} {n : Nat} {o : Option ByteArray} {s : ByteArray} (h : ttE s 12 = 0) (h2 : behindB o (ttS s 12) = false) : goOn acc (takeG (n + 1) o s) = ([], ⟨#[]⟩, 8) := by
  rw [takeG, if_neg (by omega), if_pos h2, goOn, if_pos (by decide)]
theorem goOn_int {acc : List Fd} {n : Nat} {o : Option ByteArray} {s : ByteArray} (h : ttE s 12 = 0) (h2 : behindB o (ttS s 12) = true) (h3 : tkE (ttR s 12) ≠ 0) : goOn acc (takeG (n + 1) o s) = ([], ⟨#[]⟩, tkE (ttR s 12)) := by
  rw [takeG, if_neg (by omega), if_neg (by rw [h2]; simp), if_pos h3, goOn, if_pos h3]
theorem goOn_next {acc : List Fd} {n : Nat} {o : Option ByteArray} {s : ByteArray} (h : ttE s 12 = 0) (h2 : behindB o (ttS s 12) = true) (h3 : tkE (ttR s 12) = 0) :
    goOn acc (takeG (n + 1) o s) = goOn (acc ++ [⟨ttS s 12, unzig (tkN (ttR s 12))⟩]) (takeG n (some (ttS s 12)) (tkR (ttR s 12))) := by
  rw [takeG, if_neg (by omega), if_neg (by rw [h2]; simp), if_neg (by omega)]
  by_cases h4 : (takeG n (some (ttS s 12)) (tkR (ttR s 12))).2.2 ≠ 0
  · rw [if_pos h4, goOn, if_pos h4, goOn, if_pos h4]
  · rw [if_neg h4, goOn, if_neg (by simp), goOn, if_neg h4, List.append_assoc]
    rfl
theorem goOn_end (acc : List Fd) (o : Option ByteArray) (s : ByteArray) : goOn acc (takeG 0 o s) = (acc, s, 0) := by
  rw [takeG, goOn, if_neg (by simp), List.append_nil]

theorem behind_right {o : Option ByteArray} {f : Fd} {l : List Fd} : rightG o (f :: l) = 0 ↔ behindB o f.n = true ∧ valB f.v = true ∧ rightG (some f.n) l = 0 := by
  have e1 : oneE f = 0 ↔ nameB f.n = true ∧ valB f.v = true := by
    unfold oneE
    cases nameB f.n <;> cases valB f.v <;> simp
  cases o with
  | none =>
    rw [rightG_none, behindB]
    by_cases h : oneE f = 0
    · rw [if_pos h]
      have := e1.1 h
      simp [this]
    · rw [if_neg h]
      constructor
      · intro h2; exact absurd h2 h
      · intro h2; exact absurd (e1.2 ⟨h2.1, h2.2.1⟩) h
  | some p =>
    rw [rightG_some, behindB]
    by_cases h : oneE f = 0
    · rw [if_pos h]
      have := e1.1 h
      cases ha : aheadB p f.n <;> simp [this]
    · rw [if_neg h]
      constructor
      · intro h2; exact absurd h2 h
      · intro h2
        rw [Bool.and_eq_true] at h2
        exact absurd (e1.2 ⟨h2.1.1, h2.2.1⟩) h
theorem behind_name {o : Option ByteArray} {s : ByteArray} (h : behindB o s = true) : nameB s = true := by
  cases o with
  | none => exact h
  | some p => rw [behindB, Bool.and_eq_true] at h; exact h.1
theorem name_size {s : ByteArray} (h : nameB s = true) : s.size ≤ 12 := by
  unfold nameB at h
  rw [nameL_pre] at h
  simp only [Bool.and_eq_true, decide_eq_true_eq] at h
  rw [← nats_length]
  exact h.2.2
/-- What is put is taken. -/
theorem take_put : ∀ (l : List Fd) (o : Option ByteArray) (b : ByteArray), rightG o l = 0 → takeG l.length o (manyS l ++ b) = (l, b, 0)
  | [], _, b, _ => by rw [manyS, empty_append]; rfl
  | f :: l, o, b, h => by
    obtain ⟨h1, h2, h3⟩ := behind_right.1 h
    have hz := name_size (behind_name h1)
    have e : manyS (f :: l) ++ b = textS f.n ++ (intS f.v ++ (manyS l ++ b)) := by rw [manyS, oneS, ByteArray.append_assoc, ByteArray.append_assoc]
    obtain ⟨t1, t2, t3⟩ := tt_text (s := f.n) (b := intS f.v ++ (manyS l ++ b)) (most := 12) (by omega) (by omega)
    obtain ⟨i1, i2, i3⟩ := int_takenF h2 (manyS l ++ b)
    have ih := take_put l (some f.n) b h3
    rw [List.length_cons, e, takeG, t1, t2, t3, i1, i2, i3, ih]
    simp [h1]
/-- What is taken is put as the same bytes. -/
theorem put_take : ∀ (n : Nat) (o : Option ByteArray) (s : ByteArray), (takeG n o s).2.2 = 0 → (takeG n o s).1.length = n ∧ rightG o (takeG n o s).1 = 0 ∧ manyS (takeG n o s).1 ++ (takeG n o s).2.1 = s
  | 0, o, s, _ => by
    refine ⟨rfl, ?_, ?_⟩
    · cases o <;> rfl
    · show manyS [] ++ s = s
      rw [manyS, empty_append]
  | n + 1, o, s, h => by
    rw [takeG] at h ⊢
    by_cases h1 : ttE s 12 ≠ 0
    · rw [if_pos h1] at h; exact absurd h h1
    · rw [if_neg h1] at h ⊢
      by_cases h2 : behindB o (ttS s 12) = false
      · rw [if_pos h2] at h; cases h
      · rw [if_neg h2] at h ⊢
        by_cases h3 : tkE (ttR s 12) ≠ 0
        · rw [if_pos h3] at h; exact absurd h h3
        · rw [if_neg h3] at h ⊢
          by_cases h4 : (takeG n (some (ttS s 12)) (tkR (ttR s 12))).2.2 ≠ 0
          · rw [if_pos h4] at h; exact absurd h h4
          · rw [if_neg h4]
            obtain ⟨k1, k2, k3⟩ := put_take n (some (ttS s 12)) (tkR (ttR s 12)) (by omega)
            have hb : behindB o (ttS s 12) = true := by
              cases hh : behindB o (ttS s 12)
              · exact absurd hh h2
              · rfl
            refine ⟨by rw [List.length_cons, k1], behind_right.2 ⟨hb, valB_unzig (tkN_lt _), k2⟩, ?_⟩
            rw [manyS, oneS, ByteArray.append_assoc, ByteArray.append_assoc, k3, int_againF (by omega), tt_again (by omega)]
theorem takeF_put {l : List Fd} (h : rightE l = 0) (b : ByteArray) : takeF (putS l ++ b) = (l, b, 0) := by
  have hr : rightG none l = 0 ∧ l.length ≤ 8 := by
    unfold rightE at h
    by_cases h8 : 8 < l.length
    · rw [if_pos h8] at h; cases h
    · rw [if_neg h8] at h; exact ⟨h, by omega⟩
  unfold putS
  rw [if_pos h, ByteArray.append_assoc]
  obtain ⟨k1, k2, k3⟩ := tk_enc (n := l.length) (by omega) (manyS l ++ b)
  unfold takeF
  rw [k1, k2, k3, if_neg (by simp), if_neg (by omega), take_put l none b hr.1]
theorem putF_take {s : ByteArray} (h : (takeF s).2.2 = 0) : rightE (takeF s).1 = 0 ∧ putS (takeF s).1 ++ (takeF s).2.1 = s := by
  unfold takeF at h ⊢
  by_cases h1 : tkE s ≠ 0
  · rw [if_pos h1] at h; exact absurd h h1
  · rw [if_neg h1] at h ⊢
    by_cases h2 : 8 < tkN s
    · rw [if_pos h2] at h; cases h
    · rw [if_neg h2] at h ⊢
      obtain ⟨k1, k2, k3⟩ := put_take _ _ _ h
      have hr : rightE (takeG (tkN s) none (tkR s)).1 = 0 := by
        unfold rightE
        rw [k1, if_neg h2, k2]
      refine ⟨hr, ?_⟩
      unfold putS
      rw [if_pos hr, k1, ByteArray.append_assoc, k3]
      exact tk_again (by omega)

end Go.Proofs.YtmieonfdenjedaaDoor

/-
  The document's Of, Covers and At of versions.
-/
namespace Go.Proofs.YtmieonfdenjedaaDoor
open Go.RowKit

/-- Few enough versions, of few enough fields. -/
def fewV (l : List Vr) : Prop := l.length ≤ 200 ∧ ∀ v ∈ l, v.fs.length ≤ 100
theorem flat_leV {L : List (List Fd)} {m : Nat} (h : ∀ l ∈ L, l.length ≤ m) : L.flatten.length ≤ L.length * m := by
  induction L with
  | nil => simp
  | cons a L ih =>
    rw [List.flatten_cons, List.length_append, List.length_cons, Nat.add_mul, Nat.one_mul]
    have h1 := h a List.mem_cons_self
    have h2 := ih fun l hl => h l (List.mem_cons_of_mem _ hl)
    omega
theorem counts_mem {l : List Vr} {fs : List Fd} (h : fs ∈ countsV l) : ∃ v ∈ l, v.fs = fs := by
  unfold countsV at h
  obtain ⟨v, hv, rfl⟩ := List.mem_map.1 h
  exact ⟨v, (ordL_perm l).mem_iff.1 (List.mem_filter.1 hv).1, rfl⟩
theorem counts_few {l : List Vr} (h : fewV l) : (countsV l).length ≤ 200 ∧ (countsV l).flatten.length ≤ 20000 ∧ ∀ fs ∈ countsV l, fs.length ≤ 100 := by
  have h1 : (countsV l).length ≤ 200 := by
    unfold countsV
    rw [List.length_map]
    have := List.length_filter_le (fun v : Vr => !v.gone) (ordL l)
    rw [ordL_length] at this
    have := h.1
    omega
  have h2 : ∀ fs ∈ countsV l, fs.length ≤ 100 := fun fs hf => by
    obtain ⟨v, hv, rfl⟩ := counts_mem hf
    exact h.2 v hv
  have h3 := flat_leV h2
  have : (countsV l).length * 100 ≤ 200 * 100 := Nat.mul_le_mul_right 100 h1
  exact ⟨h1, by omega, h2⟩
/-- Lists of fields as their values' parts. -/
def slOf (v : Vr) : Sl := ⟨v.fa, v.fs.length, v.fc⟩
end Go.Proofs.YtmieonfdenjedaaDoor

/-
  The document's Covers and At of versions.
-/
namespace Go.Proofs.YtmieonfdenjedaaDoor
open Go.RowKit

def rightS (f t : Int) : Bool := decide (-1099511627776 ≤ f) && decide (t ≤ 1099511627776) && decide (f < t)
def hasS (f t x : Int) : Bool := decide (f ≤ x) && decide (x < t)
theorem coversB_eq (v : Vr) (t : Int) : coversB v t = (!v.gone && rightS v.sf v.se && hasS v.sf v.se t) := rfl

set_option maxHeartbeats 1000000 in
theorem dright01_any (f t : Int) (w : World) : Ret 33 #[.agg #[.int .i64 f, .int .i64 t]] w (.bool (rightS f t)) := by
  by_cases h1 : -1099511627776 ≤ f
  · by_cases h2 : t ≤ 1099511627776
    · by_cases h3 : f < t
      · have HE := Lib.hid (show rightS f t = true by simp [rightS, h1, h2, h3])
        go_enter Tryd.func33, Tryd.ntmps33
        go_wp2_with fail
        go_ret
        exact ⟨ret_bool HE.out.symm, (bl w).alloc (Nat.le_refl _) _⟩
      · have HE := Lib.hid (show rightS f t = false by simp [rightS, h3])
        go_enter Tryd.func33, Tryd.ntmps33
        go_wp2_with fail
        go_ret
        exact ⟨ret_bool HE.out.symm, (bl w).alloc (Nat.le_refl _) _⟩
    · have HE := Lib.hid (show rightS f t = false by simp [rightS, h2])
      go_enter Tryd.func33, Tryd.ntmps33
      go_wp2_with fail
      go_ret
      exact ⟨ret_bool HE.out.symm, (bl w).alloc (Nat.le_refl _) _⟩
  · have HE := Lib.hid (show rightS f t = false by simp [rightS, h1])
    go_enter Tryd.func33, Tryd.ntmps33
    go_wp2_with fail
    go_ret
    exact ⟨ret_bool HE.out.symm, (bl w).alloc (Nat.le_refl _) _⟩
theorem few_filter {l : List Vr} (p : Vr → Bool) (h : fewV l) : fewV (l.filter p) := ⟨by have := List.length_filter_le p l; have := h.1; omega, fun v hv => h.2 v (List.mem_filter.1 hv).1⟩

end Go.Proofs.YtmieonfdenjedaaDoor

/-
  Plain facts on versions and rows as bytes: what may be recorded, what is put is taken.
-/
namespace Go.Proofs.YtmieonfdenjedaaDoor

/-- What is wrong with an entity, a version, a row. -/
def entE (s : ByteArray) : Nat := if s.size = 0 then 2 else if 24 < s.size then 4 else 0
def rightV (v : Vr) : Nat :=
  if v.st < 1 ∨ 1099511627775 < v.st ∨ v.id < 1 ∨ v.st < v.id then 2
  else if entE v.ent ≠ 0 then entE v.ent
  else if v.gone then (if v.id = v.st ∨ 0 < v.fs.length ∨ v.sf ≠ 0 ∨ v.se ≠ 0 then 8 else 0)
  else if rightS v.sf v.se then rightE v.fs else 3
structure Rw where
  v : Vr
  un : Int
def rightR (r : Rw) : Nat := if rightV r.v ≠ 0 then rightV r.v else if r.un ≠ 4611686018427387904 ∧ (r.un ≤ r.v.st ∨ 1099511627775 < r.un) then 2 else 0
def liveB (r : Rw) (x : Int) : Bool := decide (r.v.st ≤ x) && decide (x < r.un) && !r.v.gone
/-- Which of two versions is ahead. -/
def cmpV (a b : Vr) : Int :=
  if lessN (nats a.ent) (nats b.ent) then -1
  else if nats a.ent = nats b.ent then (if a.sf < b.sf then -1 else if a.sf = b.sf then (if a.st < b.st then -1 else if a.st = b.st then 0 else 1) else 1)
  else 1
theorem cmpV_back (a b : Vr) : cmpV b a = 0 - cmpV a b := by
  unfold cmpV
  rcases lessN_or (nats a.ent) (nats b.ent) with h | h | h
  · have h2 : lessN (nats b.ent) (nats a.ent) = false := by
      cases hh : lessN (nats b.ent) (nats a.ent)
      · rfl
      · have := lessN_trans _ _ _ h hh; rw [lessN_self] at this; cases this
    have h3 : nats b.ent ≠ nats a.ent := fun e => by rw [e, lessN_self] at h; cases h
    rw [if_neg (by rw [h2]; simp), if_neg h3, if_pos h]; rfl
  · have h2 : lessN (nats a.ent) (nats b.ent) = false := by
      cases hh : lessN (nats a.ent) (nats b.ent)
      · rfl
      · have := lessN_trans _ _ _ h hh; rw [lessN_self] at this; cases this
    have h3 : nats a.ent ≠ nats b.ent := fun e => by rw [e, lessN_self] at h; cases h
    rw [if_pos h, if_neg (by rw [h2]; simp), if_neg h3]; rfl
  · rw [h, lessN_self]
    simp only [Bool.false_eq_true, if_false, if_true]
    (repeat' split) <;> omega

/-- The bytes of a version that may be. -/
def bodyV (v : Vr) : ByteArray := if v.gone then encS 1 else encS 0 ++ intS v.sf ++ encS (v.se - v.sf).toNat ++ putS v.fs
def bytesV (v : Vr) : ByteArray := encS v.id.toNat ++ encS v.st.toNat ++ textS v.ent ++ bodyV v
def putV (v : Vr) : ByteArray := if rightV v = 0 then bytesV v else ⟨#[]⟩
/-- A version without the place of its fields; none. -/
def contV (v : Vr) : Vr := ⟨v.id, v.st, v.ent, v.sf, v.se, none, 0, v.fs, v.gone⟩
def noV : Vr := ⟨0, 0, ⟨#[]⟩, 0, 0, none, 0, [], false⟩
abbrev TV := Vr × ByteArray × Nat
def badV (e : Nat) : TV := (noV, ⟨#[]⟩, e)
def endV (v : Vr) (r : ByteArray) : TV := if rightV v = 0 then (v, r, 0) else badV 8
def restV (id st : Int) (ent : ByteArray) (s : ByteArray) : TV :=
  if tkE s ≠ 0 then badV (tkE s)
  else if tkE (tkR s) ≠ 0 then badV (tkE (tkR s))
  else if (takeF (tkR (tkR s))).2.2 ≠ 0 then badV (takeF (tkR (tkR s))).2.2
  else endV ⟨id, st, ent, unzig (tkN s), unzig (tkN s) + (tkN (tkR s) : Int), none, 0, (takeF (tkR (tkR s))).1, false⟩ (takeF (tkR (tkR s))).2.1
def goneV (id st : Int) (ent : ByteArray) (s : ByteArray) : TV :=
  if tkE s ≠ 0 then badV (tkE s)
  else if 1 < tkN s then badV 8
  else if tkN s = 1 then endV ⟨id, st, ent, 0, 0, none, 0, [], true⟩ (tkR s)
  else restV id st ent (tkR s)
def entV (id st : Int) (s : ByteArray) : TV := if ttE s 24 ≠ 0 then badV (ttE s 24) else goneV id st (ttS s 24) (ttR s 24)
def takeVs (s : ByteArray) : TV :=
  if tkE s ≠ 0 then badV (tkE s) else if tkE (tkR s) ≠ 0 then badV (tkE (tkR s)) else entV (tkN s) (tkN (tkR s)) (tkR (tkR s))

theorem right_stamps {v : Vr} (h : rightV v = 0) : 1 ≤ v.st ∧ v.st ≤ 1099511627775 ∧ 1 ≤ v.id ∧ v.id ≤ v.st ∧ entE v.ent = 0 := by
  unfold rightV at h
  by_cases h1 : v.st < 1 ∨ 1099511627775 < v.st ∨ v.id < 1 ∨ v.st < v.id
  · rw [if_pos h1] at h; cases h
  · rw [if_neg h1] at h
    by_cases h2 : entE v.ent ≠ 0
    · rw [if_pos h2] at h; exact absurd h h2
    · exact ⟨by omega, by omega, by omega, by omega, by omega⟩
theorem right_gone {v : Vr} (h : rightV v = 0) (hg : v.gone = true) : v.fs = [] ∧ v.sf = 0 ∧ v.se = 0 := by
  have hs := right_stamps h
  unfold rightV at h
  rw [if_neg (by omega), if_neg (by omega), if_pos hg] at h
  by_cases h1 : v.id = v.st ∨ 0 < v.fs.length ∨ v.sf ≠ 0 ∨ v.se ≠ 0
  · rw [if_pos h1] at h; cases h
  · exact ⟨List.eq_nil_of_length_eq_zero (by omega), by omega, by omega⟩
theorem right_here {v : Vr} (h : rightV v = 0) (hg : v.gone = false) : rightS v.sf v.se = true ∧ rightE v.fs = 0 := by
  have hs := right_stamps h
  unfold rightV at h
  rw [if_neg (by omega), if_neg (by omega), if_neg (by rw [hg]; simp)] at h
  cases hr : rightS v.sf v.se with
  | false => rw [hr] at h; cases h
  | true => rw [hr] at h; exact ⟨rfl, h⟩
theorem span_bounds {f t : Int} (h : rightS f t = true) : -1099511627776 ≤ f ∧ t ≤ 1099511627776 ∧ f < t := by
  unfold rightS at h
  simp only [Bool.and_eq_true, decide_eq_true_eq] at h
  exact ⟨h.1.1, h.1.2, h.2⟩
theorem right_cont (v : Vr) : rightV (contV v) = rightV v := rfl
/-- What is put is taken. -/
theorem takeVs_put {v : Vr} (h : rightV v = 0) (b : ByteArray) : takeVs (putV v ++ b) = (contV v, b, 0) := by
  obtain ⟨s1, s2, s3, s4, s5⟩ := right_stamps h
  have hes : v.ent.size ≤ 24 := by
    unfold entE at s5
    by_cases h1 : v.ent.size = 0
    · omega
    · rw [if_neg h1] at s5
      by_cases h2 : 24 < v.ent.size
      · rw [if_pos h2] at s5; cases s5
      · omega
  have e0 : putV v ++ b = encS v.id.toNat ++ (encS v.st.toNat ++ (textS v.ent ++ (bodyV v ++ b))) := by
    unfold putV bytesV
    rw [if_pos h]
    simp only [ByteArray.append_assoc]
  obtain ⟨a1, a2, a3⟩ := tk_enc (n := v.id.toNat) (by omega) (encS v.st.toNat ++ (textS v.ent ++ (bodyV v ++ b)))
  obtain ⟨b1, b2, b3⟩ := tk_enc (n := v.st.toNat) (by omega) (textS v.ent ++ (bodyV v ++ b))
  obtain ⟨c1, c2, c3⟩ := tt_text (s := v.ent) (b := bodyV v ++ b) (most := 24) (by omega) (by omega)
  have fin : endV (contV v) b = (contV v, b, 0) := by unfold endV; rw [right_cont, if_pos h]
  have i1 : ((v.id.toNat : Nat) : Int) = v.id := by omega
  have i2 : ((v.st.toNat : Nat) : Int) = v.st := by omega
  rw [e0, takeVs, a1, a2, a3, b1, b2, b3, if_neg (by simp), if_neg (by simp), entV, c1, c2, c3, if_neg (by simp), i1, i2]
  cases hg : v.gone with
  | true =>
    obtain ⟨g1, g2, g3⟩ := right_gone h hg
    have eb : bodyV v = encS 1 := by unfold bodyV; rw [if_pos hg]
    obtain ⟨d1, d2, d3⟩ := tk_enc (n := 1) (by omega) b
    rw [eb, goneV, d1, d2, d3, if_neg (by simp), if_neg (by omega), if_pos rfl, ← fin]
    congr 1
    unfold contV
    rw [g1, g2, g3, hg]
  | false =>
    obtain ⟨g1, g2⟩ := right_here h hg
    obtain ⟨p1, p2, p3⟩ := span_bounds g1
    have eb : bodyV v ++ b = encS 0 ++ (intS v.sf ++ (encS (v.se - v.sf).toNat ++ (putS v.fs ++ b))) := by
      unfold bodyV
      rw [if_neg (by rw [hg]; simp)]
      simp only [ByteArray.append_assoc]
    obtain ⟨d1, d2, d3⟩ := tk_enc (n := 0) (by omega) (intS v.sf ++ (encS (v.se - v.sf).toNat ++ (putS v.fs ++ b)))
    have hv : valB v.sf = true := by unfold valB; simp only [Bool.and_eq_true, decide_eq_true_eq]; omega
    obtain ⟨q1, q2, q3⟩ := int_takenF hv (encS (v.se - v.sf).toNat ++ (putS v.fs ++ b))
    obtain ⟨r1, r2, r3⟩ := tk_enc (n := (v.se - v.sf).toNat) (by omega) (putS v.fs ++ b)
    have t1 := takeF_put g2 b
    rw [eb, goneV, d1, d2, d3, if_neg (by simp), if_neg (by omega), if_neg (by omega), restV, q1, q2, q3, r1, r2, r3, t1, if_neg (by simp), if_neg (by simp), if_neg (by simp), ← fin]
    congr 1
    unfold contV
    rw [hg, show v.sf + (((v.se - v.sf).toNat : Nat) : Int) = v.se by omega]

/-- Rows. -/
def putR (r : Rw) : ByteArray := if rightR r = 0 then putV r.v ++ encS (if r.un = 4611686018427387904 then 0 else r.un.toNat) else ⟨#[]⟩
abbrev TR := Rw × ByteArray × Nat
def noR : Rw := ⟨noV, 0⟩
def badR (e : Nat) : TR := (noR, ⟨#[]⟩, e)
def endR (r : Rw) (s : ByteArray) : TR := if rightR r = 0 then (r, s, 0) else badR 8
def untilI (n : Nat) : Int := if n = 0 then 4611686018427387904 else (n : Int)
def takeRs (s : ByteArray) : TR :=
  if (takeVs s).2.2 ≠ 0 then badR (takeVs s).2.2
  else if tkE (takeVs s).2.1 ≠ 0 then badR (tkE (takeVs s).2.1)
  else endR ⟨(takeVs s).1, untilI (tkN (takeVs s).2.1)⟩ (tkR (takeVs s).2.1)
def contR (r : Rw) : Rw := ⟨contV r.v, r.un⟩
theorem rightR_v {r : Rw} (h : rightR r = 0) : rightV r.v = 0 ∧ (r.un = 4611686018427387904 ∨ (r.v.st < r.un ∧ r.un ≤ 1099511627775)) := by
  unfold rightR at h
  by_cases h1 : rightV r.v ≠ 0
  · rw [if_pos h1] at h; exact absurd h h1
  · rw [if_neg h1] at h
    by_cases h2 : r.un ≠ 4611686018427387904 ∧ (r.un ≤ r.v.st ∨ 1099511627775 < r.un)
    · rw [if_pos h2] at h; cases h
    · exact ⟨by omega, by omega⟩
theorem takeRs_put {r : Rw} (h : rightR r = 0) (b : ByteArray) : takeRs (putR r ++ b) = (contR r, b, 0) := by
  obtain ⟨h1, h2⟩ := rightR_v h
  have hs := right_stamps h1
  have fin : endR (contR r) b = (contR r, b, 0) := by
    unfold endR
    rw [if_pos (show rightR (contR r) = 0 from h)]
  have e0 : putR r ++ b = putV r.v ++ (encS (if r.un = 4611686018427387904 then 0 else r.un.toNat) ++ b) := by
    unfold putR
    rw [if_pos h, ByteArray.append_assoc]
  have t := takeVs_put h1 (encS (if r.un = 4611686018427387904 then 0 else r.un.toNat) ++ b)
  have hn : (if r.un = 4611686018427387904 then 0 else r.un.toNat) < 4611686018427387904 := by split <;> omega
  obtain ⟨a1, a2, a3⟩ := tk_enc hn b
  rw [e0, takeRs, t]
  simp only [ne_eq, not_true_eq_false, if_false]
  rw [a1, a2, a3, if_neg (by simp), ← fin]
  congr 1
  unfold contR untilI
  congr 1
  by_cases hu : r.un = 4611686018427387904
  · rw [if_pos hu, if_pos rfl, hu]
  · rw [if_neg hu, if_neg (by omega)]; omega

end Go.Proofs.YtmieonfdenjedaaDoor

/-
  Commands: plain facts: what may be asked, as bytes, as versions.
-/
namespace Go.Proofs.YtmieonfdenjedaaDoor

structure Cm where
  k : Int
  ent : ByteArray
  tg : Int
  sf : Int
  se : Int
  fa : Option Addr
  fc : Nat
  fs : List Fd
def tgB (n : Int) : Bool := (decide (1 ≤ n) && decide (n ≤ 1099511627775)) || (decide (n ≤ -1) && decide (-8 ≤ n))
def rightC (c : Cm) : Nat :=
  if c.k < 1 ∨ 3 < c.k then 2
  else if (c.k = 1 ∧ c.tg ≠ 0) ∨ (c.k ≠ 1 ∧ c.ent.size ≠ 0) then 8
  else if c.k = 3 ∧ (c.sf ≠ 0 ∨ c.se ≠ 0 ∨ 0 < c.fs.length) then 8
  else if c.k ≠ 1 ∧ tgB c.tg = false then 2
  else if c.k = 1 ∧ entE c.ent ≠ 0 then entE c.ent
  else if c.k = 3 then 0
  else if rightS c.sf c.se then rightE c.fs else 3
/-- What a command that may be is, by its kind. -/
theorem rightC_is {c : Cm} (h : rightC c = 0) :
    (c.k = 1 ∧ c.tg = 0 ∧ entE c.ent = 0 ∧ rightS c.sf c.se = true ∧ rightE c.fs = 0) ∨
    (c.k = 2 ∧ c.ent.size = 0 ∧ tgB c.tg = true ∧ rightS c.sf c.se = true ∧ rightE c.fs = 0) ∨
    (c.k = 3 ∧ c.ent.size = 0 ∧ tgB c.tg = true ∧ c.sf = 0 ∧ c.se = 0 ∧ c.fs = []) := by
  unfold rightC at h
  by_cases h1 : c.k < 1 ∨ 3 < c.k
  · rw [if_pos h1] at h; cases h
  rw [if_neg h1] at h
  by_cases h2 : (c.k = 1 ∧ c.tg ≠ 0) ∨ (c.k ≠ 1 ∧ c.ent.size ≠ 0)
  · rw [if_pos h2] at h; cases h
  rw [if_neg h2] at h
  by_cases h3 : c.k = 3 ∧ (c.sf ≠ 0 ∨ c.se ≠ 0 ∨ 0 < c.fs.length)
  · rw [if_pos h3] at h; cases h
  rw [if_neg h3] at h
  by_cases h4 : c.k ≠ 1 ∧ tgB c.tg = false
  · rw [if_pos h4] at h; cases h
  rw [if_neg h4] at h
  by_cases h5 : c.k = 1 ∧ entE c.ent ≠ 0
  · rw [if_pos h5] at h; exact absurd h h5.2
  rw [if_neg h5] at h
  have ht : c.k ≠ 1 → tgB c.tg = true := fun hk => by
    cases hh : tgB c.tg with
    | true => rfl
    | false => exact absurd ⟨hk, hh⟩ h4
  by_cases h6 : c.k = 3
  · refine .inr (.inr ⟨h6, ?_, ht (by omega), ?_, ?_, ?_⟩)
    · have := fun e => h2 (.inr ⟨by omega, e⟩)
      omega
    · have := fun e => h3 ⟨h6, .inl e⟩
      omega
    · have := fun e => h3 ⟨h6, .inr (.inl e)⟩
      omega
    · exact List.eq_nil_of_length_eq_zero (by have := fun e => h3 ⟨h6, .inr (.inr e)⟩; omega)
  rw [if_neg h6] at h
  cases hs : rightS c.sf c.se with
  | false => rw [hs] at h; cases h
  | true =>
    rw [hs, if_pos rfl] at h
    by_cases h7 : c.k = 1
    · refine .inl ⟨h7, ?_, ?_, rfl, h⟩
      · have := fun e => h2 (.inl ⟨h7, e⟩)
        omega
      · have := fun e => h5 ⟨h7, e⟩
        omega
    · refine .inr (.inl ⟨by omega, ?_, ht h7, rfl, h⟩)
      have := fun e => h2 (.inr ⟨h7, e⟩)
      omega

/-! ### Bytes -/
def headC (c : Cm) : ByteArray := encS c.k.toNat ++ (if c.k = 1 then textS c.ent else intS c.tg)
def bodyC (c : Cm) : ByteArray := if c.k = 3 then ⟨#[]⟩ else intS c.sf ++ encS (c.se - c.sf).toNat ++ putS c.fs
def putC (c : Cm) : ByteArray := if rightC c = 0 then headC c ++ bodyC c else ⟨#[]⟩
/-- A command without the place of its fields; none. -/
def contC (c : Cm) : Cm := ⟨c.k, c.ent, c.tg, c.sf, c.se, none, 0, c.fs⟩
def noC : Cm := ⟨0, ⟨#[]⟩, 0, 0, 0, none, 0, []⟩
abbrev TC14 := Cm × ByteArray × Nat
def badC (e : Nat) : TC14 := (noC, ⟨#[]⟩, e)
def endC (c : Cm) (r : ByteArray) : TC14 := if rightC c = 0 then (c, r, 0) else badC 8
def spanC (k : Int) (ent : ByteArray) (tg : Int) (s : ByteArray) : TC14 :=
  if tkE s ≠ 0 then badC (tkE s)
  else if tkE (tkR s) ≠ 0 then badC (tkE (tkR s))
  else if (takeF (tkR (tkR s))).2.2 ≠ 0 then badC (takeF (tkR (tkR s))).2.2
  else endC ⟨k, ent, tg, unzig (tkN s), unzig (tkN s) + (tkN (tkR s) : Int), none, 0, (takeF (tkR (tkR s))).1⟩ (takeF (tkR (tkR s))).2.1
def takeCs (s : ByteArray) : TC14 :=
  if tkE s ≠ 0 then badC (tkE s)
  else if tkN s < 1 ∨ 3 < tkN s then badC 8
  else if tkN s = 1 then (if ttE (tkR s) 24 ≠ 0 then badC (ttE (tkR s) 24) else spanC 1 (ttS (tkR s) 24) 0 (ttR (tkR s) 24))
  else if tkE (tkR s) ≠ 0 then badC (tkE (tkR s))
  else if tkN s = 3 then endC ⟨3, ⟨#[]⟩, unzig (tkN (tkR s)), 0, 0, none, 0, []⟩ (tkR (tkR s))
  else spanC 2 ⟨#[]⟩ (unzig (tkN (tkR s))) (tkR (tkR s))
theorem right_contC (c : Cm) : rightC (contC c) = rightC c := rfl
theorem size0 {s : ByteArray} (h : s.size = 0) : s = ⟨#[]⟩ := nats_inj (List.eq_nil_of_length_eq_zero (by rw [nats_length]; exact h))
theorem tgB_val {n : Int} (h : tgB n = true) : valB n = true := by
  unfold tgB at h
  unfold valB
  simp only [Bool.or_eq_true, Bool.and_eq_true, decide_eq_true_eq] at h ⊢
  omega
/-- A span and fields that are put are taken. -/
theorem spanC_put {k : Int} {ent : ByteArray} {tg sf se : Int} {fs : List Fd} (hs : rightS sf se = true) (hf : rightE fs = 0) (b : ByteArray) :
    spanC k ent tg (intS sf ++ (encS (se - sf).toNat ++ (putS fs ++ b))) = endC ⟨k, ent, tg, sf, se, none, 0, fs⟩ b := by
  obtain ⟨p1, p2, p3⟩ := span_bounds hs
  have hv : valB sf = true := by unfold valB; simp only [Bool.and_eq_true, decide_eq_true_eq]; omega
  obtain ⟨q1, q2, q3⟩ := int_takenF hv (encS (se - sf).toNat ++ (putS fs ++ b))
  obtain ⟨r1, r2, r3⟩ := tk_enc (n := (se - sf).toNat) (by omega) (putS fs ++ b)
  have t1 := takeF_put hf b
  rw [spanC, q1, q2, q3, r1, r2, r3, t1, if_neg (by simp), if_neg (by simp), if_neg (by simp), show sf + (((se - sf).toNat : Nat) : Int) = se by omega]
/-- What is put is taken. -/
theorem takeCs_put {c : Cm} (h : rightC c = 0) (b : ByteArray) : takeCs (putC c ++ b) = (contC c, b, 0) := by
  have fin : endC (contC c) b = (contC c, b, 0) := by unfold endC; rw [right_contC, if_pos h]
  rw [show putC c = headC c ++ bodyC c by unfold putC; rw [if_pos h]]
  rcases rightC_is h with ⟨h1, h2, h3, h4, h5⟩ | ⟨h1, h2, h3, h4, h5⟩ | ⟨h1, h2, h3, h4, h5, h6⟩
  · have hes : c.ent.size ≤ 24 := by
      unfold entE at h3
      by_cases h1 : c.ent.size = 0
      · omega
      · rw [if_neg h1] at h3
        by_cases h2 : 24 < c.ent.size
        · rw [if_pos h2] at h3; cases h3
        · omega
    have e0 : headC c ++ bodyC c ++ b = encS 1 ++ (textS c.ent ++ (intS c.sf ++ (encS (c.se - c.sf).toNat ++ (putS c.fs ++ b)))) := by
      unfold headC bodyC
      rw [h1, if_pos rfl, if_neg (by decide)]
      simp only [ByteArray.append_assoc]
      rfl
    obtain ⟨a1, a2, a3⟩ := tk_enc (n := 1) (by omega) (textS c.ent ++ (intS c.sf ++ (encS (c.se - c.sf).toNat ++ (putS c.fs ++ b))))
    obtain ⟨c1, c2, c3⟩ := tt_text (s := c.ent) (b := intS c.sf ++ (encS (c.se - c.sf).toNat ++ (putS c.fs ++ b))) (most := 24) (by omega) (by omega)
    rw [e0, takeCs, a1, a2, a3, if_neg (by simp), if_neg (by omega), if_pos rfl, c1, c2, c3, if_neg (by simp), spanC_put h4 h5, ← fin]
    unfold contC
    rw [h1, h2]
  · have e0 : headC c ++ bodyC c ++ b = encS 2 ++ (intS c.tg ++ (intS c.sf ++ (encS (c.se - c.sf).toNat ++ (putS c.fs ++ b)))) := by
      unfold headC bodyC
      rw [h1, if_neg (by decide), if_neg (by decide)]
      simp only [ByteArray.append_assoc]
      rfl
    obtain ⟨a1, a2, a3⟩ := tk_enc (n := 2) (by omega) (intS c.tg ++ (intS c.sf ++ (encS (c.se - c.sf).toNat ++ (putS c.fs ++ b))))
    obtain ⟨q1, q2, q3⟩ := int_takenF (tgB_val h3) (intS c.sf ++ (encS (c.se - c.sf).toNat ++ (putS c.fs ++ b)))
    rw [e0, takeCs, a1, a2, a3, if_neg (by simp), if_neg (by omega), if_neg (by omega), q1, q2, q3, if_neg (by simp), if_neg (by omega), spanC_put h4 h5, ← fin]
    unfold contC
    rw [h1, size0 h2]
  · have e0 : headC c ++ bodyC c ++ b = encS 3 ++ (intS c.tg ++ b) := by
      unfold headC bodyC
      rw [h1, if_neg (by decide), if_pos rfl]
      simp only [ByteArray.append_assoc]
      rw [show (⟨#[]⟩ : ByteArray) ++ b = b from ByteArray.empty_append]
      rfl
    obtain ⟨a1, a2, a3⟩ := tk_enc (n := 3) (by omega) (intS c.tg ++ b)
    obtain ⟨q1, q2, q3⟩ := int_takenF (tgB_val h3) b
    rw [e0, takeCs, a1, a2, a3, if_neg (by simp), if_neg (by omega), if_neg (by omega), q1, q2, q3, if_neg (by simp), if_pos rfl, ← fin]
    unfold contC
    rw [h1, size0 h2, h4, h5, h6]
end Go.Proofs.YtmieonfdenjedaaDoor

/-
  The document's Entity, Right, RightRow, Live and Compare.
-/
namespace Go.Proofs.YtmieonfdenjedaaDoor
open Go.RowKit

theorem dent_any (s : ByteArray) (hs : s.size ≤ 9223372036854775807) (w : World) : Same 32 #[.string s] w (.int .i64 ((entE s : Nat) : Int)) := by
  by_cases h0 : s = ⟨#[]⟩
  · have HE := Lib.hid (show entE s = 2 by rw [h0]; rfl)
    subst h0
    go_enter Tryd.func32, Tryd.ntmps32
    go_wp2_with fail
    go_ret
    exact ⟨ret_int (by rw [HE.out]; rfl), rfl⟩
  · have hz : ¬ s.size = 0 := fun h => h0 (nats_inj (a := s) (b := ⟨#[]⟩) (List.eq_nil_of_length_eq_zero (by rw [nats_length]; exact h)))
    have he : (nats s).isEmpty = false := by
      cases h3 : nats s with
      | nil => exact absurd (nats_inj (a := s) (b := ⟨#[]⟩) h3) h0
      | cons => rfl
    have hne : s.toList.isEmpty = false := by
      rw [ByteArray.toList_eq]
      unfold nats at he
      rw [List.isEmpty_map] at he
      exact he
    by_cases h24 : 24 < s.size
    · have h24' : (24 : Int) < (s.size : Int) := by omega
      have HE := Lib.hid (show entE s = 4 by unfold entE; rw [if_neg hz, if_pos h24])
      go_enter Tryd.func32, Tryd.ntmps32
      go_wp2_with fail
      go_ret
      exact ⟨ret_int (by rw [HE.out]; rfl), rfl⟩
    · have h24' : ¬ (24 : Int) < (s.size : Int) := by omega
      have HE := Lib.hid (show entE s = 0 by unfold entE; rw [if_neg hz, if_neg h24])
      go_enter Tryd.func32, Tryd.ntmps32
      go_wp2_with fail
      go_ret
      exact ⟨ret_int (by rw [HE.out]; rfl), rfl⟩

set_option maxHeartbeats 4000000 in
set_option maxRecDepth 10000 in
theorem drightv_any (v : Vr) (w : World) (hv : VF w v) (hok : okF v.fs) (hn : v.fs.length ≤ 9223372036854775807) (hz : v.ent.size ≤ 9223372036854775807) : Ret 14 #[vv v] w (.int .i64 ((rightV v : Nat) : Int)) := by
  have CF0 := fun w' (h : Below w.heap.size w w') => dright_any w' v.fa v.fc v.fs (hv.1.below h) hok hn
  have CE := Lib.hid (fun w => dent_any v.ent hz w)
  obtain ⟨R, hR⟩ : ∃ R, rightV v = R := ⟨_, rfl⟩
  have HR : R = (if v.st < 1 ∨ 1099511627775 < v.st ∨ v.id < 1 ∨ v.st < v.id then 2
    else if entE v.ent ≠ 0 then entE v.ent
    else if v.gone then (if v.id = v.st ∨ 0 < v.fs.length ∨ v.sf ≠ 0 ∨ v.se ≠ 0 then 8 else 0)
    else if rightS v.sf v.se then rightE v.fs else 3) := hR.symm
  rw [hR]
  clear hR hv hok
  obtain ⟨id, st, ent, sf, se, fa, fc, fs, gone⟩ := v
  simp only at HR CF0 CE hn hz
  have CF := Lib.hid CF0
  have CS := Lib.hid (fun w => dright01_any sf se w)
  have HB := Lib.hid ((bl w).alloc (Nat.le_refl _) (.cells #[.int .i64 id, .int .i64 st, .string ent, .int .i64 sf, .int .i64 se, .slice fa fs.length fc, .bool gone] 32))
  clear CF0 hz
  by_cases a1 : st < 1
  · have HE := Lib.hid (show R = 2 by rw [HR, if_pos (.inl a1)])
    clear HR
    go_enter Tryd.func14, Tryd.ntmps14
    go_wp2_with fail
    go_ret
    exact ⟨ret_int (by rw [HE.out]; rfl), HB.out⟩
  by_cases a2 : 1099511627775 < st
  · have HE := Lib.hid (show R = 2 by rw [HR, if_pos (.inr (.inl a2))])
    clear HR
    go_enter Tryd.func14, Tryd.ntmps14
    go_wp2_with fail
    go_ret
    exact ⟨ret_int (by rw [HE.out]; rfl), HB.out⟩
  by_cases a3 : id < 1
  · have HE := Lib.hid (show R = 2 by rw [HR, if_pos (.inr (.inr (.inl a3)))])
    clear HR
    go_enter Tryd.func14, Tryd.ntmps14
    go_wp2_with fail
    go_ret
    exact ⟨ret_int (by rw [HE.out]; rfl), HB.out⟩
  by_cases a4 : st < id
  · have HE := Lib.hid (show R = 2 by rw [HR, if_pos (.inr (.inr (.inr a4)))])
    clear HR
    go_enter Tryd.func14, Tryd.ntmps14
    go_wp2_with fail
    go_ret
    exact ⟨ret_int (by rw [HE.out]; rfl), HB.out⟩
  rw [if_neg (by omega)] at HR
  by_cases b0 : entE ent ≠ 0
  · have HE := Lib.hid (show R = entE ent by rw [HR, if_pos b0])
    have b0' : ¬ ((entE ent : Nat) : Int) = 0 := by omega
    generalize entE ent = z at *
    clear HR b0
    go_enter Tryd.func14, Tryd.ntmps14
    go_wp2_with (go_at_call 32; (with_reducible refine (CE.out _).mono ?_); rintro e w2 ⟨rfl, rfl⟩)
    go_ret
    exact ⟨ret_int (by rw [HE.out]), HB.out⟩
  rw [if_neg b0] at HR
  have b1 : entE ent = 0 := by omega
  rw [b1] at CE
  clear b0 b1
  cases gone with
  | true =>
    rw [if_pos rfl] at HR
    by_cases c1 : id = st
    · have HE := Lib.hid (show R = 8 by rw [HR, if_pos (.inl c1)])
      have c1b : (id == st) = true := by rw [beq_iff_eq]; exact c1
      subst c1
      clear HR
      go_enter Tryd.func14, Tryd.ntmps14
      go_wp2_with (go_at_call 32; (with_reducible refine (CE.out _).mono ?_); rintro e w2 ⟨rfl, rfl⟩)
      go_ret
      exact ⟨ret_int (by rw [HE.out]; rfl), HB.out⟩
    have c1b : (id == st) = false := by rw [beq_eq_false_iff_ne]; exact c1
    by_cases c2 : 0 < fs.length
    · have HE := Lib.hid (show R = 8 by rw [HR, if_pos (.inr (.inl c2))])
      have c2' : (0 : Int) < (fs.length : Int) := by omega
      clear HR
      go_enter Tryd.func14, Tryd.ntmps14
      go_wp2_with (go_at_call 32; (with_reducible refine (CE.out _).mono ?_); rintro e w2 ⟨rfl, rfl⟩)
      go_ret
      exact ⟨ret_int (by rw [HE.out]; rfl), HB.out⟩
    have c2' : ¬ (0 : Int) < (fs.length : Int) := by omega
    by_cases c3 : sf = 0
    · by_cases c4 : se = 0
      · have HE := Lib.hid (show R = 0 by rw [HR, if_neg (by omega)])
        subst c3 c4
        clear HR
        go_enter Tryd.func14, Tryd.ntmps14
        go_wp2_with (go_at_call 32; (with_reducible refine (CE.out _).mono ?_); rintro e w2 ⟨rfl, rfl⟩)
        go_ret
        exact ⟨ret_int (by rw [HE.out]; rfl), HB.out⟩
      · have HE := Lib.hid (show R = 8 by rw [HR, if_pos (.inr (.inr (.inr c4)))])
        have c4b : (se != 0) = true := by rw [bne_iff_ne]; exact c4
        subst c3
        clear HR
        go_enter Tryd.func14, Tryd.ntmps14
        go_wp2_with (go_at_call 32; (with_reducible refine (CE.out _).mono ?_); rintro e w2 ⟨rfl, rfl⟩)
        go_ret
        exact ⟨ret_int (by rw [HE.out]; rfl), HB.out⟩
    · have HE := Lib.hid (show R = 8 by rw [HR, if_pos (.inr (.inr (.inl c3)))])
      have c3b : (sf != 0) = true := by rw [bne_iff_ne]; exact c3
      clear HR
      go_enter Tryd.func14, Tryd.ntmps14
      go_wp2_with (go_at_call 32; (with_reducible refine (CE.out _).mono ?_); rintro e w2 ⟨rfl, rfl⟩)
      go_ret
      exact ⟨ret_int (by rw [HE.out]; rfl), HB.out⟩
  | false =>
    rw [if_neg (by simp)] at HR
    cases hr : rightS sf se with
    | false =>
      have HE := Lib.hid (show R = 3 by rw [HR, hr]; rfl)
      rw [hr] at CS
      clear HR hr
      go_enter Tryd.func14, Tryd.ntmps14
      go_wp2_with (first
        | (go_at_call 32; (with_reducible refine (CE.out _).mono ?_); rintro e w2 ⟨rfl, rfl⟩)
        | (go_at_call 33; (with_reducible refine (CS.out _).mono ?_); rintro e w3 ⟨rfl, hb3⟩))
      go_ret
      exact ⟨ret_int (by rw [HE.out]; rfl), HB.out.trans (hb3.mono HB.out.size)⟩
    | true =>
      have HE := Lib.hid (show R = rightE fs by rw [HR, hr]; rfl)
      rw [hr] at CS
      clear HR hr
      go_enter Tryd.func14, Tryd.ntmps14
      go_wp2_with (first
        | (go_at_call 32; (with_reducible refine (CE.out _).mono ?_); rintro e w2 ⟨rfl, rfl⟩)
        | (go_at_call 33; (with_reducible refine (CS.out _).mono ?_); rintro e w3 ⟨rfl, hb3⟩; have k5 : w3.cell? ⟨w.heap.size, 5, none⟩ = some (.slice fa fs.length fc) := keepc hb3 (by simp [go_sem]); have hc3 := HB.out.trans (hb3.mono HB.out.size))
        | (go_at_call 34; (with_reducible refine (CF.out _ hc3).mono ?_); rintro e w4 ⟨rfl, hb4⟩; have hc4 := chain hc3 hb4))
      go_ret
      exact ⟨ret_int (by rw [HE.out]), hc4⟩

/-- A row as a value. -/
abbrev rv (r : Rw) : Value := .agg #[.int .i64 r.v.id, .int .i64 r.v.st, .string r.v.ent, .int .i64 r.v.sf, .int .i64 r.v.se, .slice r.v.fa r.v.fs.length r.v.fc, .bool r.v.gone, .int .i64 r.un]

end Go.Proofs.YtmieonfdenjedaaDoor

/-
  The document's Target, Right and Many of commands.
-/
namespace Go.Proofs.YtmieonfdenjedaaDoor
open Go.RowKit

abbrev cellsC14 (c : Cm) : List Value := [.int .i64 c.k, .string c.ent, .int .i64 c.tg, .int .i64 c.sf, .int .i64 c.se, .slice c.fa c.fs.length c.fc]
/-- A command as a value. -/
abbrev cv14 (c : Cm) : Value := .agg #[.int .i64 c.k, .string c.ent, .int .i64 c.tg, .int .i64 c.sf, .int .i64 c.se, .slice c.fa c.fs.length c.fc]
abbrev ocC (c : Cm) : Obj := .cells #[.int .i64 c.k, .string c.ent, .int .i64 c.tg, .int .i64 c.sf, .int .i64 c.se, .slice c.fa c.fs.length c.fc] 26
/-- The fields of a command lie where it says. -/
def CF14 (w : World) (c : Cm) : Prop := Fields w c.fa c.fs ∧ c.fs.length ≤ c.fc ∧ (c.fa = none → c.fc = 0)
theorem CF14.below {w w' : World} {c : Cm} (h : CF14 w c) (hb : Below w.heap.size w w') : CF14 w' c := ⟨h.1.below hb, h.2⟩
theorem CF14.list {w : World} {c : Cm} (h : CF14 w c) : ListF w (.slice c.fa c.fs.length c.fc) c.fs := ⟨c.fa, c.fc, rfl, h.1, h.2.1, h.2.2⟩

set_option maxHeartbeats 1000000 in
theorem dtarget14_any (n : Int) (w : World) : Same 31 #[.int .i64 n] w (.bool (tgB n)) := by
  by_cases h1 : 1 ≤ n
  · by_cases h2 : n ≤ 1099511627775
    · have h1' : decide (1 ≤ n) = true := by simpa using h1
      have h2' : decide (n ≤ 1099511627775) = true := by simpa using h2
      have HE := Lib.hid (show tgB n = true from by unfold tgB; simp; omega)
      go_enter Tryd.func31, Tryd.ntmps31
      go_wp2_with fail
      go_ret
      exact ⟨ret_bool HE.out.symm, rfl⟩
    · have h1' : decide (1 ≤ n) = true := by simpa using h1
      have h2' : decide (n ≤ 1099511627775) = false := by simpa using h2
      have h3 : ¬ n ≤ -1 := by omega
      have h3' : decide (n ≤ -1) = false := by simpa using h3
      have HE := Lib.hid (show tgB n = false from by unfold tgB; simp; omega)
      go_enter Tryd.func31, Tryd.ntmps31
      go_wp2_with fail
      go_ret
      exact ⟨ret_bool HE.out.symm, rfl⟩
  · have h1' : decide (1 ≤ n) = false := by simpa using h1
    by_cases h3 : n ≤ -1
    · have h3' : decide (n ≤ -1) = true := by simpa using h3
      by_cases h4 : -8 ≤ n
      · have h4' : decide (-8 ≤ n) = true := by simpa using h4
        have HE := Lib.hid (show tgB n = true from by unfold tgB; simp; omega)
        go_enter Tryd.func31, Tryd.ntmps31
        go_wp2_with fail
        go_ret
        exact ⟨ret_bool HE.out.symm, rfl⟩
      · have h4' : decide (-8 ≤ n) = false := by simpa using h4
        have HE := Lib.hid (show tgB n = false from by unfold tgB; simp; omega)
        go_enter Tryd.func31, Tryd.ntmps31
        go_wp2_with fail
        go_ret
        exact ⟨ret_bool HE.out.symm, rfl⟩
    · have h3' : decide (n ≤ -1) = false := by simpa using h3
      have HE := Lib.hid (show tgB n = false from by unfold tgB; simp; omega)
      go_enter Tryd.func31, Tryd.ntmps31
      go_wp2_with fail
      go_ret
      exact ⟨ret_bool HE.out.symm, rfl⟩
theorem dmany14_any (n : Int) (w : World) : Same 49 #[.int .i64 n] w (.int .i64 ((if n < 1 then 2 else if 8 < n then 4 else 0 : Nat) : Int)) := by
  by_cases h1 : n < 1
  · rw [if_pos h1]
    go_enter Tryd.func49, Tryd.ntmps49
    go_wp2_with fail
    go_ret
    exact ⟨rfl, rfl⟩
  · rw [if_neg h1]
    by_cases h2 : 8 < n
    · rw [if_pos h2]
      go_enter Tryd.func49, Tryd.ntmps49
      go_wp2_with fail
      go_ret
      exact ⟨rfl, rfl⟩
    · rw [if_neg h2]
      go_enter Tryd.func49, Tryd.ntmps49
      go_wp2_with fail
      go_ret
      exact ⟨rfl, rfl⟩
theorem not_empty14 {s : ByteArray} (hz : ¬ s.size = 0) : s.toList.isEmpty = false := by
  have he : (nats s).isEmpty = false := by
    cases h3 : nats s with
    | nil => exact absurd (show s.size = 0 by rw [← nats_length, h3]; rfl) hz
    | cons => rfl
  rw [ByteArray.toList_eq]
  unfold nats at he
  rw [List.isEmpty_map] at he
  exact he
set_option maxHeartbeats 8000000 in
set_option maxRecDepth 10000 in
theorem drightc14_any (c : Cm) (w : World) (hv : CF14 w c) (hok : okF c.fs) (hn : c.fs.length ≤ 9223372036854775807) (hz : c.ent.size ≤ 9223372036854775807) : Ret 10 #[cv14 c] w (.int .i64 ((rightC c : Nat) : Int)) := by
  have CF0 := fun w' (h : Below w.heap.size w w') => dright_any w' c.fa c.fc c.fs (hv.1.below h) hok hn
  have CE := Lib.hid (fun w => dent_any c.ent hz w)
  have CT := Lib.hid (dtarget14_any c.tg)
  obtain ⟨R, hR⟩ : ∃ R, rightC c = R := ⟨_, rfl⟩
  have HR : R = rightC c := hR.symm
  unfold rightC at HR
  rw [hR]
  clear hR hv hok
  obtain ⟨k, ent, tg, sf, se, fa, fc, fs⟩ := c
  simp only at HR CF0 CE CT hn hz
  have CF := Lib.hid CF0
  have CS := Lib.hid (fun w => dright01_any sf se w)
  have HB := Lib.hid ((bl w).alloc (Nat.le_refl _) (.cells #[.int .i64 k, .string ent, .int .i64 tg, .int .i64 sf, .int .i64 se, .slice fa fs.length fc] 26))
  clear CF0 hz
  by_cases a1 : k < 1
  · have HE := Lib.hid (show R = 2 from by first | exact HR | (rw [HR]; rw [if_pos (.inl a1)]))
    clear HR
    go_enter Tryd.func10, Tryd.ntmps10
    go_wp2_with fail
    go_ret
    exact ⟨ret_int (by rw [HE.out]; rfl), HB.out⟩
  by_cases a2 : 3 < k
  · have HE := Lib.hid (show R = 2 from by first | exact HR | (rw [HR]; rw [if_pos (.inr a2)]))
    clear HR
    go_enter Tryd.func10, Tryd.ntmps10
    go_wp2_with fail
    go_ret
    exact ⟨ret_int (by rw [HE.out]; rfl), HB.out⟩
  rw [if_neg (by omega)] at HR
  by_cases k1 : k = 1
  · subst k1
    by_cases b1 : tg = 0
    · subst b1
      rw [if_neg (by omega), if_neg (by omega), if_neg (by simp)] at HR
      by_cases b2 : entE ent ≠ 0
      · rw [if_pos ⟨rfl, b2⟩] at HR
        have b2' : ¬ ((entE ent : Nat) : Int) = 0 := by omega
        generalize entE ent = z at *
        clear b2
        have HE := Lib.hid (show R = z from by first | exact HR | (rw [HR]; rfl))
        clear HR
        go_enter Tryd.func10, Tryd.ntmps10
        go_wp2_with (go_at_call 32; (with_reducible refine (CE.out _).mono ?_); rintro e w2 ⟨rfl, rfl⟩)
        go_ret
        exact ⟨ret_int (by rw [HE.out]), HB.out⟩
      · rw [if_neg (by omega), if_neg (by omega)] at HR
        have b3 : entE ent = 0 := by omega
        rw [b3] at CE
        clear b2 b3
        cases hr : rightS sf se with
        | false =>
          rw [hr] at HR CS
          clear hr
          have HE := Lib.hid (show R = 3 from by first | exact HR | (rw [HR]; rfl))
          clear HR
          go_enter Tryd.func10, Tryd.ntmps10
          go_wp2_with (first | (go_at_call 32; (with_reducible refine (CE.out _).mono ?_); rintro e w2 ⟨rfl, rfl⟩) | (go_at_call 33; (with_reducible refine (CS.out _).mono ?_); rintro e w3 ⟨rfl, hb3⟩))
          go_ret
          exact ⟨ret_int (by rw [HE.out]; rfl), HB.out.trans (hb3.mono HB.out.size)⟩
        | true =>
          rw [hr, if_pos rfl] at HR
          rw [hr] at CS
          clear hr
          have HE := Lib.hid (show R = rightE fs from by first | exact HR | (rw [HR]; rfl))
          clear HR
          go_enter Tryd.func10, Tryd.ntmps10
          go_wp2_with (first | (go_at_call 32; (with_reducible refine (CE.out _).mono ?_); rintro e w2 ⟨rfl, rfl⟩) | (go_at_call 33; (with_reducible refine (CS.out _).mono ?_); rintro e w3 ⟨rfl, hb3⟩; have k5 : w3.cell? ⟨w.heap.size, 5, none⟩ = some (.slice fa fs.length fc) := keepc hb3 (by simp [go_sem]); have hc3 := HB.out.trans (hb3.mono HB.out.size)) | (go_at_call 34; (with_reducible refine (CF.out _ hc3).mono ?_); rintro e w4 ⟨rfl, hb4⟩; have hc4 := chain hc3 hb4))
          go_ret
          exact ⟨ret_int (by rw [HE.out]), hc4⟩
    · have b1b : (tg != 0) = true := by rw [bne_iff_ne]; exact b1
      rw [if_pos (.inl ⟨rfl, b1⟩)] at HR
      have HE := Lib.hid (show R = 8 from by first | exact HR | (rw [HR]; rfl))
      clear HR
      go_enter Tryd.func10, Tryd.ntmps10
      go_wp2_with fail
      go_ret
      exact ⟨ret_int (by rw [HE.out]; rfl), HB.out⟩
  by_cases e0 : ent.size = 0
  · have e1 := size0 e0
    subst e1
    clear e0
    by_cases k3 : k = 3
    · subst k3
      rw [if_neg (fun h => h.elim (fun h => absurd h.1 (by decide)) (fun h => h.2 rfl))] at HR
      by_cases c1 : sf = 0
      · subst c1
        by_cases c2 : se = 0
        · subst c2
          by_cases c3 : 0 < fs.length
          · have c3' : (0 : Int) < (fs.length : Int) := by omega
            rw [if_pos ⟨rfl, .inr (.inr c3)⟩] at HR
            have HE := Lib.hid (show R = 8 from by first | exact HR | (rw [HR]; rfl))
            clear HR
            go_enter Tryd.func10, Tryd.ntmps10
            go_wp2_with fail
            go_ret
            exact ⟨ret_int (by rw [HE.out]; rfl), HB.out⟩
          · have c3' : ¬ (0 : Int) < (fs.length : Int) := by omega
            rw [if_neg (fun h => by rcases h.2 with h | h | h <;> omega)] at HR
            cases ht : tgB tg with
            | false =>
              rw [if_pos ⟨by decide, ht⟩] at HR
              rw [ht] at CT
              clear ht
              have HE := Lib.hid (show R = 2 from by first | exact HR | (rw [HR]; rfl))
              clear HR
              go_enter Tryd.func10, Tryd.ntmps10
              go_wp2_with (go_at_call 31; (with_reducible refine (CT.out _).mono ?_); rintro e w2 ⟨rfl, rfl⟩)
              go_ret
              exact ⟨ret_int (by rw [HE.out]; rfl), HB.out⟩
            | true =>
              rw [if_neg (by rw [ht]; simp), if_neg (by simp), if_pos rfl] at HR
              rw [ht] at CT
              clear ht
              have HE := Lib.hid (show R = 0 from by first | exact HR | (rw [HR]; rfl))
              clear HR
              go_enter Tryd.func10, Tryd.ntmps10
              go_wp2_with (go_at_call 31; (with_reducible refine (CT.out _).mono ?_); rintro e w2 ⟨rfl, rfl⟩)
              go_ret
              exact ⟨ret_int (by rw [HE.out]; rfl), HB.out⟩
        · have c2b : (se != 0) = true := by rw [bne_iff_ne]; exact c2
          rw [if_pos ⟨rfl, .inr (.inl c2)⟩] at HR
          have HE := Lib.hid (show R = 8 from by first | exact HR | (rw [HR]; rfl))
          clear HR
          go_enter Tryd.func10, Tryd.ntmps10
          go_wp2_with fail
          go_ret
          exact ⟨ret_int (by rw [HE.out]; rfl), HB.out⟩
      · have c1b : (sf != 0) = true := by rw [bne_iff_ne]; exact c1
        rw [if_pos ⟨rfl, .inl c1⟩] at HR
        have HE := Lib.hid (show R = 8 from by first | exact HR | (rw [HR]; rfl))
        clear HR
        go_enter Tryd.func10, Tryd.ntmps10
        go_wp2_with fail
        go_ret
        exact ⟨ret_int (by rw [HE.out]; rfl), HB.out⟩
    · obtain rfl : k = 2 := by omega
      rw [if_neg (fun h => h.elim (fun h => absurd h.1 (by decide)) (fun h => h.2 rfl)), if_neg (by simp)] at HR
      cases ht : tgB tg with
      | false =>
        rw [if_pos ⟨by decide, ht⟩] at HR
        rw [ht] at CT
        clear ht
        have HE := Lib.hid (show R = 2 from by first | exact HR | (rw [HR]; rfl))
        clear HR
        go_enter Tryd.func10, Tryd.ntmps10
        go_wp2_with (go_at_call 31; (with_reducible refine (CT.out _).mono ?_); rintro e w2 ⟨rfl, rfl⟩)
        go_ret
        exact ⟨ret_int (by rw [HE.out]; rfl), HB.out⟩
      | true =>
        rw [if_neg (by rw [ht]; simp), if_neg (by simp), if_neg (by simp)] at HR
        rw [ht] at CT
        clear ht
        cases hr : rightS sf se with
        | false =>
          rw [hr] at HR CS
          clear hr
          have HE := Lib.hid (show R = 3 from by first | exact HR | (rw [HR]; rfl))
          clear HR
          go_enter Tryd.func10, Tryd.ntmps10
          go_wp2_with (first | (go_at_call 31; (with_reducible refine (CT.out _).mono ?_); rintro e w2 ⟨rfl, rfl⟩) | (go_at_call 33; (with_reducible refine (CS.out _).mono ?_); rintro e w3 ⟨rfl, hb3⟩))
          go_ret
          exact ⟨ret_int (by rw [HE.out]; rfl), HB.out.trans (hb3.mono HB.out.size)⟩
        | true =>
          rw [hr, if_pos rfl] at HR
          rw [hr] at CS
          clear hr
          have HE := Lib.hid (show R = rightE fs from by first | exact HR | (rw [HR]; rfl))
          clear HR
          go_enter Tryd.func10, Tryd.ntmps10
          go_wp2_with (first | (go_at_call 31; (with_reducible refine (CT.out _).mono ?_); rintro e w2 ⟨rfl, rfl⟩) | (go_at_call 33; (with_reducible refine (CS.out _).mono ?_); rintro e w3 ⟨rfl, hb3⟩; have k5 : w3.cell? ⟨w.heap.size, 5, none⟩ = some (.slice fa fs.length fc) := keepc hb3 (by simp [go_sem]); have hc3 := HB.out.trans (hb3.mono HB.out.size)) | (go_at_call 34; (with_reducible refine (CF.out _ hc3).mono ?_); rintro e w4 ⟨rfl, hb4⟩; have hc4 := chain hc3 hb4))
          go_ret
          exact ⟨ret_int (by rw [HE.out]), hc4⟩
  · have e1 := not_empty14 e0
    rw [if_pos (.inr ⟨k1, e0⟩)] at HR
    have k1b : (k == 1) = false := by rw [beq_eq_false_iff_ne]; exact k1
    have k1c : (k != 1) = true := by rw [bne_iff_ne]; exact k1
    have HE := Lib.hid (show R = 8 from by first | exact HR | (rw [HR]; rfl))
    clear HR
    go_enter Tryd.func10, Tryd.ntmps10
    go_wp2_with fail
    go_ret
    exact ⟨ret_int (by rw [HE.out]; rfl), HB.out⟩
end Go.Proofs.YtmieonfdenjedaaDoor

/-
  The document's Put of fields.
-/
namespace Go.Proofs.YtmieonfdenjedaaDoor
open Go.RowKit

set_option maxHeartbeats 1000000 in
theorem dofint_any (n : Int) (w : World) : Ret 40 #[.int .i64 n] w (.string (intS n)) := by
  have CI := Lib.hid (fun w => dint_any n w)
  go_enter Tryd.func40, Tryd.ntmps40
  go_wp2_with (go_at_call 63; (with_reducible refine (CI.out _).mono ?_); rintro e w2 ⟨rfl, hb⟩)
  go_ret
  exact ⟨rfl, hb⟩

theorem text_small {s : ByteArray} (h : s.size ≤ 12) : (textS s).size ≤ 30 := by
  rw [textS, ByteArray.size_append, encS_size]
  have := kN_le s.size
  omega
theorem int_small {v : Int} (h : valB v = true) : (intS v).size ≤ 10 := by
  rw [intS_enc h, encS_size]
  have := kN_le (zig v).toNat
  omega
theorem right_at : ∀ (l : List Fd) (o : Option ByteArray), rightG o l = 0 → ∀ f ∈ l, nameB f.n = true ∧ valB f.v = true
  | [], _, _, f, h => by simp at h
  | g :: l, o, h, f, hf => by
    obtain ⟨h1, h2, h3⟩ := behind_right.1 h
    rcases List.mem_cons.1 hf with rfl | hf
    · exact ⟨behind_name h1, h2⟩
    · exact right_at l _ h3 f hf
theorem right_in {l : List Fd} (h : rightE l = 0) : l.length ≤ 8 ∧ rightG none l = 0 := by
  unfold rightE at h
  by_cases h8 : 8 < l.length
  · rw [if_pos h8] at h; cases h
  · rw [if_neg h8] at h; exact ⟨by omega, h⟩
theorem ret_sie {s t : ByteArray} {a b : Int} (h : s = t) (k : a = b) : Ending.returned (.tuple #[.string s, .int .i64 a]) = .returned (.tuple #[.string t, .int .i64 b]) := by rw [h, k]

set_option maxHeartbeats 4000000 in
set_option maxRecDepth 10000 in
theorem dput_any (w : World) (v : Value) (l : List Fd) (hl : ListF w v l) (hok : okF l) (hn : l.length ≤ 9223372036854775807) :
    Ret 41 #[v] w (.tuple #[.string (putS l), .int .i64 ((rightE l : Nat) : Int)]) := by
  obtain ⟨A, c, rfl, hF, hc, hnc⟩ := hl
  have CR := Lib.hid (fun w' (h : Below w.heap.size w w') => dright_any w' A c l (hF.below h) hok hn)
  have HF := Lib.hid hF
  by_cases h0 : rightE l = 0
  · obtain ⟨h8, hg⟩ := right_in h0
    have RA := Lib.hid (right_at l none hg)
    have HE := Lib.hid (show putS l = encS l.length ++ manyS l by unfold putS; rw [if_pos h0])
    have HR0 := Lib.hid h0
    rw [h0] at CR
    have CF := Lib.hid (fun w => dnumof_any l.length (by omega) w)
    obtain ⟨n, hnm⟩ : ∃ n, l.length = n := ⟨_, rfl⟩
    rw [hnm] at h8 CR CF HE ⊢
    have HN := Lib.hid hnm
    have HES := Lib.hid (show (encS n).size ≤ 10 by rw [encS_size]; have := kN_le n; omega)
    have CR0 := Lib.hid (CR.out w (bl w))
    generalize encS n = E at *
    clear hF hok hc hnc hnm hn h0 hg CR
    go_enter Tryd.func41, Tryd.ntmps41
    go_wp2_with (first
      | (go_at_call 34; with_reducible refine CR0.out.mono ?_; rintro e w1 ⟨rfl, hb1⟩)
      | (go_at_call 38; with_reducible refine (CF.out _).mono ?_; rintro e w2 ⟨rfl, hb2⟩))
    have HB2 := Lib.hid (chain hb1 hb2)
    clear hb1 hb2
    go_loopw [5, 6] (fun s i wr => ∃ (k : Nat) (S : ByteArray), k ≤ n ∧ i = .int .i64 k ∧ s = .string S ∧ S = E ++ manyS (l.take k) ∧ S.size ≤ 100 + 100 * k ∧ Below w.heap.size w wr) (fun _ i _ => n - (intOf i).toNat)
    case atStart => exact ⟨0, E, Nat.zero_le _, rfl, rfl, by rw [List.take_zero, manyS, append_empty], by have := HES.out; omega, HB2.out⟩
    case round =>
      obtain ⟨k, S, hk, rfl, rfl, hS, hz, hB⟩ := hrel
      have HS := Lib.hid hS
      have HB := Lib.hid hB
      clear hS hB
      by_cases hlt : k < n
      · have hlt' : (k : Int) < (n : Int) := by omega
        obtain ⟨f, hf⟩ : ∃ f, l[k]? = some f := ⟨_, List.getElem?_eq_getElem (by have := HN.out; omega)⟩
        obtain ⟨q1, q2⟩ := RA.out f (List.mem_of_getElem? hf)
        obtain ⟨g, off, rfl, c0, c1⟩ := (HF.out.below HB.out) k f hf
        have CT := Lib.hid (fun w => dtext_any f.n (by have := name_size q1; omega) w)
        have CI := Lib.hid (fun w => dofint_any f.v w)
        have t1 := text_small (name_size q1)
        have t2 := int_small q2
        have NX := Lib.hid (show S ++ textS f.n ++ intS f.v = E ++ manyS (l.take (k + 1)) by
          rw [List.take_add_one, hf, Option.toList_some, manyS_append, manyS, manyS, append_empty, oneS, HS.out, ByteArray.append_assoc, ByteArray.append_assoc])
        generalize textS f.n = T at *
        generalize intS f.v = I at *
        have z1 : ¬ S.size + T.size > 9223372036854775807 := by omega
        have z2 : ¬ S.size + T.size + I.size > 9223372036854775807 := by omega
        have NZ := Lib.hid (show (S ++ T ++ I).size ≤ 100 + 100 * (k + 1) by rw [ByteArray.size_append, ByteArray.size_append]; omega)
        have MK := Lib.hid (show ∀ w', Below wr.heap.size wr w' → (Below wr.heap.size wr w' ∧ w'.cell? ⟨g, off + k * 2, none⟩ = some (.string f.n) ∧ w'.cell? ⟨g, off + k * 2 + 1, none⟩ = some (.int .i64 f.v)) from fun w' h => ⟨h, keepc h c0, keepc h c1⟩)
        clear hf q1 q2 t1 t2 hz
        go_wp2_with fail
        go_region_held3 (fun w' => Below wr.heap.size wr w' ∧ w'.cell? ⟨g, off + k * 2, none⟩ = some (.string f.n) ∧ w'.cell? ⟨g, off + k * 2 + 1, none⟩ = some (.int .i64 f.v))
          (first | exact MK.out _ ((bl wr).drew) | exact MK.out _ hb2 | exact MK.out _ hb1 | fail)
          (first
            | (go_at_call 39; with_reducible refine (CT.out _).mono ?_; rintro e w1 ⟨rfl, hb0⟩; have hb1 := chain (by go_split_ands; assumption) hb0; clear hb0)
            | (go_at_call 40; with_reducible refine (CI.out _).mono ?_; rintro e w3 ⟨rfl, hb0⟩; have hb2 := chain (by go_split_ands; assumption) hb0; clear hb0))
        all_goals
          go_wp2_with fail
          exact ⟨⟨k + 1, _, by omega, by go_num, rfl, NX.out, NZ.out, chain HB.out hb2⟩, by simp [intOf] <;> omega⟩
      · obtain rfl : k = n := by omega
        have hlt' : ¬ (k : Int) < (k : Int) := by omega
        have HX := Lib.hid (show S = E ++ manyS l by rw [HS.out, List.take_of_length_le (by have := HN.out; omega)])
        go_wp2_with fail
        go_ret2
        exact ⟨ret_sie (by rw [HX.out, HE.out]) (by rw [HR0.out]; rfl), HB.out⟩
  · have HE := Lib.hid (show putS l = ⟨#[]⟩ by unfold putS; rw [if_neg h0])
    have CR0 := Lib.hid (CR.out w (bl w))
    have h0' : ¬ ((rightE l : Nat) : Int) = 0 := by omega
    generalize rightE l = z at *
    generalize l.length = n at *
    clear hF hok hc hnc CR h0
    go_enter Tryd.func41, Tryd.ntmps41
    go_wp2_with (first
      | (go_at_call 34; with_reducible refine CR0.out.mono ?_; rintro e w1 ⟨rfl, hb1⟩))
    go_ret2
    exact ⟨ret_sie HE.out.symm rfl, hb1⟩

end Go.Proofs.YtmieonfdenjedaaDoor

/-
  The document's Live, Compare, Put, PutRow and OneRow.
-/
namespace Go.Proofs.YtmieonfdenjedaaDoor
open Go.RowKit

/-- A version in a block of its own. -/
abbrev BoxV (w : World) (g : Nat) (v : Vr) : Prop := w.cell? ⟨g, 0, none⟩ = some (.int .i64 v.id) ∧ w.cell? ⟨g, 1, none⟩ = some (.int .i64 v.st) ∧ w.cell? ⟨g, 2, none⟩ = some (.string v.ent) ∧ w.cell? ⟨g, 3, none⟩ = some (.int .i64 v.sf) ∧
  w.cell? ⟨g, 4, none⟩ = some (.int .i64 v.se) ∧ w.cell? ⟨g, 5, none⟩ = some (.slice v.fa v.fs.length v.fc) ∧ w.cell? ⟨g, 6, none⟩ = some (.bool v.gone)
theorem BoxV.below {w w' : World} {g : Nat} {v : Vr} (h : BoxV w g v) (hb : Below w.heap.size w w') : BoxV w' g v :=
  ⟨keepc hb h.1, keepc hb h.2.1, keepc hb h.2.2.1, keepc hb h.2.2.2.1, keepc hb h.2.2.2.2.1, keepc hb h.2.2.2.2.2.1, keepc hb h.2.2.2.2.2.2⟩
theorem boxV_new (w : World) (v : Vr) : BoxV (w.alloc (ocV v)) w.heap.size v := ⟨by simp [go_sem], by simp [go_sem], by simp [go_sem], by simp [go_sem], by simp [go_sem], by simp [go_sem], by simp [go_sem]⟩
theorem enc_small (n : Nat) : (encS n).size ≤ 10 := by rw [encS_size]; have := kN_le n; omega
theorem ent_small {v : Vr} (h : rightV v = 0) : v.ent.size ≤ 24 := by
  have := (right_stamps h).2.2.2.2
  unfold entE at this
  by_cases h1 : v.ent.size = 0
  · omega
  · rw [if_neg h1] at this
    by_cases h2 : 24 < v.ent.size
    · rw [if_pos h2] at this; cases this
    · omega
theorem text_small24 {s : ByteArray} (h : s.size ≤ 24) : (textS s).size ≤ 40 := by
  rw [textS, ByteArray.size_append, encS_size]
  have := kN_le s.size
  omega
theorem many_size : ∀ (l : List Fd) (o : Option ByteArray), rightG o l = 0 → (manyS l).size ≤ 40 * l.length
  | [], _, _ => Nat.le_refl _
  | f :: l, o, h => by
    obtain ⟨h1, h2, h3⟩ := behind_right.1 h
    have ih := many_size l _ h3
    have t1 := text_small (name_size (behind_name h1))
    have t2 := int_small h2
    rw [manyS, oneS, ByteArray.size_append, ByteArray.size_append, List.length_cons]
    omega
theorem putS_size (l : List Fd) : (putS l).size ≤ 1000 := by
  unfold putS
  by_cases h : rightE l = 0
  · rw [if_pos h, ByteArray.size_append, encS_size]
    obtain ⟨h8, hg⟩ := right_in h
    have := many_size l none hg
    have := kN_le l.length
    omega
  · rw [if_neg h]; exact Nat.zero_le _

end Go.Proofs.YtmieonfdenjedaaDoor

/-
  The document's PutRow and OneRow.
-/
namespace Go.Proofs.YtmieonfdenjedaaDoor
open Go.RowKit

/-- A row in a block of its own. -/
abbrev BoxR (w : World) (g : Nat) (r : Rw) : Prop := BoxV w g r.v ∧ w.cell? ⟨g, 7, none⟩ = some (.int .i64 r.un)
theorem BoxR.below {w w' : World} {g : Nat} {r : Rw} (h : BoxR w g r) (hb : Below w.heap.size w w') : BoxR w' g r := ⟨h.1.below hb, keepc hb h.2⟩
theorem bytesV_size {v : Vr} (h : rightV v = 0) : (putV v).size ≤ 2000 := by
  unfold putV bytesV bodyV
  rw [if_pos h]
  have h1 := enc_small v.id.toNat
  have h2 := enc_small v.st.toNat
  have h3 := text_small24 (ent_small h)
  have h4 := enc_small 0
  have h5 := enc_small 1
  have h6 := enc_small (v.se - v.sf).toNat
  have h7 := putS_size v.fs
  cases hg : v.gone with
  | true =>
    simp only [if_true, ByteArray.size_append]
    omega
  | false =>
    obtain ⟨g1, g2⟩ := right_here h hg
    obtain ⟨p1, p2, p3⟩ := span_bounds g1
    have hvb : valB v.sf = true := by unfold valB; simp only [Bool.and_eq_true, decide_eq_true_eq]; omega
    have h8 := int_small hvb
    simp only [Bool.false_eq_true, if_false, ByteArray.size_append]
    omega

/-- Are two rows one? -/
def sameR (a b : Rw) : Bool := sameV a.v b.v && decide (a.un = b.un)

end Go.Proofs.YtmieonfdenjedaaDoor

/-
  The table of the commands' kinds as it lies; what the program's small calls say of a kind, a target, a number of commands.
-/
namespace Go.Proofs.YtmieonfdenjedaaDoor
open Go.RowKit

/-- The table of the kinds lies in the package-level variable. -/
def TabK (w : World) : Prop := 0 < w.heap.size ∧ ∀ r, r < 4 →
  w.cell? ⟨0, r * 3, none⟩ = some (.bool (r == 1)) ∧ w.cell? ⟨0, r * 3 + 1, none⟩ = some (.bool (r == 2 || r == 3)) ∧ w.cell? ⟨0, r * 3 + 2, none⟩ = some (.bool (r == 1 || r == 2))
theorem TabK.of {W w : World} {n : Nat} (h : TabK W) (hn : 0 < n) (hb : Below n W w) : TabK w :=
  ⟨Nat.lt_of_lt_of_le h.1 hb.size, fun r hr => by
    obtain ⟨a, b, c⟩ := h.2 r hr
    exact ⟨(hb.cell (p := ⟨0, _, none⟩) hn).trans a, (hb.cell (p := ⟨0, _, none⟩) hn).trans b, (hb.cell (p := ⟨0, _, none⟩) hn).trans c⟩⟩
theorem TabK.below {W w : World} (h : TabK W) (hb : Below W.heap.size W w) : TabK w := h.of h.1 hb
/-- The parts that commands of a kind have. -/
def entB (k : Int) : Bool := decide (k = 1)
def tarB (k : Int) : Bool := decide (k = 2) || decide (k = 3)
def setB (k : Int) : Bool := decide (k = 1) || decide (k = 2)
abbrev pt14 (k : Int) : Value := .agg #[.bool (entB k), .bool (tarB k), .bool (setB k)]
theorem parts_none {k : Int} (h : k < 1 ∨ 3 < k) : entB k = false ∧ tarB k = false ∧ setB k = false := by
  unfold entB tarB setB
  refine ⟨?_, ?_, ?_⟩ <;> simp <;> omega

set_option maxHeartbeats 1000000 in
set_option maxRecDepth 10000 in
theorem parts_any (k : Int) (w : World) (hT : TabK w) : Ret 26 #[.int .i64 k] w (pt14 k) := by
  by_cases k0 : k < 0
  · obtain ⟨e1, e2, e3⟩ := parts_none (k := k) (by omega)
    have HE := Lib.hid (show pt14 k = .agg #[.bool false, .bool false, .bool false] by unfold pt14; rw [e1, e2, e3])
    clear e1 e2 e3
    go_enter Tryd.func26, Tryd.ntmps26
    go_wp2_with fail
    refine bodyPost_ret (v := .agg #[.bool false, .bool false, .bool false]) (by simp [results, Tryd.results26, go_sem]) rfl ⟨by rw [HE.out], ?_⟩
    exact (bl w).alloc (Nat.le_refl _) _
  · by_cases k4 : 4 ≤ k
    · obtain ⟨e1, e2, e3⟩ := parts_none (k := k) (by omega)
      have HE := Lib.hid (show pt14 k = .agg #[.bool false, .bool false, .bool false] by unfold pt14; rw [e1, e2, e3])
      clear e1 e2 e3
      go_enter Tryd.func26, Tryd.ntmps26
      go_wp2_with fail
      refine bodyPost_ret (v := .agg #[.bool false, .bool false, .bool false]) (by simp [results, Tryd.results26, go_sem]) rfl ⟨by rw [HE.out], ?_⟩
      exact (bl w).alloc (Nat.le_refl _) _
    · obtain ⟨r, rfl⟩ : ∃ r : Nat, k = (r : Int) := ⟨k.toNat, by omega⟩
      have hr : r < 4 := by omega
      obtain ⟨c0, c1, c2⟩ := hT.2 r hr
      have hd0 := fun o => keepc ((bl w).alloc (Nat.le_refl _) o) c0
      have hd1 := fun o => keepc ((bl w).alloc (Nat.le_refl _) o) c1
      have hd2 := fun o => keepc ((bl w).alloc (Nat.le_refl _) o) c2
      have k4' : ¬ (4 : Int) ≤ (r : Int) := k4
      have k5 : (r : Int) < 4 := by omega
      have HE := Lib.hid (show pt14 (r : Int) = .agg #[.bool (r == 1), .bool (r == 2 || r == 3), .bool (r == 1 || r == 2)] by
        have : r = 0 ∨ r = 1 ∨ r = 2 ∨ r = 3 := by omega
        rcases this with rfl | rfl | rfl | rfl <;> rfl)
      clear c0 c1 c2 hT
      generalize (r == 1 || r == 2) = b3 at *
      generalize (r == 2 || r == 3) = b2 at *
      generalize (r == 1) = b1 at *
      go_enter Tryd.func26, Tryd.ntmps26
      go_wp2_with fail
      refine bodyPost_ret (v := .agg #[.bool b1, .bool b2, .bool b3]) (by simp [results, Tryd.results26, go_sem]) rfl ⟨by rw [HE.out], ?_⟩
      exact (bl w).alloc (Nat.le_refl _) _
end Go.Proofs.YtmieonfdenjedaaDoor

/-
  The document's Make of commands.
-/
namespace Go.Proofs.YtmieonfdenjedaaDoor
open Go.RowKit

/-- The version that a command records, or why none. -/
def makeC (now : Int) (last : Vr) (there : Bool) (c : Cm) : Vr × Nat :=
  if rightC c ≠ 0 then (noV, rightC c)
  else if now < 0 then (noV, 2)
  else if 1099511627775 ≤ now then (noV, 12)
  else if c.k = 1 then (⟨now + 1, now + 1, c.ent, c.sf, c.se, c.fa, c.fc, c.fs, false⟩, 0)
  else if there = false ∨ last.id ≠ c.tg then (noV, 5)
  else if last.gone = true then (noV, 6)
  else (⟨c.tg, now + 1, last.ent, c.sf, c.se, c.fa, c.fc, c.fs, decide (c.k = 3)⟩, 0)
abbrev BoxC (w : World) (g : Nat) (c : Cm) : Prop := w.cell? ⟨g, 0, none⟩ = some (.int .i64 c.k) ∧ w.cell? ⟨g, 1, none⟩ = some (.string c.ent) ∧ w.cell? ⟨g, 2, none⟩ = some (.int .i64 c.tg) ∧ w.cell? ⟨g, 3, none⟩ = some (.int .i64 c.sf) ∧ w.cell? ⟨g, 4, none⟩ = some (.int .i64 c.se) ∧ w.cell? ⟨g, 5, none⟩ = some (.slice c.fa c.fs.length c.fc)
/-- A version without anything, as it lies. -/
abbrev ocZ14 : Obj := .cells #[.int .i64 0, .int .i64 0, .string ⟨#[]⟩, .int .i64 0, .int .i64 0, .slice none 0 0, .bool false] 32
theorem holdV_z14 (w : World) : HoldV (w.alloc ocZ14) w.heap.size noV := holdV_new w noV
theorem BoxC.below {w w' : World} {g : Nat} {c : Cm} (h : BoxC w g c) (hb : Below w.heap.size w w') : BoxC w' g c :=
  ⟨keepc hb h.1, keepc hb h.2.1, keepc hb h.2.2.1, keepc hb h.2.2.2.1, keepc hb h.2.2.2.2.1, keepc hb h.2.2.2.2.2⟩
theorem boxC_new (w : World) (c : Cm) : BoxC (w.alloc (ocC c)) w.heap.size c := ⟨by simp [go_sem], by simp [go_sem], by simp [go_sem], by simp [go_sem], by simp [go_sem], by simp [go_sem]⟩
set_option maxHeartbeats 8000000 in
set_option maxRecDepth 10000 in
theorem dmake14_any (now : Int) (last : Vr) (there : Bool) (c : Cm) (w : World) (hv : CF14 w c) (hok : okF c.fs) (hn : c.fs.length ≤ 9223372036854775807) (hz : c.ent.size ≤ 9223372036854775807) :
    Ret 12 #[.int .i64 now, vv last, .bool there, cv14 c] w (.tuple #[vv (makeC now last there c).1, .int .i64 (((makeC now last there c).2 : Nat) : Int)]) := by
  have CR := Lib.hid (fun w' (h : Below w.heap.size w w') => drightc14_any c w' (hv.below h) hok hn hz)
  have hb1 : Below w.heap.size w (w.alloc (ocV last)) := (bl w).alloc (Nat.le_refl _) _
  have hb2 : Below w.heap.size w ((w.alloc (ocV last)).alloc (ocC c)) := hb1.alloc hb1.size _
  have HB := Lib.hid (show Below w.heap.size w (((w.alloc (ocV last)).alloc (ocC c)).alloc ocZ14) from hb2.alloc hb2.size _)
  have HX1 := Lib.hid (show BoxV (((w.alloc (ocV last)).alloc (ocC c)).alloc ocZ14) w.heap.size last from ((boxV_new w last).below ((bl _).alloc (Nat.le_refl _) _)).below ((bl _).alloc (Nat.le_refl _) _))
  have HX2 := Lib.hid (show BoxC (((w.alloc (ocV last)).alloc (ocC c)).alloc ocZ14) (w.heap.size + 1) c from by
    have := (boxC_new (w.alloc (ocV last)) c).below ((bl ((w.alloc (ocV last)).alloc (ocC c))).alloc (Nat.le_refl _) ocZ14)
    rwa [show (w.alloc (ocV last)).heap.size = w.heap.size + 1 by simp] at this)
  have HX3 := Lib.hid (show HoldV (((w.alloc (ocV last)).alloc (ocC c)).alloc ocZ14) (w.heap.size + 2) noV from by
    have := holdV_z14 ((w.alloc (ocV last)).alloc (ocC c))
    rwa [show ((w.alloc (ocV last)).alloc (ocC c)).heap.size = w.heap.size + 2 by simp] at this)
  obtain ⟨MC, hMC⟩ : ∃ MC, makeC now last there c = MC := ⟨_, rfl⟩
  have HM : MC = makeC now last there c := hMC.symm
  unfold makeC at HM
  rw [hMC]
  clear hMC hv hok hn hz hb1 hb2
  by_cases h0 : rightC c ≠ 0
  · rw [if_pos h0] at HM
    have h0' : ¬ ((rightC c : Nat) : Int) = 0 := by omega
    generalize rightC c = z at *
    clear h0
    have HE := Lib.hid (show MC = (noV, z) from by first | exact HM | (rw [HM]))
    clear HM
    go_enter Tryd.func12, Tryd.ntmps12
    go_wp2_with (go_at_call 10; (with_reducible refine (CR.out _ HB.out).mono ?_); rintro e w2 ⟨rfl, hb2⟩; have HC2 := Lib.hid (chain HB.out hb2); obtain ⟨l0, l1, l2, l3, l4, l5, l6⟩ := HX1.out.below hb2; obtain ⟨b0, b1, b2, b3, b4, b5⟩ := HX2.out.below hb2; obtain ⟨⟨k0, k1, k2, k3, k4, k5, k6⟩, ⟨f0, f1, f2, f3, f4, f5, f6⟩⟩ := HX3.out.below hb2; clear hb2)
    all_goals (obtain ⟨q0, q1, q2, q3, q4, q5, q6⟩ := seven_store (.int .i64 0) (.int .i64 0) (.string ⟨#[]⟩) (.int .i64 0) (.int .i64 0) (.slice none 0 0) (.bool false) k0 k1 k2 k3 k4 k5 k6)
    refine bodyPost_ret (v := .tuple #[vv noV, .int .i64 ((z : Nat) : Int)]) (by simp [results, Tryd.results12, go_sem, q0, q1, q2, q3, q4, q5, q6, noV]) rfl ⟨by rw [HE.out], ?_⟩
    exact seven_below HC2.out (by omega)
  rw [if_neg h0] at HM
  have h0 : rightC c = 0 := by omega
  rw [h0] at CR
  clear h0
  by_cases h1 : now < 0
  · rw [if_pos h1] at HM
    have HE := Lib.hid (show MC = (noV, 2) from by first | exact HM | (rw [HM]))
    clear HM
    go_enter Tryd.func12, Tryd.ntmps12
    go_wp2_with (go_at_call 10; (with_reducible refine (CR.out _ HB.out).mono ?_); rintro e w2 ⟨rfl, hb2⟩; have HC2 := Lib.hid (chain HB.out hb2); obtain ⟨l0, l1, l2, l3, l4, l5, l6⟩ := HX1.out.below hb2; obtain ⟨b0, b1, b2, b3, b4, b5⟩ := HX2.out.below hb2; obtain ⟨⟨k0, k1, k2, k3, k4, k5, k6⟩, ⟨f0, f1, f2, f3, f4, f5, f6⟩⟩ := HX3.out.below hb2; clear hb2)
    all_goals (obtain ⟨q0, q1, q2, q3, q4, q5, q6⟩ := seven_store (.int .i64 0) (.int .i64 0) (.string ⟨#[]⟩) (.int .i64 0) (.int .i64 0) (.slice none 0 0) (.bool false) k0 k1 k2 k3 k4 k5 k6)
    refine bodyPost_ret (v := .tuple #[vv noV, .int .i64 ((2 : Nat) : Int)]) (by simp [results, Tryd.results12, go_sem, q0, q1, q2, q3, q4, q5, q6, noV]) rfl ⟨by rw [HE.out], ?_⟩
    exact seven_below HC2.out (by omega)
  rw [if_neg h1] at HM
  by_cases h2 : 1099511627775 ≤ now
  · rw [if_pos h2] at HM
    have HE := Lib.hid (show MC = (noV, 12) from by first | exact HM | (rw [HM]))
    clear HM
    go_enter Tryd.func12, Tryd.ntmps12
    go_wp2_with (go_at_call 10; (with_reducible refine (CR.out _ HB.out).mono ?_); rintro e w2 ⟨rfl, hb2⟩; have HC2 := Lib.hid (chain HB.out hb2); obtain ⟨l0, l1, l2, l3, l4, l5, l6⟩ := HX1.out.below hb2; obtain ⟨b0, b1, b2, b3, b4, b5⟩ := HX2.out.below hb2; obtain ⟨⟨k0, k1, k2, k3, k4, k5, k6⟩, ⟨f0, f1, f2, f3, f4, f5, f6⟩⟩ := HX3.out.below hb2; clear hb2)
    all_goals (obtain ⟨q0, q1, q2, q3, q4, q5, q6⟩ := seven_store (.int .i64 0) (.int .i64 0) (.string ⟨#[]⟩) (.int .i64 0) (.int .i64 0) (.slice none 0 0) (.bool false) k0 k1 k2 k3 k4 k5 k6)
    refine bodyPost_ret (v := .tuple #[vv noV, .int .i64 ((12 : Nat) : Int)]) (by simp [results, Tryd.results12, go_sem, q0, q1, q2, q3, q4, q5, q6, noV]) rfl ⟨by rw [HE.out], ?_⟩
    exact seven_below HC2.out (by omega)
  rw [if_neg h2] at HM
  have hw1 : wrap64 (now + 1) = now + 1 := IntWalk.wrap64_in _ (by omega)
  have hw2 : IntKind.i64.wrap (now + 1) = now + 1 := by rw [IntKind.wrap_i64]; omega
  by_cases k1 : c.k = 1
  · rw [if_pos k1] at HM
    have k1b : (c.k == 1) = true := by rw [beq_iff_eq]; exact k1
    clear k1
    have HE := Lib.hid (show MC = (⟨now + 1, now + 1, c.ent, c.sf, c.se, c.fa, c.fc, c.fs, false⟩, 0) from by first | exact HM | (rw [HM]))
    clear HM
    go_enter Tryd.func12, Tryd.ntmps12
    go_wp2_with (go_at_call 10; (with_reducible refine (CR.out _ HB.out).mono ?_); rintro e w2 ⟨rfl, hb2⟩; have HC2 := Lib.hid (chain HB.out hb2); obtain ⟨l0, l1, l2, l3, l4, l5, l6⟩ := HX1.out.below hb2; obtain ⟨b0, b1, b2, b3, b4, b5⟩ := HX2.out.below hb2; obtain ⟨⟨k0, k1, k2, k3, k4, k5, k6⟩, ⟨f0, f1, f2, f3, f4, f5, f6⟩⟩ := HX3.out.below hb2; have G := fun o => (HX3.out.below hb2).below ((bl w2).alloc (Nat.le_refl _) o); have g0 := fun o => (G o).1.1; have g1 := fun o => (G o).1.2.1; have g2 := fun o => (G o).1.2.2.1; have g3 := fun o => (G o).1.2.2.2.1; have g4 := fun o => (G o).1.2.2.2.2.1; have g5 := fun o => (G o).1.2.2.2.2.2.1; have g6 := fun o => (G o).1.2.2.2.2.2.2; have e0 := fun o => (G o).2.1; have e1 := fun o => (G o).2.2.1; have e2 := fun o => (G o).2.2.2.1; have e3 := fun o => (G o).2.2.2.2.1; have e4 := fun o => (G o).2.2.2.2.2.1; have e5 := fun o => (G o).2.2.2.2.2.2.1; have e6 := fun o => (G o).2.2.2.2.2.2.2; have B := fun o => (HX2.out.below hb2).below ((bl w2).alloc (Nat.le_refl _) o); have c0 := fun o => (B o).1; have c1 := fun o => (B o).2.1; have c2 := fun o => (B o).2.2.1; have c3 := fun o => (B o).2.2.2.1; have c4 := fun o => (B o).2.2.2.2.1; have c5 := fun o => (B o).2.2.2.2.2; have V := fun o => (HX1.out.below hb2).below ((bl w2).alloc (Nat.le_refl _) o); have v0 := fun o => (V o).1; have v1 := fun o => (V o).2.1; have v2 := fun o => (V o).2.2.1; have v3 := fun o => (V o).2.2.2.1; have v4 := fun o => (V o).2.2.2.2.1; have v5 := fun o => (V o).2.2.2.2.2.1; have v6 := fun o => (V o).2.2.2.2.2.2; clear G B V hb2)
    all_goals (obtain ⟨q0, q1, q2, q3, q4, q5, q6⟩ := seven_store (.int .i64 (now + 1)) (.int .i64 (now + 1)) (.string c.ent) (.int .i64 c.sf) (.int .i64 c.se) (.slice c.fa c.fs.length c.fc) (.bool false) (g0 (.cells #[.int .i64 (now + 1), .int .i64 (now + 1), .string c.ent, .int .i64 c.sf, .int .i64 c.se, .slice c.fa c.fs.length c.fc, .bool false] 32)) (g1 (.cells #[.int .i64 (now + 1), .int .i64 (now + 1), .string c.ent, .int .i64 c.sf, .int .i64 c.se, .slice c.fa c.fs.length c.fc, .bool false] 32)) (g2 (.cells #[.int .i64 (now + 1), .int .i64 (now + 1), .string c.ent, .int .i64 c.sf, .int .i64 c.se, .slice c.fa c.fs.length c.fc, .bool false] 32)) (g3 (.cells #[.int .i64 (now + 1), .int .i64 (now + 1), .string c.ent, .int .i64 c.sf, .int .i64 c.se, .slice c.fa c.fs.length c.fc, .bool false] 32)) (g4 (.cells #[.int .i64 (now + 1), .int .i64 (now + 1), .string c.ent, .int .i64 c.sf, .int .i64 c.se, .slice c.fa c.fs.length c.fc, .bool false] 32)) (g5 (.cells #[.int .i64 (now + 1), .int .i64 (now + 1), .string c.ent, .int .i64 c.sf, .int .i64 c.se, .slice c.fa c.fs.length c.fc, .bool false] 32)) (g6 (.cells #[.int .i64 (now + 1), .int .i64 (now + 1), .string c.ent, .int .i64 c.sf, .int .i64 c.se, .slice c.fa c.fs.length c.fc, .bool false] 32)))
    refine bodyPost_ret (v := .tuple #[.agg #[.int .i64 (now + 1), .int .i64 (now + 1), .string c.ent, .int .i64 c.sf, .int .i64 c.se, .slice c.fa c.fs.length c.fc, .bool false], .int .i64 0]) (by simp [results, Tryd.results12, go_sem, q0, q1, q2, q3, q4, q5, q6]) rfl ⟨by rw [HE.out]; rfl, ?_⟩
    exact seven_below (HC2.out.alloc HC2.out.size _) (by omega)
  rw [if_neg k1] at HM
  have k1b : (c.k == 1) = false := by rw [beq_eq_false_iff_ne]; exact k1
  cases there with
  | false =>
    rw [if_pos (.inl rfl)] at HM
    have HE := Lib.hid (show MC = (noV, 5) from by first | exact HM | (rw [HM]))
    clear HM
    go_enter Tryd.func12, Tryd.ntmps12
    go_wp2_with (go_at_call 10; (with_reducible refine (CR.out _ HB.out).mono ?_); rintro e w2 ⟨rfl, hb2⟩; have HC2 := Lib.hid (chain HB.out hb2); obtain ⟨l0, l1, l2, l3, l4, l5, l6⟩ := HX1.out.below hb2; obtain ⟨b0, b1, b2, b3, b4, b5⟩ := HX2.out.below hb2; obtain ⟨⟨k0, k1, k2, k3, k4, k5, k6⟩, ⟨f0, f1, f2, f3, f4, f5, f6⟩⟩ := HX3.out.below hb2; have G := fun o => (HX3.out.below hb2).below ((bl w2).alloc (Nat.le_refl _) o); have g0 := fun o => (G o).1.1; have g1 := fun o => (G o).1.2.1; have g2 := fun o => (G o).1.2.2.1; have g3 := fun o => (G o).1.2.2.2.1; have g4 := fun o => (G o).1.2.2.2.2.1; have g5 := fun o => (G o).1.2.2.2.2.2.1; have g6 := fun o => (G o).1.2.2.2.2.2.2; have e0 := fun o => (G o).2.1; have e1 := fun o => (G o).2.2.1; have e2 := fun o => (G o).2.2.2.1; have e3 := fun o => (G o).2.2.2.2.1; have e4 := fun o => (G o).2.2.2.2.2.1; have e5 := fun o => (G o).2.2.2.2.2.2.1; have e6 := fun o => (G o).2.2.2.2.2.2.2; have B := fun o => (HX2.out.below hb2).below ((bl w2).alloc (Nat.le_refl _) o); have c0 := fun o => (B o).1; have c1 := fun o => (B o).2.1; have c2 := fun o => (B o).2.2.1; have c3 := fun o => (B o).2.2.2.1; have c4 := fun o => (B o).2.2.2.2.1; have c5 := fun o => (B o).2.2.2.2.2; have V := fun o => (HX1.out.below hb2).below ((bl w2).alloc (Nat.le_refl _) o); have v0 := fun o => (V o).1; have v1 := fun o => (V o).2.1; have v2 := fun o => (V o).2.2.1; have v3 := fun o => (V o).2.2.2.1; have v4 := fun o => (V o).2.2.2.2.1; have v5 := fun o => (V o).2.2.2.2.2.1; have v6 := fun o => (V o).2.2.2.2.2.2; clear G B V hb2)
    all_goals (obtain ⟨q0, q1, q2, q3, q4, q5, q6⟩ := seven_store (.int .i64 0) (.int .i64 0) (.string ⟨#[]⟩) (.int .i64 0) (.int .i64 0) (.slice none 0 0) (.bool false) (g0 (.cells #[.int .i64 (now + 1), .int .i64 (now + 1), .string c.ent, .int .i64 c.sf, .int .i64 c.se, .slice c.fa c.fs.length c.fc, .bool false] 32)) (g1 (.cells #[.int .i64 (now + 1), .int .i64 (now + 1), .string c.ent, .int .i64 c.sf, .int .i64 c.se, .slice c.fa c.fs.length c.fc, .bool false] 32)) (g2 (.cells #[.int .i64 (now + 1), .int .i64 (now + 1), .string c.ent, .int .i64 c.sf, .int .i64 c.se, .slice c.fa c.fs.length c.fc, .bool false] 32)) (g3 (.cells #[.int .i64 (now + 1), .int .i64 (now + 1), .string c.ent, .int .i64 c.sf, .int .i64 c.se, .slice c.fa c.fs.length c.fc, .bool false] 32)) (g4 (.cells #[.int .i64 (now + 1), .int .i64 (now + 1), .string c.ent, .int .i64 c.sf, .int .i64 c.se, .slice c.fa c.fs.length c.fc, .bool false] 32)) (g5 (.cells #[.int .i64 (now + 1), .int .i64 (now + 1), .string c.ent, .int .i64 c.sf, .int .i64 c.se, .slice c.fa c.fs.length c.fc, .bool false] 32)) (g6 (.cells #[.int .i64 (now + 1), .int .i64 (now + 1), .string c.ent, .int .i64 c.sf, .int .i64 c.se, .slice c.fa c.fs.length c.fc, .bool false] 32)))
    refine bodyPost_ret (v := .tuple #[vv noV, .int .i64 ((5 : Nat) : Int)]) (by simp [results, Tryd.results12, go_sem, q0, q1, q2, q3, q4, q5, q6, noV]) rfl ⟨by rw [HE.out], ?_⟩
    exact seven_below (HC2.out.alloc HC2.out.size _) (by omega)
  | true =>
    by_cases k2 : last.id ≠ c.tg
    · rw [if_pos (.inr k2)] at HM
      have k2b : (last.id != c.tg) = true := by rw [bne_iff_ne]; exact k2
      have HE := Lib.hid (show MC = (noV, 5) from by first | exact HM | (rw [HM]))
      clear HM
      go_enter Tryd.func12, Tryd.ntmps12
      go_wp2_with (go_at_call 10; (with_reducible refine (CR.out _ HB.out).mono ?_); rintro e w2 ⟨rfl, hb2⟩; have HC2 := Lib.hid (chain HB.out hb2); obtain ⟨l0, l1, l2, l3, l4, l5, l6⟩ := HX1.out.below hb2; obtain ⟨b0, b1, b2, b3, b4, b5⟩ := HX2.out.below hb2; obtain ⟨⟨k0, k1, k2, k3, k4, k5, k6⟩, ⟨f0, f1, f2, f3, f4, f5, f6⟩⟩ := HX3.out.below hb2; have G := fun o => (HX3.out.below hb2).below ((bl w2).alloc (Nat.le_refl _) o); have g0 := fun o => (G o).1.1; have g1 := fun o => (G o).1.2.1; have g2 := fun o => (G o).1.2.2.1; have g3 := fun o => (G o).1.2.2.2.1; have g4 := fun o => (G o).1.2.2.2.2.1; have g5 := fun o => (G o).1.2.2.2.2.2.1; have g6 := fun o => (G o).1.2.2.2.2.2.2; have e0 := fun o => (G o).2.1; have e1 := fun o => (G o).2.2.1; have e2 := fun o => (G o).2.2.2.1; have e3 := fun o => (G o).2.2.2.2.1; have e4 := fun o => (G o).2.2.2.2.2.1; have e5 := fun o => (G o).2.2.2.2.2.2.1; have e6 := fun o => (G o).2.2.2.2.2.2.2; have B := fun o => (HX2.out.below hb2).below ((bl w2).alloc (Nat.le_refl _) o); have c0 := fun o => (B o).1; have c1 := fun o => (B o).2.1; have c2 := fun o => (B o).2.2.1; have c3 := fun o => (B o).2.2.2.1; have c4 := fun o => (B o).2.2.2.2.1; have c5 := fun o => (B o).2.2.2.2.2; have V := fun o => (HX1.out.below hb2).below ((bl w2).alloc (Nat.le_refl _) o); have v0 := fun o => (V o).1; have v1 := fun o => (V o).2.1; have v2 := fun o => (V o).2.2.1; have v3 := fun o => (V o).2.2.2.1; have v4 := fun o => (V o).2.2.2.2.1; have v5 := fun o => (V o).2.2.2.2.2.1; have v6 := fun o => (V o).2.2.2.2.2.2; clear G B V hb2)
      all_goals (obtain ⟨q0, q1, q2, q3, q4, q5, q6⟩ := seven_store (.int .i64 0) (.int .i64 0) (.string ⟨#[]⟩) (.int .i64 0) (.int .i64 0) (.slice none 0 0) (.bool false) (g0 (.cells #[.int .i64 (now + 1), .int .i64 (now + 1), .string c.ent, .int .i64 c.sf, .int .i64 c.se, .slice c.fa c.fs.length c.fc, .bool false] 32)) (g1 (.cells #[.int .i64 (now + 1), .int .i64 (now + 1), .string c.ent, .int .i64 c.sf, .int .i64 c.se, .slice c.fa c.fs.length c.fc, .bool false] 32)) (g2 (.cells #[.int .i64 (now + 1), .int .i64 (now + 1), .string c.ent, .int .i64 c.sf, .int .i64 c.se, .slice c.fa c.fs.length c.fc, .bool false] 32)) (g3 (.cells #[.int .i64 (now + 1), .int .i64 (now + 1), .string c.ent, .int .i64 c.sf, .int .i64 c.se, .slice c.fa c.fs.length c.fc, .bool false] 32)) (g4 (.cells #[.int .i64 (now + 1), .int .i64 (now + 1), .string c.ent, .int .i64 c.sf, .int .i64 c.se, .slice c.fa c.fs.length c.fc, .bool false] 32)) (g5 (.cells #[.int .i64 (now + 1), .int .i64 (now + 1), .string c.ent, .int .i64 c.sf, .int .i64 c.se, .slice c.fa c.fs.length c.fc, .bool false] 32)) (g6 (.cells #[.int .i64 (now + 1), .int .i64 (now + 1), .string c.ent, .int .i64 c.sf, .int .i64 c.se, .slice c.fa c.fs.length c.fc, .bool false] 32)))
      refine bodyPost_ret (v := .tuple #[vv noV, .int .i64 ((5 : Nat) : Int)]) (by simp [results, Tryd.results12, go_sem, q0, q1, q2, q3, q4, q5, q6, noV]) rfl ⟨by rw [HE.out], ?_⟩
      exact seven_below (HC2.out.alloc HC2.out.size _) (by omega)
    · rw [if_neg (by simp; omega)] at HM
      have k2b : (last.id != c.tg) = false := by simpa using k2
      cases hg : last.gone with
      | true =>
        rw [if_pos hg] at HM
        have HG := Lib.hid hg
        have HK := Lib.hid k2b
        clear k2 k2b hg
        have HE := Lib.hid (show MC = (noV, 6) from by first | exact HM | (rw [HM]))
        clear HM
        go_enter Tryd.func12, Tryd.ntmps12
        go_wp2_with (go_at_call 10; (with_reducible refine (CR.out _ HB.out).mono ?_); rintro e w2 ⟨rfl, hb2⟩; have HC2 := Lib.hid (chain HB.out hb2); obtain ⟨l0, l1, l2, l3, l4, l5, l6⟩ := HX1.out.below hb2; obtain ⟨b0, b1, b2, b3, b4, b5⟩ := HX2.out.below hb2; obtain ⟨⟨k0, k1, k2, k3, k4, k5, k6⟩, ⟨f0, f1, f2, f3, f4, f5, f6⟩⟩ := HX3.out.below hb2; have G := fun o => (HX3.out.below hb2).below ((bl w2).alloc (Nat.le_refl _) o); have g0 := fun o => (G o).1.1; have g1 := fun o => (G o).1.2.1; have g2 := fun o => (G o).1.2.2.1; have g3 := fun o => (G o).1.2.2.2.1; have g4 := fun o => (G o).1.2.2.2.2.1; have g5 := fun o => (G o).1.2.2.2.2.2.1; have g6 := fun o => (G o).1.2.2.2.2.2.2; have e0 := fun o => (G o).2.1; have e1 := fun o => (G o).2.2.1; have e2 := fun o => (G o).2.2.2.1; have e3 := fun o => (G o).2.2.2.2.1; have e4 := fun o => (G o).2.2.2.2.2.1; have e5 := fun o => (G o).2.2.2.2.2.2.1; have e6 := fun o => (G o).2.2.2.2.2.2.2; have B := fun o => (HX2.out.below hb2).below ((bl w2).alloc (Nat.le_refl _) o); have c0 := fun o => (B o).1; have c1 := fun o => (B o).2.1; have c2 := fun o => (B o).2.2.1; have c3 := fun o => (B o).2.2.2.1; have c4 := fun o => (B o).2.2.2.2.1; have c5 := fun o => (B o).2.2.2.2.2; have V := fun o => (HX1.out.below hb2).below ((bl w2).alloc (Nat.le_refl _) o); have v0 := fun o => (V o).1; have v1 := fun o => (V o).2.1; have v2 := fun o => (V o).2.2.1; have v3 := fun o => (V o).2.2.2.1; have v4 := fun o => (V o).2.2.2.2.1; have v5 := fun o => (V o).2.2.2.2.2.1; have v6 := fun o => (V o).2.2.2.2.2.2; clear G B V hb2; have hgv := HG.out; have hkv := HK.out)
        all_goals (obtain ⟨q0, q1, q2, q3, q4, q5, q6⟩ := seven_store (.int .i64 0) (.int .i64 0) (.string ⟨#[]⟩) (.int .i64 0) (.int .i64 0) (.slice none 0 0) (.bool false) (g0 (.cells #[.int .i64 (now + 1), .int .i64 (now + 1), .string c.ent, .int .i64 c.sf, .int .i64 c.se, .slice c.fa c.fs.length c.fc, .bool false] 32)) (g1 (.cells #[.int .i64 (now + 1), .int .i64 (now + 1), .string c.ent, .int .i64 c.sf, .int .i64 c.se, .slice c.fa c.fs.length c.fc, .bool false] 32)) (g2 (.cells #[.int .i64 (now + 1), .int .i64 (now + 1), .string c.ent, .int .i64 c.sf, .int .i64 c.se, .slice c.fa c.fs.length c.fc, .bool false] 32)) (g3 (.cells #[.int .i64 (now + 1), .int .i64 (now + 1), .string c.ent, .int .i64 c.sf, .int .i64 c.se, .slice c.fa c.fs.length c.fc, .bool false] 32)) (g4 (.cells #[.int .i64 (now + 1), .int .i64 (now + 1), .string c.ent, .int .i64 c.sf, .int .i64 c.se, .slice c.fa c.fs.length c.fc, .bool false] 32)) (g5 (.cells #[.int .i64 (now + 1), .int .i64 (now + 1), .string c.ent, .int .i64 c.sf, .int .i64 c.se, .slice c.fa c.fs.length c.fc, .bool false] 32)) (g6 (.cells #[.int .i64 (now + 1), .int .i64 (now + 1), .string c.ent, .int .i64 c.sf, .int .i64 c.se, .slice c.fa c.fs.length c.fc, .bool false] 32)))
        refine bodyPost_ret (v := .tuple #[vv noV, .int .i64 ((6 : Nat) : Int)]) (by simp [results, Tryd.results12, go_sem, q0, q1, q2, q3, q4, q5, q6, noV]) rfl ⟨by rw [HE.out], ?_⟩
        exact seven_below (HC2.out.alloc HC2.out.size _) (by omega)
      | false =>
        rw [if_neg (by rw [hg]; simp)] at HM
        cases k3b : (c.k == 3) with
        | true =>
          have k3 : decide (c.k = 3) = true := by simpa using k3b
          rw [k3] at HM
          have HG := Lib.hid hg
          have HK := Lib.hid k2b
          have HK3 := Lib.hid k3b
          clear k2 k2b k3 k3b hg
          have HE := Lib.hid (show MC = (⟨c.tg, now + 1, last.ent, c.sf, c.se, c.fa, c.fc, c.fs, true⟩, 0) from by first | exact HM | (rw [HM]))
          clear HM
          go_enter Tryd.func12, Tryd.ntmps12
          go_wp2_with (go_at_call 10; (with_reducible refine (CR.out _ HB.out).mono ?_); rintro e w2 ⟨rfl, hb2⟩; have HC2 := Lib.hid (chain HB.out hb2); obtain ⟨l0, l1, l2, l3, l4, l5, l6⟩ := HX1.out.below hb2; obtain ⟨b0, b1, b2, b3, b4, b5⟩ := HX2.out.below hb2; obtain ⟨⟨k0, k1, k2, k3, k4, k5, k6⟩, ⟨f0, f1, f2, f3, f4, f5, f6⟩⟩ := HX3.out.below hb2; have G := fun o => (HX3.out.below hb2).below ((bl w2).alloc (Nat.le_refl _) o); have g0 := fun o => (G o).1.1; have g1 := fun o => (G o).1.2.1; have g2 := fun o => (G o).1.2.2.1; have g3 := fun o => (G o).1.2.2.2.1; have g4 := fun o => (G o).1.2.2.2.2.1; have g5 := fun o => (G o).1.2.2.2.2.2.1; have g6 := fun o => (G o).1.2.2.2.2.2.2; have e0 := fun o => (G o).2.1; have e1 := fun o => (G o).2.2.1; have e2 := fun o => (G o).2.2.2.1; have e3 := fun o => (G o).2.2.2.2.1; have e4 := fun o => (G o).2.2.2.2.2.1; have e5 := fun o => (G o).2.2.2.2.2.2.1; have e6 := fun o => (G o).2.2.2.2.2.2.2; have B := fun o => (HX2.out.below hb2).below ((bl w2).alloc (Nat.le_refl _) o); have c0 := fun o => (B o).1; have c1 := fun o => (B o).2.1; have c2 := fun o => (B o).2.2.1; have c3 := fun o => (B o).2.2.2.1; have c4 := fun o => (B o).2.2.2.2.1; have c5 := fun o => (B o).2.2.2.2.2; have V := fun o => (HX1.out.below hb2).below ((bl w2).alloc (Nat.le_refl _) o); have v0 := fun o => (V o).1; have v1 := fun o => (V o).2.1; have v2 := fun o => (V o).2.2.1; have v3 := fun o => (V o).2.2.2.1; have v4 := fun o => (V o).2.2.2.2.1; have v5 := fun o => (V o).2.2.2.2.2.1; have v6 := fun o => (V o).2.2.2.2.2.2; clear G B V hb2; have hgv := HG.out; have hkv := HK.out; have hkw := HK3.out)
          all_goals (obtain ⟨q0, q1, q2, q3, q4, q5, q6⟩ := seven_store (.int .i64 c.tg) (.int .i64 (now + 1)) (.string last.ent) (.int .i64 c.sf) (.int .i64 c.se) (.slice c.fa c.fs.length c.fc) (.bool true) (g0 (.cells #[.int .i64 c.tg, .int .i64 (now + 1), .string last.ent, .int .i64 c.sf, .int .i64 c.se, .slice c.fa c.fs.length c.fc, .bool true] 32)) (g1 (.cells #[.int .i64 c.tg, .int .i64 (now + 1), .string last.ent, .int .i64 c.sf, .int .i64 c.se, .slice c.fa c.fs.length c.fc, .bool true] 32)) (g2 (.cells #[.int .i64 c.tg, .int .i64 (now + 1), .string last.ent, .int .i64 c.sf, .int .i64 c.se, .slice c.fa c.fs.length c.fc, .bool true] 32)) (g3 (.cells #[.int .i64 c.tg, .int .i64 (now + 1), .string last.ent, .int .i64 c.sf, .int .i64 c.se, .slice c.fa c.fs.length c.fc, .bool true] 32)) (g4 (.cells #[.int .i64 c.tg, .int .i64 (now + 1), .string last.ent, .int .i64 c.sf, .int .i64 c.se, .slice c.fa c.fs.length c.fc, .bool true] 32)) (g5 (.cells #[.int .i64 c.tg, .int .i64 (now + 1), .string last.ent, .int .i64 c.sf, .int .i64 c.se, .slice c.fa c.fs.length c.fc, .bool true] 32)) (g6 (.cells #[.int .i64 c.tg, .int .i64 (now + 1), .string last.ent, .int .i64 c.sf, .int .i64 c.se, .slice c.fa c.fs.length c.fc, .bool true] 32)))
          refine bodyPost_ret (v := .tuple #[.agg #[.int .i64 c.tg, .int .i64 (now + 1), .string last.ent, .int .i64 c.sf, .int .i64 c.se, .slice c.fa c.fs.length c.fc, .bool true], .int .i64 0]) (by simp [results, Tryd.results12, go_sem, q0, q1, q2, q3, q4, q5, q6]) rfl ⟨by rw [HE.out]; rfl, ?_⟩
          exact seven_below (HC2.out.alloc HC2.out.size _) (by omega)
        | false =>
          have k3 : decide (c.k = 3) = false := by simpa using k3b
          rw [k3] at HM
          have HG := Lib.hid hg
          have HK := Lib.hid k2b
          have HK3 := Lib.hid k3b
          clear k2 k2b k3 k3b hg
          have HE := Lib.hid (show MC = (⟨c.tg, now + 1, last.ent, c.sf, c.se, c.fa, c.fc, c.fs, false⟩, 0) from by first | exact HM | (rw [HM]))
          clear HM
          go_enter Tryd.func12, Tryd.ntmps12
          go_wp2_with (go_at_call 10; (with_reducible refine (CR.out _ HB.out).mono ?_); rintro e w2 ⟨rfl, hb2⟩; have HC2 := Lib.hid (chain HB.out hb2); obtain ⟨l0, l1, l2, l3, l4, l5, l6⟩ := HX1.out.below hb2; obtain ⟨b0, b1, b2, b3, b4, b5⟩ := HX2.out.below hb2; obtain ⟨⟨k0, k1, k2, k3, k4, k5, k6⟩, ⟨f0, f1, f2, f3, f4, f5, f6⟩⟩ := HX3.out.below hb2; have G := fun o => (HX3.out.below hb2).below ((bl w2).alloc (Nat.le_refl _) o); have g0 := fun o => (G o).1.1; have g1 := fun o => (G o).1.2.1; have g2 := fun o => (G o).1.2.2.1; have g3 := fun o => (G o).1.2.2.2.1; have g4 := fun o => (G o).1.2.2.2.2.1; have g5 := fun o => (G o).1.2.2.2.2.2.1; have g6 := fun o => (G o).1.2.2.2.2.2.2; have e0 := fun o => (G o).2.1; have e1 := fun o => (G o).2.2.1; have e2 := fun o => (G o).2.2.2.1; have e3 := fun o => (G o).2.2.2.2.1; have e4 := fun o => (G o).2.2.2.2.2.1; have e5 := fun o => (G o).2.2.2.2.2.2.1; have e6 := fun o => (G o).2.2.2.2.2.2.2; have B := fun o => (HX2.out.below hb2).below ((bl w2).alloc (Nat.le_refl _) o); have c0 := fun o => (B o).1; have c1 := fun o => (B o).2.1; have c2 := fun o => (B o).2.2.1; have c3 := fun o => (B o).2.2.2.1; have c4 := fun o => (B o).2.2.2.2.1; have c5 := fun o => (B o).2.2.2.2.2; have V := fun o => (HX1.out.below hb2).below ((bl w2).alloc (Nat.le_refl _) o); have v0 := fun o => (V o).1; have v1 := fun o => (V o).2.1; have v2 := fun o => (V o).2.2.1; have v3 := fun o => (V o).2.2.2.1; have v4 := fun o => (V o).2.2.2.2.1; have v5 := fun o => (V o).2.2.2.2.2.1; have v6 := fun o => (V o).2.2.2.2.2.2; clear G B V hb2; have hgv := HG.out; have hkv := HK.out; have hkw := HK3.out)
          all_goals (obtain ⟨q0, q1, q2, q3, q4, q5, q6⟩ := seven_store (.int .i64 c.tg) (.int .i64 (now + 1)) (.string last.ent) (.int .i64 c.sf) (.int .i64 c.se) (.slice c.fa c.fs.length c.fc) (.bool false) (g0 (.cells #[.int .i64 c.tg, .int .i64 (now + 1), .string last.ent, .int .i64 c.sf, .int .i64 c.se, .slice c.fa c.fs.length c.fc, .bool false] 32)) (g1 (.cells #[.int .i64 c.tg, .int .i64 (now + 1), .string last.ent, .int .i64 c.sf, .int .i64 c.se, .slice c.fa c.fs.length c.fc, .bool false] 32)) (g2 (.cells #[.int .i64 c.tg, .int .i64 (now + 1), .string last.ent, .int .i64 c.sf, .int .i64 c.se, .slice c.fa c.fs.length c.fc, .bool false] 32)) (g3 (.cells #[.int .i64 c.tg, .int .i64 (now + 1), .string last.ent, .int .i64 c.sf, .int .i64 c.se, .slice c.fa c.fs.length c.fc, .bool false] 32)) (g4 (.cells #[.int .i64 c.tg, .int .i64 (now + 1), .string last.ent, .int .i64 c.sf, .int .i64 c.se, .slice c.fa c.fs.length c.fc, .bool false] 32)) (g5 (.cells #[.int .i64 c.tg, .int .i64 (now + 1), .string last.ent, .int .i64 c.sf, .int .i64 c.se, .slice c.fa c.fs.length c.fc, .bool false] 32)) (g6 (.cells #[.int .i64 c.tg, .int .i64 (now + 1), .string last.ent, .int .i64 c.sf, .int .i64 c.se, .slice c.fa c.fs.length c.fc, .bool false] 32)))
          refine bodyPost_ret (v := .tuple #[.agg #[.int .i64 c.tg, .int .i64 (now + 1), .string last.ent, .int .i64 c.sf, .int .i64 c.se, .slice c.fa c.fs.length c.fc, .bool false], .int .i64 0]) (by simp [results, Tryd.results12, go_sem, q0, q1, q2, q3, q4, q5, q6]) rfl ⟨by rw [HE.out]; rfl, ?_⟩
          exact seven_below (HC2.out.alloc HC2.out.size _) (by omega)
end Go.Proofs.YtmieonfdenjedaaDoor

/-
  The document's One and Same of versions.
-/
namespace Go.Proofs.YtmieonfdenjedaaDoor
open Go.RowKit

theorem Tryd.noGuardSpan : Tryd.prog.eqGuardType Tryd.prog.depth 23 = false := by kernel_rfl
set_option maxRecDepth 100000 in
theorem run_eql_span (a b c d : Int) (w : World) : (binOp .eql 23 (.agg #[.int .i64 a, .int .i64 b]) (.agg #[.int .i64 c, .int .i64 d])).run Tryd.prog w = .ok (.bool (decide (a = c ∧ b = d))) w := by
  rw [run_eql_struct, run_equalIn_struct w 9999 23 _ _ Tryd.underlying23 (by kernel_rfl)]
  have h3 := Tryd.underlying3
  have a3 : ∀ w, (isAgg 3).run Tryd.prog w = .ok false w := Tryd.isAgg3
  have c3 : Tryd.prog.cellsOf 3 = 1 := by kernel_rfl
  simp [Op.eqFields, Program.fieldsOf, Tryd.underlying23, part, a3, run_equalIn_int w 9998 _ .i64 .i64 _ _ h3]
  by_cases h1 : a = c
  · by_cases h2 : b = d <;> simp [h1, h2]
  · simp [h1]

set_option maxHeartbeats 4000000 in
set_option maxRecDepth 10000 in
theorem done_v (a b : Vr) (w : World) (ha : VF w a) (hb : VF w b) (hn : a.fs.length ≤ 100000) (hm : b.fs.length ≤ 100000) : Ret 13 #[vv a, vv b] w (.bool (sameV a b)) := by
  have CS0 := fun w' (h : Below w.heap.size w w') => dsame_any w' a.fa b.fa a.fc b.fc a.fs b.fs (ha.1.below h) (hb.1.below h) (by omega) (by omega)
  obtain ⟨R, hR⟩ : ∃ R, sameV a b = R := ⟨_, rfl⟩
  have HR : R = (decide (a.id = b.id) && decide (a.st = b.st) && decide (a.ent.toList = b.ent.toList) && (decide (a.sf = b.sf) && decide (a.se = b.se)) && (a.gone == b.gone) && sameF a.fs b.fs) := hR.symm
  rw [hR]
  obtain ⟨id, st, ent, sf, se, fa, fc, fs, gone⟩ := a
  obtain ⟨id', st', ent', sf', se', fa', fc', fs', gone'⟩ := b
  have CS := Lib.hid CS0
  simp only at HR
  clear ha hb hR CS0
  generalize sameF fs fs' = S at *
  have hng := Tryd.noGuardSpan
  have HB := Lib.hid (((bl w).alloc (Nat.le_refl _) (.cells #[.int .i64 id, .int .i64 st, .string ent, .int .i64 sf, .int .i64 se, .slice fa fs.length fc, .bool gone] 32)).alloc (by simp) (.cells #[.int .i64 id', .int .i64 st', .string ent', .int .i64 sf', .int .i64 se', .slice fa' fs'.length fc', .bool gone'] 32))
  have hsp := run_eql_span sf se sf' se'
  by_cases h1 : id = id'
  · by_cases h2 : st = st'
    · by_cases h3 : ent.toList = ent'.toList
      · have h3b : (ent.toList == ent'.toList) = true := by rw [beq_iff_eq]; exact h3
        by_cases h4 : sf = sf' ∧ se = se'
        · rw [decide_eq_true h4] at hsp
          by_cases h5 : gone = gone'
          · have HE := Lib.hid (show R = S by rw [HR]; simp [h1, h2, h3, h4.1, h4.2, h5])
            have h5b : (gone == gone') = true := by rw [beq_iff_eq]; exact h5
            have C2 := Lib.hid (CS.out _ HB.out)
            subst h1 h2 h5
            clear HR h3 h4
            go_enter Tryd.func13, Tryd.ntmps13
            go_wp2_with (go_at_call 36; (with_reducible refine C2.out.mono ?_); rintro e w2 ⟨rfl, hb2⟩)
            go_ret
            exact ⟨ret_bool HE.out.symm, HB.out.trans (hb2.mono HB.out.size)⟩
          · have HE := Lib.hid (show R = false by rw [HR]; simp [h5])
            have h5b : (gone == gone') = false := by rw [beq_eq_false_iff_ne]; exact h5
            subst h1 h2
            clear HR h3 h4
            go_enter Tryd.func13, Tryd.ntmps13
            go_wp2_with fail
            go_ret
            exact ⟨ret_bool HE.out.symm, HB.out⟩
        · have HE := Lib.hid (show R = false by
            rw [HR]
            by_cases h6 : sf = sf'
            · have : ¬ se = se' := fun h => h4 ⟨h6, h⟩
              simp [this]
            · simp [h6])
          rw [decide_eq_false h4] at hsp
          subst h1 h2
          clear HR h3 h4
          go_enter Tryd.func13, Tryd.ntmps13
          go_wp2_with fail
          go_ret
          exact ⟨ret_bool HE.out.symm, HB.out⟩
      · have HE := Lib.hid (show R = false by rw [HR]; simp [h3])
        have h3b : (ent.toList == ent'.toList) = false := by rw [beq_eq_false_iff_ne]; exact h3
        subst h1 h2
        clear HR h3
        go_enter Tryd.func13, Tryd.ntmps13
        go_wp2_with fail
        go_ret
        exact ⟨ret_bool HE.out.symm, HB.out⟩
    · have HE := Lib.hid (show R = false by rw [HR]; simp [h2])
      subst h1
      clear HR
      go_enter Tryd.func13, Tryd.ntmps13
      go_wp2_with fail
      go_ret
      exact ⟨ret_bool HE.out.symm, HB.out⟩
  · have HE := Lib.hid (show R = false by rw [HR]; simp [h1])
    clear HR
    go_enter Tryd.func13, Tryd.ntmps13
    go_wp2_with fail
    go_ret
    exact ⟨ret_bool HE.out.symm, HB.out⟩

end Go.Proofs.YtmieonfdenjedaaDoor

/-
  The document's One, Same and Few of commands; lists of commands.
-/
namespace Go.Proofs.YtmieonfdenjedaaDoor
open Go.RowKit

def EC14 : El Cm where
  s := 44
  e := 26
  sz := 6
  bys := 72
  z := .agg #[.int .i64 0, .string ⟨#[]⟩, .int .i64 0, .int .i64 0, .int .i64 0, .slice none 0 0]
  cells := cellsC14
  pos := by decide
  few := by decide
  len := fun _ => rfl
  one := fun x u hu => by
    simp only [cellsC14, List.mem_cons, List.not_mem_nil, or_false] at hu
    rcases hu with rfl | rfl | rfl | rfl | rfl | rfl <;> rfl
  und := Tryd.underlying44
  info := by kernel_rfl
  zs := rfl
/-- A list of commands as a value. -/
def CmsL (w : World) (u : Value) (l : List Cm) : Prop := ListE EC14 w u l ∧ ∀ c ∈ l, CF14 w c
theorem CmsL.below {w w' : World} {u : Value} {l : List Cm} (h : CmsL w u l) (hb : Below w.heap.size w w') : CmsL w' u l := ⟨h.1.below hb, fun c hc => (h.2 c hc).below hb⟩
abbrev Cells6 (w : World) (g o : Nat) (c : Cm) : Prop := w.cell? ⟨g, o, none⟩ = some (.int .i64 c.k) ∧ w.cell? ⟨g, o + 1, none⟩ = some (.string c.ent) ∧ w.cell? ⟨g, o + 2, none⟩ = some (.int .i64 c.tg) ∧ w.cell? ⟨g, o + 3, none⟩ = some (.int .i64 c.sf) ∧ w.cell? ⟨g, o + 4, none⟩ = some (.int .i64 c.se) ∧ w.cell? ⟨g, o + 5, none⟩ = some (.slice c.fa c.fs.length c.fc)
theorem cells6_at {w : World} {A : Option Addr} {l : List Cm} (h : RowE EC14 w A l) {k : Nat} {c : Cm} (hv : l[k]? = some c) : ∃ g off, A = some ⟨g, off, none⟩ ∧ Cells6 w g (off + k * 6) c := by
  obtain ⟨g, off, rfl, hc⟩ := h k c hv
  exact ⟨g, off, rfl, hc 0 _ rfl, hc 1 _ rfl, hc 2 _ rfl, hc 3 _ rfl, hc 4 _ rfl, hc 5 _ rfl⟩
theorem contC_eq {a b : Cm} (h : contC a = contC b) : a.k = b.k ∧ a.ent = b.ent ∧ a.tg = b.tg ∧ a.sf = b.sf ∧ a.se = b.se ∧ a.fs = b.fs := by
  unfold contC at h
  injection h with h1 h2 h3 h4 h5 _ _ h6
  exact ⟨h1, h2, h3, h4, h5, h6⟩
theorem eql_span14 (a b : Int) : ∀ w, (binOp .eql 23 (.agg #[.int .i64 a, .int .i64 b]) (.agg #[.int .i64 a, .int .i64 b])).run Tryd.prog w = .ok (.bool true) w := fun w => by rw [run_eql_span, decide_eq_true ⟨rfl, rfl⟩]
set_option maxHeartbeats 4000000 in
set_option maxRecDepth 10000 in
theorem done14_any (a b : Cm) (w : World) (ha : CF14 w a) (hb : CF14 w b) (h : contC a = contC b) (hn : a.fs.length ≤ 9223372036854775807) : Ret 18 #[cv14 a, cv14 b] w (.bool true) := by
  obtain ⟨k, ent, tg, sf, se, fa, fc, fs⟩ := a
  obtain ⟨k', ent', tg', sf', se', fb, fd, fs'⟩ := b
  obtain ⟨h1, h2, h3, h4, h5, h6⟩ := contC_eq h
  simp only at h1 h2 h3 h4 h5 h6 hn
  subst h1 h2 h3 h4 h5 h6
  have hb1 : Below w.heap.size w (w.alloc (.cells #[.int .i64 k, .string ent, .int .i64 tg, .int .i64 sf, .int .i64 se, .slice fa fs.length fc] 26)) := (bl w).alloc (Nat.le_refl _) _
  have HB := Lib.hid (show Below w.heap.size w ((w.alloc (.cells #[.int .i64 k, .string ent, .int .i64 tg, .int .i64 sf, .int .i64 se, .slice fa fs.length fc] 26)).alloc (.cells #[.int .i64 k, .string ent, .int .i64 tg, .int .i64 sf, .int .i64 se, .slice fb fs.length fd] 26)) from hb1.alloc hb1.size _)
  have CS := Lib.hid (show ∀ w', Below w.heap.size w w' → Ret 36 #[.slice fa fs.length fc, .slice fb fs.length fd] w' (.bool true) from fun w' h => by
    have := dsame_any w' fa fb fc fd fs fs (ha.below h).1 (hb.below h).1 hn hn
    rwa [sameF_self] at this)
  have hq := eql_span14 sf se
  clear ha hb h hb1
  go_enter Tryd.func18, Tryd.ntmps18
  go_wp2_with (go_at_call 36; (with_reducible refine (CS.out _ HB.out).mono ?_); rintro e w2 ⟨rfl, hb2⟩)
  go_ret
  exact ⟨rfl, chain HB.out hb2⟩
set_option maxHeartbeats 4000000 in
set_option maxRecDepth 10000 in
theorem dsame14_any (w : World) (u v : Value) (la lb : List Cm) (ha : CmsL w u la) (hb : CmsL w v lb) (h : la.map contC = lb.map contC) (hn : la.length ≤ 9223372036854775807) (hf : ∀ c ∈ la, c.fs.length ≤ 9223372036854775807) : Ret 22 #[u, v] w (.bool true) := by
  have HA := Lib.hid ha
  have HB := Lib.hid hb
  have HF := Lib.hid hf
  have HE := Lib.hid h
  have hlen : la.length = lb.length := by have := congrArg List.length h; simpa using this
  obtain ⟨⟨A, c, rfl, _⟩, _⟩ := ha
  obtain ⟨⟨B, d, rfl, _⟩, _⟩ := hb
  obtain ⟨n, hnm⟩ : ∃ n, la.length = n := ⟨_, rfl⟩
  rw [← hlen, hnm]
  rw [hnm] at hn
  have HN := Lib.hid (And.intro hnm hlen)
  clear h hf hlen hnm
  go_enter Tryd.func22, Tryd.ntmps22
  go_wp2_with fail
  go_loopw [5] (fun i wr => ∃ k : Nat, k ≤ n ∧ i = .int .i64 k ∧ Below w.heap.size w wr) (fun i _ => n - (intOf i).toNat)
  case atStart => exact ⟨0, Nat.zero_le _, rfl, bl w⟩
  case round =>
    obtain ⟨k, hk, rfl, hbw⟩ := hrel
    have HBW := Lib.hid hbw
    by_cases hlt : k < n
    · have hlt' : (k : Int) < (n : Int) := by omega
      obtain ⟨x, hx⟩ : ∃ x, la[k]? = some x := ⟨_, List.getElem?_eq_getElem (by have := HN.out; omega)⟩
      obtain ⟨y, hy⟩ : ∃ y, lb[k]? = some y := ⟨_, List.getElem?_eq_getElem (by have := HN.out; omega)⟩
      have hxy : contC x = contC y := by
        have := congrArg (fun l => l[k]?) HE.out
        simpa [hx, hy] using this
      obtain ⟨⟨A', c', e1, r1, _⟩, vf1⟩ := HA.out.below hbw
      obtain ⟨⟨B', d', e2, r2, _⟩, vf2⟩ := HB.out.below hbw
      injection e1 with e1 e1b e1c
      injection e2 with e2 e2b e2c
      rw [← e1] at r1
      rw [← e2] at r2
      obtain ⟨g1, o1, hA, x0, x1, x2, x3, x4, x5⟩ := cells6_at r1 hx
      obtain ⟨g2, o2, hB, y0, y1, y2, y3, y4, y5⟩ := cells6_at r2 hy
      have CO := Lib.hid (show ∀ w', Below wr.heap.size wr w' → Ret 18 #[cv14 x, cv14 y] w' (.bool true) from fun w' h => done14_any x y w' ((vf1 x (List.mem_of_getElem? hx)).below h) ((vf2 y (List.mem_of_getElem? hy)).below h) hxy (HF.out x (List.mem_of_getElem? hx)))
      have MK := Lib.hid (show ∀ w', Below wr.heap.size wr w' → (Below wr.heap.size wr w' ∧ Cells6 w' g1 (o1 + k * 6) x ∧ Cells6 w' g2 (o2 + k * 6) y) from fun w' h => ⟨h, ⟨keepc h x0, keepc h x1, keepc h x2, keepc h x3, keepc h x4, keepc h x5⟩, ⟨keepc h y0, keepc h y1, keepc h y2, keepc h y3, keepc h y4, keepc h y5⟩⟩)
      clear e1 e1b e1c e2 e2b e2c r1 r2 vf1 vf2 hx hy hxy hbw
      subst hA
      subst hB
      go_wp2_with fail
      go_region_held3 (fun w' => Below wr.heap.size wr w' ∧ Cells6 w' g1 (o1 + k * 6) x ∧ Cells6 w' g2 (o2 + k * 6) y)
        (first | exact MK.out _ (chain ((bl wr).drew) hb4) | exact MK.out _ ((bl wr).drew) | fail)
        (first | (go_at_call 18; (with_reducible refine (CO.out _ ((bl wr).drew)).mono ?_); (rintro e w4 ⟨rfl, hb4⟩)) | fail)
      go_wp2_with fail
      exact ⟨⟨k + 1, by omega, by go_num, chain HBW.out (chain ((bl wr).drew) hb4)⟩, by simp [intOf] <;> omega⟩
    · obtain rfl : k = n := by omega
      have hlt' : ¬ (k : Int) < (k : Int) := by omega
      go_wp2_with fail
      go_ret
      exact ⟨rfl, HBW.out⟩
/-- Are there at most so many commands, of at most 20 fields? -/
def fewC (l : List Cm) (m : Int) : Bool := decide ((l.length : Int) ≤ m) && l.all fun c => decide (c.fs.length ≤ 20)
set_option maxHeartbeats 2000000 in
theorem dfew14_any (w : World) (u : Value) (l : List Cm) (m : Int) (hl : ListE EC14 w u l) (hn : l.length ≤ 9223372036854775807) : Same 24 #[u, .int .i64 m] w (.bool (fewC l m)) := by
  obtain ⟨A, c, rfl, hA, hc, hnc⟩ := hl
  have HA := Lib.hid hA
  obtain ⟨n, hnm⟩ : ∃ n, l.length = n := ⟨_, rfl⟩
  have HFB := Lib.hid (show fewC l m = (decide ((n : Int) ≤ m) && l.all fun v => decide (v.fs.length ≤ 20)) by rw [← hnm]; rfl)
  rw [hnm] at hn ⊢
  have HN := Lib.hid hnm
  clear hA hc hnc hnm
  generalize fewC l m = R at *
  by_cases hm : m < (n : Int)
  · have HE := Lib.hid (show R = false by rw [HFB.out, decide_eq_false (by omega)]; rfl)
    go_enter Tryd.func24, Tryd.ntmps24
    go_wp2_with fail
    go_ret
    exact ⟨ret_bool HE.out.symm, rfl⟩
  · have HE := Lib.hid (show R = l.all fun v => decide (v.fs.length ≤ 20) by rw [HFB.out, decide_eq_true (by omega)]; rfl)
    go_enter Tryd.func24, Tryd.ntmps24
    go_wp2_with fail
    go_loopw [5] (fun i wr => ∃ k : Nat, k ≤ n ∧ i = .int .i64 k ∧ R = (l.drop k).all (fun v => decide (v.fs.length ≤ 20)) ∧ wr = w) (fun i _ => n - (intOf i).toNat)
    case atStart => exact ⟨0, Nat.zero_le _, rfl, HE.out, rfl⟩
    case round =>
      obtain ⟨k, hk, rfl, hg, hwr⟩ := hrel
      obtain rfl := hwr.symm
      by_cases hlt : k < n
      · have hlt' : (k : Int) < (n : Int) := by omega
        obtain ⟨v, hx⟩ : ∃ v, l[k]? = some v := ⟨_, List.getElem?_eq_getElem (by have := HN.out; omega)⟩
        obtain ⟨g, off, rfl, hX⟩ := cells6_at HA.out hx
        have z5 := hX.2.2.2.2.2
        rw [drop_consL hx, List.all_cons] at hg
        clear hX hx
        by_cases h20 : 20 < v.fs.length
        · have h20' : (20 : Int) < (v.fs.length : Int) := by omega
          have NX := Lib.hid (show R = false by rw [hg, decide_eq_false (by omega)]; rfl)
          clear hg
          generalize v.fs.length = q at *
          go_wp2_with fail
          go_ret
          exact ⟨ret_bool NX.out.symm, rfl⟩
        · have h20' : ¬ (20 : Int) < (v.fs.length : Int) := by omega
          have NX := Lib.hid (show R = (l.drop (k + 1)).all (fun v => decide (v.fs.length ≤ 20)) by rw [hg, decide_eq_true (by omega)]; rfl)
          clear hg
          generalize v.fs.length = q at *
          go_wp2_with fail
          exact ⟨⟨k + 1, by omega, by go_num, NX.out, trivial⟩, by simp [intOf] <;> omega⟩
      · obtain rfl : k = n := by omega
        have hlt' : ¬ (k : Int) < (k : Int) := by omega
        rw [List.drop_of_length_le (by have := HN.out; omega)] at hg
        have NX := Lib.hid (show R = true from hg)
        clear hg
        go_wp2_with fail
        go_ret
        exact ⟨ret_bool NX.out.symm, rfl⟩

end Go.Proofs.YtmieonfdenjedaaDoor

/-
  The program's small words of version: when, first, Entity, Live, places and Compare.
-/
namespace Go.Proofs.YtmieonfdenjedaaDoor
open Go.RowKit

/-- The error, if it is so. -/
def whenE (b : Bool) (e : Int) : Int := match b with | true => e | false => 0
theorem when_any (b : Bool) (e : Int) (w : World) : Same 54 #[.bool b, .int .i64 e] w (.int .i64 (whenE b e)) := by
  cases b
  all_goals
    go_enter Tryd.func54, Tryd.ntmps54
    go_wp2_with fail
    go_ret
    exact ⟨rfl, rfl⟩
theorem whenE_t {b : Bool} {e : Int} (h : b = true) : whenE b e = e := by subst h; rfl
theorem whenE_f {b : Bool} {e : Int} (h : b = false) : whenE b e = 0 := by subst h; rfl

/-- The first number of a list that is not 0. -/
def firstN : List Int → Int
  | [] => 0
  | x :: l => if x = 0 then firstN l else x
theorem firstN_take {l : List Int} {x : Int} {k : Nat} (h : l[k]? = some x) (hz : firstN (l.take k) = 0) : firstN (l.take (k + 1)) = x := by
  induction l generalizing k with
  | nil => simp at h
  | cons y l ih =>
    cases k with
    | zero =>
      obtain rfl : y = x := by simpa using h
      by_cases hy : y = 0 <;> simp [firstN, hy]
    | succ k =>
      rw [List.take_succ_cons, firstN] at hz ⊢
      by_cases hy : y = 0
      · rw [if_pos hy] at hz ⊢
        exact ih (by simpa using h) hz
      · rw [if_neg hy] at hz; exact absurd hz hy
theorem firstN_stop {l : List Int} {x : Int} {k : Nat} (h : l[k]? = some x) (hz : firstN (l.take k) = 0) (hx : x ≠ 0) : firstN l = x := by
  induction l generalizing k with
  | nil => simp at h
  | cons y l ih =>
    cases k with
    | zero =>
      obtain rfl : y = x := by simpa using h
      rw [firstN, if_neg hx]
    | succ k =>
      rw [List.take_succ_cons, firstN] at hz
      rw [firstN]
      by_cases hy : y = 0
      · rw [if_pos hy] at hz ⊢
        exact ih (by simpa using h) hz
      · rw [if_neg hy] at hz; exact absurd hz hy

set_option maxHeartbeats 1000000 in
theorem first_any (w : World) (g : Nat) (l : List Int) (hc : ∀ i x, l[i]? = some x → w.cell? ⟨g, i, none⟩ = some (.int .i64 x)) (hl : l.length ≤ 1000000) :
    Same 53 #[.slice (some ⟨g, 0, none⟩) l.length l.length] w (.int .i64 (firstN l)) := by
  have HC := Lib.hid hc
  obtain ⟨n, hn⟩ : ∃ n, l.length = n := ⟨_, rfl⟩
  rw [hn] at hl ⊢
  have HN := Lib.hid hn
  obtain ⟨R, hR⟩ : ∃ R, firstN l = R := ⟨_, rfl⟩
  rw [hR]
  have HR := Lib.hid hR
  clear hc hn hR
  go_enter Tryd.func53, Tryd.ntmps53
  go_wp2_with fail
  go_loopw [7] (fun i wr => ∃ k : Nat, k ≤ n ∧ i = .int .i64 k ∧ firstN (l.take k) = 0 ∧ wr = w) (fun i _ => n - (intOf i).toNat)
  case atStart => exact ⟨0, Nat.zero_le _, rfl, rfl, rfl⟩
  case round =>
    obtain ⟨k, hk, rfl, hz, rfl⟩ := hrel
    have HZ := Lib.hid hz
    clear hz
    by_cases hlt : k < n
    · have hlt' : (k : Int) < (n : Int) := by omega
      obtain ⟨x, hx⟩ : ∃ x, l[k]? = some x := ⟨_, List.getElem?_eq_getElem (by have := HN.out; omega)⟩
      have c0 := HC.out k x hx
      have HX := Lib.hid hx
      clear hx
      by_cases h0 : x = 0
      · have HF := Lib.hid ((firstN_take HX.out HZ.out).trans h0)
        subst h0
        go_wp2_with fail
        exact ⟨⟨k + 1, by omega, by go_num, HF.out, trivial⟩, by simp [intOf]; omega⟩
      · have HF := Lib.hid (firstN_stop HX.out HZ.out h0)
        go_wp2_with fail
        go_ret
        exact ⟨ret_int (by rw [← HR.out, HF.out]), rfl⟩
    · have hlt' : ¬ (k : Int) < (n : Int) := by omega
      go_wp2_with fail
      go_ret
      refine ⟨ret_int ?_, rfl⟩
      rw [← HR.out, ← HZ.out, List.take_of_length_le (by have := HN.out; omega)]
theorem first2 (w : World) (a b : Int) (T : TypeId) : Same 53 #[.slice (some ⟨w.heap.size, 0, none⟩) 2 2] (w.alloc (.cells #[.int .i64 a, .int .i64 b] T)) (.int .i64 (firstN [a, b])) :=
  first_any _ w.heap.size [a, b] (fun i x h => by
    rcases i with _ | _ | i
    · obtain rfl : a = x := by simpa using h
      simp [go_sem]
    · obtain rfl : b = x := by simpa using h
      simp [go_sem]
    · simp at h) (by simp)
theorem first4 (w : World) (a b c d : Int) (T : TypeId) : Same 53 #[.slice (some ⟨w.heap.size, 0, none⟩) 4 4] (w.alloc (.cells #[.int .i64 a, .int .i64 b, .int .i64 c, .int .i64 d] T)) (.int .i64 (firstN [a, b, c, d])) :=
  first_any _ w.heap.size [a, b, c, d] (fun i x h => by
    rcases i with _ | _ | _ | _ | i
    · obtain rfl : a = x := by simpa using h
      simp [go_sem]
    · obtain rfl : b = x := by simpa using h
      simp [go_sem]
    · obtain rfl : c = x := by simpa using h
      simp [go_sem]
    · obtain rfl : d = x := by simpa using h
      simp [go_sem]
    · simp at h) (by simp)

set_option maxHeartbeats 1000000 in
theorem pent_any (s : ByteArray) (hs : s.size ≤ 9223372036854775807) (w : World) : Ret 29 #[.string s] w (.int .i64 ((entE s : Nat) : Int)) := by
  have W1 := Lib.hid when_any
  have FI := Lib.hid first2
  by_cases h0 : s = ⟨#[]⟩
  · have HE := Lib.hid (show entE s = 2 by rw [h0]; rfl)
    subst h0
    go_enter Tryd.func29, Tryd.ntmps29
    go_wp2_with (first
      | (go_at_call 54; (with_reducible refine (W1.out _ _ _).mono ?_); rintro e w2 ⟨rfl, hw2⟩; obtain rfl := hw2.symm)
      | (go_at_call 53; (with_reducible refine (FI.out _ _ _ _).mono ?_); rintro e w2 ⟨rfl, hw2⟩; obtain rfl := hw2.symm))
    go_ret
    exact ⟨ret_int (by rw [HE.out]; rfl), (bl w).alloc (Nat.le_refl _) _⟩
  · have hz : ¬ s.size = 0 := fun h => h0 (nats_inj (a := s) (b := ⟨#[]⟩) (List.eq_nil_of_length_eq_zero (by rw [nats_length]; exact h)))
    have he : (nats s).isEmpty = false := by
      cases h3 : nats s with
      | nil => exact absurd (nats_inj (a := s) (b := ⟨#[]⟩) h3) h0
      | cons => rfl
    have hne : s.toList.isEmpty = false := by
      rw [ByteArray.toList_eq]
      unfold nats at he
      rw [List.isEmpty_map] at he
      exact he
    by_cases h24 : 24 < s.size
    · have h24' : (24 : Int) < (s.size : Int) := by omega
      have HE := Lib.hid (show entE s = 4 by unfold entE; rw [if_neg hz, if_pos h24])
      go_enter Tryd.func29, Tryd.ntmps29
      go_wp2_with (first
        | (go_at_call 54; (with_reducible refine (W1.out _ _ _).mono ?_); rintro e w2 ⟨rfl, hw2⟩; obtain rfl := hw2.symm)
        | (go_at_call 53; (with_reducible refine (FI.out _ _ _ _).mono ?_); rintro e w2 ⟨rfl, hw2⟩; obtain rfl := hw2.symm))
      go_ret
      exact ⟨ret_int (by rw [HE.out]; simp [firstN, whenE]), (bl w).alloc (Nat.le_refl _) _⟩
    · have h24' : ¬ (24 : Int) < (s.size : Int) := by omega
      have HE := Lib.hid (show entE s = 0 by unfold entE; rw [if_neg hz, if_neg h24])
      go_enter Tryd.func29, Tryd.ntmps29
      go_wp2_with (first
        | (go_at_call 54; (with_reducible refine (W1.out _ _ _).mono ?_); rintro e w2 ⟨rfl, hw2⟩; obtain rfl := hw2.symm)
        | (go_at_call 53; (with_reducible refine (FI.out _ _ _ _).mono ?_); rintro e w2 ⟨rfl, hw2⟩; obtain rfl := hw2.symm))
      go_ret
      exact ⟨ret_int (by rw [HE.out]; rw [whenE_f (b := decide _) (decide_eq_false (by omega))]; rfl), (bl w).alloc (Nat.le_refl _) _⟩

end Go.Proofs.YtmieonfdenjedaaDoor

/-
  Is a span right, by the program?
-/
namespace Go.Proofs.YtmieonfdenjedaaDoor
open Go.RowKit

set_option maxHeartbeats 1000000 in
theorem pspan_right (f t : Int) (w : World) : Ret 55 #[.agg #[.int .i64 f, .int .i64 t]] w (.bool (rightS f t)) := by
  by_cases h1 : -1099511627776 ≤ f
  · by_cases h3 : f < t
    · by_cases h2 : t ≤ 1099511627776
      · have HE := Lib.hid (show rightS f t = true by simp [rightS, h1, h2, h3])
        go_enter Tryd.func55, Tryd.ntmps55
        go_wp2_with fail
        go_ret
        exact ⟨ret_bool HE.out.symm, by (repeat (first | exact (bl w) | refine belowN ?_ _ | refine Below.alloc ?_ (by have hsz := Below.size (bl w); first | omega | (simp; done) | (simp; omega) | (simp at hsz ⊢; omega)) _))⟩
      · have HE := Lib.hid (show rightS f t = false by simp [rightS, h2])
        go_enter Tryd.func55, Tryd.ntmps55
        go_wp2_with fail
        go_ret
        exact ⟨ret_bool HE.out.symm, by (repeat (first | exact (bl w) | refine belowN ?_ _ | refine Below.alloc ?_ (by have hsz := Below.size (bl w); first | omega | (simp; done) | (simp; omega) | (simp at hsz ⊢; omega)) _))⟩
    · have HE := Lib.hid (show rightS f t = false by simp [rightS, h3])
      go_enter Tryd.func55, Tryd.ntmps55
      go_wp2_with fail
      go_ret
      exact ⟨ret_bool HE.out.symm, by (repeat (first | exact (bl w) | refine belowN ?_ _ | refine Below.alloc ?_ (by have hsz := Below.size (bl w); first | omega | (simp; done) | (simp; omega) | (simp at hsz ⊢; omega)) _))⟩
  · have HE := Lib.hid (show rightS f t = false by simp [rightS, h1])
    go_enter Tryd.func55, Tryd.ntmps55
    go_wp2_with fail
    go_ret
    exact ⟨ret_bool HE.out.symm, by (repeat (first | exact (bl w) | refine belowN ?_ _ | refine Below.alloc ?_ (by have hsz := Below.size (bl w); first | omega | (simp; done) | (simp; omega) | (simp at hsz ⊢; omega)) _))⟩
end Go.Proofs.YtmieonfdenjedaaDoor
