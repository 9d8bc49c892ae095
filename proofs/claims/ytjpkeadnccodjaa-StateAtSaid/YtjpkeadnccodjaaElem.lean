/-
  Lists of elements of one type in memory, whatever the type: read, owned, appended to.
-/
import Derived.Test.YtjpkeadnccodjaaGbase
namespace Go.Proofs.Ytjpkeadnccodjaa
open Go.RowKit

/-- An element's type: its cells, its zero value. -/
structure El (α : Type) where
  s : TypeId
  e : TypeId
  sz : Nat
  bys : Nat
  z : Value
  cells : α → List Value
  pos : 0 < sz
  few : bys ≤ 1000
  len : ∀ x, (cells x).length = sz
  one : ∀ x, ∀ u ∈ cells x, u.oneCell' = true
  und : Try.prog.underlying s = some (.slice e)
  info : (Try.prog.info? e).map (fun i => (i.zero, i.size, i.bytes)) = some (some z, sz, bys)
  zs : z.cells.size = sz

section
variable {α : Type} (E : El α)
/-- From A on the elements of l lie, one behind the other. -/
def RowE (w : World) (A : Option Addr) (l : List α) : Prop := ∀ i x, l[i]? = some x → ∃ g off, A = some ⟨g, off, none⟩ ∧ ∀ j u, (E.cells x)[j]? = some u → w.cell? ⟨g, off + i * E.sz + j, none⟩ = some u
/-- A list as a value. -/
def ListE (w : World) (v : Value) (l : List α) : Prop := ∃ A c, v = .slice A l.length c ∧ RowE E w A l ∧ l.length ≤ c ∧ (A = none → c = 0)
def flatE (l : List α) : List Value := l.flatMap E.cells
abbrev ownE (w : World) (base : Nat) (v : Value) (l : List α) : Prop := w.ownsRow base E.e E.sz v l.length (flatE E l)
variable {E}
theorem RowE.below {w w' : World} {A : Option Addr} {l : List α} (h : RowE E w A l) (hb : Below w.heap.size w w') : RowE E w' A l := fun i x hx => by
  obtain ⟨g, off, rfl, hc⟩ := h i x hx
  exact ⟨g, off, rfl, fun j u hu => keepc hb (hc j u hu)⟩
theorem RowE.nil (w : World) (A : Option Addr) : RowE E w A [] := fun i x h => by simp at h
theorem RowE.at {w : World} {g off k : Nat} {x : α} {l : List α} (h : RowE E w (some ⟨g, off, none⟩) l) (hx : l[k]? = some x) {j : Nat} {u : Value} (hu : (E.cells x)[j]? = some u) : w.cell? ⟨g, off + k * E.sz + j, none⟩ = some u := by
  obtain ⟨g', off', e, hc⟩ := h k x hx
  injection e with e
  injection e with e1 e2
  subst e1 e2
  exact hc j u hu
theorem RowE.take {w : World} {A : Option Addr} {l : List α} (h : RowE E w A l) (k : Nat) : RowE E w A (l.take k) := fun i x hx => by
  rcases Nat.lt_or_ge i k with hi | hi
  · rw [List.getElem?_take_of_lt hi] at hx
    exact h i x hx
  · rw [List.getElem?_take_eq_none hi] at hx
    cases hx
theorem RowE.drop {w : World} {g off : Nat} {l : List α} (h : RowE E w (some ⟨g, off, none⟩) l) (k : Nat) : RowE E w (some ⟨g, off + k * E.sz, none⟩) (l.drop k) := fun i x hx => by
  rw [List.getElem?_drop] at hx
  refine ⟨g, off + k * E.sz, rfl, fun j u hu => ?_⟩
  have := h.at hx hu
  rwa [Nat.add_mul, ← Nat.add_assoc off] at this
theorem ListE.below {w w' : World} {v : Value} {l : List α} (h : ListE E w v l) (hb : Below w.heap.size w w') : ListE E w' v l := by
  obtain ⟨A, c, e, h1, h2, h3⟩ := h
  exact ⟨A, c, e, h1.below hb, h2, h3⟩
theorem ListE.nil (w : World) : ListE E w (.slice none 0 0) ([] : List α) := ⟨none, 0, rfl, RowE.nil _ _, Nat.le_refl _, fun _ => rfl⟩
theorem ListE.form {w : World} {v : Value} {l : List α} (h : ListE E w v l) : ∃ A c, v = .slice A l.length c ∧ ListE E w (.slice A l.length c) l := by
  obtain ⟨A, c, rfl, h1⟩ := h
  exact ⟨A, c, rfl, A, c, rfl, h1⟩
theorem flatE_cons (x : α) (l : List α) : flatE E (x :: l) = E.cells x ++ flatE E l := by simp [flatE]
theorem flatE_append (l m : List α) : flatE E (l ++ m) = flatE E l ++ flatE E m := by simp [flatE]
theorem flatE_length : ∀ l : List α, (flatE E l).length = l.length * E.sz
  | [] => by simp [flatE]
  | x :: l => by rw [flatE_cons, List.length_append, E.len, flatE_length l, List.length_cons, Nat.add_mul, Nat.one_mul, Nat.add_comm]
theorem flatE_get : ∀ (l : List α) (i : Nat) (x : α), l[i]? = some x → ∀ j u, (E.cells x)[j]? = some u → (flatE E l)[i * E.sz + j]? = some u
  | [], _, _, h, _, _, _ => by simp at h
  | y :: l, 0, x, h, j, u, hu => by
    obtain rfl : y = x := by simpa using h
    have hj : j < (E.cells y).length := by
      rcases Nat.lt_or_ge j (E.cells y).length with h' | h'
      · exact h'
      · rw [List.getElem?_eq_none h'] at hu; cases hu
    rw [Nat.zero_mul, Nat.zero_add, flatE_cons, List.getElem?_append_left hj]
    exact hu
  | y :: l, i + 1, x, h, j, u, hu => by
    have ih := flatE_get l i x (by simpa using h) j u hu
    rw [flatE_cons, List.getElem?_append_right (by rw [E.len, Nat.add_mul]; omega), E.len, show (i + 1) * E.sz + j - E.sz = i * E.sz + j by rw [Nat.add_mul]; omega]
    exact ih
theorem flatE_one (l : List α) : ∀ u ∈ flatE E l, u.oneCell' = true := fun u hu => by
  obtain ⟨x, _, hx⟩ := List.mem_flatMap.1 hu
  exact E.one x u hx
theorem flatE_cell {w : World} {g off : Nat} {l : List α} (h : RowE E w (some ⟨g, off, none⟩) l) {j : Nat} {u : Value} (hu : (flatE E l)[j]? = some u) : w.cell? ((⟨g, off, none⟩ : Addr).add j) = some u := by
  have hj : j < l.length * E.sz := by
    rcases Nat.lt_or_ge j (flatE E l).length with h1 | h1
    · rw [flatE_length] at h1; exact h1
    · rw [List.getElem?_eq_none h1] at hu; cases hu
  have hq : j / E.sz < l.length := (Nat.div_lt_iff_lt_mul E.pos).2 hj
  obtain ⟨x, hx⟩ : ∃ x, l[j / E.sz]? = some x := ⟨_, List.getElem?_eq_getElem hq⟩
  have hr : j % E.sz < (E.cells x).length := by rw [E.len]; exact Nat.mod_lt _ E.pos
  obtain ⟨u', hu'⟩ : ∃ u', (E.cells x)[j % E.sz]? = some u' := ⟨_, List.getElem?_eq_getElem hr⟩
  have e1 := flatE_get l _ x hx _ u' hu'
  have ej : j / E.sz * E.sz + j % E.sz = j := by rw [Nat.mul_comm]; exact Nat.div_add_mod j E.sz
  rw [ej] at e1
  rw [hu] at e1
  injection e1 with e1
  have c := h.at hx hu'
  rw [Nat.add_assoc, ej] at c
  rw [Go.WideShapes.add_plain, e1]
  exact c
theorem ownE_list {w : World} {base : Nat} {v : Value} {l : List α} (h : ownE E w base v l) : ListE E w v l := by
  rcases h.2 with ⟨hv, h0⟩ | ⟨g, cap, cur, hv, _, _, hn, _⟩
  · obtain rfl : l = [] := List.eq_nil_of_length_eq_zero h0
    exact ⟨none, 0, hv, RowE.nil _ _, Nat.zero_le _, fun _ => rfl⟩
  · refine ⟨_, _, hv, fun i x hx => ⟨g, 0, rfl, fun j u hu => ?_⟩, hn, (fun h => by cases h)⟩
    have c0 := h.cells (g := g) (by rw [hv]; rfl) _ _ (flatE_get l i x hx j u hu)
    rw [Go.WideShapes.add_plain] at c0
    rw [Nat.add_assoc]
    exact c0
theorem ownE_below {w w' : World} {base : Nat} {v : Value} {l : List α} (h : ownE E w base v l) (hb : Below w.heap.size w w') : ownE E w' base v l :=
  h.kept (row := none) ⟨hb.os, hb.tape, hb.output, hb.size, fun k hk _ => hb.block k hk⟩ (by cases v.ownBlock <;> simp)
theorem ownE_lower {w : World} {b b' : Nat} {v : Value} {l : List α} (hb : b ≤ b') (h : ownE E w b' v l) : ownE E w b v l := by
  refine ⟨h.1, ?_⟩
  rcases h.2 with h2 | ⟨g, cap, cur, hv, hg, r⟩
  · exact .inl h2
  · exact .inr ⟨g, cap, cur, hv, by omega, r⟩
theorem ownE_nil (w : World) (base : Nat) : ownE E w base (.slice none 0 0) ([] : List α) := World.ownsRow_nil _ _ _ _
theorem ownE_empty {w : World} {b base : Nat} (h : w.heap[b]? = some (.cells #[] E.e (0, 0))) (hb : base ≤ b) : ownE E w base (.slice (some ⟨b, 0, none⟩) 0 0) ([] : List α) :=
  ⟨by simp [flatE], .inr ⟨b, 0, #[], rfl, hb, h, by simp, by simp [maxLen], by simp, by simp [flatE]⟩⟩

theorem run_appE (w : World) {base : Nat} {v : Value} {ts : List α} (hown : ownE E w base v ts) (B : Option Addr) (c : Nat) (xs : List α) (hx : RowE E w B xs) (hc : B = none → c = 0)
    (hl : ts.length + xs.length ≤ 1000000) (hbase : base ≤ w.heap.size) (ty : TypeId) :
    ∃ v' w', (Builtin.append_ #[E.s, E.s] ty #[v, .slice B xs.length c]).run Try.prog w = .ok v' w' ∧ ownE E w' base v' (ts ++ xs) ∧ w.grownBy w' v.ownBlock ∧ (v'.ownBlock = v.ownBlock ∨ v'.ownBlock = some w.heap.size) := by
  obtain ⟨i0, hi, hz0, hz1, hz2⟩ := info_parts E.info
  rcases B with _ | ad
  · obtain rfl : xs = [] := by
      rcases xs with _ | ⟨x, xs⟩
      · rfl
      · obtain ⟨_, _, h, _⟩ := hx 0 x (by simp)
        cases h
    obtain rfl := hc rfl
    exact ⟨v, w, run_append_owned_none (P := Try.prog) w base E.s ty E.e i0 E.sz E.und hi v _ _ hown, by simpa [ownE] using hown, World.grownBy.refl _ _, .inl rfl⟩
  · have hcell : ∀ j u, (flatE E xs)[j]? = some u → w.cell? (ad.add j) = some u := fun j u hu => by
      rcases xs with _ | ⟨p, xs⟩
      · simp [flatE] at hu
      · obtain ⟨g, off, he, _⟩ := hx 0 p (by simp)
        obtain rfl : ad = ⟨g, off, none⟩ := Option.some.inj he
        exact flatE_cell hx hu
    have hby : (ts.length + xs.length) * E.bys ≤ 1000000 * 1000 := Nat.mul_le_mul hl E.few
    obtain ⟨v', w', hrun, h2, h3, _, h5⟩ := run_append_own_at (P := Try.prog) w base E.s ty E.e i0 E.z E.sz E.bys E.und hi hz0 hz1 hz2 E.zs E.pos v _ _ hown ad xs.length c (flatE E xs) (flatE_length xs) hcell
      (flatE_one xs) (by unfold maxLen; omega) (by omega) hbase
    exact ⟨v', w', hrun, by unfold ownE; rw [flatE_append, List.length_append]; exact h2, h3, h5⟩

theorem step_appE {ops : Array Oper} {o : Oper} {a : Act} {w : World} {K : Act → World → Prop} {Q : Exit → Act → World → Prop} {F : Prop} (hgd : o.guard = none) (s x : Operand) {t : TypeId} (ht : t = E.s)
    (ho : o.op = .call { callee := .builtin .append, args := #[s, x], argTypes := #[t, t] })
    {base : Nat} {v : Value} {ts : List α} (hs : a.eval s = v) (hown : ownE E w base v ts) {B : Option Addr} {c m : Nat} {xs : List α} (hv : a.eval x = .slice B m c) (hm : m = xs.length) (hx : RowE E w B xs) (hc : B = none → c = 0)
    (hl : ts.length + xs.length ≤ 1000000) (hbase : base ≤ w.heap.size)
    (h : ∀ v' w', ownE E w' base v' (ts ++ xs) → w.grownBy w' v.ownBlock → (v'.ownBlock = v.ownBlock ∨ v'.ownBlock = some w.heap.size) → K (a.put o.dst v') w') :
    if Region.wanted o (yielded ops a.tmps) = true then Oper.wp Try.prog o a w K Q else F := by
  subst hm ht
  have hw : Region.wanted o (yielded ops a.tmps) = true := by simp [Region.wanted, hgd]
  rw [if_pos hw]
  obtain ⟨v', w', hrun, h2, h3, h4⟩ := run_appE w hown B c xs hx hc hl hbase o.type
  unfold Oper.wp execOp
  simp only [ho, resolve, invoke, builtin, Sem.run_bind, Sem.run_pure, Result.andThen_ok, List.map_toArray, List.map_cons, List.map_nil, hs, hv, hrun]
  exact h v' w' h2 h3 h4
theorem wpList_appE {ops : Array Oper} {rest : List Oper} {o : Oper} {a : Act} {w : World} {Q : Exit → Act → World → Prop} (hgd : o.guard = none) (s x : Operand) {t : TypeId} (ht : t = E.s)
    (ho : o.op = .call { callee := .builtin .append, args := #[s, x], argTypes := #[t, t] })
    {base : Nat} {v : Value} {ts : List α} (hs : a.eval s = v) (hown : ownE E w base v ts) {B : Option Addr} {c m : Nat} {xs : List α} (hv : a.eval x = .slice B m c) (hm : m = xs.length) (hx : RowE E w B xs) (hc : B = none → c = 0)
    (hl : ts.length + xs.length ≤ 1000000) (hbase : base ≤ w.heap.size)
    (h : ∀ v' w', ownE E w' base v' (ts ++ xs) → w.grownBy w' v.ownBlock → wpList Try.prog ops Q rest (a.put o.dst v') w') : wpList Try.prog ops Q (o :: rest) a w := by
  subst hm ht
  obtain ⟨v', w', hrun, h2, h3, h4⟩ := run_appE w hown B c xs hx hc hl hbase o.type
  refine wpList_plain hgd fun _ hK => ?_
  unfold Oper.wp execOp
  simp only [ho, resolve, invoke, builtin, Sem.run_bind, Sem.run_pure, Result.andThen_ok, List.map_toArray, List.map_cons, List.map_nil, hs, hv, hrun]
  exact hK _ _ (h v' w' h2 h3)

theorem below_grownE {a w w1 : World} {row : Option Nat} (h : Below a.heap.size a w) (hg : w.grownBy w1 row) (hr : ∀ r, row = some r → a.heap.size ≤ r) : Below a.heap.size a w1 := h.grown hg h.size hr
variable (E)
/-- A list of the call's own, whose blocks lie from that world on. -/
structure OE (W : World) (l : List α) (v : Value) (w : World) : Prop where
  own : ownE E w W.heap.size v l
  bel : Below W.heap.size W w
variable {E}
theorem OE.nil (W : World) : OE E W ([] : List α) (.slice none 0 0) W := ⟨ownE_nil _ _, bl W⟩
theorem OE.below {W w w' : World} {l : List α} {v : Value} (h : OE E W l v w) (hb : Below w.heap.size w w') : OE E W l v w' := ⟨ownE_below h.own hb, chain h.bel hb⟩
theorem OE.grown {W w w' : World} {l m : List α} {v v' : Value} (h : OE E W l v w) (hg : w.grownBy w' v.ownBlock) (hown : ownE E w' W.heap.size v' m) : OE E W m v' w' :=
  ⟨hown, below_grownE h.bel hg (fun r hr => (h.own.lt r hr).1)⟩
theorem OE.list {W w : World} {l : List α} {v : Value} (h : OE E W l v w) : ListE E w v l := ownE_list h.own
theorem OE.set {W w : World} {l : List α} {v : Value} (h : OE E W l v w) {b o : Nat} (u : Value) (hne : v.ownBlock ≠ some b) (hb : W.heap.size ≤ b) : OE E W l v (w.setCell ⟨b, o, none⟩ u) :=
  ⟨h.own.kept (row := some b) ⟨rfl, rfl, rfl, by simp [World.setCell], fun k _ hk => Below.heap_setCell _ _ _ _ (fun e => hk (by simp [e]))⟩ (Or.inr hne), h.bel.setCell (p := ⟨b, o, none⟩) hb u⟩
theorem OE.ne {W w : World} {l : List α} {v : Value} (h : OE E W l v w) : v.ownBlock ≠ some w.heap.size := fun e => by
  have := (h.own.lt _ e).2
  omega
/-- Elements that are laid in a new block. -/
theorem rowE_new (w : World) (l : List α) (T : TypeId) : RowE E (w.alloc (.cells (flatE E l).toArray T)) (some ⟨w.heap.size, 0, none⟩) l := fun i x hx => ⟨w.heap.size, 0, rfl, fun j u hu => by
  rw [cell_of_row _ _ _ _ T (0, 0) (heap_alloc_new w _), Nat.zero_add]
  have := flatE_get l i x hx j u hu
  simpa using this⟩
theorem listE_new (w : World) (l : List α) (T : TypeId) : ListE E (w.alloc (.cells (flatE E l).toArray T)) (.slice (some ⟨w.heap.size, 0, none⟩) l.length l.length) l := ⟨_, _, rfl, rowE_new w l T, Nat.le_refl _, fun h => by cases h⟩
theorem rowE_one (w : World) (x : α) (cs : Array Value) (hcs : cs.toList = E.cells x) (T : TypeId) : RowE E (w.alloc (.cells cs T)) (some ⟨w.heap.size, 0, none⟩) [x] := by
  have h := rowE_new (E := E) w [x] T
  rwa [show (flatE E [x]).toArray = cs from by rw [show flatE E [x] = E.cells x by simp [flatE], ← hcs]] at h
end

end Go.Proofs.Ytjpkeadnccodjaa
