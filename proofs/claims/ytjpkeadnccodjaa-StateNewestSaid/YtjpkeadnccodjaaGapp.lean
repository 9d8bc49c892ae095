/-
  append of fields onto a list of the call's own, whatever the source, also as one step of a statement whose order is open.
-/
import Derived.Test.YtjpkeadnccodjaaGget
import Derived.Maps.AppendAt
import Derived.Laws.OwnMore
import Derived.RegionTactic
import Derived.OwnWalk
namespace Go.Proofs.Ytjpkeadnccodjaa
open Go.RowKit

abbrev FT : TypeId := 48
theorem Try.infoField : (Try.prog.info? FT).map (fun i => (i.zero, i.size, i.bytes)) = some (some (.agg #[.string ⟨#[]⟩, .int .i64 0]), 2, 24) := by kernel_rfl
/-- The cells of fields. -/
def flatF : List Fd → List Value
  | [] => []
  | f :: l => .string f.n :: .int .i64 f.v :: flatF l
theorem flatF_length : ∀ l : List Fd, (flatF l).length = l.length * 2
  | [] => rfl
  | f :: l => by have := flatF_length l; simp [flatF]; omega
theorem flatF_append : ∀ l m : List Fd, flatF (l ++ m) = flatF l ++ flatF m
  | [], _ => rfl
  | f :: l, m => by rw [List.cons_append, flatF, flatF, flatF_append l m]; rfl
theorem flatF_get : ∀ (l : List Fd) (i : Nat) (f : Fd), l[i]? = some f → (flatF l)[i * 2]? = some (.string f.n) ∧ (flatF l)[i * 2 + 1]? = some (.int .i64 f.v)
  | [], _, _, h => by simp at h
  | g :: l, 0, f, h => by
    obtain rfl : g = f := by simpa using h
    exact ⟨rfl, rfl⟩
  | g :: l, i + 1, f, h => by
    have ih := flatF_get l i f (by simpa using h)
    rw [show (i + 1) * 2 = i * 2 + 2 from by omega]
    exact ih
theorem flatF_one : ∀ l : List Fd, ∀ u ∈ flatF l, u.oneCell' = true
  | [], u, h => by simp [flatF] at h
  | f :: l, u, h => by
    rcases List.mem_cons.1 h with rfl | h
    · rfl
    · rcases List.mem_cons.1 h with rfl | h
      · rfl
      · exact flatF_one l u h
abbrev ownF (w : World) (base : Nat) (v : Value) (l : List Fd) : Prop := w.ownsRow base FT 2 v l.length (flatF l)
theorem own_fields {w : World} {base : Nat} {v : Value} {l : List Fd} (h : ownF w base v l) : ∃ A c, v = .slice A l.length c ∧ Fields w A l ∧ (A = none → c = 0) ∧ l.length ≤ c := by
  rcases h.2 with ⟨hv, h0⟩ | ⟨g, cap, cur, hv, _, _, hn, _⟩
  · obtain rfl : l = [] := List.eq_nil_of_length_eq_zero h0
    exact ⟨_, _, hv, Fields.nil _ _, fun _ => rfl, Nat.zero_le _⟩
  · refine ⟨_, _, hv, fun i f hf => ?_, (fun h => by cases h), hn⟩
    have add : ∀ n, (⟨g, 0, none⟩ : Addr).add n = ⟨g, 0 + n, none⟩ := fun n => by unfold Addr.add; split <;> simp_all
    obtain ⟨f0, f1⟩ := flatF_get l i f hf
    have c0 := h.cells (g := g) (by rw [hv]; rfl) _ _ f0
    have c1 := h.cells (g := g) (by rw [hv]; rfl) _ _ f1
    rw [add] at c0 c1
    exact ⟨g, 0, rfl, c0, by rw [Nat.add_assoc]; exact c1⟩
theorem own_belowF {w w' : World} {base e size n : Nat} {v : Value} {xs : List Value} (h : w.ownsRow base e size v n xs) (hb : Below w.heap.size w w') : w'.ownsRow base e size v n xs :=
  h.kept (row := none) ⟨hb.os, hb.tape, hb.output, hb.size, fun k hk _ => hb.block k hk⟩ (by cases v.ownBlock <;> simp)
theorem own_lowerF {w : World} {b b' : Nat} {v : Value} {ts : List Fd} (hb : b ≤ b') (h : ownF w b' v ts) : ownF w b v ts := by
  refine ⟨h.1, ?_⟩
  rcases h.2 with h2 | ⟨g, cap, cur, hv, hg, r⟩
  · exact .inl h2
  · exact .inr ⟨g, cap, cur, hv, by omega, r⟩
theorem flatF_cell {w : World} {g off : Nat} {l : List Fd} (h : Fields w (some ⟨g, off, none⟩) l) {j : Nat} {u : Value} (hu : (flatF l)[j]? = some u) : w.cell? ((⟨g, off, none⟩ : Addr).add j) = some u := by
  have hj : j < l.length * 2 := by
    rcases Nat.lt_or_ge j (flatF l).length with h1 | h1
    · rw [flatF_length] at h1; exact h1
    · rw [List.getElem?_eq_none h1] at hu; cases hu
  obtain ⟨f, hf⟩ : ∃ f, l[j / 2]? = some f := ⟨_, List.getElem?_eq_getElem (by omega)⟩
  obtain ⟨e0, e1⟩ := flatF_get l (j / 2) f hf
  obtain ⟨c0, c1⟩ := h.at hf
  rw [Go.WideShapes.add_plain]
  rcases Nat.mod_two_eq_zero_or_one j with h2 | h2
  · rw [show j / 2 * 2 = j from by omega] at e0 c0
    rw [e0] at hu
    injection hu with hu
    rw [← hu]; exact c0
  · rw [show j / 2 * 2 + 1 = j from by omega] at e1
    rw [Nat.add_assoc, show j / 2 * 2 + 1 = j from by omega] at c1
    rw [e1] at hu
    injection hu with hu
    rw [← hu]; exact c1

theorem run_appF (w : World) {base : Nat} {v : Value} {ts : List Fd} (hown : ownF w base v ts) (B : Option Addr) (c : Nat) (xs : List Fd) (hx : Fields w B xs) (hc : B = none → c = 0)
    (hl : ts.length + xs.length ≤ 1000000) (hbase : base ≤ w.heap.size) (ty : TypeId) :
    ∃ v' w', (Builtin.append_ #[29, 29] ty #[v, .slice B xs.length c]).run Try.prog w = .ok v' w' ∧ ownF w' base v' (ts ++ xs) ∧ w.grownBy w' v.ownBlock ∧ (v'.ownBlock = v.ownBlock ∨ v'.ownBlock = some w.heap.size) := by
  obtain ⟨i0, hi, hz0, hz1, hz2⟩ := info_parts Try.infoField
  rcases B with _ | ad
  · obtain rfl : xs = [] := by
      rcases xs with _ | ⟨x, xs⟩
      · rfl
      · obtain ⟨_, _, h, _⟩ := hx 0 x (by simp)
        cases h
    obtain rfl := hc rfl
    exact ⟨v, w, run_append_owned_none (P := Try.prog) w base 29 ty FT i0 2 Try.underlying29 hi v _ _ hown, by simpa [ownF] using hown, World.grownBy.refl _ _, .inl rfl⟩
  · have hcell : ∀ j u, (flatF xs)[j]? = some u → w.cell? (ad.add j) = some u := fun j u hu => by
      rcases xs with _ | ⟨p, xs⟩
      · simp [flatF] at hu
      · obtain ⟨g, off, he, _⟩ := hx 0 p (by simp)
        obtain rfl : ad = ⟨g, off, none⟩ := Option.some.inj he
        exact flatF_cell hx hu
    obtain ⟨v', w', hrun, h2, h3, _, h5⟩ := run_append_own_at (P := Try.prog) w base 29 ty FT i0 (.agg #[.string ⟨#[]⟩, .int .i64 0]) 2 24 Try.underlying29 hi hz0 hz1 hz2 rfl (by decide) v _ _ hown ad xs.length c (flatF xs) (flatF_length xs) hcell
      (flatF_one xs) (by unfold maxLen; omega) (by omega) hbase
    exact ⟨v', w', hrun, by unfold ownF; rw [flatF_append, List.length_append]; exact h2, h3, h5⟩

theorem step_appF {ops : Array Oper} {o : Oper} {a : Act} {w : World} {K : Act → World → Prop} {Q : Exit → Act → World → Prop} {E : Prop} (hgd : o.guard = none) (s x : Operand)
    (ho : o.op = .call { callee := .builtin .append, args := #[s, x], argTypes := #[29, 29] })
    {base : Nat} {v : Value} {ts : List Fd} (hs : a.eval s = v) (hown : ownF w base v ts) {B : Option Addr} {c m : Nat} {xs : List Fd} (hv : a.eval x = .slice B m c) (hm : m = xs.length) (hx : Fields w B xs) (hc : B = none → c = 0)
    (hl : ts.length + xs.length ≤ 1000000) (hbase : base ≤ w.heap.size)
    (h : ∀ v' w', ownF w' base v' (ts ++ xs) → w.grownBy w' v.ownBlock → (v'.ownBlock = v.ownBlock ∨ v'.ownBlock = some w.heap.size) → K (a.put o.dst v') w') :
    if Region.wanted o (yielded ops a.tmps) = true then Oper.wp Try.prog o a w K Q else E := by
  subst hm
  have hw : Region.wanted o (yielded ops a.tmps) = true := by simp [Region.wanted, hgd]
  rw [if_pos hw]
  obtain ⟨v', w', hrun, h2, h3, h4⟩ := run_appF w hown B c xs hx hc hl hbase o.type
  unfold Oper.wp execOp
  simp only [ho, resolve, invoke, builtin, Sem.run_bind, Sem.run_pure, Result.andThen_ok, List.map_toArray, List.map_cons, List.map_nil, hs, hv, hrun]
  exact h v' w' h2 h3 h4

theorem below_grownF {a w w1 : World} {row : Option Nat} (h : Below a.heap.size a w) (hg : w.grownBy w1 row) (hr : ∀ r, row = some r → a.heap.size ≤ r) : Below a.heap.size a w1 := h.grown hg h.size hr
theorem own_emptyF {w : World} {b base : Nat} (h : w.heap[b]? = some (.cells #[] FT (0, 0))) (hb : base ≤ b) : ownF w base (.slice (some ⟨b, 0, none⟩) 0 0) [] :=
  ⟨rfl, .inr ⟨b, 0, #[], rfl, hb, h, by simp, by simp [maxLen], (by simp; try rfl), (by simp; try rfl)⟩⟩
/-- The block of one field. -/
abbrev oc (f : Fd) : Obj := .cells #[.string f.n, .int .i64 f.v] FT
theorem own_f1 (W : World) : ownF (W.alloc (.cells #[] FT)).drew W.heap.size (.slice (some ⟨W.heap.size, 0, none⟩) 0 0) [] := own_emptyF (heap_alloc_new W _) (Nat.le_refl _)
theorem own_f2 (W : World) (x : Fd) : ownF ((W.alloc (.cells #[] FT)).alloc (oc x)).drew W.heap.size (.slice (some ⟨W.heap.size, 0, none⟩) 0 0) [] :=
  own_emptyF ((Below.heap_alloc (W.alloc (.cells #[] FT)) _ W.heap.size (by simp)).trans (heap_alloc_new W _)) (Nat.le_refl _)
theorem own_f3 (W : World) (x : Fd) : ownF ((W.alloc (oc x)).alloc (.cells #[] FT)).drew W.heap.size (.slice (some ⟨W.heap.size + 1, 0, none⟩) 0 0) [] :=
  own_emptyF (w := ((W.alloc (oc x)).alloc (.cells #[] FT))) (by have := heap_alloc_new (W.alloc (oc x)) (.cells #[] FT); simpa using this) (by omega)
theorem field_cell {w : World} {b : Nat} {x : Fd} (h : w.cell? ⟨b, 0, none⟩ = some (.string x.n)) (h1 : w.cell? ⟨b, 1, none⟩ = some (.int .i64 x.v)) : Fields w (some ⟨b, 0, none⟩) [x] := fun i y hy => by
  rcases i with _ | i
  · obtain rfl : x = y := by simpa using hy
    exact ⟨_, _, rfl, by simpa using h, by simpa using h1⟩
  · simp at hy
theorem field_one (w : World) (x : Fd) (t : TypeId) : Fields (w.alloc (.cells #[.string x.n, .int .i64 x.v] t)) (some ⟨w.heap.size, 0, none⟩) [x] := field_cell (by simp [go_sem]) (by simp [go_sem])
theorem x_f2 {W w1 : World} {x : Fd} (hg : ((W.alloc (.cells #[] FT)).alloc (oc x)).drew.grownBy w1 (Value.slice (some ⟨W.heap.size, 0, none⟩) 0 0).ownBlock) : Fields w1 (some ⟨W.heap.size + 1, 0, none⟩) [x] :=
  field_cell (hg.cell (by simp [go_sem]) (by simp [Value.ownBlock])) (hg.cell (by simp [go_sem]) (by simp [Value.ownBlock]))
theorem x_f3 {W w1 : World} {x : Fd} (hg : ((W.alloc (oc x)).alloc (.cells #[] FT)).drew.grownBy w1 (Value.slice (some ⟨W.heap.size + 1, 0, none⟩) 0 0).ownBlock) : Fields w1 (some ⟨W.heap.size, 0, none⟩) [x] :=
  field_cell (hg.cell (by simp [go_sem]) (by simp [Value.ownBlock])) (hg.cell (by simp [go_sem]) (by simp [Value.ownBlock]))
theorem Fields.take {w : World} {A : Option Addr} {l : List Fd} (h : Fields w A l) (k : Nat) : Fields w A (l.take k) := fun i x hx => by
  rcases Nat.lt_or_ge i k with hi | hi
  · rw [List.getElem?_take_of_lt hi] at hx
    exact h i x hx
  · rw [List.getElem?_take_eq_none hi] at hx
    cases hx
theorem Fields.drop {w : World} {g off : Nat} {l : List Fd} (h : Fields w (some ⟨g, off, none⟩) l) (k : Nat) : Fields w (some ⟨g, off + k * 2, none⟩) (l.drop k) := fun i x hx => by
  rw [List.getElem?_drop] at hx
  obtain ⟨c0, c1⟩ := h.at hx
  exact ⟨g, off + k * 2, rfl, by rw [Nat.add_assoc, ← Nat.add_mul]; exact c0, by rw [Nat.add_assoc off, ← Nat.add_mul]; exact c1⟩

end Go.Proofs.Ytjpkeadnccodjaa
