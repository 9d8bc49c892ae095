/-
  A list of fields as a value, a list of such lists.
-/
import Derived.Test.YtjpkeadnccodjaaGapp
namespace Go.Proofs.Ytjpkeadnccodjaa
open Go.RowKit

/-- A list of fields as a value. -/
def ListF (W : World) (v : Value) (l : List Fd) : Prop := ∃ A c, v = .slice A l.length c ∧ Fields W A l ∧ l.length ≤ c ∧ (A = none → c = 0)
/-- A list of lists. -/
def RowsF (W : World) (A : Option Addr) (L : List (List Fd)) : Prop := ∀ i l, L[i]? = some l → ∃ g off v, A = some ⟨g, off, none⟩ ∧ W.cell? ⟨g, off + i, none⟩ = some v ∧ ListF W v l

theorem ListF.below {w w' : World} {v : Value} {l : List Fd} (h : ListF w v l) (hb : Below w.heap.size w w') : ListF w' v l := by
  obtain ⟨A, c, e, h1, h2, h3⟩ := h
  exact ⟨A, c, e, h1.below hb, h2, h3⟩
theorem RowsF.below {w w' : World} {A : Option Addr} {L : List (List Fd)} (h : RowsF w A L) (hb : Below w.heap.size w w') : RowsF w' A L := fun i l hl => by
  obtain ⟨g, off, v, e, hc, hv⟩ := h i l hl
  exact ⟨g, off, v, e, keepc hb hc, hv.below hb⟩
theorem ListF.nil (w : World) : ListF w (.slice none 0 0) [] := ⟨none, 0, rfl, Fields.nil _ _, Nat.le_refl _, fun _ => rfl⟩
theorem ListF.own {w : World} {base : Nat} {v : Value} {l : List Fd} (h : ownF w base v l) : ListF w v l := by
  obtain ⟨A, c, e, h1, h2, h3⟩ := own_fields h
  exact ⟨A, c, e, h1, h3, h2⟩
theorem wpList_appF {ops : Array Oper} {rest : List Oper} {o : Oper} {a : Act} {w : World} {Q : Exit → Act → World → Prop} (hgd : o.guard = none) (s x : Operand)
    (ho : o.op = .call { callee := .builtin .append, args := #[s, x], argTypes := #[29, 29] })
    {base : Nat} {v : Value} {ts : List Fd} (hs : a.eval s = v) (hown : ownF w base v ts) {B : Option Addr} {c m : Nat} {xs : List Fd} (hv : a.eval x = .slice B m c) (hm : m = xs.length) (hx : Fields w B xs) (hc : B = none → c = 0)
    (hl : ts.length + xs.length ≤ 1000000) (hbase : base ≤ w.heap.size)
    (h : ∀ v' w', ownF w' base v' (ts ++ xs) → w.grownBy w' v.ownBlock → wpList Try.prog ops Q rest (a.put o.dst v') w') : wpList Try.prog ops Q (o :: rest) a w := by
  subst hm
  obtain ⟨v', w', hrun, h2, h3, h4⟩ := run_appF w hown B c xs hx hc hl hbase o.type
  refine wpList_plain hgd fun _ hK => ?_
  unfold Oper.wp execOp
  simp only [ho, resolve, invoke, builtin, Sem.run_bind, Sem.run_pure, Result.andThen_ok, List.map_toArray, List.map_cons, List.map_nil, hs, hv, hrun]
  exact hK _ _ (h v' w' h2 h3)
/-- A list of the call's own, whose blocks lie from that world on. -/
structure OF (W : World) (l : List Fd) (v : Value) (w : World) : Prop where
  own : ownF w W.heap.size v l
  bel : Below W.heap.size W w
theorem OF.nil (W : World) : OF W [] (.slice none 0 0) W := ⟨World.ownsRow_nil _ _ _ _, bl W⟩
theorem OF.below {W w w' : World} {l : List Fd} {v : Value} (h : OF W l v w) (hb : Below w.heap.size w w') : OF W l v w' := ⟨own_belowF h.own hb, chain h.bel hb⟩
theorem OF.grown {W w w' : World} {l m : List Fd} {v v' : Value} (h : OF W l v w) (hg : w.grownBy w' v.ownBlock) (hown : ownF w' W.heap.size v' m) : OF W m v' w' :=
  ⟨hown, below_grownF h.bel hg (fun r hr => (h.own.lt r hr).1)⟩
theorem OF.list {W w : World} {l : List Fd} {v : Value} (h : OF W l v w) : ListF w v l := ListF.own h.own
theorem OF.set {W w : World} {l : List Fd} {v : Value} (h : OF W l v w) {b o : Nat} (u : Value) (hne : v.ownBlock ≠ some b) (hb : W.heap.size ≤ b) : OF W l v (w.setCell ⟨b, o, none⟩ u) :=
  ⟨h.own.kept (row := some b) ⟨rfl, rfl, rfl, by simp [World.setCell], fun k _ hk => Below.heap_setCell _ _ _ _ (fun e => hk (by simp [e]))⟩ (Or.inr hne), h.bel.setCell (p := ⟨b, o, none⟩) hb u⟩
theorem OF.ne {W w : World} {l : List Fd} {v : Value} (h : OF W l v w) : v.ownBlock ≠ some w.heap.size := fun e => by
  have := (h.own.lt _ e).2
  omega
/-- A list of the call's own, and a field of its own in block b. -/
structure FW (W0 : World) (acc : List Fd) (o : Value) (b : Nat) (x : Fd) (W : World) : Prop where
  of : OF W0 acc o W
  ne : o.ownBlock ≠ some b
  le : W0.heap.size ≤ b
  lt : b < W.heap.size
  c0 : W.cell? ⟨b, 0, none⟩ = some (.string x.n)
  c1 : W.cell? ⟨b, 1, none⟩ = some (.int .i64 x.v)
  f0 : W.frozen? ⟨b, 0, none⟩ = false
  f1 : W.frozen? ⟨b, 1, none⟩ = false
theorem FW.set0 {W0 W : World} {acc : List Fd} {o : Value} {b : Nat} {x : Fd} (h : FW W0 acc o b x W) (s : ByteArray) : FW W0 acc o b ⟨s, x.v⟩ (W.setCell ⟨b, 0, none⟩ (.string s)) :=
  ⟨h.of.set _ h.ne h.le, h.ne, h.le, by simpa [World.setCell] using h.lt, World.cell?_setCell_same _ _ _ h.c0, (World.cell?_setCell_other _ _ _ _ (by simp)).trans h.c1, by simpa [go_sem] using h.f0, by simpa [go_sem] using h.f1⟩
theorem FW.set1 {W0 W : World} {acc : List Fd} {o : Value} {b : Nat} {x : Fd} (h : FW W0 acc o b x W) (v : Int) : FW W0 acc o b ⟨x.n, v⟩ (W.setCell ⟨b, 1, none⟩ (.int .i64 v)) :=
  ⟨h.of.set _ h.ne h.le, h.ne, h.le, by simpa [World.setCell] using h.lt, (World.cell?_setCell_other _ _ _ _ (by simp)).trans h.c0, World.cell?_setCell_same _ _ _ h.c1, by simpa [go_sem] using h.f0, by simpa [go_sem] using h.f1⟩
theorem FW.below {W0 W w' : World} {acc : List Fd} {o : Value} {b : Nat} {x : Fd} (h : FW W0 acc o b x W) (hb : Below W.heap.size W w') : FW W0 acc o b x w' :=
  ⟨h.of.below hb, h.ne, h.le, Nat.lt_of_lt_of_le h.lt hb.size, keepc hb h.c0, keepc hb h.c1, (hb.frozen (p := ⟨b, 0, none⟩) h.lt).trans h.f0, (hb.frozen (p := ⟨b, 1, none⟩) h.lt).trans h.f1⟩
theorem FW.drewN {W0 W : World} {acc : List Fd} {o : Value} {b : Nat} {x : Fd} (h : FW W0 acc o b x W) (q : Nat) : FW W0 acc o b x (W.drewN q) := h.below ⟨rfl, rfl, rfl, Nat.le_refl _, fun _ _ => rfl⟩
/-- The field in the block is laid behind the list. -/
theorem FW.start {W0 w w2 : World} {acc : List Fd} {o : Value} {T : TypeId} {x : Fd} (h : OF W0 acc o w) (hb2 : Below (w.alloc (.cells #[.string x.n, .int .i64 x.v] T)).heap.size (w.alloc (.cells #[.string x.n, .int .i64 x.v] T)) w2) : FW W0 acc o w.heap.size x w2 :=
  FW.below (W := w.alloc (.cells #[.string x.n, .int .i64 x.v] T)) ⟨h.below ((bl w).alloc (Nat.le_refl _) _), h.ne, h.bel.size, by simp, by simp [go_sem], by simp [go_sem], by simp [go_sem], by simp [go_sem]⟩ hb2
theorem drop_consL {α : Type} {l : List α} {k : Nat} {f : α} (h : l[k]? = some f) : l.drop k = f :: l.drop (k + 1) := by
  have hk : k < l.length := by
    rcases Nat.lt_or_ge k l.length with h' | h'
    · exact h'
    · rw [List.getElem?_eq_none h'] at h; cases h
  rw [List.drop_eq_getElem_cons hk]
  rw [List.getElem?_eq_getElem hk] at h
  rw [Option.some.inj h]
theorem flat_split {L : List (List Fd)} {k : Nat} {row : List Fd} (h : L[k]? = some row) : L.flatten = (L.take k).flatten ++ (row ++ (L.drop (k + 1)).flatten) := by
  have e := List.take_append_drop k L
  rw [drop_consL h] at e
  have := congrArg List.flatten e
  rw [List.flatten_append, List.flatten_cons] at this
  exact this.symm
theorem flat_next {L : List (List Fd)} {k : Nat} {row : List Fd} (h : L[k]? = some row) : (L.take (k + 1)).flatten = (L.take k).flatten ++ row := by
  rw [List.take_add_one, h, Option.toList_some, List.flatten_append, List.flatten_cons, List.flatten_nil, List.append_nil]
theorem flat_pre {L : List (List Fd)} {k : Nat} {row : List Fd} (h : L[k]? = some row) (t : Nat) : ((L.take k).flatten ++ row.take t).length ≤ L.flatten.length := by
  rw [flat_split h, List.length_append, List.length_append, List.length_append, List.length_take]
  omega

/-- Fields that are laid in a new block. -/
theorem fields_new (w : World) (l : List Fd) (T : TypeId) : Fields (w.alloc (.cells (flatF l).toArray T)) (some ⟨w.heap.size, 0, none⟩) l := fun i f hf => by
  obtain ⟨h0, h1⟩ := flatF_get l i f hf
  refine ⟨w.heap.size, 0, rfl, ?_, ?_⟩
  · rw [cell_of_row _ _ _ _ T (0, 0) (heap_alloc_new w _), Nat.zero_add]
    simpa using h0
  · rw [cell_of_row _ _ _ _ T (0, 0) (heap_alloc_new w _), Nat.zero_add]
    simpa using h1
theorem list_new (w : World) (l : List Fd) (T : TypeId) : ListF (w.alloc (.cells (flatF l).toArray T)) (.slice (some ⟨w.heap.size, 0, none⟩) l.length l.length) l := ⟨_, _, rfl, fields_new w l T, Nat.le_refl _, fun h => by cases h⟩
/-- Lists that are laid in a new block. -/
theorem rows_new (w : World) (T : TypeId) (vs : List Value) (L : List (List Fd)) (h : ∀ (i : Nat) (l : List Fd), L[i]? = some l → ∃ v, vs[i]? = some v ∧ ListF w v l) : RowsF (w.alloc (.cells vs.toArray T)) (some ⟨w.heap.size, 0, none⟩) L := fun i l hl => by
  obtain ⟨v, hv, hL⟩ := h i l hl
  refine ⟨w.heap.size, 0, v, rfl, ?_, hL.below ((bl w).alloc (Nat.le_refl _) _)⟩
  rw [cell_of_row _ _ _ _ T (0, 0) (heap_alloc_new w _), Nat.zero_add]
  simpa using hv
theorem rows_two {w : World} {T : TypeId} {u v : Value} {a b : List Fd} (ha : ListF w u a) (hb : ListF w v b) : RowsF (w.alloc (.cells #[u, v] T)) (some ⟨w.heap.size, 0, none⟩) [a, b] :=
  rows_new w T [u, v] [a, b] fun i l hl => by
    match i, hl with
    | 0, hl => obtain rfl : a = l := by simpa using hl
               exact ⟨u, rfl, ha⟩
    | 1, hl => obtain rfl : b = l := by simpa using hl
               exact ⟨v, rfl, hb⟩
theorem rows_three {w : World} {T : TypeId} {u v x : Value} {a b c : List Fd} (ha : ListF w u a) (hb : ListF w v b) (hc : ListF w x c) : RowsF (w.alloc (.cells #[u, v, x] T)) (some ⟨w.heap.size, 0, none⟩) [a, b, c] :=
  rows_new w T [u, v, x] [a, b, c] fun i l hl => by
    match i, hl with
    | 0, hl => obtain rfl : a = l := by simpa using hl
               exact ⟨u, rfl, ha⟩
    | 1, hl => obtain rfl : b = l := by simpa using hl
               exact ⟨v, rfl, hb⟩
    | 2, hl => obtain rfl : c = l := by simpa using hl
               exact ⟨x, rfl, hc⟩

theorem dsamel_any (w : World) (v u : Value) (a b : List Fd) (ha : ListF w v a) (hb : ListF w u b) (hn : a.length ≤ 9223372036854775807) (hm : b.length ≤ 9223372036854775807) : Ret 13 #[v, u] w (.bool (sameF a b)) := by
  obtain ⟨A, c, rfl, hA, _, _⟩ := ha
  obtain ⟨B, d, rfl, hB, _, _⟩ := hb
  exact dsame_any w A B c d a b hA hB hn hm
end Go.Proofs.Ytjpkeadnccodjaa
