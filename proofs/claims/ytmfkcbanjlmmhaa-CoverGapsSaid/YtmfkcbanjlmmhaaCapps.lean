/-
  append of a list of spans onto a list of the call's own, whatever the source: what it leaves.
-/
import Derived.Test.YtmfkcbanjlmmhaaCput
namespace Go.Proofs.Ytmfkcbanjlmmhaa
open Go.RowKit

abbrev ownS (w : World) (base : Nat) (v : Value) (l : List Sp) : Prop := w.ownsRow base 36 2 v l.length (flat l)

theorem flat_cell {w : World} {g off : Nat} {l : List Sp} (h : Spans w (some ⟨g, off, none⟩) l) {j : Nat} {u : Value} (hu : (flat l)[j]? = some u) : w.cell? ((⟨g, off, none⟩ : Addr).add j) = some u := by
  have hj : j < l.length * 2 := by
    rcases Nat.lt_or_ge j (flat l).length with h1 | h1
    · rw [flat_length] at h1; exact h1
    · rw [List.getElem?_eq_none h1] at hu; cases hu
  obtain ⟨p, hp⟩ : ∃ p, l[j / 2]? = some p := ⟨_, List.getElem?_eq_getElem (by omega)⟩
  obtain ⟨e0, e1⟩ := flat_get l (j / 2) p hp
  obtain ⟨g', off', he, c0, c1⟩ := h _ _ hp
  injection he with he
  injection he with he1 he2
  subst he1 he2
  rw [Go.WideShapes.add_plain]
  rcases Nat.mod_two_eq_zero_or_one j with h2 | h2
  · rw [show j / 2 * 2 = j from by omega] at e0 c0
    rw [e0] at hu
    injection hu with hu
    rw [← hu]; exact c0
  · rw [show j / 2 * 2 + 1 = j from by omega] at e1
    rw [Nat.add_assoc, show j / 2 * 2 + 1 = j from by omega] at c1
    rw [e1] at hu
    injection hu with hu
    rw [← hu]; exact c1
theorem flat_one (l : List Sp) : ∀ u ∈ flat l, u.oneCell' = true := fun u hu => by
  unfold flat at hu
  obtain ⟨p, _, hp⟩ := List.mem_flatMap.1 hu
  simp at hp
  rcases hp with rfl | rfl <;> rfl
theorem flat_append (l m : List Sp) : flat (l ++ m) = flat l ++ flat m := by simp [flat]

theorem run_apps (w : World) {base : Nat} {v : Value} {ts : List Sp} (hown : ownS w base v ts) (B : Option Addr) (c : Nat) (xs : List Sp) (hx : Spans w B xs) (hc : B = none → c = 0)
    (hl : ts.length + xs.length ≤ 1000000) (hbase : base ≤ w.heap.size) (ty : TypeId) :
    ∃ v' w', (Builtin.append_ #[22, 22] ty #[v, .slice B xs.length c]).run Try.prog w = .ok v' w' ∧ ownS w' base v' (ts ++ xs) ∧ w.grownBy w' v.ownBlock ∧ (v'.ownBlock = v.ownBlock ∨ v'.ownBlock = some w.heap.size) := by
  obtain ⟨i0, hi, hz0, hz1, hz2⟩ := info_parts Try.infoSpan
  rcases B with _ | ad
  · obtain rfl : xs = [] := by
      rcases xs with _ | ⟨x, xs⟩
      · rfl
      · obtain ⟨_, _, h, _⟩ := hx 0 x (by simp)
        cases h
    obtain rfl := hc rfl
    exact ⟨v, w, run_append_owned_none (P := Try.prog) w base 22 ty 36 i0 2 Try.underlying22 hi v _ _ hown, by simpa [ownS] using hown, World.grownBy.refl _ _, .inl rfl⟩
  · have hcell : ∀ j u, (flat xs)[j]? = some u → w.cell? (ad.add j) = some u := fun j u hu => by
      rcases xs with _ | ⟨p, xs⟩
      · simp [flat] at hu
      · obtain ⟨g, off, he, _⟩ := hx 0 p (by simp)
        injection he with he
        subst he
        exact flat_cell hx hu
    obtain ⟨v', w', hrun, h2, h3, _, h5⟩ := run_append_own_at (P := Try.prog) w base 22 ty 36 i0 (.agg #[.int .i64 0, .int .i64 0]) 2 16 Try.underlying22 hi hz0 hz1 hz2 rfl (by decide) v _ _ hown ad xs.length c (flat xs) (flat_length xs) hcell
      (flat_one xs) (by unfold maxLen; omega) (by omega) hbase
    exact ⟨v', w', hrun, by unfold ownS; rw [flat_append, List.length_append]; exact h2, h3, h5⟩

theorem wpList_apps {ops : Array Oper} {rest : List Oper} {o : Oper} {a : Act} {w : World} {Q : Exit → Act → World → Prop} (hgd : o.guard = none) (s x : Operand)
    (ho : o.op = .call { callee := .builtin .append, args := #[s, x], argTypes := #[22, 22] })
    {base : Nat} {v : Value} {ts : List Sp} (hs : a.eval s = v) (hown : ownS w base v ts) {B : Option Addr} {c m : Nat} {xs : List Sp} (hv : a.eval x = .slice B m c) (hm : m = xs.length) (hx : Spans w B xs) (hc : B = none → c = 0)
    (hl : ts.length + xs.length ≤ 1000000) (hbase : base ≤ w.heap.size)
    (h : ∀ v' w', ownS w' base v' (ts ++ xs) → w.grownBy w' v.ownBlock → wpList Try.prog ops Q rest (a.put o.dst v') w') : wpList Try.prog ops Q (o :: rest) a w := by
  subst hm
  obtain ⟨v', w', hrun, h2, h3, h4⟩ := run_apps w hown B c xs hx hc hl hbase o.type
  refine wpList_plain hgd fun _ hK => ?_
  unfold Oper.wp execOp
  simp only [ho, resolve, invoke, builtin, Sem.run_bind, Sem.run_pure, Result.andThen_ok, List.map_toArray, List.map_cons, List.map_nil, hs, hv, hrun]
  exact hK _ _ (h v' w' h2 h3)

end Go.Proofs.Ytmfkcbanjlmmhaa
