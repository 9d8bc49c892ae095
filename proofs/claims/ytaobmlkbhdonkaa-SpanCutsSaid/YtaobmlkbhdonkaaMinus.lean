/-
  What Minus gives back, of span and of the document's answer, for any two spans: the same list.
-/
import Derived.Test.YtaobmlkbhdonkaaKeep
namespace Go.Proofs.Ytaobmlkbhdonkaa
open Go.RowKit

/-- What the first one has alone. -/
def minusL (a b c d : Int) : List (Int × Int) := if rightB a b then (if meetB a b c d then kept (kept [] a (max a c)) (min b d) b else [(a, b)]) else []

theorem kept_both {a b x y : Int} (hx : x = a) (hy : y = b) : kept (kept [] a x) y b = [] := by subst hx hy; simp [kept]

/-- The call gives back a list of spans, and turns nothing that was there. -/
def ListPost (l : List (Int × Int)) (w : World) (e : Ending) (w' : World) : Prop := ∃ A c, e = .returned (.slice A l.length c) ∧ Spans w' A l ∧ Below w.heap.size w w'

theorem flat_get : ∀ (l : List (Int × Int)) (i : Nat) (p : Int × Int), l[i]? = some p → (flat l)[i * 2]? = some (.int .i64 p.1) ∧ (flat l)[i * 2 + 1]? = some (.int .i64 p.2)
  | [], i, p, h => by simp at h
  | q :: l, 0, p, h => by simp at h; subst h; simp [flat]
  | q :: l, i + 1, p, h => by
    have := flat_get l i p (by simpa using h)
    have e : flat (q :: l) = .int .i64 q.1 :: .int .i64 q.2 :: flat l := by simp [flat]
    rw [e, show (i + 1) * 2 = i * 2 + 1 + 1 from by omega]
    simpa using this

theorem Spans.nil (w : World) (A : Option Addr) : Spans w A [] := fun i p h => by simp at h

/-- A row of the call's own, read as spans. -/
theorem own_spans {w : World} {base : Nat} {v : Value} {l : List (Int × Int)} (h : w.ownsRow base 23 2 v l.length (flat l)) : ∃ A c, v = .slice A l.length c ∧ Spans w A l := by
  rcases Nat.eq_zero_or_pos l.length with h0 | h0
  · obtain rfl := List.eq_nil_of_length_eq_zero h0
    rcases h.2 with ⟨hv, _⟩ | ⟨g, cap, cur, hv, _⟩
    · exact ⟨_, _, hv, Spans.nil _ _⟩
    · exact ⟨_, _, hv, Spans.nil _ _⟩
  · obtain ⟨g, cap, rfl, _, _⟩ := h.form h0
    refine ⟨_, _, rfl, fun i p hp => ⟨g, 0, rfl, ?_⟩⟩
    obtain ⟨e0, e1⟩ := flat_get l i p hp
    have add : ∀ n, (⟨g, 0, none⟩ : Addr).add n = ⟨g, 0 + n, none⟩ := fun n => by unfold Addr.add; split <;> simp_all
    have c0 := h.cells (g := g) rfl _ _ e0
    have c1 := h.cells (g := g) rfl _ _ e1
    rw [add] at c0 c1
    exact ⟨c0, by rw [Nat.add_assoc]; exact c1⟩

theorem Spans.below {w w' : World} {A : Option Addr} {l : List (Int × Int)} (h : Spans w A l) (hb : Below w.heap.size w w') : Spans w' A l := fun i p hp => by
  obtain ⟨g, off, rfl, c0, c1⟩ := h i p hp
  have hg : g < w.heap.size := by
    rcases Nat.lt_or_ge g w.heap.size with hlt | hge
    · exact hlt
    · simp [World.cell?, Array.getElem?_eq_none hge] at c0
  exact ⟨g, off, rfl, (hb.cell (p := ⟨g, _, none⟩) hg).trans c0, (hb.cell (p := ⟨g, _, none⟩) hg).trans c1⟩

/-- One span, in a block of its own. -/
theorem Spans.one (w : World) (a b : Int) (ty : TypeId) : Spans (w.alloc (.cells #[.int .i64 a, .int .i64 b] ty)) (some ⟨w.heap.size, 0, none⟩) [(a, b)] := fun i p hp => by
  obtain rfl : i = 0 := by rcases i with _ | i <;> simp_all
  obtain rfl : (a, b) = p := by simpa using hp
  exact ⟨w.heap.size, 0, rfl, by simp [go_sem], by simp [go_sem]⟩

/-- What keeper leaves: its variable lies in the new block. -/
def KeeperPost (p : Addr) (w : World) (e : Ending) (w' : World) : Prop :=
  e = .returned (.func (.func 32) #[] #[.pointer (some ⟨w.heap.size, 0, none⟩)]) ∧ w'.heap[w.heap.size]? = some (.cells #[.pointer (some p)] 49 (0, 0)) ∧ w'.heap.size = w.heap.size + 1 ∧ Below w.heap.size w w'
theorem keeper_any (p : Addr) (w : World) : Calls Try.prog 28 #[.pointer (some p)] w (KeeperPost p w) := by
  have hmf : ∀ (fn : Fn) (first cap : Array Value) (w : World), (Instr.makeFunc fn first cap).run Try.prog w = .ok (.func fn first cap) w := fun _ _ _ _ => rfl
  go_enter Try.func28, Try.ntmps28
  go_wp2
  go_ret
  exact ⟨rfl, heap_alloc_new w _, by simp, by go_grown⟩

theorem Aside.below {base b B : Nat} {w w' : World} (h : Aside base b w w') (h1 : B ≤ base) (h2 : B ≤ b) : Below B w w' :=
  ⟨h.os, h.tape, h.output, h.size, fun k hk => h.block k (by omega) (by omega)⟩
theorem Aside.cell {base b : Nat} {w w' : World} (h : Aside base b w w') {k o : Nat} (hk : k < base) (hn : k ≠ b) : w'.cell? ⟨k, o, none⟩ = w.cell? ⟨k, o, none⟩ :=
  World.cell?_of_block (w := w) (h.block k hk hn)

set_option maxHeartbeats 1000000 in
theorem minus_any (a b c d : Int) (w : World) : Calls Try.prog 21 #[sp a b, sp c d] w (ListPost (minusL a b c d) w) := by
  cases hr : rightB a b
  · go_enter Try.func21, Try.ntmps21
    go_wp2_with fail
    (go_at_call 10; refine (right_any _ _ _).mono ?_; rintro e w1 ⟨rfl, hb⟩; obtain ⟨hc, hf⟩ := bcell hb)
    go_wp2_with fail
    go_ret
    rw [minusL, hr]
    exact ⟨none, 0, rfl, Spans.nil _ _, (((Below.refl _ _).alloc (Nat.le_refl _) _).alloc (by simp) _).trans (hb.mono (by simp; omega))⟩
  · cases hm : meetB a b c d
    · go_enter Try.func21, Try.ntmps21
      go_wp2_with fail
      (go_at_call 10; refine (right_any _ _ _).mono ?_; rintro e w1 ⟨rfl, hb⟩; obtain ⟨hc, hf⟩ := bcell hb)
      have hz0 : w.heap.size < w1.heap.size := by have := hb.size; simp at this; omega
      have hz1 : w.heap.size + 1 < w1.heap.size := by have := hb.size; simp at this; omega
      go_wp2_with fail
      (go_at_call 18; refine (meet_any _ _ _ _ _).mono ?_; rintro e w2 ⟨rfl, hb2⟩; obtain ⟨hc2, hf2⟩ := bcell hb2; have hz2 := hb2.size)
      have hz3 : w.heap.size < w2.heap.size := by omega
      go_wp2_with fail
      go_ret
      rw [minusL, hr, hm]
      exact ⟨_, _, rfl, by simpa using Spans.one (w2.alloc _) a b _, (((((Below.refl _ _).alloc (Nat.le_refl _) _).alloc (by simp) _).trans ((hb.mono (by simp; omega)).trans (hb2.mono (by omega)))).alloc (by omega) _).alloc (by simp; omega) _⟩
    · obtain ⟨x, hx⟩ : ∃ x, meetF a b c d = x := ⟨_, rfl⟩
      obtain ⟨y, hy⟩ : ∃ y, meetT a b c d = y := ⟨_, rfl⟩
      have hx' : x = max a c := by rw [← hx, meetF, hm]; rfl
      have hy' : y = min b d := by rw [← hy, meetT, hm]; rfl
      have HX := Lib.hid hx'
      have HY := Lib.hid hy'
      have hax : a ≤ x := by omega
      have hyb : y ≤ b := by omega
      clear hx' hy'
      by_cases hxy : x = a ∧ y = b
      · obtain ⟨hxa, hyb⟩ := hxy
        have e0 : (x == a) = true := by simpa using hxa
        have e1 : (y == b) = true := by simpa using hyb
        go_enter Try.func21, Try.ntmps21
        go_wp2_with fail
        (go_at_call 10; refine (right_any _ _ _).mono ?_; rintro e w1 ⟨rfl, hb⟩; obtain ⟨hc, hf⟩ := bcell hb)
        have hz0 : w.heap.size < w1.heap.size := by have := hb.size; simp at this; omega
        have hz1 : w.heap.size + 1 < w1.heap.size := by have := hb.size; simp at this; omega
        go_wp2_with fail
        (go_at_call 18; refine (meet_any _ _ _ _ _).mono ?_; rintro e w2 ⟨rfl, hb2⟩; obtain ⟨hc2, hf2⟩ := bcell hb2; have hz2 := hb2.size)
        have hz3 : w.heap.size < w2.heap.size := by omega
        go_wp2_with fail
        go_ret
        rw [minusL, hr, hm, ← HX.out, ← HY.out]
        exact ⟨none, 0, by rw [kept_both hxa hyb]; rfl, by rw [kept_both hxa hyb]; exact Spans.nil _ _, ((((Below.refl _ _).alloc (Nat.le_refl _) _).alloc (by simp) _).trans ((hb.mono (by simp; omega)).trans (hb2.mono (by omega)))).alloc (by omega) _⟩
      · have hne : (x == a) = false ∨ ((x == a) = true ∧ (y == b) = false) := by
          by_cases h : x = a
          · exact .inr ⟨by simpa using h, by simp; omega⟩
          · exact .inl (by simpa using h)
        clear hxy
        rcases hne with e0 | ⟨e0, e1⟩
        all_goals
          go_enter Try.func21, Try.ntmps21
          go_wp2_with fail
          (go_at_call 10; refine (right_any _ _ _).mono ?_; rintro e w1 ⟨rfl, hb⟩; obtain ⟨hc, hf⟩ := bcell hb)
          have hz0 : w.heap.size < w1.heap.size := by have := hb.size; simp at this; omega
          have hz1 : w.heap.size + 1 < w1.heap.size := by have := hb.size; simp at this; omega
          go_wp2_with fail
          (go_at_call 18; refine (meet_any _ _ _ _ _).mono ?_; rintro e w2 ⟨rfl, hb2⟩; obtain ⟨hc2, hf2⟩ := bcell hb2; have hz2 := hb2.size)
          have hz3 : w.heap.size < w2.heap.size := by omega
          go_wp2_with fail
          (go_at_call 28; refine (keeper_any _ _).mono ?_; rintro e w3 ⟨rfl, hp, hsz, hb3⟩)
          have hB : Below (w.heap.size + 1 + 1) ((w.alloc (.cells #[.int .i64 a, .int .i64 b] 23)).alloc (.cells #[.int .i64 c, .int .i64 d] 23)) w3 := (((((hb.mono (by simp)).trans (hb2.mono (by omega))).alloc (by omega) _).alloc (by simp; omega) _).trans (hb3.mono (by simp; omega)))
          have hM : Below (w2.heap.size + 1) (w2.alloc (.cells #[.int .i64 x, .int .i64 y] 23)) w3 := (((Below.refl _ _).alloc (by simp) _).trans (hb3.mono (by simp)))
          have hv : w3.heap[w2.heap.size + 1]? = some (.cells #[.slice none 0 0] 36 (0, 0)) := (hb3.block (w2.heap.size + 1) (by simp)).trans (by simpa using heap_alloc_new (w2.alloc (.cells #[.int .i64 x, .int .i64 y] 23)) (.cells #[.slice none 0 0] 36))
          have ca0 : w3.cell? ⟨w.heap.size, 0, none⟩ = some (.int .i64 a) := (hB.cell (p := ⟨w.heap.size, 0, none⟩) (by simp; omega)).trans (by simp [go_sem])
          have ca1 : w3.cell? ⟨w.heap.size, 1, none⟩ = some (.int .i64 b) := (hB.cell (p := ⟨w.heap.size, 1, none⟩) (by simp; omega)).trans (by simp [go_sem])
          have cx0 : w3.cell? ⟨w2.heap.size, 0, none⟩ = some (.int .i64 x) := (hM.cell (p := ⟨w2.heap.size, 0, none⟩) (by simp)).trans (by simp [go_sem])
          have cx1 : w3.cell? ⟨w2.heap.size, 1, none⟩ = some (.int .i64 y) := (hM.cell (p := ⟨w2.heap.size, 1, none⟩) (by simp)).trans (by simp [go_sem])
          simp at hp hsz
          go_wp2_with fail
          refine (keep_any a x (w2.heap.size + 1) (w2.heap.size + 1 + 1 + 1) (.slice none 0 0) [] w3 hp hv (by omega) (by omega) (World.ownsRow_nil _ _ _ _) (by simp)).mono ?_
          rintro e w4 ⟨rfl, v4, hv4, hown4, hA4⟩
          have da1 : w4.cell? ⟨w.heap.size, 1, none⟩ = some (.int .i64 b) := (hA4.cell (by omega) (by omega)).trans ca1
          have dx1 : w4.cell? ⟨w2.heap.size, 1, none⟩ = some (.int .i64 y) := (hA4.cell (by omega) (by omega)).trans cx1
          have hp4 := (hA4.block _ (by omega) (by omega)).trans hp
          have hs4 := hA4.size
          go_wp2_with fail
          refine (keep_any y b (w2.heap.size + 1) (w2.heap.size + 1 + 1 + 1) v4 (kept [] a x) w4 hp4 hv4 (by omega) (by omega) hown4 (by unfold kept; split <;> simp)).mono ?_
          rintro e w5 ⟨rfl, v5, hv5, hown5, hA5⟩
          have c5 := cell_of_one hv5
          obtain ⟨A, cc, rfl, hsp⟩ := own_spans hown5
          have HS := Lib.hid hsp
          clear hsp hown5 hown4 hv5 hv4 hp4 hp hv
          go_wp2_with fail
          go_ret
          rw [minusL, hr, hm, ← HX.out, ← HY.out]
          exact ⟨A, cc, rfl, HS.out, ((((Below.refl _ _).alloc (Nat.le_refl _) _).alloc (by simp) _).trans (hB.mono (by omega))).trans ((hA4.below (by omega) (by omega)).trans (hA5.below (by omega) (by omega)))⟩

end Go.Proofs.Ytaobmlkbhdonkaa
