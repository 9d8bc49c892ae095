/-
  Lists of spans in memory; the document's Same tells of any two whether they are one.
-/
import Derived.Test.YtmfkcbanjlmmhaaCbase
import Derived.RegionTactic
import Derived.ChangeAlike
import Derived.Deep.AppendLies
import Derived.Deep.RegionLaw
import Derived.OneCell
namespace Go.Proofs.Ytmfkcbanjlmmhaa
open Go.RowKit

/-- From A on the spans of l lie, one behind the other. -/
def Spans (w : World) (A : Option Addr) (l : List (Int × Int)) : Prop :=
  ∀ i p, l[i]? = some p → ∃ g off, A = some ⟨g, off, none⟩ ∧ w.cell? ⟨g, off + i * 2, none⟩ = some (.int .i64 p.1) ∧ w.cell? ⟨g, off + i * 2 + 1, none⟩ = some (.int .i64 p.2)

theorem ret_bool {a b : Bool} (h : a = b) : Ending.returned (.bool a) = .returned (.bool b) := by rw [h]
/-- As far as k both are one. -/
def SameTo (l m : List (Int × Int)) (k : Nat) : Prop := ∀ j, j < k → l[j]? = m[j]?

theorem SameTo.next {l m : List (Int × Int)} {k : Nat} (h : SameTo l m k) (he : l[k]? = m[k]?) : SameTo l m (k + 1) := fun j hj => by
  rcases Nat.lt_or_ge j k with hlt | hge
  · exact h j hlt
  · obtain rfl : j = k := by omega
    exact he
theorem SameTo.not {l m : List (Int × Int)} {k : Nat} {p q : Int × Int} (hp : l[k]? = some p) (hq : m[k]? = some q) (hne : p ≠ q) : decide (l = m) = false := by
  simp only [decide_eq_false_iff_not]
  rintro rfl
  rw [hp] at hq
  exact hne (by injection hq)
theorem SameTo.all {l m : List (Int × Int)} {k : Nat} (h : SameTo l m k) (hl : l.length ≤ k) (hm : m.length ≤ k) : decide (l = m) = true := by
  simp only [decide_eq_true_eq]
  apply List.ext_getElem?
  intro i
  rcases Nat.lt_or_ge i k with hlt | hge
  · exact h i hlt
  · rw [List.getElem?_eq_none (by omega), List.getElem?_eq_none (by omega)]

set_option maxHeartbeats 800000 in
theorem same_any (w : World) (A B : Option Addr) (c d : Nat) (l m : List (Int × Int)) (hl : Spans w A l) (hm : Spans w B m) (hn : l.length ≤ 9223372036854775807) :
    Calls Try.prog 11 #[.slice A l.length c, .slice B m.length d] w fun e w' => e = .returned (.bool (decide (l = m))) ∧ Below w.heap.size w w' := by
  by_cases hlen : l.length = m.length
  · have HL := Lib.hid hl
    have HM := Lib.hid hm
    clear hl hm
    obtain ⟨n, hnm⟩ : ∃ n, n = l.length := ⟨_, rfl⟩
    rw [← hlen, ← hnm]
    have HN := Lib.hid hnm
    have HLEN := Lib.hid hlen
    have hn' : n ≤ 9223372036854775807 := by omega
    clear hnm hlen hn
    go_enter Try.func11, Try.ntmps11
    go_wp2
    go_loopw [5] (fun i wr => ∃ k : Nat, k ≤ n ∧ i = .int .i64 k ∧ SameTo l m k ∧ ∃ q, wr = w.drewN q) (fun i _ => n - (intOf i).toNat)
    case atStart => exact ⟨0, Nat.zero_le _, rfl, fun j hj => absurd hj (by omega), 0, rfl⟩
    case round =>
      obtain ⟨k, hk, rfl, hs, q, rfl⟩ := hrel
      have HS := Lib.hid hs
      clear hs
      by_cases hlt : k < n
      · obtain ⟨⟨x, y⟩, hx⟩ : ∃ p, l[k]? = some p := ⟨_, List.getElem?_eq_getElem (by have := HN.out; omega)⟩
        obtain ⟨⟨u, v⟩, hu⟩ : ∃ p, m[k]? = some p := ⟨_, List.getElem?_eq_getElem (by have := HN.out; have := HLEN.out; omega)⟩
        obtain ⟨g, off, rfl, c0, c1⟩ := HL.out k _ hx
        obtain ⟨g', off', rfl, d0, d1⟩ := HM.out k _ hu
        have HX := Lib.hid hx
        have HU := Lib.hid hu
        clear hx hu
        simp only at c0 c1 d0 d1
        by_cases h0 : x = u
        · subst h0
          by_cases h1 : y = v
          · subst h1
            have e0 : (x == x) = true := by simp
            have e1 : (y == y) = true := by simp
            go_wp2
            go_quiet (fail)
            go_wp2
            go_roundw
            case rel => exact ⟨k + 1, by omega, by go_num, SameTo.next HS.out (HX.out.trans HU.out.symm), _, rfl⟩
            case measure => simp [intOf]; omega
          · have e0 : (x == x) = true := by simp
            have e1 : (y == v) = false := by simpa using h1
            go_wp2
            go_quiet (fail)
            go_wp2
            go_ret
            exact ⟨ret_bool (SameTo.not HX.out HU.out (by simpa using h1)).symm, ⟨rfl, rfl, rfl, Nat.le_refl _, fun _ _ => rfl⟩⟩
        · have e0 : (x == u) = false := by simpa using h0
          go_wp2
          go_quiet (fail)
          go_wp2
          go_ret
          exact ⟨ret_bool (SameTo.not HX.out HU.out (by simp [h0])).symm, ⟨rfl, rfl, rfl, Nat.le_refl _, fun _ _ => rfl⟩⟩
      · go_wp2
        go_ret
        exact ⟨ret_bool (SameTo.all HS.out (by have := HN.out; omega) (by have := HN.out; have := HLEN.out; omega)).symm, ⟨rfl, rfl, rfl, Nat.le_refl _, fun _ _ => rfl⟩⟩
  · go_enter Try.func11, Try.ntmps11
    go_wp2
    go_ret
    exact ⟨ret_bool (by simp only [Eq.comm (a := false), decide_eq_false_iff_not]; rintro rfl; exact hlen rfl), Below.refl _ _⟩

theorem Try.infoSpan : (Try.prog.info? 36).map (fun i => (i.zero, i.size, i.bytes)) = some (some (.agg #[.int .i64 0, .int .i64 0]), 2, 16) := by kernel_rfl

/-- The spans of a list as cells. -/
def flat (l : List (Int × Int)) : List Value := l.flatMap fun p => [.int .i64 p.1, .int .i64 p.2]
theorem flat_snoc (l : List (Int × Int)) (f t : Int) : flat (l ++ [(f, t)]) = flat l ++ [.int .i64 f, .int .i64 t] := by simp [flat]
theorem news_two (w : World) (f t : Int) (ty : TypeId) : ∀ j u, [Value.int .i64 f, Value.int .i64 t][j]? = some u → (w.alloc (.cells #[.int .i64 f, .int .i64 t] ty)).cell? ((⟨w.heap.size, 0, none⟩ : Addr).add j) = some u :=
  World.news_of_block (cs := #[.int .i64 f, .int .i64 t]) (heap_alloc_new w _)
theorem flat_get : ∀ (l : List (Int × Int)) (i : Nat) (p : Int × Int), l[i]? = some p → (flat l)[i * 2]? = some (.int .i64 p.1) ∧ (flat l)[i * 2 + 1]? = some (.int .i64 p.2)
  | [], i, p, h => by simp at h
  | q :: l, 0, p, h => by simp at h; subst h; simp [flat]
  | q :: l, i + 1, p, h => by
    have := flat_get l i p (by simpa using h)
    have e : flat (q :: l) = .int .i64 q.1 :: .int .i64 q.2 :: flat l := by simp [flat]
    rw [e, show (i + 1) * 2 = i * 2 + 1 + 1 from by omega]
    simpa using this
theorem Spans.nil (w : World) (A : Option Addr) : Spans w A [] := fun i p h => by simp at h
/-- A row of the call's own, read as spans. -/
theorem own_spans {w : World} {base : Nat} {v : Value} {l : List (Int × Int)} (h : w.ownsRow base 36 2 v l.length (flat l)) : ∃ A c, v = .slice A l.length c ∧ Spans w A l := by
  rcases Nat.eq_zero_or_pos l.length with h0 | h0
  · obtain rfl := List.eq_nil_of_length_eq_zero h0
    rcases h.2 with ⟨hv, _⟩ | ⟨g, cap, cur, hv, _⟩
    · exact ⟨_, _, hv, Spans.nil _ _⟩
    · exact ⟨_, _, hv, Spans.nil _ _⟩
  · obtain ⟨g, cap, rfl, _, _⟩ := h.form h0
    refine ⟨_, _, rfl, fun i p hp => ⟨g, 0, rfl, ?_⟩⟩
    obtain ⟨e0, e1⟩ := flat_get l i p hp
    have add : ∀ n, (⟨g, 0, none⟩ : Addr).add n = ⟨g, 0 + n, none⟩ := fun n => by unfold Addr.add; split <;> simp_all
    have c0 := h.cells (g := g) rfl _ _ e0
    have c1 := h.cells (g := g) rfl _ _ e1
    rw [add] at c0 c1
    exact ⟨c0, by rw [Nat.add_assoc]; exact c1⟩
/-- From the start of block g on the spans of l lie. -/
def SpansAt (w : World) (g : Nat) (l : List (Int × Int)) : Prop := ∀ i p, l[i]? = some p → w.cell? ⟨g, i * 2, none⟩ = some (.int .i64 p.1) ∧ w.cell? ⟨g, i * 2 + 1, none⟩ = some (.int .i64 p.2)
theorem own_spansAt {w : World} {base : Nat} {v : Value} {l : List (Int × Int)} (h : w.ownsRow base 36 2 v l.length (flat l)) (h0 : 0 < l.length) : ∃ g c, v = .slice (some ⟨g, 0, none⟩) l.length c ∧ SpansAt w g l ∧ base ≤ g ∧ g < w.heap.size := by
  obtain ⟨g, cap, rfl, _, _⟩ := h.form h0
  have hl := h.lt g rfl
  refine ⟨g, _, rfl, fun i p hp => ?_, hl.1, hl.2⟩
  obtain ⟨e0, e1⟩ := flat_get l i p hp
  have add : ∀ n, (⟨g, 0, none⟩ : Addr).add n = ⟨g, 0 + n, none⟩ := fun n => by unfold Addr.add; split <;> simp_all
  have c0 := h.cells (g := g) rfl _ _ e0
  have c1 := h.cells (g := g) rfl _ _ e1
  rw [add] at c0 c1
  exact ⟨by rwa [Nat.zero_add] at c0, by rwa [Nat.zero_add] at c1⟩
theorem cell_lt {w : World} {g o : Nat} {v : Value} (h : w.cell? ⟨g, o, none⟩ = some v) : g < w.heap.size := by
  rcases Nat.lt_or_ge g w.heap.size with hlt | hge
  · exact hlt
  · simp [World.cell?, Array.getElem?_eq_none hge] at h
theorem Spans.below {w w' : World} {A : Option Addr} {l : List (Int × Int)} (h : Spans w A l) (hb : Below w.heap.size w w') : Spans w' A l := fun i p hp => by
  obtain ⟨g, off, rfl, c0, c1⟩ := h i p hp
  have hg := cell_lt c0
  exact ⟨g, off, rfl, (hb.cell (p := ⟨g, _, none⟩) hg).trans c0, (hb.cell (p := ⟨g, _, none⟩) hg).trans c1⟩
theorem below_app {B : Nat} {a w w1 : World} {o : Obj} {row : Option Nat} (h : Below B a w) (hg : (w.alloc o).grownBy w1 row) (hB : B ≤ w.heap.size) (hr : ∀ k, row = some k → B ≤ k) : Below B a w1 :=
  (h.alloc hB o).grown hg (by simp; omega) hr
theorem info_parts {P : Program} {t : TypeId} {z : Value} {s b : Nat} (h : (P.info? t).map (fun i => (i.zero, i.size, i.bytes)) = some (some z, s, b)) : ∃ i, P.info? t = some i ∧ i.zero = some z ∧ i.size = s ∧ i.bytes = b := by
  obtain ⟨i, hi, he⟩ := Option.map_eq_some_iff.1 h
  simp only [Prod.mk.injEq] at he
  exact ⟨i, hi, he⟩


end Go.Proofs.Ytmfkcbanjlmmhaa
