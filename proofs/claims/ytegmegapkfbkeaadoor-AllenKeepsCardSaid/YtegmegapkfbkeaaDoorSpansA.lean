/-
  The document's list of all spans among six times, as the program's call makes it.
-/
import Derived.Test.YtegmegapkfbkeaaDoorOf
import Derived.Deep.AppendLies
import Derived.Deep.RegionLaw
import Derived.OneCell
namespace Go.Proofs.YtegmegapkfbkeaaDoor
open Go.RowKit

theorem Tryd.infoSpan : (Tryd.prog.info? 23).map (fun i => (i.zero, i.size, i.bytes)) = some (some (.agg #[.int .i64 0, .int .i64 0]), 2, 16) := by kernel_rfl

/-- From A on the spans of l lie, one behind the other. -/
def Spans (w : World) (A : Option Addr) (l : List (Int × Int)) : Prop :=
  ∀ i p, l[i]? = some p → ∃ g off, A = some ⟨g, off, none⟩ ∧ w.cell? ⟨g, off + i * 2, none⟩ = some (.int .i64 p.1) ∧ w.cell? ⟨g, off + i * 2 + 1, none⟩ = some (.int .i64 p.2)
/-- The spans of a list as cells. -/
def flat (l : List (Int × Int)) : List Value := l.flatMap fun p => [.int .i64 p.1, .int .i64 p.2]
theorem flat_snoc (l : List (Int × Int)) (f t : Int) : flat (l ++ [(f, t)]) = flat l ++ [.int .i64 f, .int .i64 t] := by simp [flat]
theorem news_two (w : World) (f t : Int) (ty : TypeId) : ∀ j u, [Value.int .i64 f, Value.int .i64 t][j]? = some u → (w.alloc (.cells #[.int .i64 f, .int .i64 t] ty)).cell? ((⟨w.heap.size, 0, none⟩ : Addr).add j) = some u :=
  World.news_of_block (cs := #[.int .i64 f, .int .i64 t]) (heap_alloc_new w _)
theorem flat_get : ∀ (l : List (Int × Int)) (i : Nat) (p : Int × Int), l[i]? = some p → (flat l)[i * 2]? = some (.int .i64 p.1) ∧ (flat l)[i * 2 + 1]? = some (.int .i64 p.2)
  | [], i, p, h => by simp at h
  | q :: l, 0, p, h => by simp at h; subst h; simp [flat]
  | q :: l, i + 1, p, h => by
    have := flat_get l i p (by simpa using h)
    have e : flat (q :: l) = .int .i64 q.1 :: .int .i64 q.2 :: flat l := by simp [flat]
    rw [e, show (i + 1) * 2 = i * 2 + 1 + 1 from by omega]
    simpa using this
theorem Spans.nil (w : World) (A : Option Addr) : Spans w A [] := fun i p h => by simp at h
/-- A row of the call's own, read as spans. -/
theorem own_spans {w : World} {base : Nat} {v : Value} {l : List (Int × Int)} (h : w.ownsRow base 23 2 v l.length (flat l)) : ∃ A c, v = .slice A l.length c ∧ Spans w A l := by
  rcases Nat.eq_zero_or_pos l.length with h0 | h0
  · obtain rfl := List.eq_nil_of_length_eq_zero h0
    rcases h.2 with ⟨hv, _⟩ | ⟨g, cap, cur, hv, _⟩
    · exact ⟨_, _, hv, Spans.nil _ _⟩
    · exact ⟨_, _, hv, Spans.nil _ _⟩
  · obtain ⟨g, cap, rfl, _, _⟩ := h.form h0
    refine ⟨_, _, rfl, fun i p hp => ⟨g, 0, rfl, ?_⟩⟩
    obtain ⟨e0, e1⟩ := flat_get l i p hp
    have add : ∀ n, (⟨g, 0, none⟩ : Addr).add n = ⟨g, 0 + n, none⟩ := fun n => by unfold Addr.add; split <;> simp_all
    have c0 := h.cells (g := g) rfl _ _ e0
    have c1 := h.cells (g := g) rfl _ _ e1
    rw [add] at c0 c1
    exact ⟨c0, by rw [Nat.add_assoc]; exact c1⟩
/-- From the start of block g on the spans of l lie. -/
def SpansAt (w : World) (g : Nat) (l : List (Int × Int)) : Prop := ∀ i p, l[i]? = some p → w.cell? ⟨g, i * 2, none⟩ = some (.int .i64 p.1) ∧ w.cell? ⟨g, i * 2 + 1, none⟩ = some (.int .i64 p.2)
theorem own_spansAt {w : World} {base : Nat} {v : Value} {l : List (Int × Int)} (h : w.ownsRow base 23 2 v l.length (flat l)) (h0 : 0 < l.length) : ∃ g c, v = .slice (some ⟨g, 0, none⟩) l.length c ∧ SpansAt w g l ∧ base ≤ g ∧ g < w.heap.size := by
  obtain ⟨g, cap, rfl, _, _⟩ := h.form h0
  have hl := h.lt g rfl
  refine ⟨g, _, rfl, fun i p hp => ?_, hl.1, hl.2⟩
  obtain ⟨e0, e1⟩ := flat_get l i p hp
  have add : ∀ n, (⟨g, 0, none⟩ : Addr).add n = ⟨g, 0 + n, none⟩ := fun n => by unfold Addr.add; split <;> simp_all
  have c0 := h.cells (g := g) rfl _ _ e0
  have c1 := h.cells (g := g) rfl _ _ e1
  rw [add] at c0 c1
  exact ⟨by rwa [Nat.zero_add] at c0, by rwa [Nat.zero_add] at c1⟩
theorem cell_lt {w : World} {g o : Nat} {v : Value} (h : w.cell? ⟨g, o, none⟩ = some v) : g < w.heap.size := by
  rcases Nat.lt_or_ge g w.heap.size with hlt | hge
  · exact hlt
  · simp [World.cell?, Array.getElem?_eq_none hge] at h
theorem Spans.below {w w' : World} {A : Option Addr} {l : List (Int × Int)} (h : Spans w A l) (hb : Below w.heap.size w w') : Spans w' A l := fun i p hp => by
  obtain ⟨g, off, rfl, c0, c1⟩ := h i p hp
  have hg := cell_lt c0
  exact ⟨g, off, rfl, (hb.cell (p := ⟨g, _, none⟩) hg).trans c0, (hb.cell (p := ⟨g, _, none⟩) hg).trans c1⟩
theorem below_app {B : Nat} {a w w1 : World} {o : Obj} {row : Option Nat} (h : Below B a w) (hg : (w.alloc o).grownBy w1 row) (hB : B ≤ w.heap.size) (hr : ∀ k, row = some k → B ≤ k) : Below B a w1 :=
  (h.alloc hB o).grown hg (by simp; omega) hr
theorem info_parts {P : Program} {t : TypeId} {z : Value} {s b : Nat} (h : (P.info? t).map (fun i => (i.zero, i.size, i.bytes)) = some (some z, s, b)) : ∃ i, P.info? t = some i ∧ i.zero = some z ∧ i.size = s ∧ i.bytes = b := by
  obtain ⟨i, hi, he⟩ := Option.map_eq_some_iff.1 h
  simp only [Prod.mk.injEq] at he
  exact ⟨i, hi, he⟩

def rowTo (a b : Nat) : List (Int × Int) := (List.range (b - (a + 1))).map fun j => ((a : Int), ((a + 1 + j : Nat) : Int))
def outTo : Nat → List (Int × Int)
  | 0 => []
  | a + 1 => outTo a ++ rowTo a 6
theorem rowTo_next {a b : Nat} (h : a + 1 ≤ b) : rowTo a (b + 1) = rowTo a b ++ [((a : Int), (b : Int))] := by
  unfold rowTo
  rw [show b + 1 - (a + 1) = (b - (a + 1)) + 1 from by omega, List.range_succ, List.map_append]
  simp only [List.map_cons, List.map_nil]
  rw [show a + 1 + (b - (a + 1)) = b from by omega]
theorem rowTo_first (a : Nat) : rowTo a (a + 1) = [] := by unfold rowTo; simp
theorem out_len : ∀ a, a ≤ 6 → ∀ b, b ≤ 6 → (outTo a ++ rowTo a b).length ≤ 40 := by decide +kernel

/-- All spans among six times. -/
def spansL : List (Int × Int) := outTo 6
/-- What lies while they are gathered. -/
def SpRel (W : World) (l : List (Int × Int)) (v : Value) (wr : World) : Prop := wr.ownsRow W.heap.size 23 2 v l.length (flat l) ∧ Below W.heap.size W wr
def SpPost (W : World) (l : List (Int × Int)) (e : Ending) (w' : World) : Prop := ∃ g c, e = .returned (.slice (some ⟨g, 0, none⟩) l.length c) ∧ SpansAt w' g l ∧ W.heap.size ≤ g ∧ g < w'.heap.size ∧ Below W.heap.size W w'
theorem SpRel.app {W wr w1 : World} {l : List (Int × Int)} {v v1 : Value} {o : Obj} {f t : Int} (h : SpRel W l v wr) (hg : (wr.alloc o).grownBy w1 v.ownBlock) (hown : w1.ownsRow W.heap.size 23 2 v1 (l.length + 1) (flat l ++ [.int .i64 f, .int .i64 t])) : SpRel W (l ++ [(f, t)]) v1 w1 :=
  ⟨by rw [flat_snoc, List.length_append]; exact hown, below_app h.2 hg h.2.size (fun k hk => (h.1.lt k hk).1)⟩

set_option maxHeartbeats 2000000 in
theorem spans_any (w : World) : Calls Tryd.prog 31 #[] w (SpPost w spansL) := by
  obtain ⟨i0, hi, hz0, hz1, hz2⟩ := info_parts Tryd.infoSpan
  go_enter Tryd.func31, Tryd.ntmps31
  go_wp2_with fail
  go_loopw [1, 2] (fun v i wr => ∃ a : Nat, a ≤ 6 ∧ i = .int .i64 a ∧ SpRel w (outTo a) v wr) (fun _ i _ => 6 - (intOf i).toNat)
  case atStart => exact ⟨0, Nat.zero_le _, rfl, World.ownsRow_nil _ _ _ _, bl _⟩
  case round =>
    obtain ⟨a, ha, rfl, hs⟩ := hrel
    have HS := Lib.hid hs
    clear hs
    by_cases hlt : a < 6
    · have hltI : (a : Int) < 6 := by omega
      go_wp2_with fail
      go_loopw [1, 3] (fun v i wr => ∃ b : Nat, a + 1 ≤ b ∧ b ≤ 6 ∧ i = .int .i64 b ∧ SpRel w (outTo a ++ rowTo a b) v wr) (fun _ i _ => 6 - (intOf i).toNat)
      case atStart => exact ⟨a + 1, Nat.le_refl _, by omega, by go_num, by rw [rowTo_first, List.append_nil]; exact HS.out⟩
      case round =>
        obtain ⟨b, hb1, hb2, rfl, hs⟩ := hrel
        by_cases hlt2 : b < 6
        · have hltJ : (b : Int) < 6 := by omega
          have hown := hs.1
          have hsz := hs.2.size
          have hlen := out_len a ha b hb2
          have HS2 := Lib.hid hs
          clear hs
          go_wp2_with (at_builtin; refine wpList_append_lies _ rfl (.tmp 14) (.tmp 18) 43 rfl w.heap.size 23 i0 (.agg #[.int .i64 0, .int .i64 0]) 2 16 Tryd.underlying43 hi hz0 hz1 hz2 rfl (by decide) _ (outTo a ++ rowTo a b).length (flat (outTo a ++ rowTo a b)) rfl (World.ownsRow.alloc hown _) ⟨wr.heap.size, 0, none⟩ 1 1 [.int .i64 a, .int .i64 b] rfl rfl (news_two wr a b _) (by simp [Value.oneCell']) (by decide) (by unfold maxLen; omega) (by omega) (by simp; omega) _ rfl ?_; intro g cap w3 hown3 hg3 hat3 hlt3; have NX := Lib.hid (SpRel.app HS2.out hg3 hown3))
          go_roundw
          case rel => exact ⟨b + 1, by omega, by omega, by go_num, by rw [rowTo_next hb1, ← List.append_assoc]; have h := NX.out; rw [List.length_append] at h; exact h⟩
          case measure => simp [intOf]; omega
        · obtain rfl : b = 6 := by omega
          have HS2 := Lib.hid hs
          clear hs
          go_wp2_with fail
          go_roundw
          case rel => exact ⟨a + 1, by omega, by go_num, HS2.out⟩
          case measure => simp [intOf]; omega
    · obtain rfl : a = 6 := by omega
      go_wp2_with fail
      go_ret
      obtain ⟨g, c, hv, hsp, hg1, hg2⟩ := own_spansAt HS.out.1 (by decide +kernel)
      exact ⟨g, c, congrArg Ending.returned hv, hsp, hg1, hg2, HS.out.2⟩

end Go.Proofs.YtegmegapkfbkeaaDoor
