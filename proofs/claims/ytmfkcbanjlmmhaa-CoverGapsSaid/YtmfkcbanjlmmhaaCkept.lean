/-
  Kept, of cover and of the document's answer: is the list a cover? The document's Has: has the list the time?
-/
import Derived.Test.YtmfkcbanjlmmhaaCsame
import Derived.Deep.RegionHeld3
import Derived.ProofKit
import Derived.Lib.SmallJoins
namespace Go.Proofs.Ytmfkcbanjlmmhaa
open Go.RowKit

theorem chain {W w w1 : World} (h : Below W.heap.size W w) (hb : Below w.heap.size w w1) : Below W.heap.size W w1 := h.trans (hb.mono h.size)
theorem belowN {B : Nat} {a w : World} (h : Below B a w) (n : Nat) : Below B a (w.drewN n) := ⟨h.os, h.tape, h.output, h.size, h.block⟩
theorem bl (w : World) : Below w.heap.size w w := Below.refl _ _
theorem keepc {w w' : World} {g o : Nat} {u : Value} (hb : Below w.heap.size w w') (h : w.cell? ⟨g, o, none⟩ = some u) : w'.cell? ⟨g, o, none⟩ = some u := (hb.cell (p := ⟨g, o, none⟩) (cell_lt h)).trans h
/-- The cells of one span of a list, wherever it lies. -/
theorem Spans.at {w : World} {A : Option Addr} {l : List Sp} (h : Spans w A l) {i : Nat} {f t : Int} (hp : l[i]? = some (f, t)) : ∃ g off, A = some ⟨g, off, none⟩ ∧ w.cell? ⟨g, off + i * 2, none⟩ = some (.int .i64 f) ∧ w.cell? ⟨g, off + i * 2 + 1, none⟩ = some (.int .i64 t) := h i _ hp

set_option maxHeartbeats 2000000 in
theorem kept_any (w : World) (A : Option Addr) (c : Nat) (l : List Sp) (hl : Spans w A l) (hn : l.length ≤ 9223372036854775806) :
    Calls Try.prog 13 #[.slice A l.length c] w fun e w' => e = .returned (.bool (decide (Cov l))) ∧ Below w.heap.size w w' := by
  have HL := Lib.hid hl
  clear hl
  obtain ⟨n, hnm⟩ : ∃ n, n = l.length := ⟨_, rfl⟩
  rw [← hnm]
  have hn' : n ≤ 9223372036854775806 := by omega
  have HN := Lib.hid hnm
  clear hnm hn
  go_enter Try.func13, Try.ntmps13
  go_wp2_with fail
  go_loopw [7] (fun i wr => ∃ k : Nat, k ≤ n ∧ i = .int .i64 k ∧ Cov (l.take k) ∧ Below w.heap.size w wr) (fun i _ => n - (intOf i).toNat)
  case atStart => exact ⟨0, Nat.zero_le _, rfl, by simpa using Cov.nil, bl _⟩
  case round =>
    obtain ⟨k, hk, rfl, hc, hB⟩ := hrel
    have HC := Lib.hid hc
    clear hc
    by_cases hlt : k < n
    · obtain ⟨⟨f, t⟩, hp⟩ : ∃ p, l[k]? = some p := ⟨_, List.getElem?_eq_getElem (by have := HN.out; omega)⟩
      obtain ⟨g, off, rfl, c0, c1⟩ := HL.out.at hp
      have d0 := keepc hB c0
      have d1 := keepc hB c1
      have hsr := hB.size
      have HP := Lib.hid hp
      clear c0 c1 hp
      have hy : Below wr.heap.size wr (wr.alloc (.cells #[.int .i64 f, .int .i64 t] 36)) := (bl _).alloc (Nat.le_refl _) _
      cases hr : rightB f t
      · go_wp2_with (go_at_call 29; refine (right_any _ _ _).mono ?_; rintro e w1 ⟨rfl, hb1⟩)
        go_ret
        exact ⟨ret_bool (by rw [decide_eq_false (cov_not_right HP.out hr)]), chain hB (chain hy hb1)⟩
      · go_wp2_with fail
        (go_at_call 29; refine (right_any _ _ _).mono ?_; rintro e w1 ⟨rfl, hb1⟩)
        have h1 := chain hy hb1
        have a0 : w1.cell? ⟨wr.heap.size, 0, none⟩ = some (.int .i64 f) := keepc hb1 (by simp [go_sem])
        have a1 : w1.cell? ⟨wr.heap.size, 1, none⟩ = some (.int .i64 t) := keepc hb1 (by simp [go_sem])
        rcases Nat.eq_zero_or_pos k with rfl | hk0
        · go_wp2_with fail
          go_quiet (fail)
          go_wp2_with fail
          go_roundw
          case rel => exact ⟨1, by omega, by go_num, cov_take_succ HP.out HC.out hr (fun q h => absurd rfl h), belowN (chain hB h1) _⟩
          case measure => simp [intOf]; omega
        · obtain ⟨j, rfl⟩ : ∃ j, k = j + 1 := ⟨k - 1, by omega⟩
          obtain ⟨⟨f', t'⟩, hp'⟩ : ∃ p, l[j]? = some p := ⟨_, List.getElem?_eq_getElem (by have := HN.out; omega)⟩
          obtain ⟨g', off', he, c0, c1⟩ := HL.out.at hp'
          injection he with he
          injection he with e1 e2 _
          subst e1 e2
          have x1 := keepc (chain hB h1) c1
          have HP' := Lib.hid hp'
          clear c0 c1 hp'
          have hjn : j < n := by omega
          by_cases hlt2 : t' < f
          · go_wp2_with fail
            go_quiet (fail)
            go_wp2_with fail
            go_roundw
            case rel => exact ⟨j + 1 + 1, by omega, by go_num, cov_take_succ HP.out HC.out hr (fun q _ hq => by rw [show j + 1 - 1 = j from rfl, HP'.out] at hq; injection hq with hq; subst hq; exact hlt2), belowN (chain hB h1) _⟩
            case measure => simp [intOf]; omega
          · go_wp2_with fail
            go_quiet (fail)
            go_wp2_with fail
            go_ret
            exact ⟨ret_bool (by rw [decide_eq_false (cov_not_apart HP'.out HP.out (by simpa using hlt2))]), belowN (chain hB h1) _⟩
    · go_wp2_with fail
      go_ret
      exact ⟨ret_bool (by have := HC.out; rw [List.take_of_length_le (by have := HN.out; omega)] at this; rw [decide_eq_true this]), hB⟩

end Go.Proofs.Ytmfkcbanjlmmhaa
