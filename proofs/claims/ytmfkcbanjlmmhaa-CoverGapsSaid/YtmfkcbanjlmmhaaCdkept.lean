/-
  The document's Kept: is the list a cover? The document's Has: has the list the time?
-/
import Derived.Test.YtmfkcbanjlmmhaaCkept
import Derived.Lib.QuietBelow
namespace Go.Proofs.Ytmfkcbanjlmmhaa
open Go.RowKit Go.Sort

theorem below_of_regrown {w w' : World} (h : ∃ p : Regrown, w' = grow (redrawn w p.d) p.os) : Below w.heap.size w w' := by
  obtain ⟨p, rfl⟩ := h
  exact below_regrown w p.d p.os

set_option maxHeartbeats 4000000 in
theorem dkept_any (w : World) (A : Option Addr) (c : Nat) (l : List Sp) (hl : Spans w A l) (hn : l.length ≤ 9223372036854775806) :
    Calls Try.prog 14 #[.slice A l.length c] w fun e w' => e = .returned (.bool (decide (Cov l))) ∧ Below w.heap.size w w' := by
  have HL := Lib.hid hl
  clear hl
  obtain ⟨n, hnm⟩ : ∃ n, n = l.length := ⟨_, rfl⟩
  rw [← hnm]
  have hn' : n ≤ 9223372036854775806 := by omega
  have HN := Lib.hid hnm
  clear hnm hn
  go_enter Try.func14, Try.ntmps14
  go_wp2_with fail
  go_loopw [3] (fun i wr => ∃ k : Nat, k ≤ n ∧ i = .int .i64 k ∧ Cov (l.take k) ∧ Below w.heap.size w wr) (fun i _ => n - (intOf i).toNat)
  case atStart => exact ⟨0, Nat.zero_le _, rfl, by simpa using Cov.nil, bl _⟩
  case round =>
    obtain ⟨k, hk, rfl, hc, hB⟩ := hrel
    have HC := Lib.hid hc
    have HB := Lib.hid hB
    clear hc hB
    by_cases hlt : k < n
    · obtain ⟨⟨f, t⟩, hp⟩ : ∃ p, l[k]? = some p := ⟨_, List.getElem?_eq_getElem (by have := HN.out; omega)⟩
      obtain ⟨g, off, rfl, c0, c1⟩ := HL.out.at hp
      have d0 := keepc HB.out c0
      have d1 := keepc HB.out c1
      have HP := Lib.hid hp
      clear c0 c1 hp
      have q0 := cell_regrown d0
      have q1 := cell_regrown d1
      rcases Nat.eq_zero_or_pos k with rfl | hk0
      · simp only [Nat.zero_mul, Nat.add_zero] at q0 q1 d0 d1
        cases hr : rightB f t
        all_goals
          have RI := fun d os => Calls.regrown_of (hr ▸ dright_any f t (grow (redrawn wr d) os))
          go_wp2_with fail
          refine wp_region_quiet_below (by kernel_rfl) (by kernel_rfl) ?_
          repeat (first | go_big_quiet_step (exact RI _ _) | quiet_step (exact RI _ _))
          refine wpQuiet_nil ?_
          intro w3 hw'
          have hfin := below_of_regrown hw'
          clear hw' RI
          go_wp2_with fail
        · go_ret
          exact ⟨ret_bool (by rw [decide_eq_false (cov_not_right HP.out hr)]), chain HB.out hfin⟩
        · go_roundw
          case rel => exact ⟨1, by omega, by go_num, cov_take_succ HP.out HC.out hr (fun q h => absurd rfl h), chain HB.out hfin⟩
          case measure => simp [intOf]; omega
      · obtain ⟨j, rfl⟩ : ∃ j, k = j + 1 := ⟨k - 1, by omega⟩
        obtain ⟨⟨f', t'⟩, hp'⟩ : ∃ p, l[j]? = some p := ⟨_, List.getElem?_eq_getElem (by have := HN.out; omega)⟩
        obtain ⟨g', off', he, c0, c1⟩ := HL.out.at hp'
        injection he with he
        injection he with e1 e2 _
        subst e1 e2
        have x1 := keepc HB.out c1
        have y1 := cell_regrown x1
        have HP' := Lib.hid hp'
        clear c0 c1 hp'
        have hjn : j < n := by omega
        cases hr : rightB f t
        · have RI := fun d os => Calls.regrown_of (hr ▸ dright_any f t (grow (redrawn wr d) os))
          go_wp2_with fail
          refine wp_region_quiet_below (by kernel_rfl) (by kernel_rfl) ?_
          repeat (first | go_big_quiet_step (exact RI _ _) | quiet_step (exact RI _ _))
          refine wpQuiet_nil ?_
          intro w3 hw'
          have hfin := below_of_regrown hw'
          clear hw' RI
          go_wp2_with fail
          go_ret
          exact ⟨ret_bool (by rw [decide_eq_false (cov_not_right HP.out hr)]), chain HB.out hfin⟩
        · have RI := fun d os => Calls.regrown_of (hr ▸ dright_any f t (grow (redrawn wr d) os))
          by_cases hlt2 : t' < f
          all_goals
            go_wp2_with fail
            refine wp_region_quiet_below (by kernel_rfl) (by kernel_rfl) ?_
            repeat (first | go_big_quiet_step (exact RI _ _) | quiet_step (exact RI _ _))
            refine wpQuiet_nil ?_
            intro w3 hw'
            have hfin := below_of_regrown hw'
            clear hw' RI
            go_wp2_with fail
          · go_roundw
            case rel => exact ⟨j + 1 + 1, by omega, by go_num, cov_take_succ HP.out HC.out hr (fun q _ hq => by rw [show j + 1 - 1 = j from rfl, HP'.out] at hq; injection hq with hq; subst hq; exact hlt2), chain HB.out hfin⟩
            case measure => simp [intOf]; omega
          · go_ret
            exact ⟨ret_bool (by rw [decide_eq_false (cov_not_apart HP'.out HP.out (by simpa using hlt2))]), chain HB.out hfin⟩
    · go_wp2_with fail
      go_ret
      exact ⟨ret_bool (by have := HC.out; rw [List.take_of_length_le (by have := HN.out; omega)] at this; rw [decide_eq_true this]), HB.out⟩

/-- Has none of the spans ahead of place k the time? -/
theorem mem_take_succ {l : List Sp} {k : Nat} {p : Sp} (hp : l[k]? = some p) (x : Int) : memB (l.take (k + 1)) x = (memB (l.take k) x || (rightB p.1 p.2 && hasB p.1 p.2 x)) := by
  rw [List.take_add_one, hp]
  simp [memB]
theorem mem_found {l : List Sp} {k : Nat} {f t : Int} (hp : l[k]? = some (f, t)) {x : Int} (h1 : rightB f t = true) (h2 : hasB f t x = true) : memB l x = true := by
  unfold memB
  rw [List.any_eq_true]
  exact ⟨_, List.mem_of_getElem? hp, by simp [h1, h2]⟩

set_option maxHeartbeats 4000000 in
theorem dhasl_any (w : World) (A : Option Addr) (c : Nat) (l : List Sp) (x : Int) (hl : Spans w A l) (hn : l.length ≤ 9223372036854775806) :
    Calls Try.prog 20 #[.slice A l.length c, .int .i64 x] w fun e w' => e = .returned (.bool (memB l x)) ∧ Below w.heap.size w w' := by
  have HL := Lib.hid hl
  clear hl
  obtain ⟨n, hnm⟩ : ∃ n, n = l.length := ⟨_, rfl⟩
  rw [← hnm]
  have hn' : n ≤ 9223372036854775806 := by omega
  have HN := Lib.hid hnm
  clear hnm hn
  go_enter Try.func20, Try.ntmps20
  go_wp2_with fail
  go_loopw [5] (fun i wr => ∃ k : Nat, k ≤ n ∧ i = .int .i64 k ∧ memB (l.take k) x = false ∧ Below w.heap.size w wr) (fun i _ => n - (intOf i).toNat)
  case atStart => exact ⟨0, Nat.zero_le _, rfl, by simp [memB], bl _⟩
  case round =>
    obtain ⟨k, hk, rfl, hc, hB⟩ := hrel
    have HC := Lib.hid hc
    have HB := Lib.hid hB
    clear hc hB
    by_cases hlt : k < n
    · obtain ⟨⟨f, t⟩, hp⟩ : ∃ p, l[k]? = some p := ⟨_, List.getElem?_eq_getElem (by have := HN.out; omega)⟩
      obtain ⟨g, off, rfl, c0, c1⟩ := HL.out.at hp
      have d0 := keepc HB.out c0
      have d1 := keepc HB.out c1
      have HP := Lib.hid hp
      have NX := Lib.hid (mem_take_succ hp x)
      clear c0 c1 hp
      cases hr : rightB f t
      · go_wp2_with (go_at_call 30; refine (dright_any _ _ _).mono ?_; rintro e w1 ⟨rfl, hb1⟩)
        go_roundw
        case rel => exact ⟨k + 1, by omega, by go_num, by rw [NX.out, HC.out]; simp [hr], chain HB.out hb1⟩
        case measure => simp [intOf]; omega
      · cases hh : hasB f t x
        all_goals
          go_wp2_with fail
          (go_at_call 30; refine (dright_any _ _ _).mono ?_; rintro e w1 ⟨rfl, hb1⟩)
          have e0 := keepc hb1 d0
          have e1 := keepc hb1 d1
          go_wp2_with (go_at_call 40; refine (dhas_any _ _ _ _).mono ?_; rintro e w2 ⟨rfl, hb2⟩)
        · go_roundw
          case rel => exact ⟨k + 1, by omega, by go_num, by rw [NX.out, HC.out]; simp [hr, hh], chain HB.out (chain hb1 hb2)⟩
          case measure => simp [intOf]; omega
        · go_ret
          exact ⟨ret_bool (by rw [mem_found HP.out hr hh]), chain HB.out (chain hb1 hb2)⟩
    · go_wp2_with fail
      go_ret
      exact ⟨ret_bool (by have := HC.out; rw [List.take_of_length_le (by have := HN.out; omega)] at this; rw [this]), HB.out⟩

end Go.Proofs.Ytmfkcbanjlmmhaa
