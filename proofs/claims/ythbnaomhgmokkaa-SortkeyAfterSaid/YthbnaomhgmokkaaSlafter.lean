/-
  SortkeyAfter gives back true for any two texts.
-/
import Derived.Test.YthbnaomhgmokkaaSalive
namespace Go.Proofs.Ythbnaomhgmokkaa
open Go.RowKit

theorem aft_none {p : ByteArray} (h : aftL (nats p) = none) : aftS p = ⟨#[]⟩ ∧ aftB p = false ∧ ∃ k, nats p = List.replicate k 255 := by
  unfold aftS aftB
  rw [h]
  exact ⟨rfl, rfl, aftL_none _ h⟩
theorem aft_some {p : ByteArray} {t : List Nat} (h : aftL (nats p) = some t) : aftB p = true ∧ nats (aftS p) = t ∧ ∃ q x k, nats p = q ++ x :: List.replicate k 255 ∧ t = q ++ [x + 1] := by
  obtain ⟨q, x, k, h1, h2, h3⟩ := aftL_some _ _ h
  unfold aftS aftB
  rw [h]
  refine ⟨rfl, nats_bytes ?_, q, x, k, h1, h2⟩
  intro b hb
  have hp := nats_lt p
  rw [h1] at hp
  change b ∈ t at hb
  rw [h2] at hb
  rcases List.mem_append.1 hb with h' | h'
  · exact hp b (List.mem_append_left _ h')
  · have hx := hp x (by simp)
    obtain rfl := List.mem_singleton.1 h'
    omega

set_option maxHeartbeats 4000000 in
theorem after_walk (s p : ByteArray) (hs0 : s.size ≤ 1152921504606846976) (hp0 : p.size ≤ 1152921504606846976) (w : World) : Ret 8 #[.string s, .string p] w (.bool true) := by
  by_cases h0 : 2000 < s.size
  · have h0' : (2000 : Int) < (s.size : Int) := by omega
    go_enter Try.func8, Try.ntmps8
    go_wp2_with (go_at_call 12; refine (alive_any _).mono ?_; rintro e w3 ⟨rfl, hb3⟩)
    go_ret
    exact ⟨rfl, hb3⟩
  have h0' : ¬ (2000 : Int) < (s.size : Int) := by omega
  by_cases h1 : 2000 < p.size
  · have h1' : (2000 : Int) < (p.size : Int) := by omega
    go_enter Try.func8, Try.ntmps8
    go_wp2_with (go_at_call 12; refine (alive_any _).mono ?_; rintro e w3 ⟨rfl, hb3⟩)
    go_ret
    exact ⟨rfl, hb3⟩
  have h1' : ¬ (2000 : Int) < (p.size : Int) := by omega
  have C1 := Lib.hid (fun w => after_any p (by omega) w)
  have C2 := Lib.hid (fun w => dbegins_any s p (by omega) (by omega) w)
  have hlp := less_nats s p
  have hbe : begB s p = decide (nats p <+: nats s) := rfl
  cases ha : aftL (nats p) with
  | none =>
    obtain ⟨e1, e2, k, e3⟩ := aft_none ha
    rw [e1, e2] at C1
    have hpre := rep_prefix k (nats s) (nats_lt s)
    rw [← e3] at hpre
    have hB : begB s p = !(Op.bytesLess s.toList p.toList) := by
      rw [hbe, hlp]
      cases hL : lessN (nats s) (nats p)
      · rw [decide_eq_true (hpre.2 hL)]; rfl
      · rw [decide_eq_false fun h => by rw [hpre.1 h] at hL; cases hL]; rfl
    rw [hB] at C2
    have HI := Lib.hid (show ∀ i, i < p.size → (nats p)[i]? = some 255 from fun i hi => by
      rw [e3, List.getElem?_replicate, if_pos]
      have := nats_length p
      rw [e3, List.length_replicate] at this
      omega)
    clear hpre hB hbe e1 e2 e3 ha hlp
    obtain ⟨n, hn⟩ : ∃ n, p.size = n := ⟨_, rfl⟩
    have HN := Lib.hid hn
    obtain ⟨L, hL⟩ : ∃ L, Op.bytesLess s.toList p.toList = L := ⟨_, rfl⟩
    rw [hL] at C2
    go_enter Try.func8, Try.ntmps8
    go_wp2_with (go_at_call 27; refine (C1.out _).mono ?_; rintro e w1 ⟨rfl, hb1⟩)
    go_loopw [26] (fun i wr => ∃ k : Nat, k ≤ n ∧ i = .int .i64 k ∧ wr = w1) (fun i _ => n - (intOf i).toNat)
    case atStart => exact ⟨0, Nat.zero_le _, rfl, rfl⟩
    case round =>
      obtain ⟨k, hk, rfl, hwr⟩ := hrel
      obtain rfl := hwr.symm
      by_cases hlt : k < n
      · have hlt' : (k : Int) < (n : Int) := by omega
        have hi : ∀ w, (Instr.index 9 (.string p) (.int .i64 (k : Int))).run Try.prog w = .ok (.int .u8 255) w := index_run (HI.out k (by omega))
        go_wp2_with fail
        exact ⟨⟨k + 1, by omega, by go_num, trivial⟩, by simp [intOf] <;> omega⟩
      · obtain rfl : k = n := by omega
        have hlt' : ¬ (k : Int) < (k : Int) := by omega
        go_wp2_with (first
          | (go_at_call 16; refine (C2.out _).mono ?_; rintro e w5 ⟨rfl, rfl⟩)
          | (go_at_call 12; refine (alive_any _).mono ?_; rintro e w6 ⟨rfl, hb6⟩))
        go_ret
        exact ⟨rfl, chain hb1 hb6⟩
  | some t =>
    obtain ⟨e1, e2, q, x, k, e3, e4⟩ := aft_some ha
    rw [e1] at C1
    have hpre := after_prefix k x q (nats s) (nats_lt s)
    rw [← e3, ← e4, ← e2] at hpre
    have hm := after_more k x q
    rw [← e3, ← e4, ← e2] at hm
    have hm2 := lessN_not _ _ hm
    have hlt := less_nats s (aftS p)
    have htp := less_nats (aftS p) p
    rw [hm2] at htp
    have hne : ((aftS p).toList == p.toList) = false := by
      rw [toList_eq_nats]
      refine decide_eq_false fun h => ?_
      rw [h, lessN_self] at hm; cases hm
    clear e1 e2 e3 e4 ha hm hm2
    generalize aftS p = t' at *
    cases h3 : lessN (nats s) (nats p) with
    | true =>
      rw [h3] at hlp hpre
      have hB : begB s p = false := by rw [hbe]; exact decide_eq_false fun h => by have := (hpre.1 h).1; cases this
      rw [hB] at C2
      clear hB hbe hpre hlt h3
      go_enter Try.func8, Try.ntmps8
      go_wp2_with (first
        | (go_at_call 27; refine (C1.out _).mono ?_; rintro e w1 ⟨rfl, hb1⟩)
        | (go_at_call 16; refine (C2.out _).mono ?_; rintro e w5 ⟨rfl, rfl⟩)
        | (go_at_call 12; refine (alive_any _).mono ?_; rintro e w6 ⟨rfl, hb6⟩))
      go_ret
      exact ⟨rfl, chain hb1 hb6⟩
    | false =>
      rw [h3] at hlp hpre
      obtain ⟨L, hL⟩ : ∃ L, lessN (nats s) (nats t') = L := ⟨_, rfl⟩
      rw [hL] at hlt hpre
      have hB : begB s p = L := by
        rw [hbe]
        cases L
        · exact decide_eq_false fun h => by have := (hpre.1 h).2; cases this
        · exact decide_eq_true (hpre.2 ⟨rfl, rfl⟩)
      rw [hB] at C2
      clear hB hbe hpre h3 hL
      go_enter Try.func8, Try.ntmps8
      go_wp2_with (first
        | (go_at_call 27; refine (C1.out _).mono ?_; rintro e w1 ⟨rfl, hb1⟩)
        | (go_at_call 16; refine (C2.out _).mono ?_; rintro e w5 ⟨rfl, rfl⟩)
        | (go_at_call 12; refine (alive_any _).mono ?_; rintro e w6 ⟨rfl, hb6⟩))
      go_ret
      exact ⟨rfl, chain hb1 hb6⟩

end Go.Proofs.Ythbnaomhgmokkaa
