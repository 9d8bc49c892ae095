/-
  PackOrder gives back true for any two numbers.
-/
import Derived.Test.YtlpcpmnahijgkaaPorder
namespace Go.Proofs.Ytlpcpmnahijgkaa
open Go.RowKit

set_option maxHeartbeats 2000000 in
theorem order_good (n m : Nat) (hn : n < 4611686018427387904) (hm : m < 4611686018427387904) (w : World) : Ret 7 #[.int .i64 (n : Int), .int .i64 (m : Int)] w (.bool true) := by
  have C1 := Lib.hid (show ∀ w, Calls Try.prog 9 #[.int .i64 (n : Int)] w fun e w' => e = .returned (.tuple #[.string (encS n), .int .i64 0]) ∧ Below w.heap.size w w' from fun w => by
    have h := num_any n w
    unfold NumPost at h
    rw [(num_ok hn).1, (num_ok hn).2] at h
    exact h)
  have C2 := Lib.hid (show ∀ w, Calls Try.prog 9 #[.int .i64 (m : Int)] w fun e w' => e = .returned (.tuple #[.string (encS m), .int .i64 0]) ∧ Below w.heap.size w w' from fun w => by
    have h := num_any m w
    unfold NumPost at h
    rw [(num_ok hm).1, (num_ok hm).2] at h
    exact h)
  obtain ⟨hless, heq⟩ := enc_order hn hm
  have z1 := encS_size n
  have z2 := encS_size m
  have k1 := kN_le n
  have k2 := kN_le m
  generalize encS n = a at *
  generalize encS m = b at *
  have q1 : ((a.size : Int) == 0) = false := by rw [beq_eq_false_iff_ne]; omega
  have q2 : ((b.size : Int) == 0) = false := by rw [beq_eq_false_iff_ne]; omega
  have Z1 := Lib.hid z1
  have Z2 := Lib.hid z2
  clear z1 z2
  have q3 : a.size ≤ 9 := by rw [Z1.out]; omega
  have q4 : b.size ≤ 9 := by rw [Z2.out]; omega
  obtain ⟨K, hK⟩ : ∃ K, K = min a.size b.size := ⟨_, rfl⟩
  have hKe := heq K hK
  have hmin : min (a.size : Int) (b.size : Int) = (K : Int) := by omega
  have hKa : (K : Int) ≤ (a.size : Int) := by omega
  have hKb : (K : Int) ≤ (b.size : Int) := by omega
  have hl2 : Op.bytesLess a.toList b.toList = decide ((n : Int) < (m : Int)) := by rw [hless]; simp
  have he2 : ((a.extract 0 K).toList == (b.extract 0 K).toList) = ((n : Int) == (m : Int)) := by
    rw [hKe]
    by_cases h : n = m
    · subst h; simp
    · have h' : ¬ (n : Int) = (m : Int) := by omega
      simp [h, h']
  clear hK heq hKe hless
  have n0 : ¬ (n : Int) < 0 := by omega
  have m0 : ¬ (m : Int) < 0 := by omega
  have n1 : ¬ (4611686018427387903 : Int) < (n : Int) := by omega
  have m1 : ¬ (4611686018427387903 : Int) < (m : Int) := by omega
  go_enter Try.func7, Try.ntmps7
  go_wp2_with fail
  (go_at_call 9; refine (C1.out _).mono ?_; rintro e w1 ⟨rfl, hb1⟩)
  go_wp2_with fail
  (go_at_call 9; refine (C2.out _).mono ?_; rintro e w2 ⟨rfl, hb2⟩)
  go_wp2_with fail
  have HB := Lib.hid (chain hb1 hb2)
  go_region_held3 (fun w' => Below w2.heap.size w2 w')
    (first | exact (Below.refl _ _).drew | exact BW.out | fail)
    (first | (go_at_call 15; refine (alive_any _).mono ?_; rintro e w3 ⟨rfl, hb3⟩; have BW := Lib.hid (show Below w2.heap.size w2 w3 from (Below.refl _ _).drew.trans hb3); clear hb3))
  all_goals
    go_wp2_with fail
    go_ret
    exact ⟨rfl, chain HB.out BW.out⟩

set_option maxHeartbeats 2000000 in
theorem order_walk (n m : Int) (w : World) : Ret 7 #[.int .i64 n, .int .i64 m] w (.bool true) := by
  by_cases h0 : n < 0
  · go_enter Try.func7, Try.ntmps7
    go_wp2_with (go_at_call 15; refine (alive_any _).mono ?_; rintro e w3 ⟨rfl, hb3⟩)
    go_ret
    exact ⟨rfl, hb3⟩
  · by_cases h1 : m < 0
    · go_enter Try.func7, Try.ntmps7
      go_wp2_with (go_at_call 15; refine (alive_any _).mono ?_; rintro e w3 ⟨rfl, hb3⟩)
      go_ret
      exact ⟨rfl, hb3⟩
    · by_cases h2 : 4611686018427387903 < n
      · go_enter Try.func7, Try.ntmps7
        go_wp2_with (go_at_call 15; refine (alive_any _).mono ?_; rintro e w3 ⟨rfl, hb3⟩)
        go_ret
        exact ⟨rfl, hb3⟩
      · by_cases h3 : 4611686018427387903 < m
        · go_enter Try.func7, Try.ntmps7
          go_wp2_with (go_at_call 15; refine (alive_any _).mono ?_; rintro e w3 ⟨rfl, hb3⟩)
          go_ret
          exact ⟨rfl, hb3⟩
        · obtain ⟨a, rfl⟩ : ∃ a : Nat, n = (a : Int) := ⟨n.toNat, by omega⟩
          obtain ⟨b, rfl⟩ : ∃ b : Nat, m = (b : Int) := ⟨m.toNat, by omega⟩
          exact order_good a b (by omega) (by omega) w

end Go.Proofs.Ytlpcpmnahijgkaa
