/-
  The chapter's example; the laws of sums: CrcSums, CrcSeals. (Kprog: the program's contracts: sum_any, add_any, seal_any, open_any, force_any.)
-/
import Derived.Test.YtdigbcglokjbjaaKprog
namespace Go.Proofs.Ytdigbcglokjbjaa
open Go.RowKit

set_option maxHeartbeats 1000000 in
theorem alive_any (w : World) : Ret 8 #[] w (.bool true) := by
  have C1 := Lib.hid (fun w => sum_any ⟨#[49, 50, 51, 52, 53, 54, 55, 56, 57]⟩ (by decide) w)
  have C2 := Lib.hid (fun w => sum_any ⟨#[]⟩ (by decide) w)
  rw [example_sum.1] at C1
  rw [example_sum.2] at C2
  go_enter Try.func8, Try.ntmps8
  go_wp2_with fail
  (go_at_call 9; with_reducible refine (C1.out _).mono ?_; rintro e w1 ⟨rfl, hb1⟩)
  go_wp2_with fail
  (go_at_call 9; with_reducible refine (C2.out _).mono ?_; rintro e w2 ⟨rfl, hb2⟩)
  go_wp2_with fail
  go_ret
  exact ⟨rfl, chain hb1 hb2⟩

theorem nat_isI {n : Nat} (h : n < 4294967296) : isI (n : Int) := by unfold isI; omega
theorem sum_isI (s : ByteArray) : isI ((sumN (nats s) : Nat) : Int) := nat_isI (sumN_lt (nats_lt s))
theorem add_sum (s t : ByteArray) : addN (lo ((sumN (nats s) : Nat) : Int)) (nats t) = sumN (nats (s ++ t)) := by
  rw [sum_lo, nats_app]
  exact addN_append 0 _ _

set_option maxHeartbeats 4000000 in
theorem sums_walk (s t : ByteArray) (n : Int) (hn : isI n) (w : World) : Ret 3 #[.string s, .string t, .int .i64 n] w (.bool true) := by
  have AL := Lib.hid alive_any
  by_cases h0 : 3000 < s.size
  · have h0' : (3000 : Int) < (s.size : Int) := by omega
    go_enter Try.func3, Try.ntmps3
    go_wp2_with (go_at_call 8; with_reducible refine (AL.out _).mono ?_; rintro e w3 ⟨rfl, hb3⟩)
    go_ret
    exact ⟨rfl, hb3⟩
  have h0' : ¬ (3000 : Int) < (s.size : Int) := by omega
  by_cases h1 : 3000 < t.size
  · have h1' : (3000 : Int) < (t.size : Int) := by omega
    go_enter Try.func3, Try.ntmps3
    go_wp2_with (go_at_call 8; with_reducible refine (AL.out _).mono ?_; rintro e w3 ⟨rfl, hb3⟩)
    go_ret
    exact ⟨rfl, hb3⟩
  have h1' : ¬ (3000 : Int) < (t.size : Int) := by omega
  have C1 := Lib.hid (fun w => sum_any s (by omega) w)
  have D1 := Lib.hid (fun w => dsum_any s (by omega) w)
  have C2 := Lib.hid (fun w => add_any n hn t (by omega) w)
  have D2 := Lib.hid (fun w => dadd_any n t (by omega) w)
  have C3 := Lib.hid (fun w => add_any ((sumN (nats s) : Nat) : Int) (sum_isI s) t (by omega) w)
  rw [add_sum] at C3
  have C4 := Lib.hid (fun w => sum_any (s ++ t) (by rw [ByteArray.size_append]; omega) w)
  have z1 : ¬ s.size + t.size > 9223372036854775807 := by omega
  generalize sumN (nats s) = a at *
  generalize sumN (nats (s ++ t)) = b at *
  generalize addN (lo n) (nats t) = c at *
  go_enter Try.func3, Try.ntmps3
  go_wp2_with fail
  (go_at_call 9; with_reducible refine (C1.out _).mono ?_; rintro e w1 ⟨rfl, hb1⟩)
  go_wp2_with fail
  (go_at_call 10; with_reducible refine (D1.out _).mono ?_; rintro e w2 ⟨rfl, rfl⟩)
  go_wp2_with fail
  (go_at_call 11; with_reducible refine (C2.out _).mono ?_; rintro e w3 ⟨rfl, hb3⟩)
  go_wp2_with fail
  (go_at_call 12; with_reducible refine (D2.out _).mono ?_; rintro e w4 ⟨rfl, rfl⟩)
  go_wp2_with fail
  (go_at_call 9; with_reducible refine (C1.out _).mono ?_; rintro e w5 ⟨rfl, hb5⟩)
  go_wp2_with fail
  (go_at_call 11; with_reducible refine (C3.out _).mono ?_; rintro e w6 ⟨rfl, hb6⟩)
  go_wp2_with fail
  (go_at_call 9; with_reducible refine (C4.out _).mono ?_; rintro e w7 ⟨rfl, hb7⟩)
  go_wp2_with fail
  (go_at_call 8; with_reducible refine (AL.out _).mono ?_; rintro e w8 ⟨rfl, hb8⟩)
  go_wp2_with fail
  go_ret
  exact ⟨rfl, (chain (chain (chain (chain (chain hb1 hb3) hb5) hb6) hb7) hb8)⟩

set_option maxHeartbeats 4000000 in
theorem seals_walk (s t : ByteArray) (w : World) : Ret 4 #[.string s, .string t] w (.bool true) := by
  have AL := Lib.hid alive_any
  by_cases h0 : 3000 < s.size
  · have h0' : (3000 : Int) < (s.size : Int) := by omega
    go_enter Try.func4, Try.ntmps4
    go_wp2_with (go_at_call 8; with_reducible refine (AL.out _).mono ?_; rintro e w3 ⟨rfl, hb3⟩)
    go_ret
    exact ⟨rfl, hb3⟩
  have h0' : ¬ (3000 : Int) < (s.size : Int) := by omega
  by_cases h1 : 3000 < t.size
  · have h1' : (3000 : Int) < (t.size : Int) := by omega
    go_enter Try.func4, Try.ntmps4
    go_wp2_with (go_at_call 8; with_reducible refine (AL.out _).mono ?_; rintro e w3 ⟨rfl, hb3⟩)
    go_ret
    exact ⟨rfl, hb3⟩
  have h1' : ¬ (3000 : Int) < (t.size : Int) := by omega
  have C1 := Lib.hid (fun w => open_any t (by omega) w)
  have D1 := Lib.hid (fun w => dopen_any t (by omega) w)
  have C2 := Lib.hid (fun w => seal_any s (by omega) w)
  have D2 := Lib.hid (fun w => dseal_any s (by omega) w)
  have C3 := Lib.hid (fun w => open_any (sealS s) (by rw [sealS_size]; omega) w)
  rw [(op_seal s).1, (op_seal s).2] at C3
  generalize sealS s = a at *
  generalize opS t = b at *
  generalize opE t = c at *
  go_enter Try.func4, Try.ntmps4
  go_wp2_with fail
  (go_at_call 13; with_reducible refine (C1.out _).mono ?_; rintro e w1 ⟨rfl, hb1⟩)
  go_wp2_with fail
  (go_at_call 14; with_reducible refine (D1.out _).mono ?_; rintro e w2 ⟨rfl, hb2⟩)
  go_wp2_with fail
  (go_at_call 15; with_reducible refine (C2.out _).mono ?_; rintro e w3 ⟨rfl, hb3⟩)
  go_wp2_with fail
  (go_at_call 13; with_reducible refine (C3.out _).mono ?_; rintro e w4 ⟨rfl, hb4⟩)
  go_wp2_with fail
  (go_at_call 15; with_reducible refine (C2.out _).mono ?_; rintro e w5 ⟨rfl, hb5⟩)
  go_wp2_with fail
  (go_at_call 16; with_reducible refine (D2.out _).mono ?_; rintro e w6 ⟨rfl, hb6⟩)
  go_wp2_with fail
  (go_at_call 8; with_reducible refine (AL.out _).mono ?_; rintro e w7 ⟨rfl, hb7⟩)
  go_wp2_with fail
  go_ret
  exact ⟨rfl, (chain (chain (chain (chain (chain (chain hb1 hb2) hb3) hb4) hb5) hb6) hb7)⟩

end Go.Proofs.Ytdigbcglokjbjaa
