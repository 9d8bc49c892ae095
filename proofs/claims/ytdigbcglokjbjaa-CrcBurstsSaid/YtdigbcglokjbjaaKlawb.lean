/-
  The laws of sums: CrcBursts, CrcForces.
-/
import Derived.Test.YtdigbcglokjbjaaKlaws
namespace Go.Proofs.Ytdigbcglokjbjaa
open Go.RowKit

set_option maxHeartbeats 4000000 in
theorem bursts_walk (s : ByteArray) (a : Int) (B : Nat) (ha : isI a) (hB : B < 4294967296) (w : World) : Ret 5 #[.string s, .int .i64 a, .int .u32 (B : Int)] w (.bool true) := by
  have AL := Lib.hid alive_any
  by_cases h0 : 3000 < s.size
  · have h0' : (3000 : Int) < (s.size : Int) := by omega
    go_enter Try.func5, Try.ntmps5
    go_wp2_with (go_at_call 8; with_reducible refine (AL.out _).mono ?_; rintro e w3 ⟨rfl, hb3⟩)
    go_ret
    exact ⟨rfl, hb3⟩
  have h0' : ¬ (3000 : Int) < (s.size : Int) := by omega
  have zs := sealS_size s
  have C1 := Lib.hid (fun w => seal_any s (by omega) w)
  have D1 := Lib.hid (fun w => dturned_any (sealS s) a B ha hB (by omega) w)
  have zt : (turnS (sealS s) a B).size = (sealS s).size := by
    unfold turnS
    rw [size_bytes, turnL_length, nats_length]
  have C2 := Lib.hid (fun w => open_any (turnS (sealS s) a B) (by omega) w)
  have OS := op_seal s
  have OT := op_turned (s := s) a B
  clear zs zt
  generalize turnS (sealS s) a B = u at *
  generalize sealS s = t at *
  by_cases hq : u = t
  · subst hq
    rw [OS.1, OS.2] at C2
    clear OS OT
    go_enter Try.func5, Try.ntmps5
    go_wp2_with fail
    (go_at_call 15; with_reducible refine (C1.out _).mono ?_; rintro e w1 ⟨rfl, hb1⟩)
    go_wp2_with fail
    (go_at_call 17; with_reducible refine (D1.out _).mono ?_; rintro e w2 ⟨rfl, hb2⟩)
    go_wp2_with fail
    (go_at_call 13; with_reducible refine (C2.out _).mono ?_; rintro e w3 ⟨rfl, hb3⟩)
    go_wp2_with fail
    (go_at_call 8; with_reducible refine (AL.out _).mono ?_; rintro e w4 ⟨rfl, hb4⟩)
    go_wp2_with fail
    go_ret
    exact ⟨rfl, (chain (chain (chain hb1 hb2) hb3) hb4)⟩
  · rw [(OT hq).1, (OT hq).2] at C2
    have hne : (u.toList == t.toList) = false := by rw [beq_eq_false_iff_ne]; exact fun e => hq (bytes_is.1 e)
    clear OS OT hq
    go_enter Try.func5, Try.ntmps5
    go_wp2_with fail
    (go_at_call 15; with_reducible refine (C1.out _).mono ?_; rintro e w1 ⟨rfl, hb1⟩)
    go_wp2_with fail
    (go_at_call 17; with_reducible refine (D1.out _).mono ?_; rintro e w2 ⟨rfl, hb2⟩)
    go_wp2_with fail
    (go_at_call 13; with_reducible refine (C2.out _).mono ?_; rintro e w3 ⟨rfl, hb3⟩)
    go_wp2_with fail
    (go_at_call 8; with_reducible refine (AL.out _).mono ?_; rintro e w4 ⟨rfl, hb4⟩)
    go_wp2_with fail
    go_ret
    exact ⟨rfl, (chain (chain (chain hb1 hb2) hb3) hb4)⟩

theorem sum_behind (s : ByteArray) (y : Nat) : sumN (nats (s ++ fourS y)) = addN (lo ((sumN (nats s) : Nat) : Int)) (le 4 y) := by
  rw [← add_sum, nats_fourS]

set_option maxHeartbeats 4000000 in
theorem forces_walk (n m : Int) (s : ByteArray) (hn : isI n) (hm : isI m) (w : World) : Ret 6 #[.int .i64 n, .int .i64 m, .string s] w (.bool true) := by
  have AL := Lib.hid alive_any
  by_cases h0 : 3000 < s.size
  · have h0' : (3000 : Int) < (s.size : Int) := by omega
    go_enter Try.func6, Try.ntmps6
    go_wp2_with (go_at_call 8; with_reducible refine (AL.out _).mono ?_; rintro e w3 ⟨rfl, hb3⟩)
    go_ret
    exact ⟨rfl, hb3⟩
  have h0' : ¬ (3000 : Int) < (s.size : Int) := by omega
  have C1 := Lib.hid (fun w => force_any n m hn hm w)
  have C2 := Lib.hid (fun w => sum_any s (by omega) w)
  have C3 := Lib.hid (fun w => force_any ((sumN (nats s) : Nat) : Int) m (sum_isI s) hm w)
  have C4 := Lib.hid (fun y w => add_any n hn (fourS y) (by rw [fourS_size]; omega) w)
  have C5 := Lib.hid (fun y w => sum_any (s ++ fourS y) (by rw [ByteArray.size_append, fourS_size]; omega) w)
  have SB := Lib.hid (sum_behind s)
  have NF := Lib.hid nats_fourS
  have ZF := Lib.hid fourS_size
  have e0 := lo_wrap m
  have hq := lo_lt m
  generalize sumN (nats s) = S at *
  generalize lo m = q at *
  go_enter Try.func6, Try.ntmps6
  go_wp2_with fail
  (go_at_call 18; with_reducible refine (C1.out _).mono ?_; rintro e w1 ⟨y, hy, hay, rfl, hb1⟩)
  have C6 := Lib.hid (C4.out y)
  rw [NF.out, hay] at C6
  have z1 := ZF.out y
  generalize fourS y = f at *
  clear hay hy
  go_wp2_with fail
  (go_at_call 9; with_reducible refine (C2.out _).mono ?_; rintro e w2 ⟨rfl, hb2⟩)
  go_wp2_with fail
  (go_at_call 18; with_reducible refine (C3.out _).mono ?_; rintro e w3 ⟨y2, hy2, hay2, rfl, hb3⟩)
  have C7 := Lib.hid (C5.out y2)
  rw [SB.out, hay2] at C7
  have z2 := ZF.out y2
  generalize fourS y2 = f2 at *
  clear hay2 hy2
  have z3 : ¬ s.size + f2.size > 9223372036854775807 := by omega
  go_wp2_with fail
  (go_at_call 11; with_reducible refine (C6.out _).mono ?_; rintro e w4 ⟨rfl, hb4⟩)
  go_wp2_with fail
  (go_at_call 9; with_reducible refine (C7.out _).mono ?_; rintro e w5 ⟨rfl, hb5⟩)
  go_wp2_with fail
  (go_at_call 8; with_reducible refine (AL.out _).mono ?_; rintro e w6 ⟨rfl, hb6⟩)
  go_wp2_with fail
  go_ret
  exact ⟨rfl, (chain (chain (chain (chain (chain hb1 hb2) hb3) hb4) hb5) hb6)⟩

end Go.Proofs.Ytdigbcglokjbjaa
