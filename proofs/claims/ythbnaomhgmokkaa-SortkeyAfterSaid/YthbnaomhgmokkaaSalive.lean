/-
  The chapter's examples, and what the laws of keys share. (Sprog: the program's contracts: int_any, text_any, takeint_any, taketext_any, join_any, compare_any, split_any (PartsPost), after_any (aftS, aftB).)
-/
import Derived.Test.YthbnaomhgmokkaaSprog
namespace Go.Proofs.Ythbnaomhgmokkaa
open Go.RowKit

set_option maxHeartbeats 1000000 in
theorem alive_any (w : World) : Ret 12 #[] w (.bool true) := by
  have n1 : aftS ⟨#[97, 255]⟩ = ⟨#[98]⟩ ∧ aftB ⟨#[97, 255]⟩ = true := by decide +kernel
  have n2 : keyTS ⟨#[97, 0]⟩ = ⟨#[97, 0, 255, 0, 0]⟩ := by decide +kernel
  have N1 := Lib.hid n1
  have N2 := Lib.hid n2
  clear n1 n2
  go_enter Try.func12, Try.ntmps12
  go_wp2_with (first
    | (go_at_call 27; refine (after_any _ (by decide) _).mono ?_; rintro e w1 ⟨rfl, hb⟩; rw [N1.out.1, N1.out.2])
    | (go_at_call 13; refine (text_any _ (by decide) _).mono ?_; rintro e w2 ⟨rfl, hb2⟩; rw [N2.out]))
  go_ret
  exact ⟨rfl, chain hb hb2⟩
theorem keyIS_size (n : Int) : (keyIS n).size = 8 := by rw [keyIS, size_bytes, keyI_length]
theorem keyTS_size (s : ByteArray) : (keyTS s).size ≤ 2 * s.size + 2 := by
  rw [keyTS, size_bytes, keyT, List.length_append]
  have := (esc_length (nats s)).2
  rw [nats_length] at this
  simp; omega
theorem less_keyI {n m : Int} (hn : isI n) (hm : isI m) : Op.bytesLess (keyIS n).toList (keyIS m).toList = decide (n < m) := by
  rw [less_nats, keyIS, keyIS, nats_bytes (keyI_lt n), nats_bytes (keyI_lt m), keyI_less hn hm]
theorem less_keyT (s t : ByteArray) : Op.bytesLess (keyTS s).toList (keyTS t).toList = Op.bytesLess s.toList t.toList := by
  rw [less_nats, less_nats, keyTS, keyTS, nats_bytes (keyT_lt s), nats_bytes (keyT_lt t), keyT_less]
theorem ti_key {n : Int} (h : isI n) (b : ByteArray) : tiN (keyIS n ++ b) = n ∧ tiR (keyIS n ++ b) = b ∧ tiE (keyIS n ++ b) = 0 := by
  have e : nats (keyIS n ++ b) = keyI n ++ nats b := by rw [nats_append, keyIS, nats_bytes (keyI_lt n)]
  unfold tiN tiR tiE
  rw [e, takI_key h]
  exact ⟨rfl, bytes_nats b, rfl⟩
theorem tx_key (s b : ByteArray) : txS (keyTS s ++ b) = s ∧ txR (keyTS s ++ b) = b ∧ txE (keyTS s ++ b) = 0 := by
  have e : nats (keyTS s ++ b) = keyT (nats s) ++ nats b := by rw [nats_append, keyTS, nats_bytes (keyT_lt s)]
  unfold txS txR txE
  rw [e, takT_key]
  exact ⟨bytes_nats s, bytes_nats b, rfl⟩
theorem begB_key (s t : ByteArray) : begB (keyTS s) (keyTS t) = decide (nats s = nats t) := by
  unfold begB
  rw [keyTS, keyTS, nats_bytes (keyT_lt s), nats_bytes (keyT_lt t), Bool.eq_iff_iff, decide_eq_true_eq, decide_eq_true_eq]
  exact keyT_prefix _ _

set_option maxHeartbeats 2000000 in
theorem ints_walk (n m : Int) (b : ByteArray) (hn : isI n) (hm : isI m) (hb : b.size ≤ 1152921504606846968) (w : World) : Ret 3 #[.int .i64 n, .int .i64 m, .string b] w (.bool true) := by
  have C1 := Lib.hid (fun w => int_any n hn w)
  have C2 := Lib.hid (fun w => int_any m hm w)
  have z := keyIS_size n
  have C3 := Lib.hid (fun w => takeint_any (keyIS n ++ b) (by rw [ByteArray.size_append, z]; omega) w)
  have C4 := Lib.hid (fun w => dint_any n hn w)
  have TK := Lib.hid (ti_key hn b)
  have hl := less_keyI hn hm
  have hz : ¬ (keyIS n).size + b.size > 9223372036854775807 := by omega
  clear z
  generalize tiN (keyIS n ++ b) = x at *
  generalize tiR (keyIS n ++ b) = r at *
  generalize tiE (keyIS n ++ b) = e1 at *
  obtain ⟨rfl, rfl, rfl⟩ := TK.out
  generalize keyIS x = a at *
  generalize keyIS m = c at *
  go_enter Try.func3, Try.ntmps3
  go_wp2_with fail
  (go_at_call 9; refine (C1.out _).mono ?_; rintro e w1 ⟨rfl, hb1⟩)
  go_wp2_with fail
  (go_at_call 9; refine (C2.out _).mono ?_; rintro e w2 ⟨rfl, hb2⟩)
  go_wp2_with (first
    | (go_at_call 10; refine (C3.out _).mono ?_; rintro e w3 ⟨rfl, hb3⟩)
    | (go_at_call 11; refine (C4.out _).mono ?_; rintro e w4 ⟨rfl, hb4⟩)
    | (go_at_call 12; refine (alive_any _).mono ?_; rintro e w5 ⟨rfl, hb5⟩))
  go_ret
  exact ⟨rfl, chain (chain (chain (chain hb1 hb2) hb3) hb4) hb5⟩

end Go.Proofs.Ythbnaomhgmokkaa
