/-
  Numbers with a sign, texts, and the chapter's examples, by the program and by the document.
-/
import Derived.Test.YtnmnbnlokmmcmaaPdlay
namespace Go.Proofs.Ytnmnbnlokmmcmaa
open Go.RowKit

theorem num_bad {n : Int} (h : ¬ (0 ≤ n ∧ n ≤ 4611686018427387903)) : numS n = ⟨#[]⟩ ∧ numE n = 2 := by
  unfold numS numE
  rw [if_neg h, if_neg h]
  exact ⟨rfl, rfl⟩
theorem num_ok {n : Nat} (h : n < 4611686018427387904) : numS n = encS n ∧ numE n = 0 := by
  unfold numS numE
  rw [if_pos (by omega), if_pos (by omega), Int.toNat_natCast]
  exact ⟨rfl, rfl⟩

set_option maxHeartbeats 1000000 in
theorem dnum_any (n : Int) (w : World) : Calls Try.prog 55 #[.int .i64 n] w (NumPost n w) := by
  by_cases h0 : n < 0
  · have HP := Lib.hid (num_bad (n := n) (by omega))
    go_enter Try.func55, Try.ntmps55
    go_wp2_with fail
    go_ret2
    exact ⟨ret_se HP.out.1.symm HP.out.2.symm, bl _⟩
  · by_cases h1 : 4611686018427387903 < n
    · have HP := Lib.hid (num_bad (n := n) (by omega))
      go_enter Try.func55, Try.ntmps55
      go_wp2_with fail
      go_ret2
      exact ⟨ret_se HP.out.1.symm HP.out.2.symm, bl _⟩
    · obtain ⟨m, rfl⟩ : ∃ m : Nat, n = (m : Int) := ⟨n.toNat, by omega⟩
      exact dnum_good m (by omega) w

/-- A number with a sign as one without. -/
def zig (n : Int) : Int := if n < 0 then -2 * n - 1 else 2 * n
def intS (n : Int) : ByteArray := if -2305843009213693952 ≤ n ∧ n ≤ 2305843009213693951 then numS (zig n) else ⟨#[]⟩
def intE (n : Int) : Int := if -2305843009213693952 ≤ n ∧ n ≤ 2305843009213693951 then numE (zig n) else 2
def IntPost (n : Int) (w : World) (e : Ending) (w' : World) : Prop := e = .returned (.tuple #[.string (intS n), .int .i64 (intE n)]) ∧ Below w.heap.size w w'
theorem int_bad {n : Int} (h : ¬ (-2305843009213693952 ≤ n ∧ n ≤ 2305843009213693951)) : intS n = ⟨#[]⟩ ∧ intE n = 2 := by
  unfold intS intE
  rw [if_neg h, if_neg h]
  exact ⟨rfl, rfl⟩
theorem int_ok {n z : Int} (h : -2305843009213693952 ≤ n ∧ n ≤ 2305843009213693951) (hz : zig n = z) : intS n = numS z ∧ intE n = numE z := by
  unfold intS intE
  rw [if_pos h, if_pos h, hz]
  exact ⟨rfl, rfl⟩
theorem zig_neg {n : Int} (h : n < 0) : zig n = -2 * n - 1 := by unfold zig; rw [if_pos h]
theorem zig_pos {n : Int} (h : ¬ n < 0) : zig n = 2 * n := by unfold zig; rw [if_neg h]

set_option maxHeartbeats 1000000 in
theorem int_any (n : Int) (w : World) : Calls Try.prog 37 #[.int .i64 n] w (IntPost n w) := by
  by_cases h0 : n < -2305843009213693952
  · have HP := Lib.hid (int_bad (n := n) (by omega))
    go_enter Try.func37, Try.ntmps37
    go_wp2_with fail
    go_ret2
    exact ⟨ret_se HP.out.1.symm HP.out.2.symm, bl _⟩
  · by_cases h1 : 2305843009213693951 < n
    · have HP := Lib.hid (int_bad (n := n) (by omega))
      go_enter Try.func37, Try.ntmps37
      go_wp2_with fail
      go_ret2
      exact ⟨ret_se HP.out.1.symm HP.out.2.symm, bl _⟩
    · by_cases h2 : n < 0
      · have HP := Lib.hid (int_ok (n := n) (by omega) (zig_neg h2))
        have CN := Lib.hid (fun w => num_any (-2 * n - 1) w)
        go_enter Try.func37, Try.ntmps37
        go_wp2_with (go_at_call 35; refine (CN.out _).mono ?_; rintro e w1 ⟨rfl, hb⟩)
        go_ret2
        exact ⟨ret_se HP.out.1.symm HP.out.2.symm, hb⟩
      · have HP := Lib.hid (int_ok (n := n) (by omega) (zig_pos h2))
        have CN := Lib.hid (fun w => num_any (2 * n) w)
        go_enter Try.func37, Try.ntmps37
        go_wp2_with (go_at_call 35; refine (CN.out _).mono ?_; rintro e w1 ⟨rfl, hb⟩)
        go_ret2
        exact ⟨ret_se HP.out.1.symm HP.out.2.symm, hb⟩

set_option maxHeartbeats 1000000 in
theorem dint_any (n : Int) (w : World) : Calls Try.prog 51 #[.int .i64 n] w (IntPost n w) := by
  by_cases h0 : n < -2305843009213693952
  · have HP := Lib.hid (int_bad (n := n) (by omega))
    go_enter Try.func51, Try.ntmps51
    go_wp2_with fail
    go_ret2
    exact ⟨ret_se HP.out.1.symm HP.out.2.symm, bl _⟩
  · by_cases h1 : 2305843009213693951 < n
    · have HP := Lib.hid (int_bad (n := n) (by omega))
      go_enter Try.func51, Try.ntmps51
      go_wp2_with fail
      go_ret2
      exact ⟨ret_se HP.out.1.symm HP.out.2.symm, bl _⟩
    · by_cases h2 : n < 0
      · have HP := Lib.hid (fun (z : Int) (hz : zig n = z) => int_ok (n := n) (by omega) hz)
        have HZ := Lib.hid (zig_neg h2)
        go_enter Try.func51, Try.ntmps51
        go_wp2_with (go_at_call 55; refine (dnum_any _ _).mono ?_; rintro e w1 ⟨rfl, hb⟩)
        go_ret2
        exact ⟨ret_se (HP.out _ (by rw [HZ.out]; omega)).1.symm (HP.out _ (by rw [HZ.out]; omega)).2.symm, hb⟩
      · have HP := Lib.hid (int_ok (n := n) (by omega) (zig_pos h2))
        have CN := Lib.hid (fun w => dnum_any (2 * n) w)
        go_enter Try.func51, Try.ntmps51
        go_wp2_with (go_at_call 55; refine (CN.out _).mono ?_; rintro e w1 ⟨rfl, hb⟩)
        go_ret2
        exact ⟨ret_se HP.out.1.symm HP.out.2.symm, hb⟩

abbrev Ret (F : Nat) (args : Array Value) (w : World) (v : Value) : Prop := Calls Try.prog F args w fun e w' => e = .returned v ∧ Below w.heap.size w w'
theorem ret_s {s t : ByteArray} (h : s = t) : Ending.returned (.string s) = .returned (.string t) := by rw [h]

set_option maxHeartbeats 1000000 in
theorem dof_any (n : Nat) (hn : n < 4611686018427387904) (w : World) : Ret 40 #[.int .i64 (n : Int)] w (.string (encS n)) := by
  have HP := Lib.hid (num_ok hn)
  have CN := Lib.hid (fun w => dnum_any n w)
  go_enter Try.func40, Try.ntmps40
  go_wp2_with (go_at_call 55; refine (CN.out _).mono ?_; rintro e w1 ⟨rfl, hb⟩)
  go_ret
  exact ⟨ret_s HP.out.1, hb⟩

set_option maxHeartbeats 1000000 in
theorem text_any (s : ByteArray) (hs : s.size ≤ 4611686018427387903) (w : World) : Ret 38 #[.string s] w (.string (textS s)) := by
  have HP := Lib.hid (num_ok (n := s.size) (by omega))
  have CN := Lib.hid (fun w => num_any s.size w)
  have hk := kN_le s.size
  have hz := encS_size s.size
  have hle : ¬ (encS s.size).size + s.size > 9223372036854775807 := by omega
  have HT := Lib.hid (show textS s = encS s.size ++ s from rfl)
  go_enter Try.func38, Try.ntmps38
  go_wp2_with (go_at_call 35; refine (CN.out _).mono ?_; rintro e w1 ⟨rfl, hb⟩; rw [HP.out.1])
  go_ret
  exact ⟨rfl, hb⟩

set_option maxHeartbeats 1000000 in
theorem dtext_any (s : ByteArray) (hs : s.size ≤ 4611686018427387903) (w : World) : Ret 41 #[.string s] w (.string (textS s)) := by
  have CN := Lib.hid (fun w => dof_any s.size (by omega) w)
  have hk := kN_le s.size
  have hz := encS_size s.size
  have hle : ¬ (encS s.size).size + s.size > 9223372036854775807 := by omega
  go_enter Try.func41, Try.ntmps41
  go_wp2_with (go_at_call 40; refine (CN.out _).mono ?_; rintro e w1 ⟨rfl, hb⟩)
  go_ret
  exact ⟨rfl, hb⟩

end Go.Proofs.Ytnmnbnlokmmcmaa
