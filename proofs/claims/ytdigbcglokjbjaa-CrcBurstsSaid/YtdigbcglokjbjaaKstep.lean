/-
  The document's sums: its step, Add and Sum.
-/
import Derived.Test.YtdigbcglokjbjaaSbase
import Derived.Test.YtdigbcglokjbjaaKturn
import Derived.Laws.BitsAllLaws
namespace Go.Proofs.Ytdigbcglokjbjaa
open Go.RowKit

theorem z1_low {x c : Nat} : z1 (x ^^^ c) = z1 (x ^^^ c % 2) ^^^ c / 2 := by
  have e : c = (2 ^ 1 * (c / 2)) ^^^ (c % 2) := by
    rw [← xor_split 1 _ _ (Nat.mod_lt _ (by decide))]; omega
  have e2 : x ^^^ c = (x ^^^ c % 2) ^^^ 2 * (c / 2) := by
    have := congrArg (fun v => x ^^^ v) e
    rw [show x ^^^ c = x ^^^ ((2 ^ 1 * (c / 2)) ^^^ (c % 2)) from this, Nat.pow_one, Nat.xor_comm (2 * (c / 2)), Nat.xor_assoc]
  rw [e2, z1_xor, z1_double]
theorem zz_succ (k x : Nat) : zz (k + 1) x = z1 (zz k x) := zz_add k 1 x
theorem and_one32 {y : Nat} (h : y < 4294967296) : bits .and .u32 (y : Int) 1 = ((y % 2 : Nat) : Int) := by
  have := u32_and_nat y 1 h (by decide)
  rw [Nat.and_one_is_mod] at this
  exact this
theorem z1_step {x b : Nat} (hb : b < 2) : z1 (x ^^^ b) = if (x ^^^ b) % 2 = 1 then x / 2 ^^^ pat else x / 2 := by
  unfold z1
  rw [Nat.xor_div_two, show b / 2 = 0 by omega, Nat.xor_zero]
/-- The lowest 32 bits of a number. -/
def lo (n : Int) : Nat := (n % 4294967296).toNat
theorem lo_lt (n : Int) : lo n < 4294967296 := by unfold lo; omega
theorem lo_wrap (n : Int) : IntKind.u32.wrap n = (lo n : Int) := by rw [IntKind.wrap_u32]; unfold lo; omega
theorem lo_nat {n : Nat} (h : n < 4294967296) : lo (n : Int) = n := by unfold lo; omega

set_option maxHeartbeats 1000000 in
theorem step_any (x b : Nat) (hx : x < 4294967296) (hb : b < 2) (w : World) : Same 21 #[.int .u32 (x : Int), .int .u32 (b : Int)] w (.int .u32 ((z1 (x ^^^ b) : Nat) : Int)) := by
  have e1 := u32_xor_nat x b hx (by omega)
  have hy : x ^^^ b < 4294967296 := Nat.xor_lt_two_pow (n := 32) hx (by omega)
  have e2 := and_one32 hy
  have e4 : bits .xor .u32 ((x : Int) / 2) 2197175160 = ((x / 2 ^^^ pat : Nat) : Int) := u32_xor_nat (x / 2) pat (by omega) (by decide)
  have ZS := z1_step (x := x) hb
  rcases Nat.mod_two_eq_zero_or_one (x ^^^ b) with h | h
  · rw [if_neg (by omega)] at ZS
    have CQ := Lib.hid ZS
    rw [h] at e2
    clear ZS h hy
    generalize x ^^^ b = y at *
    go_enter Try.func21, Try.ntmps21
    go_wp2_with fail
    go_ret
    exact ⟨ret_int (by rw [CQ.out]; omega), rfl⟩
  · rw [if_pos h] at ZS
    have CQ := Lib.hid ZS
    rw [h] at e2
    clear ZS h hy
    generalize x ^^^ b = y at *
    generalize x / 2 ^^^ pat = z at *
    go_enter Try.func21, Try.ntmps21
    go_wp2_with fail
    go_ret
    exact ⟨ret_int (by rw [CQ.out]), rfl⟩

theorem all1_xor {x : Nat} (hx : x < 4294967296) : bits .xor .u32 (x : Int) 4294967295 = ((x ^^^ all1 : Nat) : Int) := u32_xor_nat x all1 hx (by decide)

set_option maxHeartbeats 4000000 in
set_option maxRecDepth 10000 in
theorem dadd_any (n : Int) (s : ByteArray) (hs : s.size ≤ 4611686018427387903) (w : World) : Same 12 #[.int .i64 n, .string s] w (.int .i64 ((addN (lo n) (nats s) : Nat) : Int)) := by
  obtain ⟨N, hN⟩ : ∃ N, s.size = N := ⟨_, rfl⟩
  have HN := Lib.hid hN
  have e0 := lo_wrap n
  have hlo := lo_lt n
  generalize lo n = m at *
  have e1 := all1_xor hlo
  have hx0 : m ^^^ all1 < 4294967296 := Nat.xor_lt_two_pow (n := 32) hlo (by decide)
  have HR := Lib.hid (show addN m (nats s) = runN (m ^^^ all1) (nats s) ^^^ all1 from rfl)
  generalize m ^^^ all1 = x0 at *
  have HLT := Lib.hid (fun k => runN_lt ((nats s).take k) (x := x0) hx0 fun b hb => nats_lt s b (List.mem_of_mem_take hb))
  go_enter Try.func12, Try.ntmps12
  go_wp2_with fail
  go_loopw [5, 6] (fun x i wr => ∃ k X : Nat, k ≤ N ∧ i = .int .i64 k ∧ runN x0 ((nats s).take k) = X ∧ X < 4294967296 ∧ x = .int .u32 (X : Int) ∧ wr = w) (fun _ i _ => N - (intOf i).toNat)
  case atStart => exact ⟨0, x0, Nat.zero_le _, rfl, rfl, hx0, rfl, rfl⟩
  case round =>
    obtain ⟨k, X, hk, rfl, hX, hXl, rfl, hwr⟩ := hrel
    obtain rfl := hwr.symm
    by_cases hlt : k < N
    · have hlt' : (k : Int) < (N : Int) := by omega
      obtain ⟨c, hc⟩ : ∃ c, (nats s)[k]? = some c := ⟨_, List.getElem?_eq_getElem (by rw [nats_length]; omega)⟩
      have hc256 := nats_lt s c (List.mem_of_getElem? hc)
      have hi := index_run hc
      have NX := Lib.hid (show runN x0 ((nats s).take (k + 1)) = sb X c by
        rw [List.take_add_one, hc, Option.toList_some, runN_append, hX]; rfl)
      have NL := Lib.hid (show sb X c < 4294967296 from sb_lt hXl hc256)
      clear hX hc
      go_wp2_with fail
      go_loopw [5, 7, 8] (fun x c' i wr => ∃ j Y C : Nat, j ≤ 8 ∧ i = .int .i64 j ∧ C = c / 2 ^ j ∧ Y ^^^ C = zz j (X ^^^ c) ∧ Y < 4294967296 ∧ x = .int .u32 (Y : Int) ∧ c' = .int .u32 (C : Int) ∧ wr = w) (fun _ _ i _ => 8 - (intOf i).toNat)
      case atStart => exact ⟨0, X, c, Nat.zero_le _, rfl, by simp, rfl, hXl, rfl, rfl, rfl⟩
      case round =>
        obtain ⟨j, Y, C, hj, rfl, hC, hY, hYl, rfl, rfl, hwr⟩ := hrel
        obtain rfl := hwr.symm
        have hC256 : C < 256 := by rw [hC]; exact Nat.lt_of_le_of_lt (Nat.div_le_self _ _) hc256
        by_cases hl8 : j < 8
        · have hl8' : (j : Int) < 8 := by omega
          have e1 := and_one32 (y := C) (by omega)
          have NC := Lib.hid (show C / 2 = c / 2 ^ (j + 1) by rw [hC, Nat.pow_succ, Nat.div_div_eq_div_mul])
          have NY := Lib.hid (show z1 (Y ^^^ C % 2) ^^^ C / 2 = zz (j + 1) (X ^^^ c) by rw [← z1_low, hY, zz_succ])
          have NYL := Lib.hid (show z1 (Y ^^^ C % 2) < 4294967296 from z1_lt (Nat.xor_lt_two_pow (n := 32) hYl (by omega)))
          have CS := Lib.hid (fun w => step_any Y (C % 2) hYl (Nat.mod_lt _ (by decide)) w)
          clear hC hY
          generalize C % 2 = r at *
          generalize z1 (Y ^^^ r) = y at *
          go_wp2_with (go_at_call 21; with_reducible refine (CS.out _).mono ?_; rintro e w2 ⟨rfl, rfl⟩)
          exact ⟨⟨j + 1, _, C / 2, by omega, by go_num, NC.out, NY.out, NYL.out, rfl, by go_num, trivial⟩, by simp [intOf] <;> omega⟩
        · obtain rfl : j = 8 := by omega
          have hC0 : C = 0 := by rw [hC]; omega
          have hYX : Y = sb X c := by
            rw [hC0, Nat.xor_zero] at hY; exact hY
          have HY := Lib.hid hYX
          clear hC hY hYX
          go_wp2_with fail
          exact ⟨⟨k + 1, Y, by omega, by go_num, by rw [NX.out, HY.out], hYl, rfl, trivial⟩, by simp [intOf] <;> omega⟩
    · obtain rfl : k = N := by omega
      have hlt' : ¬ (k : Int) < (k : Int) := by omega
      have hall : (nats s).take k = nats s := List.take_of_length_le (by rw [nats_length, hN]; exact Nat.le_refl _)
      have e2 := all1_xor hXl
      have HE := Lib.hid (show addN m (nats s) = X ^^^ all1 by rw [HR.out, ← hX, hall])
      have hz : X ^^^ all1 < 4294967296 := Nat.xor_lt_two_pow (n := 32) hXl (by decide)
      clear hall hX
      generalize X ^^^ all1 = z at *
      go_wp2_with fail
      go_ret
      exact ⟨ret_int (by rw [HE.out]), rfl⟩

theorem lo_zero : lo 0 = 0 := rfl
theorem dsum_any (s : ByteArray) (hs : s.size ≤ 4611686018427387903) (w : World) : Same 10 #[.string s] w (.int .i64 ((sumN (nats s) : Nat) : Int)) := by
  have h := fun w => dadd_any 0 s hs w
  have HE : addN (lo 0) (nats s) = sumN (nats s) := rfl
  rw [HE] at h
  have CA := Lib.hid h
  clear h
  go_enter Try.func10, Try.ntmps10
  go_wp2_with (go_at_call 12; with_reducible refine (CA.out _).mono ?_; rintro e w2 ⟨rfl, rfl⟩)
  go_ret
  exact ⟨rfl, rfl⟩

end Go.Proofs.Ytdigbcglokjbjaa
