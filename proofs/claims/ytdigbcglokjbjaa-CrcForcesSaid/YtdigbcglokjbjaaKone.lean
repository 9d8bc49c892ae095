/-
  The program's step, its step back and its lay of four bytes.
-/
import Derived.Test.YtdigbcglokjbjaaKturned
namespace Go.Proofs.Ytdigbcglokjbjaa
open Go.RowKit

theorem pat_xor {x : Nat} (hx : x < 4294967296) : bits .xor .u32 (x : Int) 2197175160 = ((x ^^^ pat : Nat) : Int) := u32_xor_nat x pat hx (by decide)

set_option maxHeartbeats 1000000 in
theorem pstep_any (x : Nat) (hx : x < 4294967296) (w : World) : Same 25 #[.int .u32 (x : Int)] w (.int .u32 ((z1 x : Nat) : Int)) := by
  have e2 := and_one32 hx
  have e4 : bits .xor .u32 ((x : Int) / 2) 2197175160 = ((x / 2 ^^^ pat : Nat) : Int) := pat_xor (x := x / 2) (by omega)
  have ZS : z1 x = if x % 2 = 1 then x / 2 ^^^ pat else x / 2 := rfl
  rcases Nat.mod_two_eq_zero_or_one x with h | h
  · rw [if_neg (by omega)] at ZS
    have CQ := Lib.hid ZS
    rw [h] at e2
    clear ZS h hx
    go_enter Try.func25, Try.ntmps25
    go_wp2_with fail
    go_ret
    exact ⟨ret_int (by rw [CQ.out]; omega), rfl⟩
  · rw [if_pos h] at ZS
    have CQ := Lib.hid ZS
    rw [h] at e2
    clear ZS h hx
    generalize x / 2 ^^^ pat = z at *
    go_enter Try.func25, Try.ntmps25
    go_wp2_with fail
    go_ret
    exact ⟨ret_int (by rw [CQ.out]), rfl⟩

/-- The state ahead of a step with a bit 0. -/
def zb (y : Nat) : Nat := if y / 2147483648 = 1 then 2 * (y ^^^ pat) + 1 else 2 * y
theorem pat_top {y : Nat} (h : y / 2147483648 = 1) : y ^^^ pat < 2147483648 := by
  have e := Nat.xor_div_two_pow (a := y) (b := pat) (n := 31)
  rw [show y / 2 ^ 31 = 1 from h, show pat / 2 ^ 31 = 1 from rfl, Nat.xor_self] at e
  generalize y ^^^ pat = z at *
  omega
theorem zb_lt {y : Nat} (h : y < 4294967296) : zb y < 4294967296 := by
  unfold zb
  split
  · have := pat_top (y := y) (by assumption); omega
  · omega
theorem z1_zb {y : Nat} : z1 (zb y) = y := by
  unfold zb
  split
  · unfold z1
    rw [if_pos (by omega), show (2 * (y ^^^ pat) + 1) / 2 = y ^^^ pat by omega, xor_back]
  · exact z1_double y

theorem or_one32 {z : Nat} (h : z < 2147483648) : bits .or .u32 ((z : Int) * 2) 1 = ((2 * z + 1 : Nat) : Int) := by
  have h1 := u32_or_nat (z * 2) 1 (by omega) (by decide)
  have h2 : z * 2 ||| 1 = 2 * z + 1 := by
    rw [Nat.mul_comm]
    have := Nat.two_pow_add_eq_or_of_lt (i := 1) (b := 1) (by decide) z
    rw [Nat.pow_one] at this
    exact this.symm
  rw [h2] at h1
  rw [← h1]
  congr 1

set_option maxHeartbeats 1000000 in
theorem pback_any (y : Nat) (hy : y < 4294967296) (w : World) : Same 24 #[.int .u32 (y : Int)] w (.int .u32 ((zb y : Nat) : Int)) := by
  have e4 := pat_xor hy
  have ZS : zb y = if y / 2147483648 = 1 then 2 * (y ^^^ pat) + 1 else 2 * y := rfl
  by_cases h : y / 2147483648 = 1
  · have hz := pat_top h
    rw [if_pos h] at ZS
    have CQ := Lib.hid ZS
    have o1 := or_one32 hz
    have d1 : (y : Int) / 2147483648 = 1 := by omega
    clear ZS h
    generalize y ^^^ pat = z at *
    go_enter Try.func24, Try.ntmps24
    go_wp2_with fail
    go_ret
    exact ⟨ret_int (by rw [CQ.out]; omega), rfl⟩
  · rw [if_neg h] at ZS
    have CQ := Lib.hid ZS
    have d1 : (y : Int) / 2147483648 = 0 := by omega
    have d2 : (y : Int) * 2 ≤ 4294967295 := by omega
    clear ZS h
    go_enter Try.func24, Try.ntmps24
    go_wp2_with fail
    go_ret
    exact ⟨ret_int (by rw [CQ.out]; omega), rfl⟩

theorem low_byteK (n i : Nat) : IntKind.u8.wrap ((n : Int) / 2 ^ (8 * i)) = ((n / 256 ^ i % 256 : Nat) : Int) := by
  have e : (n : Int) / 2 ^ (8 * i) = ((n / 256 ^ i : Nat) : Int) := by
    have p256 : (256 : Nat) ^ i = 2 ^ (8 * i) := by rw [Nat.pow_mul]
    rw [p256]; simp
  rw [e]
  simp [IntKind.wrap, IntKind.bits, IntKind.signed]
/-- An array of four bytes is laid. -/
theorem arr_four (w : World) (T : TypeId) : Arr (w.alloc (.cells #[.int .u8 0, .int .u8 0, .int .u8 0, .int .u8 0] T)) w.heap.size (fun _ => 0) 4 := by
  refine ⟨by simp, fun i hi => ?_⟩
  have h : i = 0 ∨ i = 1 ∨ i = 2 ∨ i = 3 := by omega
  rcases h with rfl | rfl | rfl | rfl <;> exact ⟨by simp [go_sem], by simp [go_sem]⟩

set_option maxHeartbeats 4000000 in
set_option maxRecDepth 10000 in
theorem play_any (m : Nat) (w : World) : Ret 22 #[.int .u32 (m : Int)] w (.string (fourS m)) := by
  have HA := Lib.hid (arr_four w 46)
  have ALL := Lib.hid (fourT_all (m := m))
  have HK := Lib.hid (show fourS m = bytesN (le 4 m) from rfl)
  have HZ := Lib.hid (low_byteK m)
  have HPUT := Lib.hid (fun t => fourT_put (m := m) (t := t))
  go_enter Try.func22, Try.ntmps22
  go_wp2_with fail
  go_loopw [5] (fun i wr => ∃ k : Nat, k ≤ 4 ∧ i = .int .i64 k ∧ Arr wr w.heap.size (fourT m k) 4 ∧ Below w.heap.size w wr) (fun i _ => 4 - (intOf i).toNat)
  case atStart => exact ⟨0, Nat.zero_le _, rfl, HA.out.congr fun j hj => by unfold fourT; rw [if_neg (by omega)], (bl w).alloc (Nat.le_refl _) _⟩
  case round =>
    obtain ⟨k, hk, rfl, hA, hB⟩ := hrel
    have HAr := Lib.hid hA
    have HBr := Lib.hid hB
    clear hA hB
    by_cases hlt : k < 4
    · have hlt' : (k : Int) < 4 := by omega
      have w4 : IntKind.i64.wrap (8 * (k : Int)) = 8 * (k : Int) := IntWalk.i64_in _ (by omega)
      obtain ⟨c0, f0⟩ := HAr.out.2 k (by omega)
      have hb := HZ.out k
      have NX := Lib.hid ((HAr.out.put (v := m / 256 ^ k % 256) hlt).congr (HPUT.out k))
      obtain ⟨v, hv⟩ : ∃ v : Nat, m / 256 ^ k % 256 = v := ⟨_, rfl⟩
      rw [hv] at hb NX
      clear hv
      go_wp2_with fail
      exact ⟨⟨k + 1, by omega, by go_num, NX.out, HBr.out.setCell (Nat.le_refl _) _⟩, by simp [intOf]; omega⟩
    · obtain rfl : k = 4 := by omega
      have cv := conv_arr (c := 4) (w := wr) (l := le 4 m) HAr.out (le_length 4 m) ALL.out
      go_wp2_with fail
      go_ret
      exact ⟨ret_s HK.out.symm, HBr.out⟩

end Go.Proofs.Ytdigbcglokjbjaa
