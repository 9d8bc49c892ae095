/-
  A set with one more, by the document: With; and what else the document tells of sets: Turn, Both, Same.
-/
import Derived.Test.YtegmegapkfbkeaaDoorCompose
namespace Go.Proofs.YtegmegapkfbkeaaDoor
open Go.RowKit

theorem add_or {x r : Nat} (hx : x < 8192) (hr : r < 13) (h : x.testBit r = false) : x + 2 ^ r = x ||| 2 ^ r := by
  have hp := pow_lt hr
  have hz : x &&& 2 ^ r = 0 := by
    apply Nat.eq_of_testBit_eq
    intro i
    rw [Nat.testBit_and, Nat.testBit_two_pow, Nat.zero_testBit]
    by_cases hi : r = i
    · subst hi; simp [h]
    · simp [hi]
  have hor := or_lt hx hp
  generalize 2 ^ r = y at *
  have hv : BitVec.ofNat 64 x &&& BitVec.ofNat 64 y = 0#64 := by
    apply BitVec.eq_of_toNat_eq
    rw [BitVec.toNat_and, BitVec.toNat_ofNat, BitVec.toNat_ofNat, Nat.mod_eq_of_lt (by omega), Nat.mod_eq_of_lt (by omega), hz]
    rfl
  have := congrArg BitVec.toNat (BitVec.add_eq_or_of_and_eq_zero _ _ hv)
  rw [BitVec.toNat_add, BitVec.toNat_or, BitVec.toNat_ofNat, BitVec.toNat_ofNat, Nat.mod_eq_of_lt (by omega), Nat.mod_eq_of_lt (by omega), Nat.mod_eq_of_lt (by omega)] at this
  exact this
theorem or_self_bit {x r : Nat} (h : x.testBit r = true) : x ||| 2 ^ r = x := by
  apply Nat.eq_of_testBit_eq
  intro i
  rw [Nat.testBit_or, Nat.testBit_two_pow]
  by_cases hi : r = i
  · subst hi; simp [h]
  · simp [hi]

set_option maxHeartbeats 1000000 in
theorem with_nat (x r : Nat) (hx : x < 8192) (hr : r < 13) (w : World) : Same 32 #[.int .i64 x, .int .i64 r] w (.int .i64 ((x ||| 2 ^ r : Nat) : Int)) := by
  cases hb : x.testBit r
  · have HA := Lib.hid (add_or hx hr hb)
    go_enter Tryd.func32, Tryd.ntmps32
    go_wp2_with fail
    refine (in_any _ r hr _).mono ?_; rintro e w1 ⟨rfl, rfl⟩
    rw [bitB_nat, hb]
    clear hb
    go_wp2_with fail
    go_loopw [5, 6] (fun p i wr => ∃ k : Nat, k ≤ r ∧ i = .int .i64 k ∧ p = .int .i64 ((2 ^ k : Nat) : Int) ∧ wr = w1) (fun _ i _ => r - (intOf i).toNat)
    case atStart => exact ⟨0, Nat.zero_le _, rfl, rfl, rfl⟩
    case round =>
      obtain ⟨k, hk, rfl, rfl, rfl⟩ := hrel
      have hp := pow_lt (show k < 13 by omega)
      have HP := Lib.hid (show 2 ^ (k + 1) = 2 * 2 ^ k by rw [Nat.pow_succ, Nat.mul_comm])
      have HK := Lib.hid (show 2 ^ k = 2 ^ k from rfl)
      by_cases hlt : k < r
      · have hltI : (k : Int) < r := by omega
        obtain ⟨m, hm⟩ : ∃ m, 2 ^ k = m := ⟨_, rfl⟩
        rw [hm] at hp HP ⊢
        have HM := Lib.hid hm
        clear hm HK
        go_wp2_with fail
        go_roundw
        case rel => exact ⟨k + 1, by omega, by go_num, by rw [HP.out]; rfl, trivial⟩
        case measure => simp [intOf]; omega
      · obtain rfl : k = r := by omega
        obtain ⟨m, hm⟩ : ∃ m, 2 ^ k = m := ⟨_, rfl⟩
        rw [hm] at hp HP HA ⊢
        have HM := Lib.hid hm
        clear hm HK
        go_wp2_with fail
        go_ret
        exact ⟨ret_int (by have h1 := HA.out; have h2 := HM.out; rw [h2, ← h1]; omega), rfl⟩
  · rw [or_self_bit hb]
    go_enter Tryd.func32, Tryd.ntmps32
    go_wp2_with fail
    refine (in_any _ r hr _).mono ?_; rintro e w1 ⟨rfl, rfl⟩
    rw [bitB_nat, hb]
    go_wp2_with fail
    go_ret
    exact ⟨rfl, rfl⟩

end Go.Proofs.YtegmegapkfbkeaaDoor
