/-
  What the small calls of pack give back: behind, mark, and the ones at a byte's head; the document's power. Each leaves the world as it was.
-/
import Derived.Test.YtnmnbnlokmmcmaaRows
import Derived.Test.YtnmnbnlokmmcmaaPstr
import Derived.Test.YtnmnbnlokmmcmaaShelf
import Derived.WalkKit
import Derived.WalkSpells
import Derived.WalkLawsBesides
import Derived.WalkArith
import Derived.Deep.QuietTactic
import Derived.Deep.RegionHeld3
import Derived.BigQuiet
import Derived.Handy
import Derived.RegionTactic
import Derived.ChangeAlike
import Derived.Lib.Hide
import Derived.Deep.Light
import Derived.Deep.CutRange
import Derived.ChangeKeysEq
namespace Go.Proofs.Ytnmnbnlokmmcmaa
open Go.RowKit

abbrev Same (F : Nat) (args : Array Value) (w : World) (v : Value) : Prop := Calls Try.prog F args w fun e w' => e = .returned v ∧ w' = w
theorem bl (w : World) : Below w.heap.size w w := Below.refl _ _
theorem chain {W w w1 : World} (h : Below W.heap.size W w) (hb : Below w.heap.size w w1) : Below W.heap.size W w1 := h.trans (hb.mono h.size)
theorem keepc {w w1 : World} (hb : Below w.heap.size w w1) {b o : Nat} {v : Value} (h : w.cell? ⟨b, o, none⟩ = some v) : w1.cell? ⟨b, o, none⟩ = some v := by
  have : b < w.heap.size := by
    rcases Nat.lt_or_ge b w.heap.size with h' | h'
    · exact h'
    · simp [World.cell?, Array.getElem?_eq_none h'] at h
  exact (hb.cell (p := ⟨b, o, none⟩) this).trans h
theorem ret_int {k : IntKind} {a b : Int} (h : a = b) : Ending.returned (.int k a) = .returned (.int k b) := by rw [h]

/-- The first number that needs more bytes behind. -/
theorem kN_lt_iff {n k : Nat} (hk : k < 8) : kN n ≤ k ↔ n < 2 ^ (7 * (k + 1)) := by
  have hc := kN_cases n
  have hk' : k = 0 ∨ k = 1 ∨ k = 2 ∨ k = 3 ∨ k = 4 ∨ k = 5 ∨ k = 6 ∨ k = 7 := by omega
  rcases hk' with rfl | rfl | rfl | rfl | rfl | rfl | rfl | rfl <;> simp only [Nat.reduceAdd, Nat.reduceMul, Nat.reducePow] <;> omega

/-- 1 << (7*(k+1)), below 2^62. -/
theorem shl_one {k : Nat} (hk : k < 8) : wrap64 (2 ^ (7 * (k + 1))) = ((2 ^ (7 * (k + 1)) : Nat) : Int) := by
  have hk' : k = 0 ∨ k = 1 ∨ k = 2 ∨ k = 3 ∨ k = 4 ∨ k = 5 ∨ k = 6 ∨ k = 7 := by omega
  rcases hk' with rfl | rfl | rfl | rfl | rfl | rfl | rfl | rfl <;> decide +kernel

set_option maxHeartbeats 1000000 in
theorem behind_any (n : Nat) (hn : n < 4611686018427387904) (w : World) : Same 52 #[.int .i64 (n : Int)] w (.int .i64 (kN n : Int)) := by
  go_enter Try.func52, Try.ntmps52
  go_wp2
  go_loopw [4] (fun i wr => ∃ k : Nat, k ≤ 8 ∧ i = .int .i64 k ∧ (∀ j, j < k → ¬ kN n ≤ j) ∧ wr = w) (fun i _ => 8 - (intOf i).toNat)
  case atStart => exact ⟨0, Nat.zero_le _, rfl, fun j h => by omega, rfl⟩
  case round =>
    obtain ⟨k, hk, rfl, hno, rfl⟩ := hrel
    have HN := Lib.hid hno
    clear hno
    by_cases hlt : k < 8
    · have hs := shl_one hlt
      have hi := kN_lt_iff (n := n) hlt
      obtain ⟨p, hp⟩ : ∃ p : Nat, 2 ^ (7 * (k + 1)) = p := ⟨_, rfl⟩
      rw [hp] at hs hi
      have HP := Lib.hid hp
      clear hp
      have h7 : IntKind.i64.wrap (7 * ((k : Int) + 1)) = 7 * ((k : Int) + 1) := IntWalk.i64_in _ (by omega)
      have h71 : IntKind.i64.wrap ((k : Int) + 1) = (k : Int) + 1 := IntWalk.i64_in _ (by omega)
      have hsh := hs
      clear hs
      by_cases hl : n < p
      · have hle : kN n ≤ k := hi.2 hl
        have hl' : (n : Int) < (p : Int) := by omega
        clear hi
        go_wp2_with fail
        go_ret
        refine ⟨ret_int ?_, rfl⟩
        have := HN.out
        rcases Nat.lt_or_ge (kN n) k with h | h
        · exact absurd (Nat.le_refl _) (this _ h)
        · omega
      · have hle : ¬ kN n ≤ k := fun h => hl (hi.1 h)
        have hl' : ¬ (n : Int) < (p : Int) := by omega
        clear hi
        go_wp2_with fail
        refine ⟨⟨k + 1, by omega, by go_num, fun j hj => ?_, trivial⟩, by simp [intOf]; omega⟩
        rcases Nat.lt_or_ge j k with h | h
        · exact HN.out j h
        · obtain rfl : j = k := by omega
          exact hle
    · go_wp2_with fail
      go_ret
      refine ⟨ret_int ?_, rfl⟩
      have h8 := kN_le n
      have := HN.out
      rcases Nat.lt_or_ge (kN n) 8 with h | h
      · exact absurd (Nat.le_refl _) (this _ (by omega))
      · omega

theorem mark_bits {k : Nat} (hk : k ≤ 8) : bits BinOp.xor IntKind.u8 IntKind.u8.max (255 / 2 ^ k) = ((mark k : Nat) : Int) := by
  have key : ∀ k : Nat, k ≤ 8 → bits BinOp.xor IntKind.u8 IntKind.u8.max (255 / 2 ^ k) = ((mark k : Nat) : Int) := by decide
  exact key k hk

set_option maxHeartbeats 1000000 in
theorem mark_any (k : Nat) (hk : k ≤ 8) (w : World) : Same 53 #[.int .i64 (k : Int)] w (.int .u8 (mark k : Int)) := by
  go_enter Try.func53, Try.ntmps53
  go_wp2_with fail
  go_ret
  exact ⟨ret_int (mark_bits hk), rfl⟩

theorem two_wrap {i : Nat} (hi : i < 7) : IntKind.u8.wrap (2 * ((2 ^ i : Nat) : Int)) = ((2 ^ (i + 1) : Nat) : Int) := by
  have key : ∀ i : Nat, i < 7 → IntKind.u8.wrap (2 * ((2 ^ i : Nat) : Int)) = ((2 ^ (i + 1) : Nat) : Int) := by decide
  exact key i hi

set_option maxHeartbeats 1000000 in
theorem power_any (t : Nat) (ht : t ≤ 7) (w : World) : Same 59 #[.int .i64 (t : Int)] w (.int .u8 ((2 ^ t : Nat) : Int)) := by
  go_enter Try.func59, Try.ntmps59
  go_wp2
  go_loopw [3, 4] (fun p i wr => ∃ k : Nat, k ≤ t ∧ i = .int .i64 k ∧ p = .int .u8 ((2 ^ k : Nat) : Int) ∧ wr = w) (fun _ i _ => t - (intOf i).toNat)
  case atStart => exact ⟨0, Nat.zero_le _, rfl, rfl, rfl⟩
  case round =>
    obtain ⟨k, hk, rfl, rfl, rfl⟩ := hrel
    by_cases hlt : k < t
    · have hw := two_wrap (i := k) (by omega)
      obtain ⟨p, hp⟩ : ∃ p : Nat, 2 ^ k = p := ⟨_, rfl⟩
      obtain ⟨q, hq⟩ : ∃ q : Nat, 2 ^ (k + 1) = q := ⟨_, rfl⟩
      rw [hp, hq] at hw
      rw [hp]
      have HQ := Lib.hid hq
      clear hp hq
      have hlt' : (k : Int) < (t : Int) := by omega
      go_wp2_with fail
      exact ⟨⟨k + 1, by omega, by go_num, by rw [HQ.out], trivial⟩, by simp [intOf]; omega⟩
    · have hlt' : ¬ (k : Int) < (t : Int) := by omega
      go_wp2_with fail
      go_ret
      obtain rfl : k = t := by omega
      exact ⟨rfl, rfl⟩

theorem xor_byte {c : Nat} (hc : c < 256) : bits BinOp.xor IntKind.u8 IntKind.u8.max (c : Int) = ((255 - c : Nat) : Int) := by
  have key : ∀ c : Nat, c < 256 → bits BinOp.xor IntKind.u8 IntKind.u8.max (c : Int) = ((255 - c : Nat) : Int) := by decide +kernel
  exact key c hc
theorem bitLen_ones {c : Nat} (hc : c < 256) : 8 - (Lib.bitLen (255 - c) : Int) = ((ones c : Nat) : Int) := by
  have key : ∀ c : Nat, c < 256 → 8 - (Lib.bitLen (255 - c) : Int) = ((ones c : Nat) : Int) := by decide +kernel
  exact key c hc
theorem zeros_any (c : Nat) (hc : c < 256) (w : World) : Same 56 #[.int .u8 ((255 - c : Nat) : Int)] w (.int .i64 (ones c : Int)) := by
  have h := Try.bits_LeadingZeros8 ((255 - c : Nat) : Int) w (by omega) (by omega)
  rw [Int.toNat_natCast, bitLen_ones hc] at h
  exact h

end Go.Proofs.Ytnmnbnlokmmcmaa
