/-
  A set turned round, what two sets have in common, and what follows of two sets, as the program and the document tell it.
-/
import Derived.Test.YtegmegapkfbkeaaDoorWith
import Derived.Test.YtegmegapkfbkeaaDoorArr
namespace Go.Proofs.YtegmegapkfbkeaaDoor
open Go.RowKit

theorem backI_nat {k : Nat} (hk : k < 13) : backI (k : Int) = ((12 - k : Nat) : Int) := by
  unfold backI relB
  rw [if_pos (by simp; omega)]; omega
theorem turnTo_yes {x : Int} {k : Nat} (h : bitB x k = true) : turnTo x (k + 1) = turnTo x k ||| 2 ^ (12 - k) := by rw [turnTo, if_pos h]
theorem turnTo_no {x : Int} {k : Nat} (h : bitB x k = false) : turnTo x (k + 1) = turnTo x k := by rw [turnTo, if_neg (by simp [h])]

set_option maxHeartbeats 1000000 in
theorem turn_any (x : Int) (w : World) : Same 20 #[.int .i64 x] w (.int .i64 (turnI x)) := by
  go_enter Tryd.func20, Tryd.ntmps20
  go_wp2_with fail
  go_loopw [3, 5] (fun v i wr => ∃ k : Nat, k ≤ 13 ∧ i = .int .i64 k ∧ v = .int .i64 (turnTo x k) ∧ wr = w) (fun _ i _ => 13 - (intOf i).toNat)
  case atStart => exact ⟨0, Nat.zero_le _, rfl, rfl, rfl⟩
  case round =>
    obtain ⟨k, hk, rfl, rfl, rfl⟩ := hrel
    by_cases hlt : k < 13
    · have hltI : (k : Int) < 13 := by omega
      have HA := Lib.hid (fun w' => has_any x k hlt w')
      cases hx : bitB x k
      · rw [hx] at HA
        have NX := Lib.hid (turnTo_no hx)
        go_wp2_with fail
        (go_at_call 34; refine (HA.out _).mono ?_; rintro e w1 ⟨rfl, rfl⟩)
        go_wp2_with fail
        go_roundw
        case rel => exact ⟨k + 1, by omega, by go_num, by rw [NX.out], trivial⟩
        case measure => simp [intOf]; omega
      · rw [hx] at HA
        have NX := Lib.hid (turnTo_yes hx)
        have OR := Lib.hid (or_nat (turnTo_lt x k) (pow_lt (show 12 - k < 13 by omega)))
        have SH := (shl_nat (show 12 - k < 13 by omega)).1
        have SH2 := (shl_nat (show 12 - k < 13 by omega)).2
        have HB := Lib.hid (backI_nat hlt)
        go_wp2_with fail
        (go_at_call 34; refine (HA.out _).mono ?_; rintro e w1 ⟨rfl, rfl⟩)
        go_wp2_with fail
        (go_at_call 11; refine (back_any _ _).mono ?_; rintro e w2 ⟨rfl, rfl⟩)
        rw [HB.out]
        go_wp2_with fail
        go_roundw
        case rel => refine ⟨k + 1, by omega, by go_num, ?_, trivial⟩; rw [NX.out, ← OR.out, Int.natCast_pow]; rfl
        case measure => simp [intOf]; omega
    · obtain rfl : k = 13 := by omega
      go_wp2_with fail
      go_ret
      exact ⟨rfl, rfl⟩

set_option maxHeartbeats 1000000 in
theorem dturn_any (x : Int) (w : World) : Same 21 #[.int .i64 x] w (.int .i64 (turnI x)) := by
  go_enter Tryd.func21, Tryd.ntmps21
  go_wp2_with fail
  go_loopw [3, 4] (fun v i wr => ∃ k : Nat, k ≤ 13 ∧ i = .int .i64 k ∧ v = .int .i64 (turnTo x k) ∧ wr = w) (fun _ i _ => 13 - (intOf i).toNat)
  case atStart => exact ⟨0, Nat.zero_le _, rfl, rfl, rfl⟩
  case round =>
    obtain ⟨k, hk, rfl, rfl, rfl⟩ := hrel
    by_cases hlt : k < 13
    · have hltI : (k : Int) < 13 := by omega
      have HA := Lib.hid (fun w' => in_any x k hlt w')
      cases hx : bitB x k
      · rw [hx] at HA
        have NX := Lib.hid (turnTo_no hx)
        go_wp2_with fail
        (go_at_call 19; refine (HA.out _).mono ?_; rintro e w1 ⟨rfl, rfl⟩)
        go_wp2_with fail
        go_roundw
        case rel => exact ⟨k + 1, by omega, by go_num, by rw [NX.out], trivial⟩
        case measure => simp [intOf]; omega
      · rw [hx] at HA
        have NX := Lib.hid (turnTo_yes hx)
        have WI := Lib.hid (fun w' => with_nat (turnTo x k) (12 - k) (turnTo_lt x k) (by omega) w')
        have h12 : (12 : Int) - (k : Int) = ((12 - k : Nat) : Int) := by omega
        go_wp2_with fail
        (go_at_call 19; refine (HA.out _).mono ?_; rintro e w1 ⟨rfl, rfl⟩)
        go_wp2_with fail
        (go_at_call 32; refine (WI.out _).mono ?_; rintro e w2 ⟨rfl, rfl⟩)
        go_wp2_with fail
        go_roundw
        case rel => exact ⟨k + 1, by omega, by go_num, by rw [NX.out], trivial⟩
        case measure => simp [intOf]; omega
    · obtain rfl : k = 13 := by omega
      go_wp2_with fail
      go_ret
      exact ⟨rfl, rfl⟩

def bothTo (x y : Int) : Nat → Nat
  | 0 => 0
  | k + 1 => if bitB x k && bitB y k then bothTo x y k ||| 2 ^ k else bothTo x y k
theorem bothTo_lt (x y : Int) (k : Nat) (hk : k ≤ 13) : bothTo x y k < 8192 := by
  induction k with
  | zero => exact (show 0 < 8192 by decide)
  | succ k ih => unfold bothTo; split; exact or_lt (ih (by omega)) (pow_lt (by omega)); exact ih (by omega)
theorem testBit_bothTo (x y : Int) (k t : Nat) : (bothTo x y k).testBit t = (decide (t < k) && (bitB x t && bitB y t)) := by
  induction k with
  | zero => simp [bothTo]
  | succ k ih =>
    unfold bothTo
    by_cases hb : (bitB x k && bitB y k) = true
    · rw [if_pos hb, Nat.testBit_or, ih, Nat.testBit_two_pow]
      by_cases ht : k = t
      · subst ht; rw [hb]; simp
      · have : t < k + 1 ↔ t < k := by omega
        simp [ht, this]
    · rw [if_neg hb, ih]
      by_cases ht : k = t
      · subst ht
        have hb : (bitB x k && bitB y k) = false := by simpa using hb
        rw [hb]; simp
      · have : t < k + 1 ↔ t < k := by omega
        simp [this]
theorem bothTo_all (x y : Int) : bothTo x y 13 = low x &&& low y := by
  apply Nat.eq_of_testBit_eq
  intro t
  rw [testBit_bothTo, Nat.testBit_and, testBit_low, testBit_low]
  cases decide (t < 13) <;> simp

set_option maxHeartbeats 1000000 in
theorem both_any (x y : Int) (w : World) : Same 39 #[.int .i64 x, .int .i64 y] w (.int .i64 ((low x &&& low y : Nat) : Int)) := by
  rw [← bothTo_all]
  go_enter Tryd.func39, Tryd.ntmps39
  go_wp2_with fail
  go_loopw [5, 6] (fun v i wr => ∃ k : Nat, k ≤ 13 ∧ i = .int .i64 k ∧ v = .int .i64 (bothTo x y k) ∧ wr = w) (fun _ i _ => 13 - (intOf i).toNat)
  case atStart => exact ⟨0, Nat.zero_le _, rfl, rfl, rfl⟩
  case round =>
    obtain ⟨k, hk, rfl, rfl, rfl⟩ := hrel
    by_cases hlt : k < 13
    · have hltI : (k : Int) < 13 := by omega
      have HA := Lib.hid (fun w' => in_any x k hlt w')
      have HA2 := Lib.hid (fun w' => in_any y k hlt w')
      cases hx : bitB x k
      · rw [hx] at HA
        have NX := Lib.hid (show bothTo x y (k + 1) = bothTo x y k by rw [bothTo, hx]; rfl)
        go_wp2_with fail
        (go_at_call 19; refine (HA.out _).mono ?_; rintro e w1 ⟨rfl, rfl⟩)
        go_wp2_with fail
        go_roundw
        case rel => exact ⟨k + 1, by omega, by go_num, by rw [NX.out], trivial⟩
        case measure => simp [intOf]; omega
      · rw [hx] at HA
        cases hy : bitB y k
        · rw [hy] at HA2
          have NX := Lib.hid (show bothTo x y (k + 1) = bothTo x y k by rw [bothTo, hx, hy]; rfl)
          go_wp2_with fail
          (go_at_call 19; refine (HA.out _).mono ?_; rintro e w1 ⟨rfl, rfl⟩)
          go_wp2_with fail
          (go_at_call 19; refine (HA2.out _).mono ?_; rintro e w2 ⟨rfl, rfl⟩)
          go_wp2_with fail
          go_roundw
          case rel => exact ⟨k + 1, by omega, by go_num, by rw [NX.out], trivial⟩
          case measure => simp [intOf]; omega
        · rw [hy] at HA2
          have NX := Lib.hid (show bothTo x y (k + 1) = bothTo x y k ||| 2 ^ k by rw [bothTo, hx, hy]; rfl)
          have WI := Lib.hid (fun w' => with_nat (bothTo x y k) k (bothTo_lt x y k hk) hlt w')
          go_wp2_with fail
          (go_at_call 19; refine (HA.out _).mono ?_; rintro e w1 ⟨rfl, rfl⟩)
          go_wp2_with fail
          (go_at_call 19; refine (HA2.out _).mono ?_; rintro e w2 ⟨rfl, rfl⟩)
          go_wp2_with fail
          (go_at_call 32; refine (WI.out _).mono ?_; rintro e w3 ⟨rfl, rfl⟩)
          go_wp2_with fail
          go_roundw
          case rel => exact ⟨k + 1, by omega, by go_num, by rw [NX.out], trivial⟩
          case measure => simp [intOf]; omega
    · obtain rfl : k = 13 := by omega
      go_wp2_with fail
      go_ret
      exact ⟨rfl, rfl⟩

theorem folIn_no {c : Nat → Nat → Nat} {x y : Int} {r acc s : Nat} (h : (bitB x r && bitB y s) = false) : folIn c x y r acc (s + 1) = folIn c x y r acc s := by rw [folIn, h]; rfl
theorem folIn_yes {c : Nat → Nat → Nat} {x y : Int} {r acc s : Nat} (h : (bitB x r && bitB y s) = true) : folIn c x y r acc (s + 1) = folIn c x y r acc s ||| c r s := by rw [folIn, h]; rfl

set_option maxHeartbeats 2000000 in
theorem dfollow_any (x y : Int) (w : World) (g : Nat) (T : Nat → Nat) (hA : Arr w g T 169) (hC : ∀ r s, r < 13 → s < 13 → T (13 * r + s) = cmpN r s) :
    Same 23 #[.slice (some ⟨g, 0, none⟩) 169 169, .int .i64 x, .int .i64 y] w (.int .i64 (followI x y)) := by
  have HA := Lib.hid hA
  have HC := Lib.hid hC
  clear hA hC
  go_enter Tryd.func23, Tryd.ntmps23
  go_wp2_with fail
  go_loopw [7, 8] (fun v i wr => ∃ r : Nat, r ≤ 13 ∧ i = .int .i64 r ∧ v = .int .i64 (folOut cmpN x y r) ∧ wr = w) (fun _ i _ => 13 - (intOf i).toNat)
  case atStart => exact ⟨0, Nat.zero_le _, rfl, rfl, rfl⟩
  case round =>
    obtain ⟨r, hr, rfl, rfl, rfl⟩ := hrel
    by_cases hlt : r < 13
    · have hltI : (r : Int) < 13 := by omega
      go_wp2_with fail
      go_loopw [7, 9] (fun v i wr' => ∃ s : Nat, s ≤ 13 ∧ i = .int .i64 s ∧ v = .int .i64 (folIn cmpN x y r (folOut cmpN x y r) s) ∧ wr' = wr) (fun _ i _ => 13 - (intOf i).toNat)
      case atStart => exact ⟨0, Nat.zero_le _, rfl, rfl, rfl⟩
      case round =>
        obtain ⟨s, hs, rfl, rfl, rfl⟩ := hrel
        by_cases hlt2 : s < 13
        · have hltJ : (s : Int) < 13 := by omega
          have HX := Lib.hid (fun w' => in_any x r hlt w')
          have HY := Lib.hid (fun w' => in_any y s hlt2 w')
          cases hx : bitB x r
          · rw [hx] at HX
            have NX := Lib.hid (folIn_no (c := cmpN) (acc := folOut cmpN x y r) (show (bitB x r && bitB y s) = false by rw [hx]; rfl))
            go_wp2_with fail
            (go_at_call 19; refine (HX.out _).mono ?_; rintro e w1 ⟨rfl, rfl⟩)
            go_wp2_with fail
            go_roundw
            case rel => exact ⟨s + 1, by omega, by go_num, by rw [NX.out], trivial⟩
            case measure => simp [intOf]; omega
          · rw [hx] at HX
            cases hy : bitB y s
            · rw [hy] at HY
              have NX := Lib.hid (folIn_no (c := cmpN) (acc := folOut cmpN x y r) (show (bitB x r && bitB y s) = false by rw [hx, hy]; rfl))
              go_wp2_with fail
              (go_at_call 19; refine (HX.out _).mono ?_; rintro e w1 ⟨rfl, rfl⟩)
              go_wp2_with fail
              (go_at_call 19; refine (HY.out _).mono ?_; rintro e w2 ⟨rfl, rfl⟩)
              go_wp2_with fail
              go_roundw
              case rel => exact ⟨s + 1, by omega, by go_num, by rw [NX.out], trivial⟩
              case measure => simp [intOf]; omega
            · rw [hy] at HY
              have NX := Lib.hid (folIn_yes (c := cmpN) (acc := folOut cmpN x y r) (show (bitB x r && bitB y s) = true by rw [hx, hy]; rfl))
              have OR := Lib.hid (or_nat (folIn_lt cmpN_lt x y r (folOut cmpN x y r) s (folOut_lt cmpN_lt x y r)) (cmpN_lt r s))
              have c0 := (HA.out.2 (13 * r + s) (by omega)).1
              rw [HC.out r s hlt hlt2] at c0
              have v1 : IntKind.i64.wrap (13 * (r : Int)) = 13 * (r : Int) := by rw [IntKind.wrap_i64]; omega
              have v2 : IntKind.i64.wrap (13 * (r : Int) + (s : Int)) = ((13 * r + s : Nat) : Int) := by rw [IntKind.wrap_i64]; omega
              have lp : ((13 * r + s : Nat) : Int) < 169 := by omega
              generalize 13 * r + s = pp at *
              go_wp2_with fail
              (go_at_call 19; refine (HX.out _).mono ?_; rintro e w1 ⟨rfl, rfl⟩)
              go_wp2_with fail
              (go_at_call 19; refine (HY.out _).mono ?_; rintro e w2 ⟨rfl, rfl⟩)
              go_wp2_with fail
              go_roundw
              case rel => exact ⟨s + 1, by omega, by go_num, by rw [NX.out, ← OR.out], trivial⟩
              case measure => simp [intOf]; omega
        · obtain rfl : s = 13 := by omega
          go_wp2_with fail
          go_roundw
          case rel => exact ⟨r + 1, by omega, by go_num, rfl, trivial⟩
          case measure => simp [intOf]; omega
    · obtain rfl : r = 13 := by omega
      go_wp2_with fail
      go_ret
      exact ⟨rfl, rfl⟩

end Go.Proofs.YtegmegapkfbkeaaDoor
