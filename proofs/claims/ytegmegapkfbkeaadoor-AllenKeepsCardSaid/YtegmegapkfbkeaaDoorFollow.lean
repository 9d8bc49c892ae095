/-
  What follows of two sets, as the program tells it: follow with Compose, and with what was worked out; Follow.
-/
import Derived.Test.YtegmegapkfbkeaaDoorTurns
namespace Go.Proofs.YtegmegapkfbkeaaDoor
open Go.RowKit

/-- All that Compose tells lies in the block of a net that is being closed. -/
def Comp (w : World) (g : Nat) : Prop := g < w.heap.size ∧ ∀ r s, r < 13 → s < 13 → w.cell? ⟨g, 2 + r * 13 + s, none⟩ = some (.int .i64 (cmpN r s))
theorem Comp.below {W w : World} {g B : Nat} (h : Comp W g) (hg : g < B) (hb : Below B W w) : Comp w g :=
  ⟨Nat.lt_of_lt_of_le h.1 hb.size, fun r s hr hs => (hb.cell (p := ⟨g, _, none⟩) hg).trans (h.2 r s hr hs)⟩

theorem wcompose_any (r s : Nat) (hr : r < 13) (hs : s < 13) (w : World) (g : Nat) (hC : Comp w g) : Same 42 #[.pointer (some ⟨g, 0, none⟩), .int .i64 r, .int .i64 s] w (.int .i64 (cmpN r s)) := by
  have c0 := hC.2 r s hr hs
  have l0 : (r : Int) < 13 := by omega
  have l1 : (s : Int) < 13 := by omega
  clear hC
  go_enter Tryd.func42, Tryd.ntmps42
  go_wp2_with fail
  go_ret
  exact ⟨rfl, rfl⟩

set_option maxHeartbeats 2000000 in
theorem follow_any (x y : Int) (w : World) (hT : Tab w) :
    Ret 35 #[.int .i64 x, .int .i64 y, Value.func (Fn.func 17) #[] #[]] w (.int .i64 (followI x y)) := by
  have HT := Lib.hid hT
  clear hT
  go_enter Tryd.func35, Tryd.ntmps35
  go_wp2_with fail
  go_loopw [7, 10] (fun v i wr => ∃ r : Nat, r ≤ 13 ∧ i = .int .i64 r ∧ v = .int .i64 (folOut cmpN x y r) ∧ Below w.heap.size w wr) (fun _ i _ => 13 - (intOf i).toNat)
  case atStart => exact ⟨0, Nat.zero_le _, rfl, rfl, bl _⟩
  case round =>
    obtain ⟨r, hr, rfl, rfl, hB⟩ := hrel
    have HB := Lib.hid hB
    clear hB
    by_cases hlt : r < 13
    · have hltI : (r : Int) < 13 := by omega
      go_wp2_with fail
      go_loopw [7, 13] (fun v i wr' => ∃ s : Nat, s ≤ 13 ∧ i = .int .i64 s ∧ v = .int .i64 (folIn cmpN x y r (folOut cmpN x y r) s) ∧ Below w.heap.size w wr') (fun _ i _ => 13 - (intOf i).toNat)
      case atStart => exact ⟨0, Nat.zero_le _, rfl, rfl, HB.out⟩
      case round =>
        obtain ⟨s, hs, rfl, rfl, hB2⟩ := hrel
        have HB2 := Lib.hid hB2
        clear hB2
        by_cases hlt2 : s < 13
        · have hltJ : (s : Int) < 13 := by omega
          have HX := Lib.hid (fun w' => has_any x r hlt w')
          have HY := Lib.hid (fun w' => has_any y s hlt2 w')
          cases hx : bitB x r
          · rw [hx] at HX
            have NX := Lib.hid (folIn_no (c := cmpN) (acc := folOut cmpN x y r) (show (bitB x r && bitB y s) = false by rw [hx]; rfl))
            go_wp2_with fail
            (go_at_call 34; refine (HX.out _).mono ?_; rintro e w1 ⟨rfl, rfl⟩)
            go_wp2_with fail
            go_roundw
            case rel => exact ⟨s + 1, by omega, by go_num, by rw [NX.out], HB2.out⟩
            case measure => simp [intOf]; omega
          · rw [hx] at HX
            cases hy : bitB y s
            · rw [hy] at HY
              have NX := Lib.hid (folIn_no (c := cmpN) (acc := folOut cmpN x y r) (show (bitB x r && bitB y s) = false by rw [hx, hy]; rfl))
              go_wp2_with fail
              (go_at_call 34; refine (HX.out _).mono ?_; rintro e w1 ⟨rfl, rfl⟩)
              go_wp2_with fail
              (go_at_call 34; refine (HY.out _).mono ?_; rintro e w2 ⟨rfl, rfl⟩)
              go_wp2_with fail
              go_roundw
              case rel => exact ⟨s + 1, by omega, by go_num, by rw [NX.out], HB2.out⟩
              case measure => simp [intOf]; omega
            · rw [hy] at HY
              have NX := Lib.hid (folIn_yes (c := cmpN) (acc := folOut cmpN x y r) (show (bitB x r && bitB y s) = true by rw [hx, hy]; rfl))
              have OR := Lib.hid (or_nat (folIn_lt cmpN_lt x y r (folOut cmpN x y r) s (folOut_lt cmpN_lt x y r)) (cmpN_lt r s))
              go_wp2_with fail
              (go_at_call 34; refine (HX.out _).mono ?_; rintro e w1 ⟨rfl, rfl⟩)
              go_wp2_with fail
              (go_at_call 34; refine (HY.out _).mono ?_; rintro e w2 ⟨rfl, rfl⟩)
              go_wp2_with fail
              (go_at_call 17; refine (compose_nat r s hlt hlt2 _ (HT.out.below HT.out.1 HB2.out)).mono ?_; rintro e w3 ⟨rfl, hb3⟩)
              go_wp2_with fail
              go_roundw
              case rel => exact ⟨s + 1, by omega, by go_num, by rw [NX.out, ← OR.out], chain HB2.out hb3⟩
              case measure => simp [intOf]; omega
        · obtain rfl : s = 13 := by omega
          go_wp2_with fail
          go_roundw
          case rel => exact ⟨r + 1, by omega, by go_num, rfl, HB2.out⟩
          case measure => simp [intOf]; omega
    · obtain rfl : r = 13 := by omega
      go_wp2_with fail
      go_ret
      exact ⟨rfl, HB.out⟩

set_option maxHeartbeats 2000000 in
theorem wfollow_any (x y : Int) (w : World) (g : Nat) (hT : Comp w g) :
    Ret 35 #[.int .i64 x, .int .i64 y, Value.func (Fn.func 42) #[.pointer (some ⟨g, 0, none⟩)] #[]] w (.int .i64 (followI x y)) := by
  have HT := Lib.hid hT
  clear hT
  go_enter Tryd.func35, Tryd.ntmps35
  go_wp2_with fail
  go_loopw [7, 10] (fun v i wr => ∃ r : Nat, r ≤ 13 ∧ i = .int .i64 r ∧ v = .int .i64 (folOut cmpN x y r) ∧ Below w.heap.size w wr) (fun _ i _ => 13 - (intOf i).toNat)
  case atStart => exact ⟨0, Nat.zero_le _, rfl, rfl, bl _⟩
  case round =>
    obtain ⟨r, hr, rfl, rfl, hB⟩ := hrel
    have HB := Lib.hid hB
    clear hB
    by_cases hlt : r < 13
    · have hltI : (r : Int) < 13 := by omega
      go_wp2_with fail
      go_loopw [7, 13] (fun v i wr' => ∃ s : Nat, s ≤ 13 ∧ i = .int .i64 s ∧ v = .int .i64 (folIn cmpN x y r (folOut cmpN x y r) s) ∧ Below w.heap.size w wr') (fun _ i _ => 13 - (intOf i).toNat)
      case atStart => exact ⟨0, Nat.zero_le _, rfl, rfl, HB.out⟩
      case round =>
        obtain ⟨s, hs, rfl, rfl, hB2⟩ := hrel
        have HB2 := Lib.hid hB2
        clear hB2
        by_cases hlt2 : s < 13
        · have hltJ : (s : Int) < 13 := by omega
          have HX := Lib.hid (fun w' => has_any x r hlt w')
          have HY := Lib.hid (fun w' => has_any y s hlt2 w')
          cases hx : bitB x r
          · rw [hx] at HX
            have NX := Lib.hid (folIn_no (c := cmpN) (acc := folOut cmpN x y r) (show (bitB x r && bitB y s) = false by rw [hx]; rfl))
            go_wp2_with fail
            (go_at_call 34; refine (HX.out _).mono ?_; rintro e w1 ⟨rfl, rfl⟩)
            go_wp2_with fail
            go_roundw
            case rel => exact ⟨s + 1, by omega, by go_num, by rw [NX.out], HB2.out⟩
            case measure => simp [intOf]; omega
          · rw [hx] at HX
            cases hy : bitB y s
            · rw [hy] at HY
              have NX := Lib.hid (folIn_no (c := cmpN) (acc := folOut cmpN x y r) (show (bitB x r && bitB y s) = false by rw [hx, hy]; rfl))
              go_wp2_with fail
              (go_at_call 34; refine (HX.out _).mono ?_; rintro e w1 ⟨rfl, rfl⟩)
              go_wp2_with fail
              (go_at_call 34; refine (HY.out _).mono ?_; rintro e w2 ⟨rfl, rfl⟩)
              go_wp2_with fail
              go_roundw
              case rel => exact ⟨s + 1, by omega, by go_num, by rw [NX.out], HB2.out⟩
              case measure => simp [intOf]; omega
            · rw [hy] at HY
              have NX := Lib.hid (folIn_yes (c := cmpN) (acc := folOut cmpN x y r) (show (bitB x r && bitB y s) = true by rw [hx, hy]; rfl))
              have OR := Lib.hid (or_nat (folIn_lt cmpN_lt x y r (folOut cmpN x y r) s (folOut_lt cmpN_lt x y r)) (cmpN_lt r s))
              go_wp2_with fail
              (go_at_call 34; refine (HX.out _).mono ?_; rintro e w1 ⟨rfl, rfl⟩)
              go_wp2_with fail
              (go_at_call 34; refine (HY.out _).mono ?_; rintro e w2 ⟨rfl, rfl⟩)
              go_wp2_with fail
              (go_at_call 42; refine (wcompose_any r s hlt hlt2 _ g (HT.out.below HT.out.1 HB2.out)).mono ?_; rintro e w3 ⟨rfl, hb3⟩; have hb3 := hb3 ▸ bl w3)
              go_wp2_with fail
              go_roundw
              case rel => exact ⟨s + 1, by omega, by go_num, by rw [NX.out, ← OR.out], chain HB2.out hb3⟩
              case measure => simp [intOf]; omega
        · obtain rfl : s = 13 := by omega
          go_wp2_with fail
          go_roundw
          case rel => exact ⟨r + 1, by omega, by go_num, rfl, HB2.out⟩
          case measure => simp [intOf]; omega
    · obtain rfl : r = 13 := by omega
      go_wp2_with fail
      go_ret
      exact ⟨rfl, HB.out⟩

theorem Follow_any (x y : Int) (w : World) (hT : Tab w) : Ret 22 #[.int .i64 x, .int .i64 y] w (.int .i64 (followI x y)) := by
  go_enter Tryd.func22, Tryd.ntmps22
  go_wp2_with fail
  (go_at_call 35; refine (follow_any x y _ hT).mono ?_; rintro e w1 ⟨rfl, hb1⟩)
  go_wp2_with fail
  go_ret
  exact ⟨rfl, hb1⟩

end Go.Proofs.YtegmegapkfbkeaaDoor
