/-
  The law AllenComposes, walked: for any two numbers it gives back true.
-/
import Derived.Test.YtegmegapkfbkeaaDoorTable
import Derived.Test.YtegmegapkfbkeaaDoorNames
namespace Go.Proofs.YtegmegapkfbkeaaDoor
open Go.RowKit

set_option maxHeartbeats 4000000 in
theorem composes_walk (r s : Int) (w : World) (hT : Tab w) : Ret 4 #[.int .i64 r, .int .i64 s] w (.bool true) := by
  have HT := Lib.hid hT
  clear hT
  cases kr : relB r
  · have C0 := Lib.hid (show cmpI r s = 0 by simp [cmpI, kr])
    go_enter Tryd.func4, Tryd.ntmps4
    go_wp2_with fail
    refine (is_any _ _).mono ?_; rintro e w1 ⟨rfl, rfl⟩
    rw [kr]
    go_wp2_with fail
    (go_at_call 17; refine (compose_any r s _ HT.out).mono ?_; rintro e w2 ⟨rfl, hb2⟩)
    rw [C0.out]
    go_wp2_with fail
    (go_at_call 15; refine (alive_any _ (HT.out.below HT.out.1 hb2)).mono ?_; rintro e w3 ⟨rfl, hb3⟩)
    go_wp2_with fail
    go_ret
    exact ⟨rfl, chain hb2 hb3⟩
  · cases ks : relB s
    · have C0 := Lib.hid (show cmpI r s = 0 by simp [cmpI, ks])
      go_enter Tryd.func4, Tryd.ntmps4
      go_wp2_with fail
      refine (is_any _ _).mono ?_; rintro e w1 ⟨rfl, rfl⟩
      rw [kr]
      go_wp2_with fail
      refine (is_any _ _).mono ?_; rintro e w1 ⟨rfl, rfl⟩
      rw [ks]
      go_wp2_with fail
      (go_at_call 17; refine (compose_any r s _ HT.out).mono ?_; rintro e w2 ⟨rfl, hb2⟩)
      rw [C0.out]
      go_wp2_with fail
      (go_at_call 15; refine (alive_any _ (HT.out.below HT.out.1 hb2)).mono ?_; rintro e w3 ⟨rfl, hb3⟩)
      go_wp2_with fail
      go_ret
      exact ⟨rfl, chain hb2 hb3⟩
    · have hr : 0 ≤ r ∧ r ≤ 12 := by simpa [relB] using kr
      have hs : 0 ≤ s ∧ s ≤ 12 := by simpa [relB] using ks
      obtain ⟨r, rfl⟩ := Int.eq_ofNat_of_zero_le hr.1
      obtain ⟨s, rfl⟩ := Int.eq_ofNat_of_zero_le hs.1
      have hr1 : r < 13 := by omega
      have hs1 : s < 13 := by omega
      have v1 : IntKind.i64.wrap (13 * (r : Int)) = 13 * (r : Int) := by rw [IntKind.wrap_i64]; omega
      have v2 : IntKind.i64.wrap (13 * (r : Int) + (s : Int)) = ((13 * r + s : Nat) : Int) := by rw [IntKind.wrap_i64]; omega
      have lp : ((13 * r + s : Nat) : Int) < 169 := by omega
      have lq : 13 * r + s < 169 := by omega
      clear hr hs
      go_enter Tryd.func4, Tryd.ntmps4
      go_wp2_with fail
      refine (is_any _ _).mono ?_; rintro e w1 ⟨rfl, rfl⟩
      rw [kr]
      go_wp2_with fail
      refine (is_any _ _).mono ?_; rintro e w1 ⟨rfl, rfl⟩
      rw [ks]
      clear kr ks
      go_wp2_with fail
      (go_at_call 16; refine (table_any _).mono ?_; rintro e w2 ⟨g, T, rfl, hA, hC, hg, hb2⟩)
      have c0 := (hA.2 (13 * r + s) lq).1
      rw [hC r s hr1 hs1] at c0
      have HT2 := Lib.hid (HT.out.below HT.out.1 hb2)
      have HB2 := Lib.hid hb2
      clear hA hC hg hb2
      generalize 13 * r + s = pp at *
      go_wp2_with fail
      (go_at_call 17; refine (compose_nat r s hr1 hs1 _ HT2.out).mono ?_; rintro e w3 ⟨rfl, hb3⟩)
      go_wp2_with fail
      (go_at_call 15; refine (alive_any _ (HT2.out.below HT2.out.1 hb3)).mono ?_; rintro e w4 ⟨rfl, hb4⟩)
      go_wp2_with fail
      go_ret
      exact ⟨rfl, chain HB2.out (chain hb3 hb4)⟩

end Go.Proofs.YtegmegapkfbkeaaDoor
