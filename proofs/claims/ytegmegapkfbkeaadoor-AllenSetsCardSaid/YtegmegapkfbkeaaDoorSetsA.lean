/-
  The law AllenSets, walked: for any two numbers it gives back true.
-/
import Derived.Test.YtegmegapkfbkeaaDoorFollow
import Derived.Test.YtegmegapkfbkeaaDoorTable
import Derived.Test.YtegmegapkfbkeaaDoorNames
namespace Go.Proofs.YtegmegapkfbkeaaDoor
open Go.RowKit

set_option maxHeartbeats 4000000 in
theorem sets_walk (x y : Int) (w : World) (hT : Tab w) : Ret 6 #[.int .i64 x, .int .i64 y] w (.bool true) := by
  have HT := Lib.hid hT
  have TF := Lib.hid (turn_follow x y)
  clear hT
  go_enter Tryd.func6, Tryd.ntmps6
  go_wp2_with fail
  (go_at_call 16; refine (table_any _).mono ?_; rintro e w1 ⟨g, T, rfl, hA, hC, hg, hb1⟩)
  have HA := Lib.hid hA
  have HC := Lib.hid hC
  have HB1 := Lib.hid hb1
  have HT1 := Lib.hid (HT.out.below HT.out.1 hb1)
  clear hA hC hg hb1
  go_wp2_with fail
  (go_at_call 20; refine (turn_any x _).mono ?_; rintro e w2 ⟨rfl, rfl⟩)
  go_wp2_with fail
  (go_at_call 21; refine (dturn_any x _).mono ?_; rintro e w3 ⟨rfl, rfl⟩)
  go_wp2_with fail
  (go_at_call 22; refine (Follow_any x y _ HT1.out).mono ?_; rintro e w4 ⟨rfl, hb4⟩)
  have HT4 := Lib.hid (HT1.out.below HT1.out.1 hb4)
  have HB4 := Lib.hid (chain HB1.out hb4)
  have HA4 := Lib.hid (HA.out.below HA.out.1 hb4)
  clear hb4
  go_wp2_with fail
  (go_at_call 23; refine (dfollow_any x y _ g T HA4.out HC.out).mono ?_; rintro e w5 ⟨rfl, rfl⟩)
  go_wp2_with fail
  (go_at_call 22; refine (Follow_any x y _ HT4.out).mono ?_; rintro e w6 ⟨rfl, hb6⟩)
  have HT6 := Lib.hid (HT4.out.below HT4.out.1 hb6)
  have HB6 := Lib.hid (chain HB4.out hb6)
  clear hb6
  go_wp2_with fail
  (go_at_call 20; refine (turn_any _ _).mono ?_; rintro e w7 ⟨rfl, rfl⟩)
  rw [TF.out]
  go_wp2_with fail
  (go_at_call 20; refine (turn_any y _).mono ?_; rintro e w8 ⟨rfl, rfl⟩)
  go_wp2_with fail
  (go_at_call 20; refine (turn_any x _).mono ?_; rintro e w9 ⟨rfl, rfl⟩)
  go_wp2_with fail
  (go_at_call 22; refine (Follow_any _ _ _ HT6.out).mono ?_; rintro e wa ⟨rfl, hba⟩)
  have HTa := Lib.hid (HT6.out.below HT6.out.1 hba)
  have HBa := Lib.hid (chain HB6.out hba)
  clear hba
  go_wp2_with fail
  (go_at_call 15; refine (alive_any _ HTa.out).mono ?_; rintro e wb ⟨rfl, hbb⟩)
  go_wp2_with fail
  go_ret
  exact ⟨rfl, chain HBa.out hbb⟩

end Go.Proofs.YtegmegapkfbkeaaDoor
