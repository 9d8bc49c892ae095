/-
  The law AllenTells, walked: for any two spans and any number it gives back true.
-/
import Derived.Test.YtegmegapkfbkeaaDoorNames
namespace Go.Proofs.YtegmegapkfbkeaaDoor
open Go.RowKit

theorem both_comm (a b c d : Int) : bothB c d a b = bothB a b c d := by simp [bothB, Bool.and_comm]

set_option maxHeartbeats 4000000 in
theorem tells_walk (a b c d n : Int) (hlo : -9223372036854775808 ≤ n) (hhi : n ≤ 9223372036854775807) (w : World) (hT : Tab w) : Ret 3 #[sp a b, sp c d, .int .i64 n] w (.bool true) := by
  have HT := Lib.hid hT
  clear hT
  cases hB : bothB a b c d <;> cases hn : relB n
  all_goals
    go_enter Tryd.func3, Tryd.ntmps3
    go_wp2_with fail
    refine (of_any a b c d _ (HT.out.below HT.out.1 (by go_grown))).mono ?_; rintro e w1 ⟨rfl, hb1⟩
    have k0 := (hb1.cell (p := ⟨w.heap.size, 0, none⟩) (by simp; omega)).trans (by simp [go_sem]; rfl)
    have k1 := (hb1.cell (p := ⟨w.heap.size, 1, none⟩) (by simp; omega)).trans (by simp [go_sem]; rfl)
    have k2 := (hb1.cell (p := ⟨w.heap.size + 1, 0, none⟩) (by simp)).trans (by simp [go_sem]; rfl)
    have k3 := (hb1.cell (p := ⟨w.heap.size + 1, 1, none⟩) (by simp)).trans (by simp [go_sem]; rfl)
    have hz := hb1.size
    simp at hz
    have B1 : Below w.heap.size w w1 := (((Below.refl w.heap.size w).alloc (Nat.le_refl _) _).alloc (by simp) _).trans (hb1.mono (by simp; omega))
    go_wp2_with fail
    refine (dof_any a b c d _).mono ?_; rintro e w2 ⟨rfl, hb2⟩
    have k0 := (hb2.cell (p := ⟨w.heap.size, 0, none⟩) (by simp; omega)).trans k0
    have k1 := (hb2.cell (p := ⟨w.heap.size, 1, none⟩) (by simp; omega)).trans k1
    have k2 := (hb2.cell (p := ⟨w.heap.size + 1, 0, none⟩) (by simp; omega)).trans k2
    have k3 := (hb2.cell (p := ⟨w.heap.size + 1, 1, none⟩) (by simp; omega)).trans k3
    have hz2 := hb2.size
    have B2 := B1.trans (hb2.mono (by omega))
    have HT2 := Lib.hid (HT.out.below HT.out.1 B2)
    go_wp2_with fail
    refine (of_any c d a b _ HT2.out).mono ?_; rintro e w3 ⟨rfl, hb3⟩
    rw [both_comm a b c d, hB]
    have B3 := B2.trans (hb3.mono (by omega))
    have HT3 := Lib.hid (HT.out.below HT.out.1 B3)
    have HB3 := Lib.hid B3
    clear B1 B2 B3 hb1 hb2 hb3 k0 k1 k2 k3 hz hz2
    simp only [ofI, hB, both_comm a b c d]
  · go_wp2_with fail
    (go_at_call 12; refine (name_any n _ HT3.out).mono ?_; rintro e w4 ⟨rfl, rfl⟩)
    go_wp2_with fail
    (go_at_call 13; refine (dname_any n _).mono ?_; rintro e w5 ⟨rfl, hb5⟩)
    have HT5 := Lib.hid (HT3.out.below HT3.out.1 hb5)
    go_wp2_with fail
    (go_at_call 14; refine (is_any n _).mono ?_; rintro e w6 ⟨rfl, rfl⟩)
    rw [hn]
    go_wp2_with fail
    (go_at_call 11; refine (back_any n _).mono ?_; rintro e w7 ⟨rfl, rfl⟩)
    rw [show backI n = -1 by simp [backI, hn]]
    go_wp2_with fail
    (go_at_call 15; refine (alive_any _ HT5.out).mono ?_; rintro e w8 ⟨rfl, hb8⟩)
    go_wp2_with fail
    go_ret
    exact ⟨rfl, chain (chain HB3.out hb5) hb8⟩
  · have hn' : 0 ≤ n ∧ n ≤ 12 := by simpa [relB] using hn
    have hn1 := hn'.1
    have hn2 := hn'.2
    clear hn'
    go_wp2_with fail
    (go_at_call 12; refine (name_any n _ HT3.out).mono ?_; rintro e w4 ⟨rfl, rfl⟩)
    go_wp2_with fail
    (go_at_call 13; refine (dname_any n _).mono ?_; rintro e w5 ⟨rfl, hb5⟩)
    have HT5 := Lib.hid (HT3.out.below HT3.out.1 hb5)
    go_wp2_with fail
    (go_at_call 14; refine (is_any n _).mono ?_; rintro e w6 ⟨rfl, rfl⟩)
    rw [hn]
    go_wp2_with fail
    (go_at_call 11; refine (back_any n _).mono ?_; rintro e w7 ⟨rfl, rfl⟩)
    rw [show backI n = 12 - n by simp [backI, hn]]
    go_wp2_with fail
    (go_at_call 15; refine (alive_any _ HT5.out).mono ?_; rintro e w8 ⟨rfl, hb8⟩)
    go_wp2_with fail
    go_ret
    exact ⟨rfl, chain (chain HB3.out hb5) hb8⟩
  all_goals
    have hlt := both_lt hB
    have hrb : backI (relI a b c d) = relI c d a b := by
      have := rel_lt hlt.1 hlt.2
      rw [rel_back hlt.1 hlt.2]; simp [backI, relB, this]
    clear hlt
    simp only [if_true]
    go_wp2_with fail
    (go_at_call 11; refine (back_any _ _).mono ?_; rintro e w4 ⟨rfl, rfl⟩)
    rw [hrb]
    go_wp2_with fail
    (go_at_call 12; refine (name_any n _ HT3.out).mono ?_; rintro e w4 ⟨rfl, rfl⟩)
    go_wp2_with fail
    (go_at_call 13; refine (dname_any n _).mono ?_; rintro e w5 ⟨rfl, hb5⟩)
    have HT5 := Lib.hid (HT3.out.below HT3.out.1 hb5)
    go_wp2_with fail
    (go_at_call 14; refine (is_any n _).mono ?_; rintro e w6 ⟨rfl, rfl⟩)
    rw [hn]
    go_wp2_with fail
    (go_at_call 11; refine (back_any n _).mono ?_; rintro e w7 ⟨rfl, rfl⟩)
  · rw [show backI n = -1 by simp [backI, hn]]
    go_wp2_with fail
    (go_at_call 15; refine (alive_any _ HT5.out).mono ?_; rintro e w8 ⟨rfl, hb8⟩)
    go_wp2_with fail
    go_ret
    exact ⟨rfl, chain (chain HB3.out hb5) hb8⟩
  · have hn' : 0 ≤ n ∧ n ≤ 12 := by simpa [relB] using hn
    have hn1 := hn'.1
    have hn2 := hn'.2
    clear hn'
    rw [show backI n = 12 - n by simp [backI, hn]]
    go_wp2_with fail
    (go_at_call 15; refine (alive_any _ HT5.out).mono ?_; rintro e w8 ⟨rfl, hb8⟩)
    go_wp2_with fail
    go_ret
    exact ⟨rfl, chain (chain HB3.out hb5) hb8⟩

end Go.Proofs.YtegmegapkfbkeaaDoor
