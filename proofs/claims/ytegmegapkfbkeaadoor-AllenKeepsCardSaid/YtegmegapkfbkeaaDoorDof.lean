/-
  How two spans lie, by the document: Of.
-/
import Derived.Test.YtegmegapkfbkeaaDoorHalf
import Derived.Deep.Light
namespace Go.Proofs.YtegmegapkfbkeaaDoor
open Go.RowKit

def bothB (a b c d : Int) : Bool := rightB a b && rightB c d
def ofI (a b c d : Int) : Int := if bothB a b c d then relI a b c d else 0
theorem halfI_range (a b c d : Int) : -1 ≤ halfI a b c d ∧ halfI a b c d ≤ 6 := by
  unfold halfI
  repeat' split
  all_goals omega

theorem ret_two {a b : Int} {x y : Bool} (h : a = b) (k : x = y) : Ending.returned (.tuple #[.int .i64 a, .bool x]) = .returned (.tuple #[.int .i64 b, .bool y]) := by rw [h, k]

set_option maxHeartbeats 1000000 in
theorem dof_any (a b c d : Int) (w : World) : Ret 10 #[sp a b, sp c d] w (.tuple #[.int .i64 (ofI a b c d), .bool (bothB a b c d)]) := by
  have h1 := (halfI_range a b c d).1
  have h2 := (halfI_range a b c d).2
  have h3 := (halfI_range c d a b).1
  have h4 := (halfI_range c d a b).2
  cases hr : rightB a b
  · go_enter Tryd.func10, Tryd.ntmps10
    go_wp2_with fail
    refine (dright_any _ _ _).mono ?_; rintro e w1 ⟨rfl, hb⟩
    rw [hr]
    go_wp2_with fail
    go_ret2
    exact ⟨ret_two (by simp [ofI, bothB, hr]) (by simp [bothB, hr]), (((Below.refl _ _).alloc (Nat.le_refl _) _).alloc (by simp) _).trans (hb.mono (by simp; omega))⟩
  · cases hs : rightB c d
    · go_enter Tryd.func10, Tryd.ntmps10
      go_wp2_with fail
      refine (dright_any _ _ _).mono ?_; rintro e w1 ⟨rfl, hb⟩
      obtain ⟨hc, hf⟩ := bcell hb
      have hz := hb.size
      simp at hz
      rw [hr]
      go_wp2_with fail
      refine (dright_any _ _ _).mono ?_; rintro e w2 ⟨rfl, hb2⟩
      rw [hs]
      go_wp2_with fail
      go_ret2
      exact ⟨ret_two (by simp [ofI, bothB, hs]) (by simp [bothB, hs]), ((((Below.refl _ _).alloc (Nat.le_refl _) _).alloc (by simp) _).trans (hb.mono (by simp; omega))).trans (hb2.mono (by omega))⟩
    · by_cases hn : halfI a b c d < 0
      all_goals
        go_enter Tryd.func10, Tryd.ntmps10
        go_wp2_with fail
        refine (dright_any _ _ _).mono ?_; rintro e w1 ⟨rfl, hb⟩
        have k0 := (hb.cell (p := ⟨w.heap.size, 0, none⟩) (by simp; omega)).trans (by simp [go_sem]; rfl)
        have k1 := (hb.cell (p := ⟨w.heap.size, 1, none⟩) (by simp; omega)).trans (by simp [go_sem]; rfl)
        have k2 := (hb.cell (p := ⟨w.heap.size + 1, 0, none⟩) (by simp)).trans (by simp [go_sem]; rfl)
        have k3 := (hb.cell (p := ⟨w.heap.size + 1, 1, none⟩) (by simp)).trans (by simp [go_sem]; rfl)
        have hz := hb.size
        simp at hz
        rw [hr]
        go_wp2_with fail
        refine (dright_any _ _ _).mono ?_; rintro e w2 ⟨rfl, hb2⟩
        have k0 := (hb2.cell (p := ⟨w.heap.size, 0, none⟩) (by simp; omega)).trans k0
        have k1 := (hb2.cell (p := ⟨w.heap.size, 1, none⟩) (by simp; omega)).trans k1
        have k2 := (hb2.cell (p := ⟨w.heap.size + 1, 0, none⟩) (by simp; omega)).trans k2
        have k3 := (hb2.cell (p := ⟨w.heap.size + 1, 1, none⟩) (by simp; omega)).trans k3
        have hz2 := hb2.size
        rw [hs]
        go_wp2_with fail
        refine (half_any _ _ _ _ _).mono ?_; rintro e w3 ⟨rfl, hb3⟩
        have k0 := (hb3.cell (p := ⟨w.heap.size, 0, none⟩) (by simp; omega)).trans k0
        have k1 := (hb3.cell (p := ⟨w.heap.size, 1, none⟩) (by simp; omega)).trans k1
        have k2 := (hb3.cell (p := ⟨w.heap.size + 1, 0, none⟩) (by simp; omega)).trans k2
        have k3 := (hb3.cell (p := ⟨w.heap.size + 1, 1, none⟩) (by simp; omega)).trans k3
        have hz3 := hb3.size
        have B3 := Lib.hid (((((Below.refl w.heap.size w).alloc (Nat.le_refl _) _).alloc (by simp) _).trans (hb.mono (by simp; omega))).trans ((hb2.mono (by omega)).trans (hb3.mono (by omega))))
        clear hb hb2 hb3
        go_wp2_with fail
      · refine (half_any _ _ _ _ _).mono ?_; rintro e w4 ⟨rfl, hb4⟩
        go_wp2_with fail
        go_ret2
        exact ⟨ret_two (by simp [ofI, bothB, hr, hs, relI, hn]) (by simp [bothB, hr, hs]), B3.out.trans (hb4.mono (by omega))⟩
      · go_ret2
        exact ⟨ret_two (by simp [ofI, bothB, hr, hs, relI]; omega) (by simp [bothB, hr, hs]), B3.out⟩

end Go.Proofs.YtegmegapkfbkeaaDoor
