/-
  The law AllenSound, walked: for any three spans it gives back true.
-/
import Derived.Test.YtegmegapkfbkeaaDoorNames
namespace Go.Proofs.YtegmegapkfbkeaaDoor
open Go.RowKit

/-- Three spans in three new blocks. -/
def Three (w : World) (g : Nat) (a b c d e f : Int) : Prop := w.cell? ⟨g, 0, none⟩ = some (.int .i64 a) ∧ w.cell? ⟨g, 1, none⟩ = some (.int .i64 b) ∧ w.cell? ⟨g + 1, 0, none⟩ = some (.int .i64 c) ∧ w.cell? ⟨g + 1, 1, none⟩ = some (.int .i64 d) ∧
  w.cell? ⟨g + 1 + 1, 0, none⟩ = some (.int .i64 e) ∧ w.cell? ⟨g + 1 + 1, 1, none⟩ = some (.int .i64 f) ∧ g + 1 + 1 < w.heap.size
theorem Three.below {W w : World} {g : Nat} {a b c d e f : Int} (h : Three W g a b c d e f) (hb : Below W.heap.size W w) : Three w g a b c d e f := by
  obtain ⟨h0, h1, h2, h3, h4, h5, h6⟩ := h
  exact ⟨(hb.cell (p := ⟨_, _, none⟩) (by simp; omega)).trans h0, (hb.cell (p := ⟨_, _, none⟩) (by simp; omega)).trans h1, (hb.cell (p := ⟨_, _, none⟩) (by simp; omega)).trans h2, (hb.cell (p := ⟨_, _, none⟩) (by simp; omega)).trans h3,
    (hb.cell (p := ⟨_, _, none⟩) (by simp; omega)).trans h4, (hb.cell (p := ⟨_, _, none⟩) (by simp; omega)).trans h5, Nat.lt_of_lt_of_le h6 hb.size⟩

set_option maxHeartbeats 8000000 in
theorem sound_walk (a b c d e f : Int) (w : World) (hT : Tab w) : Ret 5 #[sp a b, sp c d, sp e f] w (.bool true) := by
  have HT := Lib.hid hT
  clear hT
  cases ra : rightB a b <;> cases rc : rightB c d <;> cases re : rightB e f
  all_goals
    go_enter Tryd.func5, Tryd.ntmps5
    go_wp2_with fail
    have T0 : Three (((w.alloc (.cells #[.int .i64 a, .int .i64 b] 23)).alloc (.cells #[.int .i64 c, .int .i64 d] 23)).alloc (.cells #[.int .i64 e, .int .i64 f] 23)) w.heap.size a b c d e f := by
      unfold Three; simp [go_sem]
    have B0 : Below w.heap.size w (((w.alloc (.cells #[.int .i64 a, .int .i64 b] 23)).alloc (.cells #[.int .i64 c, .int .i64 d] 23)).alloc (.cells #[.int .i64 e, .int .i64 f] 23)) := by go_grown
    refine (of_any a b c d _ (HT.out.below HT.out.1 B0)).mono ?_; rintro er w1 ⟨rfl, hb1⟩
    have T1 := T0.below hb1
    have B1 := chain B0 hb1
    obtain ⟨k0, k1, k2, k3, k4, k5, _⟩ := T1
    clear T0 B0 hb1
    have T1 := Lib.hid (show Three w1 w.heap.size a b c d e f from ⟨k0, k1, k2, k3, k4, k5, by assumption⟩)
    have B1 := Lib.hid B1
    go_wp2_with fail
    refine (of_any c d e f _ (HT.out.below HT.out.1 B1.out)).mono ?_; rintro er w2 ⟨rfl, hb2⟩
    clear k0 k1 k2 k3 k4 k5
    have T2 := T1.out.below hb2
    have B2 := Lib.hid (chain B1.out hb2)
    obtain ⟨k0, k1, k2, k3, k4, k5, _⟩ := T2
    have T2 := Lib.hid (show Three w2 w.heap.size a b c d e f from ⟨k0, k1, k2, k3, k4, k5, by assumption⟩)
    clear hb2 T1 B1
    go_wp2_with fail
    refine (of_any a b e f _ (HT.out.below HT.out.1 B2.out)).mono ?_; rintro er w3 ⟨rfl, hb3⟩
    clear k0 k1 k2 k3 k4 k5
    have T3 := T2.out.below hb3
    have B3 := Lib.hid (chain B2.out hb3)
    obtain ⟨k0, k1, k2, k3, k4, k5, _⟩ := T3
    have T3 := Lib.hid (show Three w3 w.heap.size a b c d e f from ⟨k0, k1, k2, k3, k4, k5, by assumption⟩)
    clear hb3 T2 B2
    simp only [ofI, bothB, ra, rc, re, Bool.and_true, Bool.and_false, Bool.false_and, if_true, if_false, Bool.false_eq_true]
    go_wp2_with fail
    (go_at_call 18; refine (dright_any a b _).mono ?_; rintro er w4 ⟨rfl, hb4⟩)
    rw [ra]
    clear k0 k1 k2 k3 k4 k5
    have T4 := T3.out.below hb4
    have B4 := Lib.hid (chain B3.out hb4)
    obtain ⟨k0, k1, k2, k3, k4, k5, _⟩ := T4
    have T4 := Lib.hid (show Three w4 w.heap.size a b c d e f from ⟨k0, k1, k2, k3, k4, k5, by assumption⟩)
    clear hb4 T3 B3
    go_wp2_with fail
  iterate 4
    · (go_at_call 15; refine (alive_any _ (HT.out.below HT.out.1 B4.out)).mono ?_; rintro er w5 ⟨rfl, hb5⟩)
      go_wp2_with fail
      go_ret
      exact ⟨rfl, chain B4.out hb5⟩
  all_goals
    (go_at_call 18; refine (dright_any c d _).mono ?_; rintro er w5 ⟨rfl, hb5⟩)
    rw [rc]
    clear k0 k1 k2 k3 k4 k5
    have T5 := T4.out.below hb5
    have B5 := Lib.hid (chain B4.out hb5)
    obtain ⟨k0, k1, k2, k3, k4, k5, _⟩ := T5
    have T5 := Lib.hid (show Three w5 w.heap.size a b c d e f from ⟨k0, k1, k2, k3, k4, k5, by assumption⟩)
    clear hb5 T4 B4
    go_wp2_with fail
  iterate 2
    · (go_at_call 15; refine (alive_any _ (HT.out.below HT.out.1 B5.out)).mono ?_; rintro er w6 ⟨rfl, hb6⟩)
      go_wp2_with fail
      go_ret
      exact ⟨rfl, chain B5.out hb6⟩
  all_goals
    (go_at_call 18; refine (dright_any e f _).mono ?_; rintro er w6 ⟨rfl, hb6⟩)
    rw [re]
    clear k0 k1 k2 k3 k4 k5
    have B6 := Lib.hid (chain B5.out hb6)
    clear hb6 T5 B5
  · go_wp2_with fail
    (go_at_call 15; refine (alive_any _ (HT.out.below HT.out.1 B6.out)).mono ?_; rintro er w7 ⟨rfl, hb7⟩)
    go_wp2_with fail
    go_ret
    exact ⟨rfl, chain B6.out hb7⟩
  · have la := (right_yes ra).2.1
    have lc := (right_yes rc).2.1
    have le := (right_yes re).2.1
    obtain ⟨r, hr, er1, _⟩ := ends_rel la lc
    obtain ⟨s, hs, er2, _⟩ := ends_rel lc le
    obtain ⟨t, ht, er3, _⟩ := ends_rel la le
    have SND := Lib.hid (sound la lc le er1 er2 er3)
    rw [er1, er2, er3]
    clear la lc le er1 er2 er3
    go_wp2_with fail
    (go_at_call 17; refine (compose_nat r s hr hs _ (HT.out.below HT.out.1 B6.out)).mono ?_; rintro er w7 ⟨rfl, hb7⟩)
    have B7 := Lib.hid (chain B6.out hb7)
    clear hb7
    go_wp2_with fail
    (go_at_call 19; refine (in_any _ t ht _).mono ?_; rintro er w8 ⟨rfl, rfl⟩)
    rw [bitB_nat, SND.out]
    go_wp2_with fail
    (go_at_call 15; refine (alive_any _ (HT.out.below HT.out.1 B7.out)).mono ?_; rintro er w9 ⟨rfl, hb9⟩)
    go_wp2_with fail
    go_ret
    exact ⟨rfl, chain B7.out hb9⟩

end Go.Proofs.YtegmegapkfbkeaaDoor
