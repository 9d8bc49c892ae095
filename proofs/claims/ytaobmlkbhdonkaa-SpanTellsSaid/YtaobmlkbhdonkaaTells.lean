/-
  SpanTells is true for any two spans and any time: Right, Make, Has, Long and Compare of span are as the document says.
-/
import Derived.Test.YtaobmlkbhdonkaaAlive
import Derived.Deep.RegionHeld3
namespace Go.Proofs.Ytaobmlkbhdonkaa
open Go.RowKit

/-- Which of two spans is ahead. -/
def cmpI (a b c d : Int) : Int := if a < c then -1 else if c < a then 1 else if b < d then -1 else if d < b then 1 else 0

theorem cmp_ne {a b c d : Int} (h : ¬ a = c) : Lib.compareInt a c = cmpI a b c d := by
  unfold Lib.compareInt cmpI
  (repeat' split) <;> omega

set_option maxHeartbeats 800000 in
theorem compare_any (a b c d : Int) (w : World) :
    Calls Try.prog 15 #[sp a b, sp c d] w fun e w' => e = .returned (.int .i64 (cmpI a b c d)) ∧ Below w.heap.size w w' := by
  by_cases h1 : a = c
  · subst h1
    by_cases h2 : b = d
    · subst h2
      go_enter Try.func15, Try.ntmps15
      go_wp2_with fail
      go_ret
      exact ⟨ret_int (by simp [cmpI]), by go_grown⟩
    · have e0 : (b == d) = false := by simpa using h2
      go_enter Try.func15, Try.ntmps15
      go_wp2_with (go_at_call 27; refine (Try.cmp_Compare_int _ _ _).mono ?_; rintro e w1 ⟨rfl, rfl⟩)
      go_ret
      exact ⟨ret_int (by simp [cmpI, Lib.compareInt]), by go_grown⟩
  · have e0 : (a == c) = false := by simpa using h1
    go_enter Try.func15, Try.ntmps15
    go_wp2_with (go_at_call 27; refine (Try.cmp_Compare_int _ _ _).mono ?_; rintro e w1 ⟨rfl, rfl⟩)
    go_ret
    exact ⟨ret_int (cmp_ne h1), by go_grown⟩

set_option maxHeartbeats 800000 in
theorem dcompare_any (a b c d : Int) (w : World) :
    Calls Try.prog 16 #[sp a b, sp c d] w fun e w' => e = .returned (.int .i64 (cmpI a b c d)) ∧ Below w.heap.size w w' := by
  by_cases h1 : a < c
  · go_enter Try.func16, Try.ntmps16
    go_wp2_with fail
    go_ret
    exact ⟨ret_int (by simp [cmpI, h1]), by go_grown⟩
  · by_cases h2 : a = c
    · subst h2
      by_cases h3 : b < d
      · go_enter Try.func16, Try.ntmps16
        go_wp2_with fail
        go_ret
        exact ⟨ret_int (by simp [cmpI, h3]), by go_grown⟩
      · by_cases h4 : b = d
        · subst h4
          go_enter Try.func16, Try.ntmps16
          go_wp2_with fail
          go_ret
          exact ⟨ret_int (by simp [cmpI]), by go_grown⟩
        · have e0 : (b == d) = false := by simpa using h4
          go_enter Try.func16, Try.ntmps16
          go_wp2_with fail
          go_ret
          exact ⟨ret_int (by unfold cmpI; rw [if_neg (by omega), if_neg (by omega), if_neg (by omega), if_pos (by omega)]), by go_grown⟩
    · have e0 : (a == c) = false := by simpa using h2
      go_enter Try.func16, Try.ntmps16
      go_wp2_with fail
      go_ret
      exact ⟨ret_int (by unfold cmpI; rw [if_neg (by omega), if_pos (by omega)]), by go_grown⟩

/-- Two steps, each of which makes new blocks alone. -/
theorem chain {W w w1 : World} (h : Below W.heap.size W w) (hb : Below w.heap.size w w1) : Below W.heap.size W w1 := h.trans (hb.mono h.size)

set_option maxHeartbeats 4000000 in
theorem tells_walk (a b c d t : Int) (w : World) :
    Calls Try.prog 3 #[sp a b, sp c d, .int .i64 t] w fun e w' => e = .returned (.bool true) ∧ Below w.heap.size w w' := by
  cases hr : rightB a b
  · have eF : madeF a b = 0 := by simp [madeF, hr]
    have eT : madeT a b = 0 := by simp [madeT, hr]
    have eE : madeE a b = 3 := by simp [madeE, hr]
    go_enter Try.func3, Try.ntmps3
    go_wp2_with fail
    (go_at_call 8; refine (make_any _ _ _).mono ?_; rintro e w1 ⟨rfl, hb⟩)
    rw [eF, eT, eE]
    have hs1 : w.heap.size + 1 < w1.heap.size := by have := hb.size; simp at this; omega
    have ca0 : w1.cell? ⟨w.heap.size, 0, none⟩ = some (.int .i64 a) := (hb.cell (p := ⟨w.heap.size, 0, none⟩) (by simp; omega)).trans (by simp [go_sem])
    have ca1 : w1.cell? ⟨w.heap.size, 1, none⟩ = some (.int .i64 b) := (hb.cell (p := ⟨w.heap.size, 1, none⟩) (by simp; omega)).trans (by simp [go_sem])
    have cb0 : w1.cell? ⟨w.heap.size + 1, 0, none⟩ = some (.int .i64 c) := (hb.cell (p := ⟨w.heap.size + 1, 0, none⟩) (by simp)).trans (by simp [go_sem])
    have cb1 : w1.cell? ⟨w.heap.size + 1, 1, none⟩ = some (.int .i64 d) := (hb.cell (p := ⟨w.heap.size + 1, 1, none⟩) (by simp)).trans (by simp [go_sem])
    have hz0 : w.heap.size < w1.heap.size := by omega
    go_wp2_with fail
    (go_at_call 9; refine (dright_any _ _ _).mono ?_; rintro e w2 ⟨rfl, hb2⟩)
    have hs2 : w1.heap.size + 1 < w2.heap.size := by have := hb2.size; simp at this; omega
    have k : ∀ g o, g < w1.heap.size → w2.cell? ⟨g, o, none⟩ = w1.cell? ⟨g, o, none⟩ := fun g o hg => (hb2.cell (p := ⟨g, o, none⟩) (by simp; omega)).trans (by rw [World.cell?_alloc_lt _ _ _ (by simp; omega), World.cell?_alloc_lt _ _ _ (by simp; omega)])
    have k2 : ∀ g o, g < w1.heap.size + 1 + 1 → w2.cell? ⟨g, o, none⟩ = ((w1.alloc (.cells #[.int .i64 0, .int .i64 0] 23)).alloc (.cells #[.int .i64 a, .int .i64 b] 23)).cell? ⟨g, o, none⟩ := fun g o hg => hb2.cell (p := ⟨g, o, none⟩) (by simp; omega)
    have da0 := (k _ _ hz0).trans ca0
    have da1 := (k _ _ hz0).trans ca1
    have db0 := (k _ _ hs1).trans cb0
    have db1 := (k _ _ hs1).trans cb1
    have dx0 : w2.cell? ⟨w1.heap.size, 0, none⟩ = some (.int .i64 0) := (k2 _ _ (by omega)).trans (by simp [go_sem])
    have dx1 : w2.cell? ⟨w1.heap.size, 1, none⟩ = some (.int .i64 0) := (k2 _ _ (by omega)).trans (by simp [go_sem])
    have dy0 : w2.cell? ⟨w1.heap.size + 1, 0, none⟩ = some (.int .i64 a) := (k2 _ _ (by omega)).trans (by simp [go_sem])
    have dy1 : w2.cell? ⟨w1.heap.size + 1, 1, none⟩ = some (.int .i64 b) := (k2 _ _ (by omega)).trans (by simp [go_sem])
    have fy0 : w2.frozen? ⟨w1.heap.size + 1, 0, none⟩ = false := (hb2.frozen (p := ⟨w1.heap.size + 1, 0, none⟩) (by simp)).trans (by simp [go_sem])
    have fy1 : w2.frozen? ⟨w1.heap.size + 1, 1, none⟩ = false := (hb2.frozen (p := ⟨w1.heap.size + 1, 1, none⟩) (by simp)).trans (by simp [go_sem])
    clear k k2 ca0 ca1 cb0 cb1
    obtain ⟨q0, q1⟩ := two_set (.int .i64 0) (.int .i64 0) dy0 dy1
    obtain ⟨W, hW⟩ : ∃ W, (w2.setCell ⟨w1.heap.size + 1, 0, none⟩ (.int .i64 0)).setCell ⟨w1.heap.size + 1, 1, none⟩ (.int .i64 0) = W := ⟨_, rfl⟩
    have hw : Below w.heap.size w W := by
      rw [← hW]
      exact ((((((Below.refl _ _).alloc (Nat.le_refl _) _).alloc (by simp) _).trans (hb.mono (by simp; omega))).trans ((((Below.refl _ _).alloc (by omega) _).alloc (by simp; omega) _).trans (hb2.mono (by simp; omega)))).setCell (by simp; omega) _).setCell (by simp; omega) _
    have hWs : W.heap.size = w2.heap.size := by rw [← hW]; simp
    have far : ∀ g o, g < w1.heap.size + 1 → W.cell? ⟨g, o, none⟩ = w2.cell? ⟨g, o, none⟩ := fun g o hg => by
      rw [← hW, World.cell?_setCell_other _ _ _ _ (by intro e; injection e; omega), World.cell?_setCell_other _ _ _ _ (by intro e; injection e; omega)]
    have r0 : W.cell? ⟨w1.heap.size + 1, 0, none⟩ = some (.int .i64 0) := by rw [← hW, World.cell?_setCell_other _ _ _ _ (by simp)]; exact q0
    have r1 : W.cell? ⟨w1.heap.size + 1, 1, none⟩ = some (.int .i64 0) := by rw [← hW]; exact q1
    have mk : ∀ w', Below W.heap.size W w' → (Below W.heap.size W w' ∧ w'.cell? ⟨w.heap.size, 0, none⟩ = some (.int .i64 a) ∧ w'.cell? ⟨w.heap.size, 1, none⟩ = some (.int .i64 b) ∧ w'.cell? ⟨w.heap.size + 1, 0, none⟩ = some (.int .i64 c) ∧ w'.cell? ⟨w.heap.size + 1, 1, none⟩ = some (.int .i64 d) ∧ w'.cell? ⟨w1.heap.size, 0, none⟩ = some (.int .i64 0) ∧ w'.cell? ⟨w1.heap.size, 1, none⟩ = some (.int .i64 0) ∧ w'.cell? ⟨w1.heap.size + 1, 0, none⟩ = some (.int .i64 0) ∧ w'.cell? ⟨w1.heap.size + 1, 1, none⟩ = some (.int .i64 0)) := fun w' h => by
      have k : ∀ g o, g < w1.heap.size + 1 + 1 → w'.cell? ⟨g, o, none⟩ = W.cell? ⟨g, o, none⟩ := fun g o hg => h.cell (p := ⟨g, o, none⟩) (by simp; omega)
      exact ⟨h, ((k _ _ (by omega)).trans (far _ _ (by omega))).trans da0, ((k _ _ (by omega)).trans (far _ _ (by omega))).trans da1, ((k _ _ (by omega)).trans (far _ _ (by omega))).trans db0, ((k _ _ (by omega)).trans (far _ _ (by omega))).trans db1,
        ((k _ _ (by omega)).trans (far _ _ (by omega))).trans dx0, ((k _ _ (by omega)).trans (far _ _ (by omega))).trans dx1, (k _ _ (by omega)).trans r0, (k _ _ (by omega)).trans r1⟩
    have MK := Lib.hid mk
    have HW := Lib.hid hW
    clear mk hW far r0 r1 q0 q1 hWs
    go_wp2_with fail
    rw [HW.out]
    clear da0 da1 db0 db1 dx0 dx1 dy0 dy1 fy0 fy1
    go_region_held3 (fun w' => Below W.heap.size W w' ∧ w'.cell? ⟨w.heap.size, 0, none⟩ = some (.int .i64 a) ∧ w'.cell? ⟨w.heap.size, 1, none⟩ = some (.int .i64 b) ∧ w'.cell? ⟨w.heap.size + 1, 0, none⟩ = some (.int .i64 c) ∧ w'.cell? ⟨w.heap.size + 1, 1, none⟩ = some (.int .i64 d) ∧ w'.cell? ⟨w1.heap.size, 0, none⟩ = some (.int .i64 0) ∧ w'.cell? ⟨w1.heap.size, 1, none⟩ = some (.int .i64 0) ∧ w'.cell? ⟨w1.heap.size + 1, 0, none⟩ = some (.int .i64 0) ∧ w'.cell? ⟨w1.heap.size + 1, 1, none⟩ = some (.int .i64 0))
      (first | exact MK.out _ ((Below.refl _ _).drew) | (go_split_ands; exact MK.out _ (chain (by assumption) hb3)))
      (first
        | (go_at_call 10; refine (right_any _ _ _).mono ?_; rintro e w3 ⟨rfl, hb3⟩)
        | (go_at_call 9; refine (dright_any _ _ _).mono ?_; rintro e w3 ⟨rfl, hb3⟩)
        | (go_at_call 11; refine (has_any _ _ _ _).mono ?_; rintro e w3 ⟨rfl, hb3⟩)
        | (go_at_call 12; refine (dhas_any _ _ _ _).mono ?_; rintro e w3 ⟨rfl, hb3⟩)
        | (go_at_call 13; refine (long_any _ _ _).mono ?_; rintro e w3 ⟨rfl, hb3⟩)
        | (go_at_call 14; refine (dlong_any _ _ _).mono ?_; rintro e w3 ⟨rfl, hb3⟩)
        | (go_at_call 15; refine (compare_any _ _ _ _ _).mono ?_; rintro e w3 ⟨rfl, hb3⟩)
        | (go_at_call 16; refine (dcompare_any _ _ _ _ _).mono ?_; rintro e w3 ⟨rfl, hb3⟩)
        | (go_at_call 17; refine (alive_any _).mono ?_; rintro e w3 ⟨rfl, hb3⟩))
    have hfin : Below W.heap.size W w3 := by go_split_ands; assumption
    go_wp2_with fail
    go_ret
    exact ⟨rfl, chain hw hfin⟩
  · have eF : madeF a b = a := by simp [madeF, hr]
    have eT : madeT a b = b := by simp [madeT, hr]
    have eE : madeE a b = 0 := by simp [madeE, hr]
    go_enter Try.func3, Try.ntmps3
    go_wp2_with fail
    (go_at_call 8; refine (make_any _ _ _).mono ?_; rintro e w1 ⟨rfl, hb⟩)
    rw [eF, eT, eE]
    have hs1 : w.heap.size + 1 < w1.heap.size := by have := hb.size; simp at this; omega
    have ca0 : w1.cell? ⟨w.heap.size, 0, none⟩ = some (.int .i64 a) := (hb.cell (p := ⟨w.heap.size, 0, none⟩) (by simp; omega)).trans (by simp [go_sem])
    have ca1 : w1.cell? ⟨w.heap.size, 1, none⟩ = some (.int .i64 b) := (hb.cell (p := ⟨w.heap.size, 1, none⟩) (by simp; omega)).trans (by simp [go_sem])
    have cb0 : w1.cell? ⟨w.heap.size + 1, 0, none⟩ = some (.int .i64 c) := (hb.cell (p := ⟨w.heap.size + 1, 0, none⟩) (by simp)).trans (by simp [go_sem])
    have cb1 : w1.cell? ⟨w.heap.size + 1, 1, none⟩ = some (.int .i64 d) := (hb.cell (p := ⟨w.heap.size + 1, 1, none⟩) (by simp)).trans (by simp [go_sem])
    have hz0 : w.heap.size < w1.heap.size := by omega
    go_wp2_with fail
    (go_at_call 9; refine (dright_any _ _ _).mono ?_; rintro e w2 ⟨rfl, hb2⟩)
    have hw : Below w.heap.size w w2 := ((((Below.refl _ _).alloc (Nat.le_refl _) _).alloc (by simp) _).trans (hb.mono (by simp; omega))).trans ((((Below.refl _ _).alloc (by omega) _).alloc (by simp; omega) _).trans (hb2.mono (by simp; omega)))
    have hs2 : w1.heap.size + 1 < w2.heap.size := by have := hb2.size; simp at this; omega
    have mk : ∀ w', Below w2.heap.size w2 w' → (Below w2.heap.size w2 w' ∧ w'.cell? ⟨w.heap.size, 0, none⟩ = some (.int .i64 a) ∧ w'.cell? ⟨w.heap.size, 1, none⟩ = some (.int .i64 b) ∧ w'.cell? ⟨w.heap.size + 1, 0, none⟩ = some (.int .i64 c) ∧ w'.cell? ⟨w.heap.size + 1, 1, none⟩ = some (.int .i64 d) ∧ w'.cell? ⟨w1.heap.size, 0, none⟩ = some (.int .i64 a) ∧ w'.cell? ⟨w1.heap.size, 1, none⟩ = some (.int .i64 b) ∧ w'.cell? ⟨w1.heap.size + 1, 0, none⟩ = some (.int .i64 a) ∧ w'.cell? ⟨w1.heap.size + 1, 1, none⟩ = some (.int .i64 b)) := fun w' h => by
      have k : ∀ g o, g < w1.heap.size → w'.cell? ⟨g, o, none⟩ = w1.cell? ⟨g, o, none⟩ := fun g o hg => ((h.cell (p := ⟨g, o, none⟩) (by simp; omega)).trans (hb2.cell (p := ⟨g, o, none⟩) (by simp; omega))).trans (by rw [World.cell?_alloc_lt _ _ _ (by simp; omega), World.cell?_alloc_lt _ _ _ (by simp; omega)])
      have k2 : ∀ g o, g < w1.heap.size + 1 + 1 → w'.cell? ⟨g, o, none⟩ = ((w1.alloc (.cells #[.int .i64 a, .int .i64 b] 23)).alloc (.cells #[.int .i64 a, .int .i64 b] 23)).cell? ⟨g, o, none⟩ := fun g o hg => (h.cell (p := ⟨g, o, none⟩) (by simp; omega)).trans (hb2.cell (p := ⟨g, o, none⟩) (by simp; omega))
      exact ⟨h, (k _ _ hz0).trans ca0, (k _ _ hz0).trans ca1, (k _ _ hs1).trans cb0, (k _ _ hs1).trans cb1, (k2 _ _ (by omega)).trans (by simp [go_sem]), (k2 _ _ (by omega)).trans (by simp [go_sem]), (k2 _ _ (by omega)).trans (by simp [go_sem]), (k2 _ _ (by omega)).trans (by simp [go_sem])⟩
    have MK := Lib.hid mk
    clear mk ca0 ca1 cb0 cb1
    go_wp2_with fail
    go_region_held3 (fun w' => Below w2.heap.size w2 w' ∧ w'.cell? ⟨w.heap.size, 0, none⟩ = some (.int .i64 a) ∧ w'.cell? ⟨w.heap.size, 1, none⟩ = some (.int .i64 b) ∧ w'.cell? ⟨w.heap.size + 1, 0, none⟩ = some (.int .i64 c) ∧ w'.cell? ⟨w.heap.size + 1, 1, none⟩ = some (.int .i64 d) ∧ w'.cell? ⟨w1.heap.size, 0, none⟩ = some (.int .i64 a) ∧ w'.cell? ⟨w1.heap.size, 1, none⟩ = some (.int .i64 b) ∧ w'.cell? ⟨w1.heap.size + 1, 0, none⟩ = some (.int .i64 a) ∧ w'.cell? ⟨w1.heap.size + 1, 1, none⟩ = some (.int .i64 b))
      (first | exact MK.out _ ((Below.refl _ _).drew) | (go_split_ands; exact MK.out _ (chain (by assumption) hb3)))
      (first
        | (go_at_call 10; refine (right_any _ _ _).mono ?_; rintro e w3 ⟨rfl, hb3⟩)
        | (go_at_call 9; refine (dright_any _ _ _).mono ?_; rintro e w3 ⟨rfl, hb3⟩)
        | (go_at_call 11; refine (has_any _ _ _ _).mono ?_; rintro e w3 ⟨rfl, hb3⟩)
        | (go_at_call 12; refine (dhas_any _ _ _ _).mono ?_; rintro e w3 ⟨rfl, hb3⟩)
        | (go_at_call 13; refine (long_any _ _ _).mono ?_; rintro e w3 ⟨rfl, hb3⟩)
        | (go_at_call 14; refine (dlong_any _ _ _).mono ?_; rintro e w3 ⟨rfl, hb3⟩)
        | (go_at_call 15; refine (compare_any _ _ _ _ _).mono ?_; rintro e w3 ⟨rfl, hb3⟩)
        | (go_at_call 16; refine (dcompare_any _ _ _ _ _).mono ?_; rintro e w3 ⟨rfl, hb3⟩)
        | (go_at_call 17; refine (alive_any _).mono ?_; rintro e w3 ⟨rfl, hb3⟩))
    have hfin : Below w2.heap.size w2 w3 := by go_split_ands; assumption
    go_wp2_with fail
    go_ret
    exact ⟨rfl, chain hw hfin⟩

end Go.Proofs.Ytaobmlkbhdonkaa
