/-
  What the document's Hull gives back for any spans: as span.Hull does.
-/
import Derived.Test.YtaobmlkbhdonkaaHull
namespace Go.Proofs.Ytaobmlkbhdonkaa
open Go.RowKit

theorem belowN {B : Nat} {a w : World} (h : Below B a w) (n : Nat) : Below B a (w.drewN n) := ⟨h.os, h.tape, h.output, h.size, h.block⟩

set_option maxHeartbeats 2000000 in
theorem dhull_any (w : World) (A : Option Addr) (c : Nat) (l : List (Int × Int)) (hl : Spans w A l) (hn : l.length ≤ 9223372036854775806) :
    Calls Try.prog 24 #[.slice A l.length c] w fun e w' => e = .returned (.tuple #[sp (hullSt l).2.1 (hullSt l).2.2, .bool (hullSt l).1]) ∧ Below w.heap.size w w' := by
  have HL := Lib.hid hl
  clear hl
  obtain ⟨n, hnm⟩ : ∃ n, n = l.length := ⟨_, rfl⟩
  rw [← hnm]
  have hn' : n ≤ 9223372036854775806 := by omega
  have HN := Lib.hid hnm
  clear hnm hn
  go_enter Try.func24, Try.ntmps24
  go_wp2_with fail
  go_loopw [5, 6] (fun fnd i wr => ∃ k : Nat, k ≤ n ∧ i = .int .i64 k ∧ HullRel w (hullSt (l.take k)) fnd wr) (fun _ i _ => n - (intOf i).toNat)
  case atStart => exact ⟨0, Nat.zero_le _, rfl, rfl, by simpa [hullSt] using heap_alloc_new (w.alloc (.cells #[.int .i64 0, .int .i64 0] 23)) (.cells #[.int .i64 0, .int .i64 0] 23), (Below.refl _ _).alloc (by simp) _⟩
  case round =>
    obtain ⟨k, hk, rfl, rfl, hH, hB⟩ := hrel
    obtain ⟨⟨fd, x, y⟩, hst⟩ : ∃ s, hullSt (l.take k) = s := ⟨_, rfl⟩
    rw [hst] at hH ⊢
    have HST := Lib.hid hst
    clear hst
    simp only at hH
    have ch0 := blk0 hH
    have ch1 := blk1 hH
    have hsr : w.heap.size + 1 < wr.heap.size := lt_of_cell ch0
    by_cases hlt : k < n
    · obtain ⟨⟨f, t⟩, hp⟩ : ∃ p, l[k]? = some p := ⟨_, List.getElem?_eq_getElem (by have := HN.out; omega)⟩
      obtain ⟨g, off, rfl, c0, c1⟩ := HL.out k _ hp
      have hg := lt_of_cell c0
      have d0 : wr.cell? ⟨g, off + k * 2, none⟩ = some (.int .i64 f) := ((hB.cell (p := ⟨g, off + k * 2, none⟩) (by simp; omega)).trans (World.cell?_alloc_lt _ _ _ hg)).trans c0
      have d1 : wr.cell? ⟨g, off + k * 2 + 1, none⟩ = some (.int .i64 t) := ((hB.cell (p := ⟨g, off + k * 2 + 1, none⟩) (by simp; omega)).trans (World.cell?_alloc_lt _ _ _ hg)).trans c1
      have hnx := hullSt_snoc hp
      rw [HST.out] at hnx
      have HNX := Lib.hid hnx
      have hgne : g ≠ w.heap.size + 1 := by omega
      clear hnx c0 c1 hp
      cases hr : rightB f t
      · go_wp2_with (go_at_call 9; refine (dright_any _ _ _).mono ?_; rintro e w1 ⟨rfl, hb1⟩)
        go_roundw
        case rel => exact ⟨k + 1, by omega, by go_num, by rw [HNX.out]; simp [hullStep, hr], by rw [HNX.out]; simpa [hullStep, hr] using blk_below hH hb1 hsr, hB.trans (hb1.mono (by omega))⟩
        case measure => simp [intOf]; omega
      · cases fd
        · -- the first right one
          go_wp2_with fail
          (go_at_call 9; refine (dright_any _ _ _).mono ?_; rintro e w1 ⟨rfl, hb1⟩)
          have hH1 := blk_below hH hb1 hsr
          have cz0 := blk0 hH1
          have cz1 := blk1 hH1
          have fz0 := blkf hH1 0
          have fz1 := blkf hH1 1
          have hs1 := hb1.size
          have e0 := keepc' hb1 d0
          have e1 := keepc' hb1 d1
          go_wp2_with fail
          go_quiet (fail)
          go_wp2_with fail
          go_quiet (fail)
          go_wp2_with fail
          go_roundw
          case rel => exact ⟨k + 1, by omega, by go_num, by rw [HNX.out]; simp [hullStep, hr], by rw [HNX.out]; simp only [hullStep, hr, if_true]; exact blk_set1 (blk_set0 hH1 _) _, (belowN ((belowN (hB.trans (hb1.mono (by omega))) _).setCell (by simp) _) _).setCell (by simp) _⟩
          case measure => simp [intOf]; omega
        · by_cases m0 : f < x
          · by_cases m1 : y < t
            · have ex : min x f = f := by omega
              have ey : max y t = t := by omega
              have EX := Lib.hid ex
              have EY := Lib.hid ey
              clear ex ey
              go_wp2_with fail
              (go_at_call 9; refine (dright_any _ _ _).mono ?_; rintro e w1 ⟨rfl, hb1⟩)
              have hH1 := blk_below hH hb1 hsr
              have cz0 := blk0 hH1
              have cz1 := blk1 hH1
              have fz0 := blkf hH1 0
              have fz1 := blkf hH1 1
              have hs1 := hb1.size
              have e0 := keepc' hb1 d0
              have e1 := keepc' hb1 d1
              go_wp2_with fail
              go_quiet (fail)
              go_wp2_with fail
              go_quiet (fail)
              go_wp2_with fail
              go_roundw
              case rel => exact ⟨k + 1, by omega, by go_num, by rw [HNX.out]; simp [hullStep, hr], by rw [HNX.out]; simp only [hullStep, hr, if_true]; rw [EX.out, EY.out]; exact blk_set1 (blk_set0 hH1 _) _, (belowN ((belowN (hB.trans (hb1.mono (by omega))) _).setCell (by simp) _) _).setCell (by simp) _⟩
              case measure => simp [intOf]; omega
            · have ex : min x f = f := by omega
              have ey : max y t = y := by omega
              have EX := Lib.hid ex
              have EY := Lib.hid ey
              have m1' : decide (y < t) = false := by simpa using m1
              clear ex ey
              go_wp2_with fail
              (go_at_call 9; refine (dright_any _ _ _).mono ?_; rintro e w1 ⟨rfl, hb1⟩)
              have hH1 := blk_below hH hb1 hsr
              have cz0 := blk0 hH1
              have cz1 := blk1 hH1
              have fz0 := blkf hH1 0
              have fz1 := blkf hH1 1
              have hs1 := hb1.size
              have e0 := keepc' hb1 d0
              have e1 := keepc' hb1 d1
              go_wp2_with fail
              go_quiet (fail)
              go_wp2_with fail
              go_quiet (fail)
              go_wp2_with fail
              go_roundw
              case rel => exact ⟨k + 1, by omega, by go_num, by rw [HNX.out]; simp [hullStep, hr], by rw [HNX.out]; simp only [hullStep, hr, if_true]; rw [EX.out, EY.out]; exact blk_set0 hH1 _, belowN ((belowN (hB.trans (hb1.mono (by omega))) _).setCell (by simp) _) _⟩
              case measure => simp [intOf]; omega
          · have m0' : decide (f < x) = false := by simpa using m0
            by_cases m1 : y < t
            · have ex : min x f = x := by omega
              have ey : max y t = t := by omega
              have EX := Lib.hid ex
              have EY := Lib.hid ey
              clear ex ey
              go_wp2_with fail
              (go_at_call 9; refine (dright_any _ _ _).mono ?_; rintro e w1 ⟨rfl, hb1⟩)
              have hH1 := blk_below hH hb1 hsr
              have cz0 := blk0 hH1
              have cz1 := blk1 hH1
              have fz0 := blkf hH1 0
              have fz1 := blkf hH1 1
              have hs1 := hb1.size
              have e0 := keepc' hb1 d0
              have e1 := keepc' hb1 d1
              go_wp2_with fail
              go_quiet (fail)
              go_wp2_with fail
              go_quiet (fail)
              go_wp2_with fail
              go_roundw
              case rel => exact ⟨k + 1, by omega, by go_num, by rw [HNX.out]; simp [hullStep, hr], by rw [HNX.out]; simp only [hullStep, hr, if_true]; rw [EX.out, EY.out]; exact blk_set1 hH1 _, (belowN (hB.trans (hb1.mono (by omega))) _).setCell (by simp) _⟩
              case measure => simp [intOf]; omega
            · have ex : min x f = x := by omega
              have ey : max y t = y := by omega
              have EX := Lib.hid ex
              have EY := Lib.hid ey
              have m1' : decide (y < t) = false := by simpa using m1
              clear ex ey
              go_wp2_with fail
              (go_at_call 9; refine (dright_any _ _ _).mono ?_; rintro e w1 ⟨rfl, hb1⟩)
              have hH1 := blk_below hH hb1 hsr
              have cz0 := blk0 hH1
              have cz1 := blk1 hH1
              have fz0 := blkf hH1 0
              have fz1 := blkf hH1 1
              have hs1 := hb1.size
              have e0 := keepc' hb1 d0
              have e1 := keepc' hb1 d1
              go_wp2_with fail
              go_quiet (fail)
              go_wp2_with fail
              go_quiet (fail)
              go_wp2_with fail
              go_roundw
              case rel => exact ⟨k + 1, by omega, by go_num, by rw [HNX.out]; simp [hullStep, hr], by rw [HNX.out]; simp only [hullStep, hr, if_true]; rw [EX.out, EY.out]; exact hH1, belowN (hB.trans (hb1.mono (by omega))) _⟩
              case measure => simp [intOf]; omega
    · have hall : hullSt l = (fd, x, y) := by rw [← HST.out, List.take_of_length_le (by have := HN.out; omega)]
      have cr0 : wr.cell? ⟨w.heap.size, 0, none⟩ = some (.int .i64 0) := (hB.cell (p := ⟨w.heap.size, 0, none⟩) (by simp)).trans (by simp [go_sem])
      have cr1 : wr.cell? ⟨w.heap.size, 1, none⟩ = some (.int .i64 0) := (hB.cell (p := ⟨w.heap.size, 1, none⟩) (by simp)).trans (by simp [go_sem])
      have fr0 : wr.frozen? ⟨w.heap.size, 0, none⟩ = false := (hB.frozen (p := ⟨w.heap.size, 0, none⟩) (by simp)).trans (by simp [go_sem])
      have fr1 : wr.frozen? ⟨w.heap.size, 1, none⟩ = false := (hB.frozen (p := ⟨w.heap.size, 1, none⟩) (by simp)).trans (by simp [go_sem])
      obtain ⟨q0, q1⟩ := two_set (.int .i64 x) (.int .i64 y) cr0 cr1
      have HALL := Lib.hid hall
      clear hall
      go_wp2_with fail
      refine bodyPost_ret (v := .tuple #[sp x y, .bool fd]) (by simp [results, Try.results24, go_sem, q0, q1]) rfl ⟨by rw [HALL.out], ?_⟩
      exact ((((Below.refl _ _).alloc (Nat.le_refl _) _).trans (hB.mono (by omega))).setCell (by simp) _).setCell (by simp) _

end Go.Proofs.Ytaobmlkbhdonkaa
