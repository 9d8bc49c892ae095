/-
  How two spans lie, by the program: Of, where the table of the relations lies as its text lays it.
-/
import Derived.Test.YtegmegapkfbkeaaDoorSigns
import Derived.Deep.Light
import Derived.Deep.CutRange
import Derived.ChangeKeysEq
namespace Go.Proofs.YtegmegapkfbkeaaDoor
open Go.RowKit

def nameL : List ByteArray := [⟨#[98, 101, 102, 111, 114, 101]⟩, ⟨#[109, 101, 101, 116, 115]⟩, ⟨#[111, 118, 101, 114, 108, 97, 112, 115]⟩, ⟨#[115, 116, 97, 114, 116, 115]⟩, ⟨#[100, 117, 114, 105, 110, 103]⟩, ⟨#[102, 105, 110, 105, 115, 104, 101, 115]⟩, ⟨#[101, 113, 117, 97, 108, 115]⟩, ⟨#[102, 105, 110, 105, 115, 104, 101, 100]⟩, ⟨#[99, 111, 110, 116, 97, 105, 110, 115]⟩, ⟨#[115, 116, 97, 114, 116, 101, 100]⟩, ⟨#[111, 118, 101, 114, 108, 97, 112, 112, 101, 100]⟩, ⟨#[109, 101, 116]⟩, ⟨#[97, 102, 116, 101, 114]⟩]
/-- The table of the relations lies in the first package-level variable. -/
def Tab (w : World) : Prop := 0 < w.heap.size ∧ ∀ r, r < 13 →
  w.cell? ⟨0, r * 5, none⟩ = some (.string (nameL.getD r ⟨#[]⟩)) ∧ w.cell? ⟨0, r * 5 + 1, none⟩ = some (.int .i64 (ends r 0)) ∧ w.cell? ⟨0, r * 5 + 2, none⟩ = some (.int .i64 (ends r 1)) ∧
  w.cell? ⟨0, r * 5 + 3, none⟩ = some (.int .i64 (ends r 2)) ∧ w.cell? ⟨0, r * 5 + 4, none⟩ = some (.int .i64 (ends r 3))
theorem Tab.below {W w : World} {n : Nat} (h : Tab W) (hn : 0 < n) (hb : Below n W w) : Tab w :=
  ⟨Nat.lt_of_lt_of_le h.1 hb.size, fun r hr => by
    obtain ⟨a, b, c, d, e⟩ := h.2 r hr
    exact ⟨(hb.cell (p := ⟨0, _, none⟩) hn).trans a, (hb.cell (p := ⟨0, _, none⟩) hn).trans b, (hb.cell (p := ⟨0, _, none⟩) hn).trans c, (hb.cell (p := ⟨0, _, none⟩) hn).trans d, (hb.cell (p := ⟨0, _, none⟩) hn).trans e⟩⟩

theorem below_alloc {W w : World} (h : Below W.heap.size W w) (o : Obj) : Below W.heap.size W (w.alloc o) := h.alloc h.size _
/-- A block of four numbers, from the place B on. -/
def Quad (B : Nat) (w : World) (g : Nat) (p q r s : Int) : Prop := w.cell? ⟨g, 0, none⟩ = some (.int .i64 p) ∧ w.cell? ⟨g, 1, none⟩ = some (.int .i64 q) ∧ w.cell? ⟨g, 2, none⟩ = some (.int .i64 r) ∧ w.cell? ⟨g, 3, none⟩ = some (.int .i64 s) ∧
  w.frozen? ⟨g, 0, none⟩ = false ∧ w.frozen? ⟨g, 1, none⟩ = false ∧ w.frozen? ⟨g, 2, none⟩ = false ∧ w.frozen? ⟨g, 3, none⟩ = false ∧ g < w.heap.size ∧ B ≤ g
theorem Quad.below {B : Nat} {W w : World} {g : Nat} {p q r s : Int} (h : Quad B W g p q r s) (hb : Below W.heap.size W w) : Quad B w g p q r s := by
  obtain ⟨a, b, c, d, e, f, i, j, k, l⟩ := h
  exact ⟨(hb.cell (p := ⟨g, _, none⟩) k).trans a, (hb.cell (p := ⟨g, _, none⟩) k).trans b, (hb.cell (p := ⟨g, _, none⟩) k).trans c, (hb.cell (p := ⟨g, _, none⟩) k).trans d,
    (hb.frozen (p := ⟨g, _, none⟩) k).trans e, (hb.frozen (p := ⟨g, _, none⟩) k).trans f, (hb.frozen (p := ⟨g, _, none⟩) k).trans i, (hb.frozen (p := ⟨g, _, none⟩) k).trans j, Nat.lt_of_lt_of_le k hb.size, l⟩
theorem quad_alloc {W w : World} (h : Below W.heap.size W w) (t : Nat) : Quad W.heap.size (w.alloc (.cells #[.int .i64 0, .int .i64 0, .int .i64 0, .int .i64 0] t)) w.heap.size 0 0 0 0 := by
  unfold Quad
  have := h.size
  simp [go_sem, this]
abbrev put4 (w : World) (g : Nat) (p q r s : Int) : World := (((w.setCell ⟨g, 0, none⟩ (.int .i64 p)).setCell ⟨g, 1, none⟩ (.int .i64 q)).setCell ⟨g, 2, none⟩ (.int .i64 r)).setCell ⟨g, 3, none⟩ (.int .i64 s)
theorem below_quad {W w : World} {g : Nat} (h : Below W.heap.size W w) (hg : W.heap.size ≤ g) (p q r s : Int) : Below W.heap.size W (put4 w g p q r s) := (((h.setCell hg _).setCell hg _).setCell hg _).setCell hg _
theorem below_quad_alloc {W w : World} (h : Below W.heap.size W w) (o : Obj) (p q r s : Int) : Below W.heap.size W (put4 (w.alloc o) w.heap.size p q r s) := below_quad (below_alloc h o) h.size p q r s
theorem quad_put {B : Nat} {w : World} {g : Nat} {a b c d : Int} (h : Quad B w g a b c d) (p q r s : Int) : Quad B (put4 w g p q r s) g p q r s := by
  obtain ⟨a, b, c, d, e, f, i, j, k, l⟩ := h
  unfold Quad
  simp [go_sem, a, b, c, d, e, f, i, j, k, l]

theorem Tryd.noGuard : Tryd.prog.eqGuardType Tryd.prog.depth 46 = false := by kernel_rfl
/-- Two arrays of four numbers compared. -/
theorem run_eql4 (w : World) (x0 x1 x2 x3 y0 y1 y2 y3 : Int) : (binOp .eql 46 (.agg #[.int .i64 x0, .int .i64 x1, .int .i64 x2, .int .i64 x3]) (.agg #[.int .i64 y0, .int .i64 y1, .int .i64 y2, .int .i64 y3])).run Tryd.prog w = .ok (.bool (x0 == y0 && x1 == y1 && x2 == y2 && x3 == y3)) w := by
  obtain ⟨i, hi⟩ : ∃ i, Tryd.prog.info? 3 = some i := Option.isSome_iff_exists.1 (by kernel_rfl)
  have hc : Tryd.prog.cellsOf 3 = 1 := by kernel_rfl
  rw [run_eql_struct, run_equalIn_array w 9999 _ _ Tryd.underlying46 hi, hc]
  have h3 := Tryd.underlying3
  by_cases k0 : x0 = y0 <;> by_cases k1 : x1 = y1 <;> by_cases k2 : x2 = y2 <;> by_cases k3 : x3 = y3 <;>
  simp [List.range, List.range.loop, Op.eqItems, part, isAgg, run_underlying h3, run_equalIn_int w 9998 3 .i64 .i64 _ _ h3, k0, k1, k2, k3]

/-- No relation ahead of k has these ends. -/
def NoneTo (p q r s : Int) (k : Nat) : Prop := ∀ j, j < k → ¬ (ends j 0 = p ∧ ends j 1 = q ∧ ends j 2 = r ∧ ends j 3 = s)

theorem below_drewN {n : Nat} {W w : World} (h : Below n W w) (q : Nat) : Below n W (w.drewN q) := h.trans ⟨rfl, rfl, rfl, Nat.le_refl _, fun _ _ => rfl⟩
theorem found {a b c d : Int} {k : Nat} (hr : rightB a b = true) (hs : rightB c d = true) (hk : k < 13) (hh : (ends k 0 == sgn a c && ends k 1 == sgn a d && ends k 2 == sgn b c && ends k 3 == sgn b d) = true) : (k : Int) = ofI a b c d ∧ true = bothB a b c d := by
  have hb : bothB a b c d = true := by simp [bothB, hr, hs]
  obtain ⟨h1, h2⟩ := both_lt hb
  obtain ⟨r, hr', er, r0, r1, r2, r3⟩ := ends_rel h1 h2
  simp only [Bool.and_eq_true, beq_iff_eq] at hh
  have : k = r := ends_inj k r hk hr' (by rw [hh.1.1.1, r0]) (by rw [hh.1.1.2, r1]) (by rw [hh.1.2, r2]) (by rw [hh.2, r3])
  subst this
  exact ⟨by simp [ofI, hb, er], hb.symm⟩
theorem NoneTo.next {p q r s : Int} {k : Nat} (h : NoneTo p q r s k) (hh : (ends k 0 == p && ends k 1 == q && ends k 2 == r && ends k 3 == s) = false) : NoneTo p q r s (k + 1) := fun j hj => by
  by_cases e : j = k
  · subst e
    rintro ⟨rfl, rfl, rfl, rfl⟩
    simp at hh
  · exact h j (by omega)
theorem NoneTo.never {a b c d : Int} (hr : rightB a b = true) (hs : rightB c d = true) (h : NoneTo (sgn a c) (sgn a d) (sgn b c) (sgn b d) 13) : False := by
  obtain ⟨h1, h2⟩ := both_lt (show bothB a b c d = true by simp [bothB, hr, hs])
  obtain ⟨r, hr', er, r0, r1, r2, r3⟩ := ends_rel h1 h2
  exact h r hr' ⟨r0, r1, r2, r3⟩

set_option maxHeartbeats 8000000 in
theorem of_any (a b c d : Int) (w : World) (hT : Tab w) : Ret 9 #[sp a b, sp c d] w (.tuple #[.int .i64 (ofI a b c d), .bool (bothB a b c d)]) := by
  cases hr : rightB a b
  · go_enter Tryd.func9, Tryd.ntmps9
    go_wp2_with fail
    refine (right_any _ _ _).mono ?_; rintro e w1 ⟨rfl, hb⟩
    rw [hr]
    go_wp2_with fail
    go_ret2
    exact ⟨ret_two (by simp [ofI, bothB, hr]) (by simp [bothB, hr]), (((Below.refl _ _).alloc (Nat.le_refl _) _).alloc (by simp) _).trans (hb.mono (by simp; omega))⟩
  · cases hs : rightB c d
    · go_enter Tryd.func9, Tryd.ntmps9
      go_wp2_with fail
      refine (right_any _ _ _).mono ?_; rintro e w1 ⟨rfl, hb⟩
      obtain ⟨hc, hf⟩ := bcell hb
      have hz := hb.size
      simp at hz
      rw [hr]
      go_wp2_with fail
      refine (right_any _ _ _).mono ?_; rintro e w2 ⟨rfl, hb2⟩
      rw [hs]
      go_wp2_with fail
      go_ret2
      exact ⟨ret_two (by simp [ofI, bothB, hs]) (by simp [bothB, hs]), ((((Below.refl _ _).alloc (Nat.le_refl _) _).alloc (by simp) _).trans (hb.mono (by simp; omega))).trans (hb2.mono (by omega))⟩
    · go_enter Tryd.func9, Tryd.ntmps9
      go_wp2_with fail
      refine (right_any _ _ _).mono ?_; rintro e w1 ⟨rfl, hb⟩
      have k0 := (hb.cell (p := ⟨w.heap.size, 0, none⟩) (by simp; omega)).trans (by simp [go_sem]; rfl)
      have k1 := (hb.cell (p := ⟨w.heap.size, 1, none⟩) (by simp; omega)).trans (by simp [go_sem]; rfl)
      have k2 := (hb.cell (p := ⟨w.heap.size + 1, 0, none⟩) (by simp)).trans (by simp [go_sem]; rfl)
      have k3 := (hb.cell (p := ⟨w.heap.size + 1, 1, none⟩) (by simp)).trans (by simp [go_sem]; rfl)
      have hz := hb.size
      simp at hz
      rw [hr]
      go_wp2_with fail
      refine (right_any _ _ _).mono ?_; rintro e w2 ⟨rfl, hb2⟩
      have l0 := (hb2.cell (p := ⟨w.heap.size, 0, none⟩) (by simp; omega)).trans k0
      have l1 := (hb2.cell (p := ⟨w.heap.size, 1, none⟩) (by simp; omega)).trans k1
      have l2 := (hb2.cell (p := ⟨w.heap.size + 1, 0, none⟩) (by simp; omega)).trans k2
      have l3 := (hb2.cell (p := ⟨w.heap.size + 1, 1, none⟩) (by simp; omega)).trans k3
      have hz2 := hb2.size
      have B2 : Below w.heap.size w w2 := ((((Below.refl w.heap.size w).alloc (Nat.le_refl _) _).alloc (by simp) _).trans (hb.mono (by simp; omega))).trans (hb2.mono (by omega))
      have HT := Lib.hid (hT.below hT.1 B2)
      have HB := Lib.hid B2
      have hs1 : w.heap.size + 1 < w2.heap.size := by omega
      have mk : ∀ w', Below w2.heap.size w2 w' → (Below w2.heap.size w2 w' ∧ w'.cell? ⟨w.heap.size, 0, none⟩ = some (.int .i64 a) ∧ w'.cell? ⟨w.heap.size, 1, none⟩ = some (.int .i64 b) ∧ w'.cell? ⟨w.heap.size + 1, 0, none⟩ = some (.int .i64 c) ∧ w'.cell? ⟨w.heap.size + 1, 1, none⟩ = some (.int .i64 d)) := fun w' h =>
        ⟨h, (h.cell (p := ⟨_, _, none⟩) (by simp; omega)).trans l0, (h.cell (p := ⟨_, _, none⟩) (by simp; omega)).trans l1, (h.cell (p := ⟨_, _, none⟩) (by simp; omega)).trans l2, (h.cell (p := ⟨_, _, none⟩) (by simp; omega)).trans l3⟩
      have MK := Lib.hid mk
      clear mk k0 k1 k2 k3 l0 l1 l2 l3 hb hb2 B2 hT hz hz2
      rw [hs]
      go_upto_region 3 with fail
      go_cut [6] from 16 (fun s6 wx => ∃ g, s6 = .pointer (some ⟨g, 0, none⟩) ∧ Below w2.heap.size w2 wx ∧ Quad w2.heap.size wx g (sgn a c) (sgn a d) (sgn b c) (sgn b d))
      case first =>
        go_region_held3 (fun w' => Below w2.heap.size w2 w' ∧ w'.cell? ⟨w.heap.size, 0, none⟩ = some (.int .i64 a) ∧ w'.cell? ⟨w.heap.size, 1, none⟩ = some (.int .i64 b) ∧ w'.cell? ⟨w.heap.size + 1, 0, none⟩ = some (.int .i64 c) ∧ w'.cell? ⟨w.heap.size + 1, 1, none⟩ = some (.int .i64 d))
          (first | assumption | exact MK.out _ ((Below.refl _ _).drew) | exact MK.out _ (by go_grown) | fail)
          (first
            | (go_at_call 28; refine (compare_eq _ _ _).mono ?_; rintro e w3 ⟨rfl, rfl⟩))
        all_goals go_split_ands
        all_goals go_wp2_with fail
        all_goals go_meet
        all_goals
          refine ⟨_, rfl, by go_grown, ?_⟩
          unfold Quad
          simp [go_sem]
      case rest =>
        obtain ⟨g, rfl, hbc, hq⟩ := hcut
        have HT2 := Lib.hid (HT.out.below (by omega) hbc)
        obtain ⟨q0, q1, q2, q3, _, _, _, _, _, _⟩ := hq
        clear MK
        go_wp2_with fail
        go_loopw [37] (fun i wr => ∃ k : Nat, k ≤ 13 ∧ i = .int .i64 k ∧ NoneTo (sgn a c) (sgn a d) (sgn b c) (sgn b d) k ∧ ∃ q, wr = wc.drewN q) (fun i _ => 13 - (intOf i).toNat)
        case atStart => exact ⟨0, Nat.zero_le _, rfl, fun j hj => absurd hj (by omega), 0, rfl⟩
        case round =>
          obtain ⟨k, hk, rfl, hnone, q, rfl⟩ := hrel
          have HNO := Lib.hid hnone
          clear hnone
          by_cases hlt : k < 13
          · obtain ⟨_, t0, t1, t2, t3⟩ := HT2.out.2 k hlt
            have hm := Tryd.noGuard
            have he := fun w' => run_eql4 w' (ends k 0) (ends k 1) (ends k 2) (ends k 3) (sgn a c) (sgn a d) (sgn b c) (sgn b d)
            by_cases hh : (ends k 0 == sgn a c && ends k 1 == sgn a d && ends k 2 == sgn b c && ends k 3 == sgn b d) = true
            · rw [hh] at he
              have FND := Lib.hid (found hr hs hlt hh)
              go_wp2
              go_quiet (fail)
              go_wp2
              go_ret2
              exact ⟨ret_two FND.out.1 FND.out.2, HB.out.trans ((below_drewN (below_drewN hbc _) _).mono (by omega))⟩
            · have hh : (ends k 0 == sgn a c && ends k 1 == sgn a d && ends k 2 == sgn b c && ends k 3 == sgn b d) = false := by simpa using hh
              rw [hh] at he
              have NXT := Lib.hid (HNO.out.next hh)
              clear hh
              go_wp2
              go_quiet (fail)
              go_wp2
              go_roundw
              case rel => exact ⟨k + 1, by omega, by go_num, NXT.out, _, rfl⟩
              case measure => simp [intOf]; omega
          · obtain rfl : k = 13 := by omega
            exact (NoneTo.never hr hs HNO.out).elim

end Go.Proofs.YtegmegapkfbkeaaDoor
