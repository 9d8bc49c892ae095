/-
  Whether three relations go together: fit, as the program tells it.
-/
import Derived.Test.YtegmegapkfbkeaaDoorOf
namespace Go.Proofs.YtegmegapkfbkeaaDoor
open Go.RowKit

abbrev quad (f : Nat → Int) : Value := .agg #[.int .i64 (f 0), .int .i64 (f 1), .int .i64 (f 2), .int .i64 (f 3)]
def okT (ab bc ac : Nat → Int) (x y z : Nat) : Bool := agreeB (ab (2 * x + y)) (bc (2 * y + z)) (ac (2 * x + z))
/-- The first n of the eight go together. -/
def FitTo (ab bc ac : Nat → Int) (n : Nat) : Prop := ∀ x y z, x < 2 → y < 2 → z < 2 → 4 * x + 2 * y + z < n → okT ab bc ac x y z = true
theorem FitTo.next {ab bc ac : Nat → Int} {x y z : Nat} (hx : x < 2) (hy : y < 2) (hz : z < 2) (h : FitTo ab bc ac (4 * x + 2 * y + z)) (hh : okT ab bc ac x y z = true) : FitTo ab bc ac (4 * x + 2 * y + (z + 1)) := fun x' y' z' a b c d => by
  by_cases e : 4 * x' + 2 * y' + z' = 4 * x + 2 * y + z
  · obtain rfl : x' = x := by omega
    obtain rfl : y' = y := by omega
    obtain rfl : z' = z := by omega
    exact hh
  · exact h x' y' z' a b c (by omega)
theorem FitTo.all {ab bc ac : Nat → Int} (h : FitTo ab bc ac 8) : fitB ab bc ac = true := by
  have k : ∀ x y z, x < 2 → y < 2 → z < 2 → okT ab bc ac x y z = true := fun x y z a b c => h x y z a b c (by omega)
  have e000 := k 0 0 0 (by decide) (by decide) (by decide)
  have e001 := k 0 0 1 (by decide) (by decide) (by decide)
  have e010 := k 0 1 0 (by decide) (by decide) (by decide)
  have e011 := k 0 1 1 (by decide) (by decide) (by decide)
  have e100 := k 1 0 0 (by decide) (by decide) (by decide)
  have e101 := k 1 0 1 (by decide) (by decide) (by decide)
  have e110 := k 1 1 0 (by decide) (by decide) (by decide)
  have e111 := k 1 1 1 (by decide) (by decide) (by decide)
  simp only [okT, Nat.mul_zero, Nat.zero_add, Nat.mul_one, Nat.add_zero, Nat.reduceAdd] at e000 e001 e010 e011 e100 e101 e110 e111
  simp only [fitB, e000, e001, e010, e011, e100, e101, e110, e111, Bool.and_self]
theorem fit_not {ab bc ac : Nat → Int} {x y z : Nat} (hx : x < 2) (hy : y < 2) (hz : z < 2) (hh : okT ab bc ac x y z = false) : fitB ab bc ac = false := by
  have hx : x = 0 ∨ x = 1 := by omega
  have hy : y = 0 ∨ y = 1 := by omega
  have hz : z = 0 ∨ z = 1 := by omega
  rcases hx with rfl | rfl <;> rcases hy with rfl | rfl <;> rcases hz with rfl | rfl <;> simp [okT] at hh <;> simp [fitB, hh]

theorem quad_cells (w : World) (f : Nat → Int) (t i : Nat) (hi : i < 4) : (w.alloc (.cells #[.int .i64 (f 0), .int .i64 (f 1), .int .i64 (f 2), .int .i64 (f 3)] t)).cell? ⟨w.heap.size, i, none⟩ = some (.int .i64 (f i)) := by
  have : i = 0 ∨ i = 1 ∨ i = 2 ∨ i = 3 := by omega
  rcases this with rfl | rfl | rfl | rfl <;> simp [go_sem]

set_option maxHeartbeats 4000000 in
theorem fit_any (ab bc ac : Nat → Int) (hab : ∀ i, i < 4 → -1 ≤ ab i ∧ ab i ≤ 1) (hbc : ∀ i, i < 4 → -1 ≤ bc i ∧ bc i ≤ 1) (w : World) :
    Ret 33 #[quad ab, quad bc, quad ac] w (.bool (fitB ab bc ac)) := by
  go_enter Tryd.func33, Tryd.ntmps33
  go_wp2_with fail
  have cA : ∀ i, i < 4 → (((w.alloc (.cells #[.int .i64 (ab 0), .int .i64 (ab 1), .int .i64 (ab 2), .int .i64 (ab 3)] 46)).alloc (.cells #[.int .i64 (bc 0), .int .i64 (bc 1), .int .i64 (bc 2), .int .i64 (bc 3)] 46)).alloc (.cells #[.int .i64 (ac 0), .int .i64 (ac 1), .int .i64 (ac 2), .int .i64 (ac 3)] 46)).cell? ⟨w.heap.size, i, none⟩ = some (.int .i64 (ab i)) := fun i hi =>
    ((World.cell?_alloc_lt _ _ _ (by simp; omega)).trans (World.cell?_alloc_lt _ _ _ (by simp))).trans (quad_cells w ab _ i hi)
  have cB : ∀ i, i < 4 → (((w.alloc (.cells #[.int .i64 (ab 0), .int .i64 (ab 1), .int .i64 (ab 2), .int .i64 (ab 3)] 46)).alloc (.cells #[.int .i64 (bc 0), .int .i64 (bc 1), .int .i64 (bc 2), .int .i64 (bc 3)] 46)).alloc (.cells #[.int .i64 (ac 0), .int .i64 (ac 1), .int .i64 (ac 2), .int .i64 (ac 3)] 46)).cell? ⟨w.heap.size + 1, i, none⟩ = some (.int .i64 (bc i)) := fun i hi =>
    (World.cell?_alloc_lt _ _ _ (by simp)).trans (by have := quad_cells (w.alloc (.cells #[.int .i64 (ab 0), .int .i64 (ab 1), .int .i64 (ab 2), .int .i64 (ab 3)] 46)) bc 46 i hi; simpa using this)
  have cC : ∀ i, i < 4 → (((w.alloc (.cells #[.int .i64 (ab 0), .int .i64 (ab 1), .int .i64 (ab 2), .int .i64 (ab 3)] 46)).alloc (.cells #[.int .i64 (bc 0), .int .i64 (bc 1), .int .i64 (bc 2), .int .i64 (bc 3)] 46)).alloc (.cells #[.int .i64 (ac 0), .int .i64 (ac 1), .int .i64 (ac 2), .int .i64 (ac 3)] 46)).cell? ⟨w.heap.size + 1 + 1, i, none⟩ = some (.int .i64 (ac i)) := fun i hi =>
    (by have := quad_cells ((w.alloc (.cells #[.int .i64 (ab 0), .int .i64 (ab 1), .int .i64 (ab 2), .int .i64 (ab 3)] 46)).alloc (.cells #[.int .i64 (bc 0), .int .i64 (bc 1), .int .i64 (bc 2), .int .i64 (bc 3)] 46)) ac 46 i hi; simpa using this)
  have hB : Below w.heap.size w (((w.alloc (.cells #[.int .i64 (ab 0), .int .i64 (ab 1), .int .i64 (ab 2), .int .i64 (ab 3)] 46)).alloc (.cells #[.int .i64 (bc 0), .int .i64 (bc 1), .int .i64 (bc 2), .int .i64 (bc 3)] 46)).alloc (.cells #[.int .i64 (ac 0), .int .i64 (ac 1), .int .i64 (ac 2), .int .i64 (ac 3)] 46)) := by go_grown
  generalize (((w.alloc (.cells #[.int .i64 (ab 0), .int .i64 (ab 1), .int .i64 (ab 2), .int .i64 (ab 3)] 46)).alloc (.cells #[.int .i64 (bc 0), .int .i64 (bc 1), .int .i64 (bc 2), .int .i64 (bc 3)] 46)).alloc (.cells #[.int .i64 (ac 0), .int .i64 (ac 1), .int .i64 (ac 2), .int .i64 (ac 3)] 46)) = W at *
  have CA := Lib.hid cA
  have CB := Lib.hid cB
  have CC := Lib.hid cC
  have HB := Lib.hid hB
  have HAB := Lib.hid hab
  have HBC := Lib.hid hbc
  clear cA cB cC hB hab hbc
  go_loopw [10] (fun i wr => ∃ k : Nat, k ≤ 2 ∧ i = .int .i64 k ∧ FitTo ab bc ac (4 * k) ∧ ∃ q, wr = W.drewN q) (fun i _ => 2 - (intOf i).toNat)
  case atStart => exact ⟨0, Nat.zero_le _, rfl, fun _ _ _ _ _ _ h => absurd h (by omega), 0, rfl⟩
  case round =>
    obtain ⟨x, hx, rfl, hf, q, rfl⟩ := hrel
    have HF := Lib.hid hf
    clear hf
    by_cases hlt : x < 2
    · go_wp2_with fail
      go_loopw [13] (fun i wr => ∃ k : Nat, k ≤ 2 ∧ i = .int .i64 k ∧ FitTo ab bc ac (4 * x + 2 * k) ∧ ∃ q, wr = W.drewN q) (fun i _ => 2 - (intOf i).toNat)
      case atStart => exact ⟨0, Nat.zero_le _, rfl, HF.out, _, rfl⟩
      case round =>
        obtain ⟨y, hy, rfl, hf, q, rfl⟩ := hrel
        have HF2 := Lib.hid hf
        clear hf
        by_cases hlt2 : y < 2
        · go_wp2_with fail
          go_loopw [16] (fun i wr => ∃ k : Nat, k ≤ 2 ∧ i = .int .i64 k ∧ FitTo ab bc ac (4 * x + 2 * y + k) ∧ ∃ q, wr = W.drewN q) (fun i _ => 2 - (intOf i).toNat)
          case atStart => exact ⟨0, Nat.zero_le _, rfl, HF2.out, _, rfl⟩
          case round =>
            obtain ⟨z, hz, rfl, hf, q, rfl⟩ := hrel
            have HF3 := Lib.hid hf
            clear hf
            by_cases hlt3 : z < 2
            · have c0 := CA.out (2 * x + y) (by omega)
              have c1 := CB.out (2 * y + z) (by omega)
              have c2 := CC.out (2 * x + z) (by omega)
              have AG := Lib.hid (fun w' => agree_eq (ab (2 * x + y)) (bc (2 * y + z)) (ac (2 * x + z)) (HAB.out _ (by omega)).1 (HAB.out _ (by omega)).2 (HBC.out _ (by omega)).1 (HBC.out _ (by omega)).2 w')
              have hok : okT ab bc ac x y z = agreeB (ab (2 * x + y)) (bc (2 * y + z)) (ac (2 * x + z)) := rfl
              have NX := Lib.hid (fun hh => HF3.out.next hlt hlt2 hlt3 hh)
              have NO := Lib.hid (fun hh => fit_not (ab := ab) (bc := bc) (ac := ac) hlt hlt2 hlt3 hh)
              rw [hok] at NX NO
              clear hok
              have w1 : IntKind.i64.wrap (2 * (x : Int)) = 2 * (x : Int) := by rw [IntKind.wrap_i64]; omega
              have w2 : IntKind.i64.wrap (2 * (y : Int)) = 2 * (y : Int) := by rw [IntKind.wrap_i64]; omega
              have w3 : IntKind.i64.wrap (2 * (x : Int) + (y : Int)) = ((2 * x + y : Nat) : Int) := by rw [IntKind.wrap_i64]; omega
              have w4 : IntKind.i64.wrap (2 * (y : Int) + (z : Int)) = ((2 * y + z : Nat) : Int) := by rw [IntKind.wrap_i64]; omega
              have w5 : IntKind.i64.wrap (2 * (x : Int) + (z : Int)) = ((2 * x + z : Nat) : Int) := by rw [IntKind.wrap_i64]; omega
              have l0 : ((2 * x + y : Nat) : Int) < 4 := by omega
              have l1 : ((2 * y + z : Nat) : Int) < 4 := by omega
              have l2 : ((2 * x + z : Nat) : Int) < 4 := by omega
              generalize 2 * x + y = i0 at *
              generalize 2 * y + z = i1 at *
              generalize 2 * x + z = i2 at *
              cases hh : agreeB (ab i0) (bc i1) (ac i2)
              · rw [hh] at AG
                have NO' := Lib.hid (NO.out hh)
                go_wp2
                go_quiet (first | (go_at_call 41; exact (AG.out _).mono fun e w' h => ⟨h.1, _, h.2⟩))
                go_wp2
                go_ret
                exact ⟨ret_bool NO'.out.symm, below_drewN (below_drewN HB.out _) _⟩
              · rw [hh] at AG
                have NX' := Lib.hid (NX.out hh)
                go_wp2
                go_quiet (first | (go_at_call 41; exact (AG.out _).mono fun e w' h => ⟨h.1, _, h.2⟩))
                go_wp2
                go_roundw
                case rel => exact ⟨z + 1, by omega, by go_num, NX'.out, _, rfl⟩
                case measure => simp [intOf]; omega
            · obtain rfl : z = 2 := by omega
              go_wp2_with fail
              go_roundw
              case rel => exact ⟨y + 1, by omega, by go_num, HF3.out, _, rfl⟩
              case measure => simp [intOf]; omega
        · obtain rfl : y = 2 := by omega
          go_wp2_with fail
          go_roundw
          case rel => exact ⟨x + 1, by omega, by go_num, HF2.out, _, rfl⟩
          case measure => simp [intOf]; omega
    · obtain rfl : x = 2 := by omega
      have ALL := Lib.hid (FitTo.all HF.out)
      go_wp2_with fail
      go_ret
      exact ⟨ret_bool ALL.out.symm, below_drewN HB.out _⟩

end Go.Proofs.YtegmegapkfbkeaaDoor
