/-
  What the small calls of span, and of the document's answers beside it, give back for any spans and times: Right, Has, Long, Make. Each makes new blocks alone.
-/
import Derived.Test.YtaobmlkbhdonkaaRows
import Derived.WalkKit
import Derived.WalkSpells
import Derived.WalkLawsBesides
import Derived.Deep.QuietTactic
import Derived.BigQuiet
import Derived.Handy
import Derived.Lib.Hide
namespace Go.Proofs.Ytaobmlkbhdonkaa
open Go.RowKit

/-- May the span be? -/
def rightB (f t : Int) : Bool := decide (-1099511627776 ≤ f ∧ f < t ∧ t ≤ 1099511627776)
/-- Has it the time? -/
def hasB (f t x : Int) : Bool := decide (f ≤ x ∧ x < t)
/-- A span as a value. -/
abbrev sp (f t : Int) : Value := .agg #[.int .i64 f, .int .i64 t]

theorem right_yes {f t : Int} (h : rightB f t = true) : -1099511627776 ≤ f ∧ f < t ∧ t ≤ 1099511627776 := by simpa [rightB] using h
theorem right_no {f t : Int} (h : rightB f t = false) : ¬ (-1099511627776 ≤ f ∧ f < t ∧ t ≤ 1099511627776) := by simpa [rightB] using h

theorem bcell {W w1 : World} (hb : Below W.heap.size W w1) : (∀ b o, b < W.heap.size → w1.cell? ⟨b, o, none⟩ = W.cell? ⟨b, o, none⟩) ∧ (∀ b o, b < W.heap.size → w1.frozen? ⟨b, o, none⟩ = W.frozen? ⟨b, o, none⟩) :=
  ⟨fun b o h => hb.cell (p := ⟨b, o, none⟩) h, fun b o h => hb.frozen (p := ⟨b, o, none⟩) h⟩

set_option maxHeartbeats 400000 in
theorem right_any (f t : Int) (w : World) :
    Calls Try.prog 10 #[sp f t] w fun e w' => e = .returned (.bool (rightB f t)) ∧ Below w.heap.size w w' := by
  by_cases h0 : -1099511627776 ≤ f
  case' neg =>
    go_enter Try.func10, Try.ntmps10
    go_wp2
    go_ret
    exact ⟨by simp [rightB]; omega, by go_grown⟩
  by_cases h1 : f < t
  case' neg =>
    go_enter Try.func10, Try.ntmps10
    go_wp2
    go_ret
    exact ⟨by simp [rightB]; omega, by go_grown⟩
  by_cases h2 : t ≤ 1099511627776
  case' neg =>
    go_enter Try.func10, Try.ntmps10
    go_wp2
    go_ret
    exact ⟨by simp [rightB]; omega, by go_grown⟩
  go_enter Try.func10, Try.ntmps10
  go_wp2
  go_ret
  exact ⟨by simp [rightB]; omega, by go_grown⟩

set_option maxHeartbeats 400000 in
theorem dright_any (f t : Int) (w : World) :
    Calls Try.prog 9 #[sp f t] w fun e w' => e = .returned (.bool (rightB f t)) ∧ Below w.heap.size w w' := by
  by_cases h0 : -1099511627776 ≤ f
  case' neg =>
    go_enter Try.func9, Try.ntmps9
    go_wp2
    go_ret
    exact ⟨by simp [rightB]; omega, by go_grown⟩
  by_cases h1 : t ≤ 1099511627776
  case' neg =>
    go_enter Try.func9, Try.ntmps9
    go_wp2
    go_ret
    exact ⟨by simp [rightB]; omega, by go_grown⟩
  by_cases h2 : f < t
  case' neg =>
    go_enter Try.func9, Try.ntmps9
    go_wp2
    go_ret
    exact ⟨by simp [rightB]; omega, by go_grown⟩
  go_enter Try.func9, Try.ntmps9
  go_wp2
  go_ret
  exact ⟨by simp [rightB]; omega, by go_grown⟩

set_option maxHeartbeats 400000 in
theorem has_any (f t x : Int) (w : World) :
    Calls Try.prog 11 #[sp f t, .int .i64 x] w fun e w' => e = .returned (.bool (hasB f t x)) ∧ Below w.heap.size w w' := by
  by_cases h0 : f ≤ x
  case' neg =>
    go_enter Try.func11, Try.ntmps11
    go_wp2
    go_ret
    exact ⟨by simp [hasB]; omega, by go_grown⟩
  by_cases h1 : x < t
  case' neg =>
    go_enter Try.func11, Try.ntmps11
    go_wp2
    go_ret
    exact ⟨by simp [hasB]; omega, by go_grown⟩
  go_enter Try.func11, Try.ntmps11
  go_wp2
  go_ret
  exact ⟨by simp [hasB]; omega, by go_grown⟩

set_option maxHeartbeats 400000 in
theorem dhas_any (f t x : Int) (w : World) :
    Calls Try.prog 12 #[sp f t, .int .i64 x] w fun e w' => e = .returned (.bool (hasB f t x)) ∧ Below w.heap.size w w' := by
  by_cases h0 : f ≤ x
  case' neg =>
    go_enter Try.func12, Try.ntmps12
    go_wp2
    go_ret
    exact ⟨by simp [hasB]; omega, by go_grown⟩
  by_cases h1 : x < t
  case' neg =>
    go_enter Try.func12, Try.ntmps12
    go_wp2
    go_ret
    exact ⟨by simp [hasB]; omega, by go_grown⟩
  go_enter Try.func12, Try.ntmps12
  go_wp2
  go_ret
  exact ⟨by simp [hasB]; omega, by go_grown⟩

/-- How many times it has. -/
def longI (f t : Int) : Int := if rightB f t then t - f else 0
/-- What Make gives back. -/
def madeF (f t : Int) : Int := if rightB f t then f else 0
def madeT (f t : Int) : Int := if rightB f t then t else 0
def madeE (f t : Int) : Int := if rightB f t then 0 else 3
theorem ret_int {k : IntKind} {a b : Int} (h : a = b) : Ending.returned (.int k a) = .returned (.int k b) := by rw [h]

set_option maxHeartbeats 400000 in
theorem long_any (f t : Int) (w : World) :
    Calls Try.prog 13 #[sp f t] w fun e w' => e = .returned (.int .i64 (longI f t)) ∧ Below w.heap.size w w' := by
  cases hr : rightB f t
  · go_enter Try.func13, Try.ntmps13
    go_wp2_with (go_at_call 10; refine (right_any _ _ _).mono ?_; rintro e w1 ⟨rfl, hb⟩; obtain ⟨hc, hf⟩ := bcell hb)
    go_ret
    exact ⟨ret_int (by simp [longI, hr]), by exact ((Below.refl _ _).alloc (Nat.le_refl _) _).trans (hb.mono (by simp))⟩
  · have hh := right_yes hr
    obtain ⟨h1, h2, h3⟩ := hh
    go_enter Try.func13, Try.ntmps13
    go_wp2_with (go_at_call 10; refine (right_any _ _ _).mono ?_; rintro e w1 ⟨rfl, hb⟩; obtain ⟨hc, hf⟩ := bcell hb)
    go_ret
    exact ⟨ret_int (by simp [longI, hr]), by exact ((Below.refl _ _).alloc (Nat.le_refl _) _).trans (hb.mono (by simp))⟩

set_option maxHeartbeats 400000 in
theorem dlong_any (f t : Int) (w : World) :
    Calls Try.prog 14 #[sp f t] w fun e w' => e = .returned (.int .i64 (longI f t)) ∧ Below w.heap.size w w' := by
  cases hr : rightB f t
  · go_enter Try.func14, Try.ntmps14
    go_wp2_with (go_at_call 9; refine (dright_any _ _ _).mono ?_; rintro e w1 ⟨rfl, hb⟩; obtain ⟨hc, hf⟩ := bcell hb)
    go_ret
    exact ⟨ret_int (by simp [longI, hr]), by exact ((Below.refl _ _).alloc (Nat.le_refl _) _).trans (hb.mono (by simp))⟩
  · have hh := right_yes hr
    obtain ⟨h1, h2, h3⟩ := hh
    go_enter Try.func14, Try.ntmps14
    go_wp2_with (go_at_call 9; refine (dright_any _ _ _).mono ?_; rintro e w1 ⟨rfl, hb⟩; obtain ⟨hc, hf⟩ := bcell hb)
    go_ret
    exact ⟨ret_int (by simp [longI, hr]), by exact ((Below.refl _ _).alloc (Nat.le_refl _) _).trans (hb.mono (by simp))⟩

/-- Two cells of one block, stored one behind the other. -/
theorem two_set {w : World} {b : Nat} {u0 u1 : Value} (x y : Value) (h0 : w.cell? ⟨b, 0, none⟩ = some u0) (h1 : w.cell? ⟨b, 1, none⟩ = some u1) :
    (w.setCell ⟨b, 0, none⟩ x).cell? ⟨b, 0, none⟩ = some x ∧ ((w.setCell ⟨b, 0, none⟩ x).setCell ⟨b, 1, none⟩ y).cell? ⟨b, 1, none⟩ = some y :=
  ⟨World.cell?_setCell_same _ _ _ h0, World.cell?_setCell_same _ _ _ ((World.cell?_setCell_other _ _ _ _ (by simp)).trans h1)⟩

set_option maxHeartbeats 400000 in
theorem make_any (f t : Int) (w : World) :
    Calls Try.prog 8 #[.int .i64 f, .int .i64 t] w fun e w' => e = .returned (.tuple #[sp (madeF f t) (madeT f t), .int .i64 (madeE f t)]) ∧ Below w.heap.size w w' := by
  cases hr : rightB f t
  all_goals
    go_enter Try.func8, Try.ntmps8
    go_wp2_with (go_at_call 10; refine (right_any _ _ _).mono ?_; rintro e w1 ⟨rfl, hb⟩; obtain ⟨hc, hf⟩ := bcell hb)
    have h0 := (hc w.heap.size 0 (by simp; omega)).trans (by simp [go_sem]; rfl)
    have h1 := (hc w.heap.size 1 (by simp; omega)).trans (by simp [go_sem]; rfl)
  · obtain ⟨q0, q1⟩ := two_set (.int .i64 0) (.int .i64 0) h0 h1
    refine bodyPost_ret (v := .tuple #[sp (madeF f t) (madeT f t), .int .i64 (madeE f t)]) (by simp [results, Try.results8, go_sem, q0, q1, madeF, madeT, madeE, hr]) rfl ⟨rfl, ?_⟩
    exact (((((Below.refl _ _).alloc (Nat.le_refl _) _).alloc (by simp) _).trans (hb.mono (by simp; omega))).setCell (by simp) _).setCell (by simp) _
  · obtain ⟨q0, q1⟩ := two_set (.int .i64 f) (.int .i64 t) h0 h1
    refine bodyPost_ret (v := .tuple #[sp (madeF f t) (madeT f t), .int .i64 (madeE f t)]) (by simp [results, Try.results8, go_sem, q0, q1, madeF, madeT, madeE, hr]) rfl ⟨rfl, ?_⟩
    exact (((((Below.refl _ _).alloc (Nat.le_refl _) _).alloc (by simp) _).trans (hb.mono (by simp; omega))).setCell (by simp) _).setCell (by simp) _

end Go.Proofs.Ytaobmlkbhdonkaa
