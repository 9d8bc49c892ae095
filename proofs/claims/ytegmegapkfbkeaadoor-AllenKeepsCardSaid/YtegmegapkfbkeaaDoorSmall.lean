/-
  What small calls of allen, of span, of cmp, and of the document's answers beside them give back, for any numbers. Each makes new blocks alone.
-/
import Derived.Test.YtegmegapkfbkeaaDoorPureA
import Derived.WalkKit
import Derived.WalkSpells
import Derived.WalkLawsBesides
import Derived.WalkArith
import Derived.Deep.QuietTactic
import Derived.Deep.RegionHeld3
import Derived.BigQuiet
import Derived.Handy
import Derived.RegionTactic
import Derived.ChangeAlike
import Derived.Lib.Hide
namespace Go.Proofs.YtegmegapkfbkeaaDoor
open Go.RowKit

/-- May the span be? -/
def rightB (f t : Int) : Bool := decide (-1099511627776 ≤ f ∧ f < t ∧ t ≤ 1099511627776)
/-- A span as a value. -/
abbrev sp (f t : Int) : Value := .agg #[.int .i64 f, .int .i64 t]
theorem right_yes {f t : Int} (h : rightB f t = true) : -1099511627776 ≤ f ∧ f < t ∧ t ≤ 1099511627776 := by simpa [rightB] using h

/-- What a call leaves: new blocks alone. -/
abbrev Ret (F : Nat) (args : Array Value) (w : World) (v : Value) : Prop := Calls Tryd.prog F args w fun e w' => e = .returned v ∧ Below w.heap.size w w'

/-- A call that leaves the world as it was. -/
abbrev Same (F : Nat) (args : Array Value) (w : World) (v : Value) : Prop := Calls Tryd.prog F args w fun e w' => e = .returned v ∧ w' = w

theorem ret_bool {a b : Bool} (h : a = b) : Ending.returned (.bool a) = .returned (.bool b) := by rw [h]
theorem ret_int {a b : Int} (h : a = b) : Ending.returned (.int .i64 a) = .returned (.int .i64 b) := by rw [h]
theorem bl (w : World) : Below w.heap.size w w := Below.refl _ _
theorem chain {W w w1 : World} (h : Below W.heap.size W w) (hb : Below w.heap.size w w1) : Below W.heap.size W w1 := h.trans (hb.mono h.size)

set_option maxHeartbeats 400000 in
theorem right_any (f t : Int) (w : World) :
    Calls Tryd.prog 27 #[sp f t] w fun e w' => e = .returned (.bool (rightB f t)) ∧ Below w.heap.size w w' := by
  by_cases h0 : -1099511627776 ≤ f
  case' neg =>
    go_enter Tryd.func27, Tryd.ntmps27
    go_wp2
    go_ret
    exact ⟨by simp [rightB]; omega, by go_grown⟩
  by_cases h1 : f < t
  case' neg =>
    go_enter Tryd.func27, Tryd.ntmps27
    go_wp2
    go_ret
    exact ⟨by simp [rightB]; omega, by go_grown⟩
  by_cases h2 : t ≤ 1099511627776
  case' neg =>
    go_enter Tryd.func27, Tryd.ntmps27
    go_wp2
    go_ret
    exact ⟨by simp [rightB]; omega, by go_grown⟩
  go_enter Tryd.func27, Tryd.ntmps27
  go_wp2
  go_ret
  exact ⟨by simp [rightB]; omega, by go_grown⟩

set_option maxHeartbeats 400000 in
theorem dright_any (f t : Int) (w : World) :
    Calls Tryd.prog 18 #[sp f t] w fun e w' => e = .returned (.bool (rightB f t)) ∧ Below w.heap.size w w' := by
  by_cases h0 : -1099511627776 ≤ f
  case' neg =>
    go_enter Tryd.func18, Tryd.ntmps18
    go_wp2
    go_ret
    exact ⟨by simp [rightB]; omega, by go_grown⟩
  by_cases h1 : t ≤ 1099511627776
  case' neg =>
    go_enter Tryd.func18, Tryd.ntmps18
    go_wp2
    go_ret
    exact ⟨by simp [rightB]; omega, by go_grown⟩
  by_cases h2 : f < t
  case' neg =>
    go_enter Tryd.func18, Tryd.ntmps18
    go_wp2
    go_ret
    exact ⟨by simp [rightB]; omega, by go_grown⟩
  go_enter Tryd.func18, Tryd.ntmps18
  go_wp2
  go_ret
  exact ⟨by simp [rightB]; omega, by go_grown⟩

theorem has_any (x : Int) (r : Nat) (hr : r < 13) (w : World) : Same 34 #[.int .i64 x, .int .i64 r] w (.bool (bitB x r)) := by
  go_enter Tryd.func34, Tryd.ntmps34
  go_wp2
  go_ret
  exact ⟨ret_bool (bit_and x r), rfl⟩
theorem in_any (x : Int) (r : Nat) (hr : r < 13) (w : World) : Same 19 #[.int .i64 x, .int .i64 r] w (.bool (bitB x r)) := by
  go_enter Tryd.func19, Tryd.ntmps19
  go_wp2
  go_ret
  exact ⟨ret_bool (bit_and x r), rfl⟩

def relB (n : Int) : Bool := decide (0 ≤ n ∧ n ≤ 12)
theorem known_any (n : Int) (w : World) : Same 30 #[.int .i64 n] w (.bool (relB n)) := by
  by_cases h0 : 0 ≤ n <;> by_cases h1 : n < 13 <;>
  · go_enter Tryd.func30, Tryd.ntmps30
    go_wp2
    go_ret
    exact ⟨ret_bool (by simp [relB]; omega), rfl⟩
theorem is_any (n : Int) (w : World) : Same 14 #[.int .i64 n] w (.bool (relB n)) := by
  by_cases h0 : 0 ≤ n <;> by_cases h1 : n ≤ 12 <;>
  · go_enter Tryd.func14, Tryd.ntmps14
    go_wp2
    go_ret
    exact ⟨ret_bool (by simp [relB]; omega), rfl⟩
def backI (n : Int) : Int := if relB n then 12 - n else -1
theorem back_any (n : Int) (w : World) : Same 11 #[.int .i64 n] w (.int .i64 (backI n)) := by
  by_cases h0 : relB n = true
  · go_enter Tryd.func11, Tryd.ntmps11
    go_wp2_with fail
    refine (known_any n _).mono ?_
    rintro e w1 ⟨rfl, rfl⟩
    rw [h0]
    have h1 : 0 ≤ n ∧ n ≤ 12 := by simpa [relB] using h0
    have h2 := h1.1
    have h3 := h1.2
    clear h1
    go_wp2
    go_ret
    exact ⟨ret_int (by simp [backI, h0]), rfl⟩
  · have h0 : relB n = false := by simpa using h0
    go_enter Tryd.func11, Tryd.ntmps11
    go_wp2_with fail
    refine (known_any n _).mono ?_
    rintro e w1 ⟨rfl, rfl⟩
    rw [h0]
    go_wp2
    go_ret
    exact ⟨ret_int (by simp [backI, h0]), rfl⟩
theorem nan_any (n : Int) (w : World) : Calls Tryd.prog 40 #[.int .i64 n] w fun e w' => e = .returned (.bool false) ∧ w' = w := by
  go_enter Tryd.func40, Tryd.ntmps40
  go_wp2
  go_ret
  exact ⟨ret_bool (by simp), rfl⟩
theorem compare_eq (a b : Int) (w : World) : Calls Tryd.prog 28 #[.int .i64 a, .int .i64 b] w fun e w' => e = .returned (.int .i64 (sgn a b)) ∧ w' = w := by
  by_cases h0 : a < b <;> by_cases h1 : b < a <;>
  · go_enter Tryd.func28, Tryd.ntmps28
    go_wp2_with fail
    refine (nan_any a _).mono ?_
    rintro e w1 ⟨rfl, rfl⟩
    go_wp2_with fail
    refine (nan_any b _).mono ?_
    rintro e w2 ⟨rfl, rfl⟩
    go_wp2
    go_ret
    exact ⟨ret_int (by unfold sgn; first | (rw [if_pos (by omega)]) | (rw [if_neg (by omega), if_pos (by omega)]) | (rw [if_neg (by omega), if_neg (by omega)])), rfl⟩
theorem compare_any (a b : Int) (w : World) : Ret 28 #[.int .i64 a, .int .i64 b] w (.int .i64 (sgn a b)) := (compare_eq a b w).mono fun e w' h => ⟨h.1, h.2 ▸ bl w⟩
theorem agree_eq (ab bc ac : Int) (h0 : -1 ≤ ab) (h1 : ab ≤ 1) (h2 : -1 ≤ bc) (h3 : bc ≤ 1) (w : World) : Calls Tryd.prog 41 #[.int .i64 ab, .int .i64 bc, .int .i64 ac] w fun e w' => e = .returned (.bool (agreeB ab bc ac)) ∧ w' = w := by
  have hab : ab = -1 ∨ ab = 0 ∨ ab = 1 := by omega
  have hbc : bc = -1 ∨ bc = 0 ∨ bc = 1 := by omega
  clear h0 h1 h2 h3
  rcases hab with rfl | rfl | rfl <;> rcases hbc with rfl | rfl | rfl <;>
  · go_enter Tryd.func41, Tryd.ntmps41
    go_wp2_with fail
    first
    | (go_ret; exact ⟨ret_bool (by simp [agreeB]), rfl⟩)
    | (refine (compare_eq _ _ w).mono ?_
       rintro e w1 ⟨rfl, rfl⟩
       go_wp2
       go_ret
       exact ⟨ret_bool (by simp [agreeB]), rfl⟩)

end Go.Proofs.YtegmegapkfbkeaaDoor
