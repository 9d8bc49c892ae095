/-
  How two lists of parts stand, by the program: its plain, ahead and Compare.
-/
import Derived.Test.YthbnaomhgmokkaaSpsplit
namespace Go.Proofs.Ythbnaomhgmokkaa
open Go.RowKit

abbrev PT : TypeId := 50
/-- The cells of a part. -/
abbrev pc (p : Prt) : Obj := .cells #[.bool p.i, .int .i64 p.n, .string p.s] PT
theorem bare_int {p : Prt} (h : p.i = true) : bareP p = ⟨true, p.n, ⟨#[]⟩⟩ := by unfold bareP; rw [if_pos h]
theorem bare_text {p : Prt} (h : p.i = false) : bareP p = ⟨false, 0, p.s⟩ := by unfold bareP; rw [if_neg (by rw [h]; simp)]

set_option maxHeartbeats 1000000 in
theorem plain_any (p : Prt) (w : World) : Calls Try.prog 33 #[pv p] w fun e w' => e = .returned (pv (bareP p)) ∧ w' = (w.alloc (pc p)).alloc (pc (bareP p)) := by
  cases hi : p.i with
  | true =>
    have HB := Lib.hid (bare_int hi)
    have HI := Lib.hid hi
    go_enter Try.func33, Try.ntmps33
    go_wp2_with fail
    exact bodyPost_ret (v := pv ⟨true, p.n, ⟨#[]⟩⟩) (by simp [results, Try.results33, go_sem]) rfl ⟨by rw [HB.out], by rw [HB.out]; simp only [pc, HI.out]⟩
  | false =>
    have HB := Lib.hid (bare_text hi)
    have HI := Lib.hid hi
    go_enter Try.func33, Try.ntmps33
    go_wp2_with fail
    exact bodyPost_ret (v := pv ⟨false, 0, p.s⟩) (by simp [results, Try.results33, go_sem]) rfl ⟨by rw [HB.out], by rw [HB.out]; simp only [pc, HI.out]⟩

/-- Is a ahead of b? -/
def ahB (a b : Prt) : Bool := if a.i ≠ b.i then a.i else if a.i then decide (a.n < b.n) else lessN (nats a.s) (nats b.s)
theorem ahB_unlike {a b : Prt} (h : a.i ≠ b.i) : ahB a b = a.i := by unfold ahB; rw [if_pos h]
theorem ahB_ints {a b : Prt} (h : a.i = true) (h2 : b.i = true) : ahB a b = decide (a.n < b.n) := by unfold ahB; rw [if_neg (by rw [h, h2]; simp), if_pos h]
theorem ahB_texts {a b : Prt} (h : a.i = false) (h2 : b.i = false) : ahB a b = lessN (nats a.s) (nats b.s) := by unfold ahB; rw [if_neg (by rw [h, h2]; simp), if_neg (by rw [h]; simp)]
theorem ret_bool {a b : Bool} (h : a = b) : Ending.returned (.bool a) = .returned (.bool b) := by rw [h]

set_option maxHeartbeats 4000000 in
theorem ahead_any (a b : Prt) (w : World) : Ret 34 #[pv a, pv b] w (.bool (ahB a b)) := by
  cases ha : a.i with
  | true =>
    cases hb : b.i with
    | true =>
      have CP := Lib.hid (ahB_ints ha hb)
      by_cases h1 : a.n < b.n
      · have CQ := Lib.hid (CP.out.trans (decide_eq_true h1))
        go_enter Try.func34, Try.ntmps34
        go_wp2_with fail
        go_ret
        exact ⟨ret_bool CQ.out.symm, ((bl w).alloc (Nat.le_refl _) _).alloc (by simp) _⟩
      · have CQ := Lib.hid (CP.out.trans (decide_eq_false h1))
        go_enter Try.func34, Try.ntmps34
        go_wp2_with fail
        go_ret
        exact ⟨ret_bool CQ.out.symm, ((bl w).alloc (Nat.le_refl _) _).alloc (by simp) _⟩
    | false =>
      have CP := Lib.hid ((ahB_unlike (a := a) (b := b) (by rw [ha, hb]; simp)).trans ha)
      go_enter Try.func34, Try.ntmps34
      go_wp2_with fail
      go_ret
      exact ⟨ret_bool CP.out.symm, ((bl w).alloc (Nat.le_refl _) _).alloc (by simp) _⟩
  | false =>
    cases hb : b.i with
    | true =>
      have CP := Lib.hid ((ahB_unlike (a := a) (b := b) (by rw [ha, hb]; simp)).trans ha)
      go_enter Try.func34, Try.ntmps34
      go_wp2_with fail
      go_ret
      exact ⟨ret_bool CP.out.symm, ((bl w).alloc (Nat.le_refl _) _).alloc (by simp) _⟩
    | false =>
      have CP := Lib.hid (ahB_texts ha hb)
      have e1 := less_nats a.s b.s
      rw [← CP.out] at e1
      generalize ahB a b = r at e1 ⊢
      cases r
      all_goals
        go_enter Try.func34, Try.ntmps34
        go_wp2_with fail
        go_ret
        exact ⟨rfl, ((bl w).alloc (Nat.le_refl _) _).alloc (by simp) _⟩

theorem nan_any (n : Int) (w : World) : Same 38 #[.int .i64 n] w (.bool false) := by
  go_enter Try.func38, Try.ntmps38
  go_wp2_with fail
  go_ret
  exact ⟨by simp, rfl⟩

/-- How two numbers stand. -/
def cmpI (a b : Int) : Int := if a < b then -1 else if b < a then 1 else 0
set_option maxHeartbeats 4000000 in
theorem cmpint_any (a b : Int) (w : World) : Same 35 #[.int .i64 a, .int .i64 b] w (.int .i64 (cmpI a b)) := by
  have C1 := Lib.hid (fun w => nan_any a w)
  have C2 := Lib.hid (fun w => nan_any b w)
  rcases Int.lt_trichotomy a b with h | h | h
  · have CQ := Lib.hid (show cmpI a b = -1 by unfold cmpI; rw [if_pos h])
    go_enter Try.func35, Try.ntmps35
    go_wp2_with (go_at_call 38; first | (with_reducible refine (C1.out _).mono ?_; rintro e w2 ⟨rfl, rfl⟩) | (with_reducible refine (C2.out _).mono ?_; rintro e w3 ⟨rfl, rfl⟩))
    go_ret
    exact ⟨ret_int CQ.out.symm, rfl⟩
  · subst h
    have CQ := Lib.hid (show cmpI a a = 0 by unfold cmpI; rw [if_neg (by omega), if_neg (by omega)])
    go_enter Try.func35, Try.ntmps35
    go_wp2_with (go_at_call 38; with_reducible refine (C1.out _).mono ?_; rintro e w2 ⟨rfl, rfl⟩)
    go_ret
    exact ⟨ret_int CQ.out.symm, rfl⟩
  · have h' : ¬ a < b := by omega
    have CQ := Lib.hid (show cmpI a b = 1 by unfold cmpI; rw [if_neg h', if_pos h])
    go_enter Try.func35, Try.ntmps35
    go_wp2_with (go_at_call 38; first | (with_reducible refine (C1.out _).mono ?_; rintro e w2 ⟨rfl, rfl⟩) | (with_reducible refine (C2.out _).mono ?_; rintro e w3 ⟨rfl, rfl⟩))
    go_ret
    exact ⟨ret_int CQ.out.symm, rfl⟩

end Go.Proofs.Ythbnaomhgmokkaa
