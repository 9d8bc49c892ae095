/-
  What Meet gives back, of span and of the document's answer, for any two spans.
-/
import Derived.Test.YtaobmlkbhdonkaaBase
namespace Go.Proofs.Ytaobmlkbhdonkaa
open Go.RowKit

/-- Have both a time in common? -/
def meetB (a b c d : Int) : Bool := rightB a b && rightB c d && decide (max a c < min b d)
def meetF (a b c d : Int) : Int := if meetB a b c d then max a c else 0
def meetT (a b c d : Int) : Int := if meetB a b c d then min b d else 0

/-- Three blocks of the call's own are there still. -/
theorem size3 {w w1 : World} {o0 o1 o2 : Obj} (hb : Below (((w.alloc o0).alloc o1).alloc o2).heap.size (((w.alloc o0).alloc o1).alloc o2) w1) :
    w.heap.size < w1.heap.size ∧ w.heap.size + 1 < w1.heap.size ∧ w.heap.size + 1 + 1 < w1.heap.size := by
  have := hb.size
  simp at this
  omega

def meetE (a b c d : Int) : Int := if meetB a b c d then 0 else 3
theorem make_meet (a b c d x y : Int) (hr : rightB a b = true) (hs : rightB c d = true) (hx : x = max a c) (hy : y = min b d) (w : World) :
    Calls Try.prog 8 #[.int .i64 x, .int .i64 y] w fun e w' => e = .returned (.tuple #[sp (meetF a b c d) (meetT a b c d), .int .i64 (meetE a b c d)]) ∧ Below w.heap.size w w' := by
  have e : rightB x y = meetB a b c d := by
    have h1 := right_yes hr
    have h2 := right_yes hs
    rw [Bool.eq_iff_iff]
    simp [meetB, rightB, hx, hy]
    omega
  have e1 : madeF x y = meetF a b c d := by simp only [madeF, meetF, e]; rw [hx]
  have e2 : madeT x y = meetT a b c d := by simp only [madeT, meetT, e]; rw [hy]
  have e3 : madeE x y = meetE a b c d := by simp only [madeE, meetE, e]
  exact (make_any x y w).mono fun e' w' ⟨he, hb⟩ => ⟨by rw [he, e1, e2, e3], hb⟩

set_option maxHeartbeats 800000 in
theorem meet_any (a b c d : Int) (w : World) :
    Calls Try.prog 18 #[sp a b, sp c d] w fun e w' => e = .returned (.tuple #[sp (meetF a b c d) (meetT a b c d), .bool (meetB a b c d)]) ∧ Below w.heap.size w w' := by
  cases hr : rightB a b
  · go_enter Try.func18, Try.ntmps18
    go_wp2_with (go_at_call 10; refine (right_any _ _ _).mono ?_; rintro e w1 ⟨rfl, hb⟩; obtain ⟨hc, hf⟩ := bcell hb)
    have h0 := (hc (w.heap.size + 1 + 1) 0 (by simp)).trans (by simp [go_sem]; rfl)
    have h1 := (hc (w.heap.size + 1 + 1) 1 (by simp)).trans (by simp [go_sem]; rfl)
    obtain ⟨q0, q1⟩ := two_set (.int .i64 0) (.int .i64 0) h0 h1
    refine bodyPost_ret (v := .tuple #[sp (meetF a b c d) (meetT a b c d), .bool (meetB a b c d)]) (by simp [results, Try.results18, go_sem, q0, q1, meetF, meetT, meetB, hr]) rfl ⟨rfl, ?_⟩
    exact ((((((Below.refl _ _).alloc (Nat.le_refl _) _).alloc (by simp) _).alloc (by simp; omega) _).trans (hb.mono (by simp; omega))).setCell (by simp; omega) _).setCell (by simp; omega) _
  · cases hs : rightB c d
    · go_enter Try.func18, Try.ntmps18
      go_wp2_with fail
      (go_at_call 10; refine (right_any _ _ _).mono ?_; rintro e w1 ⟨rfl, hb⟩; obtain ⟨hc, hf⟩ := bcell hb; obtain ⟨hz0, hz1, hz2⟩ := size3 hb)
      go_wp2_with fail
      (go_at_call 10; refine (right_any _ _ _).mono ?_; rintro e w2 ⟨rfl, hb2⟩; obtain ⟨hc2, hf2⟩ := bcell hb2)
      go_wp2_with fail
      have h0 := (hc2 (w.heap.size + 1 + 1) 0 hz2).trans ((hc (w.heap.size + 1 + 1) 0 (by simp)).trans (by simp [go_sem]; rfl))
      have h1 := (hc2 (w.heap.size + 1 + 1) 1 hz2).trans ((hc (w.heap.size + 1 + 1) 1 (by simp)).trans (by simp [go_sem]; rfl))
      obtain ⟨q0, q1⟩ := two_set (.int .i64 0) (.int .i64 0) h0 h1
      refine bodyPost_ret (v := .tuple #[sp (meetF a b c d) (meetT a b c d), .bool (meetB a b c d)]) (by simp [results, Try.results18, go_sem, q0, q1, meetF, meetT, meetB, hr, hs]) rfl ⟨rfl, ?_⟩
      exact ((((((Below.refl _ _).alloc (Nat.le_refl _) _).alloc (by simp) _).alloc (by simp; omega) _).trans ((hb.mono (by simp; omega)).trans (hb2.mono (by omega)))).setCell (by simp; omega) _).setCell (by simp; omega) _
    · go_enter Try.func18, Try.ntmps18
      go_wp2_with fail
      (go_at_call 10; refine (right_any _ _ _).mono ?_; rintro e w1 ⟨rfl, hb⟩; obtain ⟨hc, hf⟩ := bcell hb; obtain ⟨hz0, hz1, hz2⟩ := size3 hb)
      go_wp2_with fail
      (go_at_call 10; refine (right_any _ _ _).mono ?_; rintro e w2 ⟨rfl, hb2⟩; obtain ⟨hc2, hf2⟩ := bcell hb2; have hz3 := hb2.size)
      go_wp2_with fail
      all_goals
        refine (make_meet a b c d _ _ hr hs (by omega) (by omega) _).mono ?_
        rintro e w3 ⟨rfl, hb3⟩
        obtain ⟨hc3, hf3⟩ := bcell hb3
        have hz4 : w.heap.size < w2.heap.size := by omega
        have hz5 : w.heap.size + 1 < w2.heap.size := by omega
        have hz6 : w.heap.size + 1 + 1 < w2.heap.size := by omega
        have hz7 : w.heap.size + 1 + 1 < w3.heap.size := by have := hb3.size; omega
        go_wp2_with fail
        have h0 := (hc3 (w.heap.size + 1 + 1) 0 hz6).trans ((hc2 (w.heap.size + 1 + 1) 0 hz2).trans ((hc (w.heap.size + 1 + 1) 0 (by simp)).trans (by simp [go_sem]; rfl)))
        have h1 := (hc3 (w.heap.size + 1 + 1) 1 hz6).trans ((hc2 (w.heap.size + 1 + 1) 1 hz2).trans ((hc (w.heap.size + 1 + 1) 1 (by simp)).trans (by simp [go_sem]; rfl)))
        obtain ⟨q0, q1⟩ := two_set (.int .i64 (meetF a b c d)) (.int .i64 (meetT a b c d)) h0 h1
        have he : (meetE a b c d == 0) = meetB a b c d := by unfold meetE; cases meetB a b c d <;> rfl
        refine bodyPost_ret (v := .tuple #[sp (meetF a b c d) (meetT a b c d), .bool (meetB a b c d)]) (by simp [results, Try.results18, go_sem, q0, q1, he, hz7]) rfl ⟨rfl, ?_⟩
        exact (((((((Below.refl _ _).alloc (Nat.le_refl _) _).alloc (by simp) _).alloc (by simp; omega) _).trans ((hb.mono (by simp; omega)).trans ((hb2.mono (by omega)).trans (hb3.mono (by omega))))).setCell (by simp; omega) _).setCell (by simp; omega) _).alloc (by simp; omega) _

set_option maxHeartbeats 800000 in
theorem dmeet_any (a b c d : Int) (w : World) :
    Calls Try.prog 19 #[sp a b, sp c d] w fun e w' => e = .returned (.tuple #[sp (meetF a b c d) (meetT a b c d), .bool (meetB a b c d)]) ∧ Below w.heap.size w w' := by
  cases hr : rightB a b
  · go_enter Try.func19, Try.ntmps19
    go_wp2_with (go_at_call 9; refine (dright_any _ _ _).mono ?_; rintro e w1 ⟨rfl, hb⟩; obtain ⟨hc, hf⟩ := bcell hb)
    have h0 := (hc (w.heap.size + 1 + 1) 0 (by simp)).trans (by simp [go_sem]; rfl)
    have h1 := (hc (w.heap.size + 1 + 1) 1 (by simp)).trans (by simp [go_sem]; rfl)
    obtain ⟨q0, q1⟩ := two_set (.int .i64 0) (.int .i64 0) h0 h1
    refine bodyPost_ret (v := .tuple #[sp (meetF a b c d) (meetT a b c d), .bool (meetB a b c d)]) (by simp [results, Try.results19, go_sem, q0, q1, meetF, meetT, meetB, hr]) rfl ⟨rfl, ?_⟩
    exact ((((((Below.refl _ _).alloc (Nat.le_refl _) _).alloc (by simp) _).alloc (by simp; omega) _).trans (hb.mono (by simp; omega))).setCell (by simp; omega) _).setCell (by simp; omega) _
  · cases hs : rightB c d
    · go_enter Try.func19, Try.ntmps19
      go_wp2_with fail
      (go_at_call 9; refine (dright_any _ _ _).mono ?_; rintro e w1 ⟨rfl, hb⟩; obtain ⟨hc, hf⟩ := bcell hb; obtain ⟨hz0, hz1, hz2⟩ := size3 hb)
      go_wp2_with fail
      (go_at_call 9; refine (dright_any _ _ _).mono ?_; rintro e w2 ⟨rfl, hb2⟩; obtain ⟨hc2, hf2⟩ := bcell hb2)
      go_wp2_with fail
      have h0 := (hc2 (w.heap.size + 1 + 1) 0 hz2).trans ((hc (w.heap.size + 1 + 1) 0 (by simp)).trans (by simp [go_sem]; rfl))
      have h1 := (hc2 (w.heap.size + 1 + 1) 1 hz2).trans ((hc (w.heap.size + 1 + 1) 1 (by simp)).trans (by simp [go_sem]; rfl))
      obtain ⟨q0, q1⟩ := two_set (.int .i64 0) (.int .i64 0) h0 h1
      refine bodyPost_ret (v := .tuple #[sp (meetF a b c d) (meetT a b c d), .bool (meetB a b c d)]) (by simp [results, Try.results19, go_sem, q0, q1, meetF, meetT, meetB, hr, hs]) rfl ⟨rfl, ?_⟩
      exact ((((((Below.refl _ _).alloc (Nat.le_refl _) _).alloc (by simp) _).alloc (by simp; omega) _).trans ((hb.mono (by simp; omega)).trans (hb2.mono (by omega)))).setCell (by simp; omega) _).setCell (by simp; omega) _
    · go_enter Try.func19, Try.ntmps19
      go_wp2_with fail
      (go_at_call 9; refine (dright_any _ _ _).mono ?_; rintro e w1 ⟨rfl, hb⟩; obtain ⟨hc, hf⟩ := bcell hb; obtain ⟨hz0, hz1, hz2⟩ := size3 hb)
      go_wp2_with fail
      (go_at_call 9; refine (dright_any _ _ _).mono ?_; rintro e w2 ⟨rfl, hb2⟩; obtain ⟨hc2, hf2⟩ := bcell hb2; have hz3 := hb2.size)
      have hz4 : w.heap.size < w2.heap.size := by omega
      have hz5 : w.heap.size + 1 < w2.heap.size := by omega
      have hz6 : w.heap.size + 1 + 1 < w2.heap.size := by omega
      go_wp2_with fail
      all_goals
        have h0 := (hc2 (w.heap.size + 1 + 1) 0 hz2).trans ((hc (w.heap.size + 1 + 1) 0 (by simp)).trans (by simp [go_sem]; rfl))
        have h1 := (hc2 (w.heap.size + 1 + 1) 1 hz2).trans ((hc (w.heap.size + 1 + 1) 1 (by simp)).trans (by simp [go_sem]; rfl))
        first
        | (have hm : meetB a b c d = false := by (simp [meetB, hr, hs]; omega)
           have e1 : meetF a b c d = 0 := by (simp [meetF, hm]; try omega)
           have e2 : meetT a b c d = 0 := by (simp [meetT, hm]; try omega)
           obtain ⟨q0, q1⟩ := two_set (.int .i64 0) (.int .i64 0) h0 h1
           refine bodyPost_ret (v := .tuple #[sp (meetF a b c d) (meetT a b c d), .bool (meetB a b c d)]) (by simp [results, Try.results19, go_sem, q0, q1, e1, e2, hm, hz6]) rfl ⟨rfl, ?_⟩
           exact (((((((Below.refl _ _).alloc (Nat.le_refl _) _).alloc (by simp) _).alloc (by simp; omega) _).trans ((hb.mono (by simp; omega)).trans (hb2.mono (by omega)))).setCell (by simp; omega) _).setCell (by simp; omega) _).alloc (by simp; omega) _)
        | (have hm : meetB a b c d = true := by (simp [meetB, hr, hs]; omega)
           have e1 : meetF a b c d = a := by (simp [meetF, hm]; try omega)
           have e2 : meetT a b c d = b := by (simp [meetT, hm]; try omega)
           obtain ⟨q0, q1⟩ := two_set (.int .i64 a) (.int .i64 b) h0 h1
           refine bodyPost_ret (v := .tuple #[sp (meetF a b c d) (meetT a b c d), .bool (meetB a b c d)]) (by simp [results, Try.results19, go_sem, q0, q1, e1, e2, hm, hz6]) rfl ⟨rfl, ?_⟩
           exact (((((((Below.refl _ _).alloc (Nat.le_refl _) _).alloc (by simp) _).alloc (by simp; omega) _).trans ((hb.mono (by simp; omega)).trans (hb2.mono (by omega)))).setCell (by simp; omega) _).setCell (by simp; omega) _).alloc (by simp; omega) _)
        | (have hm : meetB a b c d = true := by (simp [meetB, hr, hs]; omega)
           have e1 : meetF a b c d = a := by (simp [meetF, hm]; try omega)
           have e2 : meetT a b c d = d := by (simp [meetT, hm]; try omega)
           obtain ⟨q0, q1⟩ := two_set (.int .i64 a) (.int .i64 d) h0 h1
           refine bodyPost_ret (v := .tuple #[sp (meetF a b c d) (meetT a b c d), .bool (meetB a b c d)]) (by simp [results, Try.results19, go_sem, q0, q1, e1, e2, hm, hz6]) rfl ⟨rfl, ?_⟩
           exact (((((((Below.refl _ _).alloc (Nat.le_refl _) _).alloc (by simp) _).alloc (by simp; omega) _).trans ((hb.mono (by simp; omega)).trans (hb2.mono (by omega)))).setCell (by simp; omega) _).setCell (by simp; omega) _).alloc (by simp; omega) _)
        | (have hm : meetB a b c d = true := by (simp [meetB, hr, hs]; omega)
           have e1 : meetF a b c d = c := by (simp [meetF, hm]; try omega)
           have e2 : meetT a b c d = b := by (simp [meetT, hm]; try omega)
           obtain ⟨q0, q1⟩ := two_set (.int .i64 c) (.int .i64 b) h0 h1
           refine bodyPost_ret (v := .tuple #[sp (meetF a b c d) (meetT a b c d), .bool (meetB a b c d)]) (by simp [results, Try.results19, go_sem, q0, q1, e1, e2, hm, hz6]) rfl ⟨rfl, ?_⟩
           exact (((((((Below.refl _ _).alloc (Nat.le_refl _) _).alloc (by simp) _).alloc (by simp; omega) _).trans ((hb.mono (by simp; omega)).trans (hb2.mono (by omega)))).setCell (by simp; omega) _).setCell (by simp; omega) _).alloc (by simp; omega) _)
        | (have hm : meetB a b c d = true := by (simp [meetB, hr, hs]; omega)
           have e1 : meetF a b c d = c := by (simp [meetF, hm]; try omega)
           have e2 : meetT a b c d = d := by (simp [meetT, hm]; try omega)
           obtain ⟨q0, q1⟩ := two_set (.int .i64 c) (.int .i64 d) h0 h1
           refine bodyPost_ret (v := .tuple #[sp (meetF a b c d) (meetT a b c d), .bool (meetB a b c d)]) (by simp [results, Try.results19, go_sem, q0, q1, e1, e2, hm, hz6]) rfl ⟨rfl, ?_⟩
           exact (((((((Below.refl _ _).alloc (Nat.le_refl _) _).alloc (by simp) _).alloc (by simp; omega) _).trans ((hb.mono (by simp; omega)).trans (hb2.mono (by omega)))).setCell (by simp; omega) _).setCell (by simp; omega) _).alloc (by simp; omega) _)

end Go.Proofs.Ytaobmlkbhdonkaa
