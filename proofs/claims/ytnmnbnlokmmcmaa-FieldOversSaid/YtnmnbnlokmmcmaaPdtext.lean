/-
  What a text begins with, by the document: its TakeInt and TakeText.
-/
import Derived.Test.YtnmnbnlokmmcmaaPdtake
namespace Go.Proofs.Ytnmnbnlokmmcmaa
open Go.RowKit

theorem dtake_any (s : ByteArray) (hs : s.size ≤ 4611686018427387903) (w : World) : Calls Try.prog 45 #[.string s] w (TakePost s w) := by
  cases h : nats s with
  | nil =>
    obtain rfl : s = ⟨#[]⟩ := nats_inj h
    exact dtake_nil w
  | cons c r => exact dtake_cons s hs c r h w

set_option maxHeartbeats 1000000 in
theorem dtakeint_any (s : ByteArray) (hs : s.size ≤ 4611686018427387903) (w : World) : Calls Try.prog 47 #[.string s] w (TakeIntPost s w) := by
  have CT := Lib.hid (show ∀ w, Calls Try.prog 45 #[.string s] w fun e w' => e = .returned (.tuple #[.int .i64 (tkN s : Int), .string (tkR s), .int .i64 (tkE s : Int)]) ∧ Below w.heap.size w w' from dtake_any s hs)
  have hn := tkN_lt s
  have ER := Lib.hid (tk_err (s := s))
  have HP := Lib.hid (show TakeIntPost s w = fun e w' => e = .returned (.tuple #[.int .i64 (unzig (tkN s)), .string (tkR s), .int .i64 (tkE s : Int)]) ∧ Below w.heap.size w w' from rfl)
  rw [HP.out]
  clear HP
  generalize tkN s = n at *
  generalize tkR s = R at *
  generalize tkE s = E at *
  by_cases hE : E = 0
  · subst hE
    clear ER
    by_cases ho : n % 2 = 1
    · have h1 : (n : Int) % 2 = 1 := by omega
      have HU := Lib.hid (unzig_odd ho)
      go_enter Try.func47, Try.ntmps47
      go_wp2_with (go_at_call 45; refine (CT.out _).mono ?_; rintro e w1 ⟨rfl, hb⟩)
      go_ret3
      refine ⟨ret_ise ?_ rfl rfl, hb⟩
      rw [HU.out]
    · have h1 : ¬ (n : Int) % 2 = 1 := by omega
      have HU := Lib.hid (unzig_even ho)
      go_enter Try.func47, Try.ntmps47
      go_wp2_with (go_at_call 45; refine (CT.out _).mono ?_; rintro e w1 ⟨rfl, hb⟩)
      go_ret3
      exact ⟨ret_ise HU.out.symm rfl rfl, hb⟩
  · obtain ⟨rfl, rfl⟩ := ER.out hE
    have hE' : ¬ (E : Int) = 0 := by omega
    clear ER
    go_enter Try.func47, Try.ntmps47
    go_wp2_with (go_at_call 45; refine (CT.out _).mono ?_; rintro e w1 ⟨rfl, hb⟩)
    go_ret3
    exact ⟨ret_ise rfl rfl rfl, hb⟩

set_option maxHeartbeats 4000000 in
theorem dtaketext_any (s : ByteArray) (hs : s.size ≤ 4611686018427387903) (most : Int) (w : World) : Calls Try.prog 46 #[.string s, .int .i64 most] w (TextPost s most w) := by
  have CT := Lib.hid (fun w => dtake_any s hs w)
  have hn := tkN_lt s
  have hR := tkR_size s
  have HE := Lib.hid (tt_err (s := s) (most := most))
  have HM := Lib.hid (tt_most (s := s) (most := most))
  have HD := Lib.hid (tt_end (s := s) (most := most))
  have HG := Lib.hid (tt_good (s := s) (most := most))
  have CT2 := Lib.hid (show ∀ w, Calls Try.prog 45 #[.string s] w fun e w' => e = .returned (.tuple #[.int .i64 (tkN s : Int), .string (tkR s), .int .i64 (tkE s : Int)]) ∧ Below w.heap.size w w' from CT.out)
  clear CT
  generalize tkN s = n at *
  generalize tkR s = R at *
  generalize tkE s = E at *
  by_cases hE : E = 0
  · subst hE
    by_cases h2 : most < n
    · have TT := Lib.hid (HM.out rfl h2)
      clear HE HM HD HG
      go_enter Try.func46, Try.ntmps46
      go_wp2_with (go_at_call 45; refine (CT2.out _).mono ?_; rintro e w1 ⟨rfl, hb⟩)
      go_ret3
      exact ⟨ret_sse TT.out.1.symm TT.out.2.1.symm (by rw [TT.out.2.2]; rfl), hb⟩
    · by_cases h3 : R.size < n
      · have TT := Lib.hid (HD.out rfl h2 h3)
        clear HE HM HD HG
        have h3' : (R.size : Int) < (n : Int) := by omega
        go_enter Try.func46, Try.ntmps46
        go_wp2_with (go_at_call 45; refine (CT2.out _).mono ?_; rintro e w1 ⟨rfl, hb⟩)
        go_ret3
        exact ⟨ret_sse TT.out.1.symm TT.out.2.1.symm (by rw [TT.out.2.2]; rfl), hb⟩
      · have TT := Lib.hid (HG.out rfl h2 h3)
        clear HE HM HD HG
        have h3' : ¬ (R.size : Int) < (n : Int) := by omega
        have h4 : (n : Int) ≤ (R.size : Int) := by omega
        go_enter Try.func46, Try.ntmps46
        go_wp2_with (go_at_call 45; refine (CT2.out _).mono ?_; rintro e w1 ⟨rfl, hb⟩)
        go_quiet (fail)
        go_wp2_with fail
        go_ret3
        exact ⟨ret_sse TT.out.1.symm TT.out.2.1.symm (by rw [TT.out.2.2]; rfl), belowN hb _⟩
  · have TT := Lib.hid (HE.out hE)
    have hE' : ¬ (E : Int) = 0 := by omega
    clear HE HM HD HG
    go_enter Try.func46, Try.ntmps46
    go_wp2_with (go_at_call 45; refine (CT2.out _).mono ?_; rintro e w1 ⟨rfl, hb⟩)
    go_ret3
    exact ⟨ret_sse TT.out.1.symm TT.out.2.1.symm (by rw [TT.out.2.2]), hb⟩

end Go.Proofs.Ytnmnbnlokmmcmaa
