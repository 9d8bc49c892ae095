/-
  What a text begins with, as a text, by the program: TakeText.
-/
import Derived.Test.YtnmnbnlokmmcmaaPtakep
namespace Go.Proofs.Ytnmnbnlokmmcmaa
open Go.RowKit

def TextPost (s : ByteArray) (most : Int) (w : World) (e : Ending) (w' : World) : Prop := e = .returned (.tuple #[.string (ttS s most), .string (ttR s most), .int .i64 (ttE s most : Int)]) ∧ Below w.heap.size w w'
theorem ret_sse {s t u v : ByteArray} {c d : Int} (h : s = t) (k : u = v) (l : c = d) : Ending.returned (.tuple #[.string s, .string u, .int .i64 c]) = .returned (.tuple #[.string t, .string v, .int .i64 d]) := by rw [h, k, l]
theorem tt_err {s : ByteArray} {most : Int} (h : tkE s ≠ 0) : ttS s most = ⟨#[]⟩ ∧ ttR s most = ⟨#[]⟩ ∧ ttE s most = tkE s := by
  simp only [ttS, ttR, ttE, tt, if_pos h]; exact ⟨trivial, trivial, trivial⟩
theorem tt_most {s : ByteArray} {most : Int} (h : tkE s = 0) (h2 : most < tkN s) : ttS s most = ⟨#[]⟩ ∧ ttR s most = ⟨#[]⟩ ∧ ttE s most = 4 := by
  have h' : ¬ tkE s ≠ 0 := fun k => k h
  simp only [ttS, ttR, ttE, tt, if_neg h', if_pos h2]; exact ⟨trivial, trivial, trivial⟩
theorem tt_end {s : ByteArray} {most : Int} (h : tkE s = 0) (h2 : ¬ most < tkN s) (h3 : (tkR s).size < tkN s) : ttS s most = ⟨#[]⟩ ∧ ttR s most = ⟨#[]⟩ ∧ ttE s most = 9 := by
  have h' : ¬ tkE s ≠ 0 := fun k => k h
  simp only [ttS, ttR, ttE, tt, if_neg h', if_neg h2, if_pos h3]; exact ⟨trivial, trivial, trivial⟩
theorem tt_good {s : ByteArray} {most : Int} (h : tkE s = 0) (h2 : ¬ most < tkN s) (h3 : ¬ (tkR s).size < tkN s) : ttS s most = (tkR s).extract 0 (tkN s) ∧ ttR s most = (tkR s).extract (tkN s) (tkR s).size ∧ ttE s most = 0 := by
  have h' : ¬ tkE s ≠ 0 := fun k => k h
  simp only [ttS, ttR, ttE, tt, if_neg h', if_neg h2, if_neg h3]; exact ⟨trivial, trivial, trivial⟩

set_option maxHeartbeats 4000000 in
theorem taketext_any (s : ByteArray) (hs : s.size ≤ 4611686018427387903) (most : Int) (w : World) : Calls Try.prog 57 #[.string s, .int .i64 most] w (TextPost s most w) := by
  have CT := Lib.hid (fun w => take_any s hs w)
  have hn := tkN_lt s
  have hR := tkR_size s
  have HE := Lib.hid (tt_err (s := s) (most := most))
  have HM := Lib.hid (tt_most (s := s) (most := most))
  have HD := Lib.hid (tt_end (s := s) (most := most))
  have HG := Lib.hid (tt_good (s := s) (most := most))
  have CT2 := Lib.hid (show ∀ w, Calls Try.prog 43 #[.string s] w fun e w' => e = .returned (.tuple #[.int .i64 (tkN s : Int), .string (tkR s), .int .i64 (tkE s : Int)]) ∧ Below w.heap.size w w' from CT.out)
  clear CT
  generalize tkN s = n at *
  generalize tkR s = R at *
  generalize tkE s = E at *
  by_cases hE : E = 0
  · subst hE
    by_cases h2 : most < n
    · have TT := Lib.hid (HM.out rfl h2)
      clear HE HM HD HG
      go_enter Try.func57, Try.ntmps57
      go_wp2_with (go_at_call 43; refine (CT2.out _).mono ?_; rintro e w1 ⟨rfl, hb⟩)
      go_ret3
      exact ⟨ret_sse TT.out.1.symm TT.out.2.1.symm (by rw [TT.out.2.2]; rfl), hb⟩
    · by_cases h3 : R.size < n
      · have TT := Lib.hid (HD.out rfl h2 h3)
        clear HE HM HD HG
        have h3' : (R.size : Int) < (n : Int) := by omega
        go_enter Try.func57, Try.ntmps57
        go_wp2_with (go_at_call 43; refine (CT2.out _).mono ?_; rintro e w1 ⟨rfl, hb⟩)
        go_ret3
        exact ⟨ret_sse TT.out.1.symm TT.out.2.1.symm (by rw [TT.out.2.2]; rfl), hb⟩
      · have TT := Lib.hid (HG.out rfl h2 h3)
        clear HE HM HD HG
        have h3' : ¬ (R.size : Int) < (n : Int) := by omega
        have h4 : (n : Int) ≤ (R.size : Int) := by omega
        go_enter Try.func57, Try.ntmps57
        go_wp2_with (go_at_call 43; refine (CT2.out _).mono ?_; rintro e w1 ⟨rfl, hb⟩)
        go_quiet (fail)
        go_wp2_with fail
        go_ret3
        exact ⟨ret_sse TT.out.1.symm TT.out.2.1.symm (by rw [TT.out.2.2]; rfl), belowN hb _⟩
  · have TT := Lib.hid (HE.out hE)
    have hE' : ¬ (E : Int) = 0 := by omega
    clear HE HM HD HG
    go_enter Try.func57, Try.ntmps57
    go_wp2_with (go_at_call 43; refine (CT2.out _).mono ?_; rintro e w1 ⟨rfl, hb⟩)
    go_ret3
    exact ⟨ret_sse TT.out.1.symm TT.out.2.1.symm (by rw [TT.out.2.2]), hb⟩

end Go.Proofs.Ytnmnbnlokmmcmaa
