/-
  PackTakes gives back true for any text and any number.
-/
import Derived.Test.YtlpcpmnahijgkaaPdtext
namespace Go.Proofs.Ytlpcpmnahijgkaa
open Go.RowKit

set_option maxHeartbeats 4000000 in
theorem takes_walk (s : ByteArray) (most : Int) (hs0 : s.size ≤ 1152921504606846976) (w : World) : Ret 4 #[.string s, .int .i64 most] w (.bool true) := by
  by_cases h0 : 3000 < s.size
  · have h0' : (3000 : Int) < (s.size : Int) := by omega
    go_enter Try.func4, Try.ntmps4
    go_wp2_with (go_at_call 15; refine (alive_any _).mono ?_; rintro e w3 ⟨rfl, hb3⟩)
    go_ret
    exact ⟨rfl, hb3⟩
  have h0' : ¬ (3000 : Int) < (s.size : Int) := by omega
  have C1 := Lib.hid (show ∀ w, Calls Try.prog 13 #[.string s] w fun e w' => e = .returned (.tuple #[.int .i64 (tkN s : Int), .string (tkR s), .int .i64 (tkE s : Int)]) ∧ Below w.heap.size w w' from take_any s (by omega))
  have C2 := Lib.hid (show ∀ w, Calls Try.prog 16 #[.string s] w fun e w' => e = .returned (.tuple #[.int .i64 (tkN s : Int), .string (tkR s), .int .i64 (tkE s : Int)]) ∧ Below w.heap.size w w' from dtake_any s (by omega))
  have C3 := Lib.hid (show ∀ w, Calls Try.prog 14 #[.string s] w fun e w' => e = .returned (.tuple #[.int .i64 (unzig (tkN s)), .string (tkR s), .int .i64 (tkE s : Int)]) ∧ Below w.heap.size w w' from takeint_any s (by omega))
  have C4 := Lib.hid (show ∀ w, Calls Try.prog 17 #[.string s] w fun e w' => e = .returned (.tuple #[.int .i64 (unzig (tkN s)), .string (tkR s), .int .i64 (tkE s : Int)]) ∧ Below w.heap.size w w' from dtakeint_any s (by omega))
  have C5 := Lib.hid (show ∀ w, Calls Try.prog 18 #[.string s, .int .i64 most] w fun e w' => e = .returned (.tuple #[.string (ttS s most), .string (ttR s most), .int .i64 (ttE s most : Int)]) ∧ Below w.heap.size w w' from taketext_any s (by omega) most)
  have C6 := Lib.hid (show ∀ w, Calls Try.prog 19 #[.string s, .int .i64 most] w fun e w' => e = .returned (.tuple #[.string (ttS s most), .string (ttR s most), .int .i64 (ttE s most : Int)]) ∧ Below w.heap.size w w' from dtaketext_any s (by omega) most)
  generalize unzig (tkN s) = u at *
  generalize tkN s = n at *
  generalize tkR s = r at *
  generalize tkE s = e1 at *
  generalize ttS s most = x at *
  generalize ttR s most = y at *
  generalize ttE s most = e2 at *
  go_enter Try.func4, Try.ntmps4
  go_wp2_with (first
    | (go_at_call 13; refine (C1.out _).mono ?_; rintro e w1 ⟨rfl, hb1⟩)
    | (go_at_call 16; refine (C2.out _).mono ?_; rintro e w2 ⟨rfl, hb2⟩)
    | (go_at_call 14; refine (C3.out _).mono ?_; rintro e w3 ⟨rfl, hb3⟩)
    | (go_at_call 17; refine (C4.out _).mono ?_; rintro e w4 ⟨rfl, hb4⟩)
    | (go_at_call 18; refine (C5.out _).mono ?_; rintro e w5 ⟨rfl, hb5⟩)
    | (go_at_call 19; refine (C6.out _).mono ?_; rintro e w6 ⟨rfl, hb6⟩)
    | (go_at_call 15; refine (alive_any _).mono ?_; rintro e w7 ⟨rfl, hb7⟩))
  go_ret
  exact ⟨rfl, chain (chain (chain (chain (chain (chain hb1 hb2) hb3) hb4) hb5) hb6) hb7⟩

end Go.Proofs.Ytlpcpmnahijgkaa
