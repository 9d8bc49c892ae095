/-
  PackAgain gives back true for any text.
-/
import Derived.Test.YtlpcpmnahijgkaaPtexts
namespace Go.Proofs.Ytlpcpmnahijgkaa
open Go.RowKit

theorem ttS_size (s : ByteArray) (most : Int) : (ttS s most).size ≤ s.size ∧ (ttR s most).size ≤ s.size := by
  have hR := tkR_size s
  by_cases h0 : tkE s = 0
  · by_cases h1 : most < tkN s
    · obtain ⟨a, b, _⟩ := tt_most h0 h1
      rw [a, b]; exact ⟨Nat.zero_le _, Nat.zero_le _⟩
    · by_cases h2 : (tkR s).size < tkN s
      · obtain ⟨a, b, _⟩ := tt_end h0 h1 h2
        rw [a, b]; exact ⟨Nat.zero_le _, Nat.zero_le _⟩
      · obtain ⟨a, b, _⟩ := tt_good h0 h1 h2
        rw [a, b, ByteArray.size_extract, ByteArray.size_extract]
        omega
  · obtain ⟨a, b, _⟩ := tt_err (most := most) h0
    rw [a, b]; exact ⟨Nat.zero_le _, Nat.zero_le _⟩

set_option maxHeartbeats 4000000 in
theorem again_walk (s : ByteArray) (hs0 : s.size ≤ 1152921504606846976) (w : World) : Ret 8 #[.string s] w (.bool true) := by
  by_cases h0 : 3000 < s.size
  · have h0' : (3000 : Int) < (s.size : Int) := by omega
    go_enter Try.func8, Try.ntmps8
    go_wp2_with (go_at_call 15; refine (alive_any _).mono ?_; rintro e w3 ⟨rfl, hb3⟩)
    go_ret
    exact ⟨rfl, hb3⟩
  have h0' : ¬ (3000 : Int) < (s.size : Int) := by omega
  have hn := tkN_lt s
  have z1 := tkR_size s
  obtain ⟨z2, z3⟩ := ttS_size s 3000
  have z4 := textS_size (ttS s 3000)
  have z5 := kN_le (ttS s 3000).size
  have z6 := encS_size (tkN s)
  have z7 := kN_le (tkN s)
  have C1 := Lib.hid (show ∀ w, Calls Try.prog 13 #[.string s] w fun e w' => e = .returned (.tuple #[.int .i64 (tkN s : Int), .string (tkR s), .int .i64 (tkE s : Int)]) ∧ Below w.heap.size w w' from take_any s (by omega))
  have C2 := Lib.hid (show ∀ w, Calls Try.prog 9 #[.int .i64 (tkN s : Int)] w fun e w' => e = .returned (.tuple #[.string (encS (tkN s)), .int .i64 0]) ∧ Below w.heap.size w w' from fun w => by
    have h := num_any (tkN s) w
    unfold NumPost at h
    rw [(num_ok hn).1, (num_ok hn).2] at h
    exact h)
  have C3 := Lib.hid (show ∀ w, Calls Try.prog 18 #[.string s, .int .i64 3000] w fun e w' => e = .returned (.tuple #[.string (ttS s 3000), .string (ttR s 3000), .int .i64 (ttE s 3000 : Int)]) ∧ Below w.heap.size w w' from taketext_any s (by omega) 3000)
  have C4 := Lib.hid (fun w => text_any (ttS s 3000) (by omega) w)
  have A1 := Lib.hid (fun h => tk_again (s := s) h)
  have A2 := Lib.hid (fun h => tt_again (s := s) (most := 3000) h)
  have q1 : ¬ (encS (tkN s)).size + (tkR s).size > 9223372036854775807 := by omega
  have q2 : ¬ (textS (ttS s 3000)).size + (ttR s 3000).size > 9223372036854775807 := by omega
  clear z1 z2 z3 z4 z5 z6 z7 hn
  generalize encS (tkN s) = a at *
  generalize tkN s = n at *
  generalize tkR s = r at *
  generalize tkE s = e1 at *
  generalize textS (ttS s 3000) = t at *
  generalize ttS s 3000 = x at *
  generalize ttR s 3000 = y at *
  generalize ttE s 3000 = e2 at *
  by_cases h1 : e1 = 0
  · have hj1 := A1.out h1
    subst h1
    by_cases h2 : e2 = 0
    · have hj2 := A2.out h2
      subst h2
      clear A1 A2
      go_enter Try.func8, Try.ntmps8
      go_wp2_with (first
        | (go_at_call 13; refine (C1.out _).mono ?_; rintro e w1 ⟨rfl, hb1⟩)
        | (go_at_call 9; refine (C2.out _).mono ?_; rintro e w2 ⟨rfl, hb2⟩)
        | (go_at_call 18; refine (C3.out _).mono ?_; rintro e w3 ⟨rfl, hb3⟩)
        | (go_at_call 25; refine (C4.out _).mono ?_; rintro e w4 ⟨rfl, hb4⟩)
        | (go_at_call 15; refine (alive_any _).mono ?_; rintro e w5 ⟨rfl, hb5⟩))
      go_ret
      exact ⟨rfl, chain (chain (chain (chain hb1 hb2) hb3) hb4) hb5⟩
    · have h2' : ¬ (e2 : Int) = 0 := by omega
      clear A1 A2
      go_enter Try.func8, Try.ntmps8
      go_wp2_with (first
        | (go_at_call 13; refine (C1.out _).mono ?_; rintro e w1 ⟨rfl, hb1⟩)
        | (go_at_call 9; refine (C2.out _).mono ?_; rintro e w2 ⟨rfl, hb2⟩)
        | (go_at_call 18; refine (C3.out _).mono ?_; rintro e w3 ⟨rfl, hb3⟩)
        | (go_at_call 25; refine (C4.out _).mono ?_; rintro e w4 ⟨rfl, hb4⟩)
        | (go_at_call 15; refine (alive_any _).mono ?_; rintro e w5 ⟨rfl, hb5⟩))
      go_ret
      exact ⟨rfl, chain (chain (chain hb1 hb2) hb3) hb5⟩
  · have h1' : ¬ (e1 : Int) = 0 := by omega
    by_cases h2 : e2 = 0
    · have hj2 := A2.out h2
      subst h2
      clear A1 A2
      go_enter Try.func8, Try.ntmps8
      go_wp2_with (first
        | (go_at_call 13; refine (C1.out _).mono ?_; rintro e w1 ⟨rfl, hb1⟩)
        | (go_at_call 18; refine (C3.out _).mono ?_; rintro e w3 ⟨rfl, hb3⟩)
        | (go_at_call 25; refine (C4.out _).mono ?_; rintro e w4 ⟨rfl, hb4⟩)
        | (go_at_call 15; refine (alive_any _).mono ?_; rintro e w5 ⟨rfl, hb5⟩))
      go_ret
      exact ⟨rfl, chain (chain (chain hb1 hb3) hb4) hb5⟩
    · have h2' : ¬ (e2 : Int) = 0 := by omega
      clear A1 A2
      go_enter Try.func8, Try.ntmps8
      go_wp2_with (first
        | (go_at_call 13; refine (C1.out _).mono ?_; rintro e w1 ⟨rfl, hb1⟩)
        | (go_at_call 18; refine (C3.out _).mono ?_; rintro e w3 ⟨rfl, hb3⟩)
        | (go_at_call 25; refine (C4.out _).mono ?_; rintro e w4 ⟨rfl, hb4⟩)
        | (go_at_call 15; refine (alive_any _).mono ?_; rintro e w5 ⟨rfl, hb5⟩))
      go_ret
      exact ⟨rfl, chain (chain hb1 hb3) hb5⟩

end Go.Proofs.Ytlpcpmnahijgkaa
