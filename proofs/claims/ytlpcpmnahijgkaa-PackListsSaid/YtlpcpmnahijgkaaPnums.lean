/-
  PackNums gives back true for any number and any text.
-/
import Derived.Test.YtlpcpmnahijgkaaPtext
namespace Go.Proofs.Ytlpcpmnahijgkaa
open Go.RowKit

theorem num_size (n : Int) : (numS n).size ≤ 9 := by
  unfold numS
  split
  · rw [encS_size]; have := kN_le n.toNat; omega
  · exact Nat.zero_le _
theorem int_size (n : Int) : (intS n).size ≤ 9 := by
  unfold intS
  split
  · exact num_size _
  · exact Nat.zero_le _
theorem numE_cases (n : Int) : numE n = 0 ∧ 0 ≤ n ∧ n ≤ 4611686018427387903 ∨ numE n = 2 := by
  unfold numE
  by_cases h : 0 ≤ n ∧ n ≤ 4611686018427387903
  · rw [if_pos h]; exact .inl ⟨rfl, h⟩
  · rw [if_neg h]; exact .inr rfl
/-- A number's bytes are taken as it. -/
theorem num_taken {n : Int} (h0 : 0 ≤ n) (h1 : n ≤ 4611686018427387903) (b : ByteArray) : (tkN (numS n ++ b) : Int) = n ∧ tkR (numS n ++ b) = b ∧ tkE (numS n ++ b) = 0 := by
  obtain ⟨m, rfl⟩ : ∃ m : Nat, n = (m : Int) := ⟨n.toNat, by omega⟩
  rw [(num_ok (n := m) (by omega)).1]
  obtain ⟨h2, h3, h4⟩ := tk_enc (n := m) (by omega) b
  exact ⟨by rw [h2], h3, h4⟩
theorem intE_cases (n : Int) : intE n = 0 ∧ -2305843009213693952 ≤ n ∧ n ≤ 2305843009213693951 ∨ intE n = 2 := by
  by_cases h : -2305843009213693952 ≤ n ∧ n ≤ 2305843009213693951
  · refine .inl ⟨?_, h⟩
    rw [(int_ok h rfl).2]
    have hz : 0 ≤ zig n ∧ zig n ≤ 4611686018427387903 := by unfold zig; split <;> omega
    rcases numE_cases (zig n) with h' | h'
    · exact h'.1
    · unfold numE at h'; rw [if_pos hz] at h'; cases h'
  · exact .inr (int_bad h).2
theorem int_taken {n : Int} (h : -2305843009213693952 ≤ n ∧ n ≤ 2305843009213693951) (b : ByteArray) : unzig (tkN (intS n ++ b)) = n ∧ tkR (intS n ++ b) = b ∧ tkE (intS n ++ b) = 0 := by
  rw [(int_ok h rfl).1]
  have hz : 0 ≤ zig n ∧ zig n ≤ 4611686018427387903 := by unfold zig; split <;> omega
  obtain ⟨h2, h3, h4⟩ := num_taken hz.1 hz.2 b
  refine ⟨?_, h3, h4⟩
  generalize tkN (numS (zig n) ++ b) = m at *
  unfold zig at h2
  unfold unzig
  split at h2
  · rw [if_pos (by omega)]; omega
  · rw [if_neg (by omega)]; omega

set_option maxHeartbeats 4000000 in
theorem nums_walk (n : Int) (b : ByteArray) (hb : b.size ≤ 1152921504606846976) (w : World) : Ret 3 #[.int .i64 n, .string b] w (.bool true) := by
  have C1 := Lib.hid (show ∀ w, Calls Try.prog 9 #[.int .i64 n] w fun e w' => e = .returned (.tuple #[.string (numS n), .int .i64 (numE n)]) ∧ Below w.heap.size w w' from num_any n)
  have C2 := Lib.hid (show ∀ w, Calls Try.prog 10 #[.int .i64 n] w fun e w' => e = .returned (.tuple #[.string (numS n), .int .i64 (numE n)]) ∧ Below w.heap.size w w' from dnum_any n)
  have C3 := Lib.hid (show ∀ w, Calls Try.prog 11 #[.int .i64 n] w fun e w' => e = .returned (.tuple #[.string (intS n), .int .i64 (intE n)]) ∧ Below w.heap.size w w' from int_any n)
  have C4 := Lib.hid (show ∀ w, Calls Try.prog 12 #[.int .i64 n] w fun e w' => e = .returned (.tuple #[.string (intS n), .int .i64 (intE n)]) ∧ Below w.heap.size w w' from dint_any n)
  have z1 := num_size n
  have z2 := int_size n
  have C5 := Lib.hid (show ∀ w, Calls Try.prog 13 #[.string (numS n ++ b)] w fun e w' => e = .returned (.tuple #[.int .i64 (tkN (numS n ++ b) : Int), .string (tkR (numS n ++ b)), .int .i64 (tkE (numS n ++ b) : Int)]) ∧ Below w.heap.size w w' from take_any _ (by rw [ByteArray.size_append]; omega))
  have C6 := Lib.hid (show ∀ w, Calls Try.prog 14 #[.string (intS n ++ b)] w fun e w' => e = .returned (.tuple #[.int .i64 (unzig (tkN (intS n ++ b))), .string (tkR (intS n ++ b)), .int .i64 (tkE (intS n ++ b) : Int)]) ∧ Below w.heap.size w w' from takeint_any _ (by rw [ByteArray.size_append]; omega))
  have H1 := Lib.hid (numE_cases n)
  have H2 := Lib.hid (intE_cases n)
  have T1 := Lib.hid (fun h0 h1 => num_taken (n := n) h0 h1 b)
  have T2 := Lib.hid (fun h => int_taken (n := n) h b)
  generalize tkN (numS n ++ b) = x1 at *
  generalize tkR (numS n ++ b) = r1 at *
  generalize tkE (numS n ++ b) = e1 at *
  generalize unzig (tkN (intS n ++ b)) = x2 at *
  generalize tkR (intS n ++ b) = r2 at *
  generalize tkE (intS n ++ b) = e2 at *
  generalize numS n = a at *
  generalize numE n = e at *
  generalize intS n = c at *
  generalize intE n = g at *
  have s1 : ¬ a.size + b.size > 9223372036854775807 := by omega
  have s2 : ¬ c.size + b.size > 9223372036854775807 := by omega
  have hx1 : e = 0 → (x1 : Int) = n ∧ r1 = b ∧ e1 = 0 := fun h => by
    rcases H1.out with ⟨_, h0, h1⟩ | h'
    · exact T1.out h0 h1
    · omega
  have hx2 : g = 0 → x2 = n ∧ r2 = b ∧ e2 = 0 := fun h => by
    rcases H2.out with ⟨_, h'⟩ | h'
    · exact T2.out h'
    · omega
  have X1 := Lib.hid hx1
  have X2 := Lib.hid hx2
  clear hx1 hx2 H1 H2 T1 T2
  by_cases he : e = 0
  · obtain ⟨q1, rfl, rfl⟩ := X1.out he
    subst he
    by_cases hg : g = 0
    · obtain ⟨rfl, rfl, rfl⟩ := X2.out hg
      subst hg
      go_enter Try.func3, Try.ntmps3
      go_wp2_with (first
        | (go_at_call 9; refine (C1.out _).mono ?_; rintro e w1 ⟨rfl, hb1⟩)
        | (go_at_call 10; refine (C2.out _).mono ?_; rintro e w2 ⟨rfl, hb2⟩)
        | (go_at_call 11; refine (C3.out _).mono ?_; rintro e w3 ⟨rfl, hb3⟩)
        | (go_at_call 12; refine (C4.out _).mono ?_; rintro e w4 ⟨rfl, hb4⟩)
        | (go_at_call 13; refine (C5.out _).mono ?_; rintro e w5 ⟨rfl, hb5⟩)
        | (go_at_call 14; refine (C6.out _).mono ?_; rintro e w6 ⟨rfl, hb6⟩)
        | (go_at_call 15; refine (alive_any _).mono ?_; rintro e w7 ⟨rfl, hb7⟩))
      go_ret
      exact ⟨rfl, chain (chain (chain (chain (chain (chain hb1 hb2) hb3) hb4) hb5) hb6) hb7⟩
    · clear X1 X2
      go_enter Try.func3, Try.ntmps3
      go_wp2_with (first
        | (go_at_call 9; refine (C1.out _).mono ?_; rintro e w1 ⟨rfl, hb1⟩)
        | (go_at_call 10; refine (C2.out _).mono ?_; rintro e w2 ⟨rfl, hb2⟩)
        | (go_at_call 11; refine (C3.out _).mono ?_; rintro e w3 ⟨rfl, hb3⟩)
        | (go_at_call 12; refine (C4.out _).mono ?_; rintro e w4 ⟨rfl, hb4⟩)
        | (go_at_call 13; refine (C5.out _).mono ?_; rintro e w5 ⟨rfl, hb5⟩)
        | (go_at_call 14; refine (C6.out _).mono ?_; rintro e w6 ⟨rfl, hb6⟩)
        | (go_at_call 15; refine (alive_any _).mono ?_; rintro e w7 ⟨rfl, hb7⟩))
      go_ret
      exact ⟨rfl, chain (chain (chain (chain (chain (chain hb1 hb2) hb3) hb4) hb5) hb6) hb7⟩
  · by_cases hg : g = 0
    · obtain ⟨rfl, rfl, rfl⟩ := X2.out hg
      subst hg
      go_enter Try.func3, Try.ntmps3
      go_wp2_with (first
        | (go_at_call 9; refine (C1.out _).mono ?_; rintro e w1 ⟨rfl, hb1⟩)
        | (go_at_call 10; refine (C2.out _).mono ?_; rintro e w2 ⟨rfl, hb2⟩)
        | (go_at_call 11; refine (C3.out _).mono ?_; rintro e w3 ⟨rfl, hb3⟩)
        | (go_at_call 12; refine (C4.out _).mono ?_; rintro e w4 ⟨rfl, hb4⟩)
        | (go_at_call 13; refine (C5.out _).mono ?_; rintro e w5 ⟨rfl, hb5⟩)
        | (go_at_call 14; refine (C6.out _).mono ?_; rintro e w6 ⟨rfl, hb6⟩)
        | (go_at_call 15; refine (alive_any _).mono ?_; rintro e w7 ⟨rfl, hb7⟩))
      go_ret
      exact ⟨rfl, chain (chain (chain (chain (chain (chain hb1 hb2) hb3) hb4) hb5) hb6) hb7⟩
    · clear X1 X2
      go_enter Try.func3, Try.ntmps3
      go_wp2_with (first
        | (go_at_call 9; refine (C1.out _).mono ?_; rintro e w1 ⟨rfl, hb1⟩)
        | (go_at_call 10; refine (C2.out _).mono ?_; rintro e w2 ⟨rfl, hb2⟩)
        | (go_at_call 11; refine (C3.out _).mono ?_; rintro e w3 ⟨rfl, hb3⟩)
        | (go_at_call 12; refine (C4.out _).mono ?_; rintro e w4 ⟨rfl, hb4⟩)
        | (go_at_call 13; refine (C5.out _).mono ?_; rintro e w5 ⟨rfl, hb5⟩)
        | (go_at_call 14; refine (C6.out _).mono ?_; rintro e w6 ⟨rfl, hb6⟩)
        | (go_at_call 15; refine (alive_any _).mono ?_; rintro e w7 ⟨rfl, hb7⟩))
      go_ret
      exact ⟨rfl, chain (chain (chain (chain (chain (chain hb1 hb2) hb3) hb4) hb5) hb6) hb7⟩

end Go.Proofs.Ytlpcpmnahijgkaa
