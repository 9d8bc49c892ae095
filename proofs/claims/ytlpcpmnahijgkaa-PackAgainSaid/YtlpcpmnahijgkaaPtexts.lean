/-
  PackTexts gives back true for any two texts and any number.
-/
import Derived.Test.YtlpcpmnahijgkaaPtext
namespace Go.Proofs.Ytlpcpmnahijgkaa
open Go.RowKit

theorem textS_size (s : ByteArray) : (textS s).size = kN s.size + 1 + s.size := by rw [textS, ByteArray.size_append, encS_size]

set_option maxHeartbeats 4000000 in
theorem texts_walk (s b : ByteArray) (most : Int) (hs0 : s.size ≤ 1152921504606846976) (hb0 : b.size ≤ 1152921504606846976) (w : World) : Ret 6 #[.string s, .string b, .int .i64 most] w (.bool true) := by
  by_cases h0 : 20000 < s.size
  · have h0' : (20000 : Int) < (s.size : Int) := by omega
    go_enter Try.func6, Try.ntmps6
    go_wp2_with (go_at_call 15; refine (alive_any _).mono ?_; rintro e w3 ⟨rfl, hb3⟩)
    go_ret
    exact ⟨rfl, hb3⟩
  by_cases h1 : 20000 < b.size
  · have h0' : ¬ (20000 : Int) < (s.size : Int) := by omega
    have h1' : (20000 : Int) < (b.size : Int) := by omega
    go_enter Try.func6, Try.ntmps6
    go_wp2_with (go_at_call 15; refine (alive_any _).mono ?_; rintro e w3 ⟨rfl, hb3⟩)
    go_ret
    exact ⟨rfl, hb3⟩
  have h0' : ¬ (20000 : Int) < (s.size : Int) := by omega
  have h1' : ¬ (20000 : Int) < (b.size : Int) := by omega
  have hz := textS_size s
  have hk := kN_le s.size
  have C1 := Lib.hid (fun w => text_any s (by omega) w)
  have C2 := Lib.hid (fun w => dtext_any s (by omega) w)
  have C3 := Lib.hid (show ∀ w, Calls Try.prog 18 #[.string (textS s ++ b), .int .i64 most] w fun e w' => e = .returned (.tuple #[.string (ttS (textS s ++ b) most), .string (ttR (textS s ++ b) most), .int .i64 (ttE (textS s ++ b) most : Int)]) ∧ Below w.heap.size w w' from taketext_any _ (by rw [ByteArray.size_append]; omega) most)
  have T1 := Lib.hid (fun h => tt_text (s := s) (b := b) (most := most) (by omega) h)
  have T2 := Lib.hid (fun h => tt_big (s := s) (b := b) (most := most) (by omega) h)
  generalize ttS (textS s ++ b) most = x at *
  generalize ttR (textS s ++ b) most = y at *
  generalize ttE (textS s ++ b) most = z at *
  have q1 : (textS s).size ≤ 30000 := by omega
  have q2 : ¬ (textS s).size + b.size > 9223372036854775807 := by omega
  clear hz
  generalize textS s = t at *
  by_cases hm : most < (s.size : Int)
  · obtain ⟨rfl, rfl, rfl⟩ := T2.out hm
    go_enter Try.func6, Try.ntmps6
    go_wp2_with (first
      | (go_at_call 25; refine (C1.out _).mono ?_; rintro e w1 ⟨rfl, hb1⟩)
      | (go_at_call 26; refine (C2.out _).mono ?_; rintro e w2 ⟨rfl, hb2⟩)
      | (go_at_call 18; refine (C3.out _).mono ?_; rintro e w3 ⟨rfl, hb3⟩)
      | (go_at_call 15; refine (alive_any _).mono ?_; rintro e w4 ⟨rfl, hb4⟩))
    go_ret
    exact ⟨rfl, chain (chain (chain hb1 hb2) hb3) hb4⟩
  · obtain ⟨rfl, rfl, rfl⟩ := T1.out (by omega)
    go_enter Try.func6, Try.ntmps6
    go_wp2_with (first
      | (go_at_call 25; refine (C1.out _).mono ?_; rintro e w1 ⟨rfl, hb1⟩)
      | (go_at_call 26; refine (C2.out _).mono ?_; rintro e w2 ⟨rfl, hb2⟩)
      | (go_at_call 18; refine (C3.out _).mono ?_; rintro e w3 ⟨rfl, hb3⟩)
      | (go_at_call 15; refine (alive_any _).mono ?_; rintro e w4 ⟨rfl, hb4⟩))
    go_ret
    exact ⟨rfl, chain (chain (chain hb1 hb2) hb3) hb4⟩

end Go.Proofs.Ytlpcpmnahijgkaa
