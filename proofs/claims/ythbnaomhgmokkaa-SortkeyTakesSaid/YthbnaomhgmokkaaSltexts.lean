/-
  SortkeyTexts and SortkeyTakes give back true for any texts.
-/
import Derived.Test.YthbnaomhgmokkaaSalive
namespace Go.Proofs.Ythbnaomhgmokkaa
open Go.RowKit

set_option maxHeartbeats 4000000 in
theorem texts_walk (s t b : ByteArray) (hs0 : s.size ≤ 1152921504606846976) (ht0 : t.size ≤ 1152921504606846976) (hb0 : b.size ≤ 1152921504606846976) (w : World) : Ret 4 #[.string s, .string t, .string b] w (.bool true) := by
  by_cases h0 : 2000 < s.size
  · have h0' : (2000 : Int) < (s.size : Int) := by omega
    go_enter Try.func4, Try.ntmps4
    go_wp2_with (go_at_call 12; refine (alive_any _).mono ?_; rintro e w3 ⟨rfl, hb3⟩)
    go_ret
    exact ⟨rfl, hb3⟩
  have h0' : ¬ (2000 : Int) < (s.size : Int) := by omega
  by_cases h1 : 2000 < t.size
  · have h1' : (2000 : Int) < (t.size : Int) := by omega
    go_enter Try.func4, Try.ntmps4
    go_wp2_with (go_at_call 12; refine (alive_any _).mono ?_; rintro e w3 ⟨rfl, hb3⟩)
    go_ret
    exact ⟨rfl, hb3⟩
  have h1' : ¬ (2000 : Int) < (t.size : Int) := by omega
  by_cases h2 : 2000 < b.size
  · have h2' : (2000 : Int) < (b.size : Int) := by omega
    go_enter Try.func4, Try.ntmps4
    go_wp2_with (go_at_call 12; refine (alive_any _).mono ?_; rintro e w3 ⟨rfl, hb3⟩)
    go_ret
    exact ⟨rfl, hb3⟩
  have h2' : ¬ (2000 : Int) < (b.size : Int) := by omega
  have C1 := Lib.hid (fun w => text_any s (by omega) w)
  have C2 := Lib.hid (fun w => text_any t (by omega) w)
  have z1 := keyTS_size s
  have z2 := keyTS_size t
  have C3 := Lib.hid (fun w => taketext_any (keyTS s ++ b) (by rw [ByteArray.size_append]; omega) w)
  have C4 := Lib.hid (fun w => dtext_any s (by omega) w)
  have C5 := Lib.hid (fun w => dbegins_any (keyTS s) (keyTS t) (by omega) (by omega) w)
  have TK := Lib.hid (tx_key s b)
  have hl := less_keyT s t
  have hbg := begB_key s t
  rw [← toList_eq_nats] at hbg
  rw [hbg] at C5
  have hz : ¬ (keyTS s).size + b.size > 9223372036854775807 := by omega
  clear z1 z2 hbg h0 h1 h2
  generalize txS (keyTS s ++ b) = x at *
  generalize txR (keyTS s ++ b) = r at *
  generalize txE (keyTS s ++ b) = e1 at *
  obtain ⟨rfl, rfl, rfl⟩ := TK.out
  generalize keyTS x = a at *
  generalize keyTS t = c at *
  go_enter Try.func4, Try.ntmps4
  go_wp2_with fail
  (go_at_call 13; refine (C1.out _).mono ?_; rintro e w1 ⟨rfl, hb1⟩)
  go_wp2_with fail
  (go_at_call 13; refine (C2.out _).mono ?_; rintro e w2 ⟨rfl, hb2⟩)
  go_wp2_with (first
    | (go_at_call 14; refine (C3.out _).mono ?_; rintro e w3 ⟨rfl, hb3⟩)
    | (go_at_call 15; refine (C4.out _).mono ?_; rintro e w4 ⟨rfl, hb4⟩)
    | (go_at_call 16; refine (C5.out _).mono ?_; rintro e w5 ⟨rfl, rfl⟩)
    | (go_at_call 12; refine (alive_any _).mono ?_; rintro e w6 ⟨rfl, hb6⟩))
  go_ret
  exact ⟨rfl, chain (chain (chain (chain hb1 hb2) hb3) hb4) hb6⟩

set_option maxHeartbeats 4000000 in
theorem takes_walk (s : ByteArray) (hs0 : s.size ≤ 1152921504606846976) (w : World) : Ret 5 #[.string s] w (.bool true) := by
  by_cases h0 : 2000 < s.size
  · have h0' : (2000 : Int) < (s.size : Int) := by omega
    go_enter Try.func5, Try.ntmps5
    go_wp2_with (go_at_call 12; refine (alive_any _).mono ?_; rintro e w3 ⟨rfl, hb3⟩)
    go_ret
    exact ⟨rfl, hb3⟩
  have h0' : ¬ (2000 : Int) < (s.size : Int) := by omega
  have C1 := Lib.hid (fun w => takeint_any s hs0 w)
  have C2 := Lib.hid (fun w => dtakeint_any s (by omega) w)
  have C3 := Lib.hid (fun w => taketext_any s (by omega) w)
  have C4 := Lib.hid (fun w => dtaketext_any s (by omega) w)
  generalize tiN s = a at *
  generalize tiR s = b at *
  generalize tiE s = c at *
  generalize txS s = x at *
  generalize txR s = y at *
  generalize txE s = z at *
  go_enter Try.func5, Try.ntmps5
  go_wp2_with (first
    | (go_at_call 10; refine (C1.out _).mono ?_; rintro e w1 ⟨rfl, hb1⟩)
    | (go_at_call 17; refine (C2.out _).mono ?_; rintro e w2 ⟨rfl, hb2⟩)
    | (go_at_call 14; refine (C3.out _).mono ?_; rintro e w3 ⟨rfl, hb3⟩)
    | (go_at_call 18; refine (C4.out _).mono ?_; rintro e w4 ⟨rfl, hb4⟩)
    | (go_at_call 12; refine (alive_any _).mono ?_; rintro e w5 ⟨rfl, hb5⟩))
  go_ret
  exact ⟨rfl, chain (chain (chain (chain hb1 hb2) hb3) hb4) hb5⟩

end Go.Proofs.Ythbnaomhgmokkaa
