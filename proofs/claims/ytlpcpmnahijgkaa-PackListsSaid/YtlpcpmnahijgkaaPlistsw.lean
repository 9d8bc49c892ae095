/-
  PackLists gives back true for any numbers, any text and any number.
-/
import Derived.Test.YtlpcpmnahijgkaaPtakesd
namespace Go.Proofs.Ytlpcpmnahijgkaa
open Go.RowKit

theorem nums_at (w : World) (A : Option Addr) (c : Nat) (l : List Int) (hl : Ints w A l) (hn : l.length ≤ 1000) :
    Calls Try.prog 20 #[.slice A l.length c] w fun e w' => e = .returned (.tuple #[.string (numsS l), .int .i64 (numsE l)]) ∧ Below w.heap.size w w' := numsl_any w A c l hl hn
theorem dnums_at (w : World) (A : Option Addr) (c : Nat) (l : List Int) (hl : Ints w A l) (hn : l.length ≤ 1000) :
    Calls Try.prog 21 #[.slice A l.length c] w fun e w' => e = .returned (.tuple #[.string (numsS l), .int .i64 (numsE l)]) ∧ Below w.heap.size w w' := dnumsl_any w A c l hl hn
theorem numsS_size (l : List Int) : (numsS l).size ≤ 9 * l.length := by
  unfold numsS
  split
  · exact concS_size l
  · exact Nat.zero_le _
theorem nums_taken {l : List Int} (h : numsE l = 0) (hn : l.length ≤ 1000) (s : ByteArray) : tksI (numsS l ++ s) l.length = (l, s, 0) := by
  have ho : okL l := by
    by_cases ho : okL l
    · exact ho
    · unfold numsE at h; rw [if_neg ho] at h; cases h
  rw [(nums_ok ho).1, tksI_ok hn]
  exact tks_conc l s ho
theorem numsE_cases (l : List Int) : numsE l = 0 ∨ numsE l = 2 := by
  unfold numsE
  split
  · exact .inl rfl
  · exact .inr rfl

set_option maxHeartbeats 4000000 in
set_option maxRecDepth 10000 in
theorem lists_walk (A : Option Addr) (c : Nat) (l : List Int) (s : ByteArray) (k : Int) (w : World) (hl : Ints w A l) (hs0 : s.size ≤ 1152921504606846976) (_hA : A = none → c = 0) : Ret 5 #[.slice A l.length c, .string s, .int .i64 k] w (.bool true) := by
  by_cases h0 : 300 < l.length
  · have h0' : (300 : Int) < (l.length : Int) := by omega
    go_enter Try.func5, Try.ntmps5
    go_wp2_with (go_at_call 15; refine (alive_any _).mono ?_; rintro e w3 ⟨rfl, hb3⟩)
    go_ret
    exact ⟨rfl, hb3⟩
  by_cases h1 : 3000 < s.size
  · have h0' : ¬ (300 : Int) < (l.length : Int) := by omega
    have h1' : (3000 : Int) < (s.size : Int) := by omega
    go_enter Try.func5, Try.ntmps5
    go_wp2_with (go_at_call 15; refine (alive_any _).mono ?_; rintro e w3 ⟨rfl, hb3⟩)
    go_ret
    exact ⟨rfl, hb3⟩
  have h0' : ¬ (300 : Int) < (l.length : Int) := by omega
  have h1' : ¬ (3000 : Int) < (s.size : Int) := by omega
  have hz := numsS_size l
  have hq : ¬ (numsS l).size + s.size > 9223372036854775807 := by omega
  have hL : (tksI s k).1.length ≤ 1000 := by
    unfold tksI
    split
    · have := tks_len k.toNat s; omega
    · simp
  have HEC := numsE_cases l
  have C1 := nums_at w A c l hl (by omega)
  have C2 := fun w' (hb : Below w.heap.size w w') => dnums_at w' A c l (hl.below hb) (by omega)
  have C3 : numsE l = 0 → ∀ w', Calls Try.prog 22 #[.string (numsS l ++ s), .int .i64 (l.length : Int)] w' fun e w'' => ∃ A1 c1, e = .returned (.tuple #[.slice A1 l.length c1, .string s, .int .i64 0]) ∧ Ints w'' A1 l ∧ Below w'.heap.size w' w'' := fun he w' => by
    have h := takes_any (numsS l ++ s) (by rw [ByteArray.size_append]; omega) l.length w'
    rw [nums_taken he (by omega)] at h
    exact h
  have C4 : ∀ w', Calls Try.prog 22 #[.string s, .int .i64 k] w' fun e w'' => ∃ A1 c1, e = .returned (.tuple #[.slice A1 (tksI s k).1.length c1, .string (tksI s k).2.1, .int .i64 ((tksI s k).2.2 : Int)]) ∧ Ints w'' A1 (tksI s k).1 ∧ Below w'.heap.size w' w'' := takes_any s (by omega) k
  have C5 : ∀ w', Calls Try.prog 24 #[.string s, .int .i64 k] w' fun e w'' => ∃ A1 c1, e = .returned (.tuple #[.slice A1 (tksI s k).1.length c1, .string (tksI s k).2.1, .int .i64 ((tksI s k).2.2 : Int)]) ∧ Ints w'' A1 (tksI s k).1 ∧ Below w'.heap.size w' w'' := dtakes_any s (by omega) k
  have S1 := fun w' A1 c1 (h1 : Ints w' A1 l) (h2 : Ints w' A l) => same_any w' A1 A c1 c l h1 h2 (by omega)
  have S2 := fun w' A1 A2 c1 c2 (h1 : Ints w' A1 (tksI s k).1) (h2 : Ints w' A2 (tksI s k).1) => same_any w' A1 A2 c1 c2 (tksI s k).1 h1 h2 (by omega)
  have hn300 : l.length ≤ 300 := by omega
  clear hz h0 h1
  generalize numsS l = a at *
  generalize numsE l = e at *
  generalize (tksI s k).2.1 = r at *
  generalize (tksI s k).2.2 = x at *
  generalize (tksI s k).1 = L at *
  have HL := Lib.hid hl
  clear hl
  obtain ⟨n, hnm⟩ : ∃ n, l.length = n := ⟨_, rfl⟩
  obtain ⟨m, hm⟩ : ∃ m, L.length = m := ⟨_, rfl⟩
  simp only [hnm] at C1 C2 C3 S1 hn300 h0' ⊢
  simp only [hm] at C4 C5 S2 hL
  have D1 := Lib.hid C1
  have D2 := Lib.hid C2
  have D3 := Lib.hid C3
  have D4 := Lib.hid C4
  have D5 := Lib.hid C5
  have T1 := Lib.hid S1
  have T2 := Lib.hid S2
  clear C1 C2 C3 C4 C5 S1 S2 hnm hm
  by_cases he : e = 0
  · subst he
    go_enter Try.func5, Try.ntmps5
    go_wp2_with fail
    (go_at_call 20; refine D1.out.mono ?_; rintro e w1 ⟨rfl, hb1⟩)
    have HB1 := Lib.hid hb1
    clear hb1
    go_wp2_with fail
    (go_at_call 21; refine (D2.out _ HB1.out).mono ?_; rintro e w2 ⟨rfl, hb2⟩)
    have HB2 := Lib.hid (chain HB1.out hb2)
    clear hb2
    go_wp2_with fail
    (go_at_call 22; refine (D3.out (by trivial) _).mono ?_; rintro e w3 ⟨A1, c1, rfl, hI1, hb3⟩)
    have HB3 := Lib.hid (chain HB2.out hb3)
    have HI1 := Lib.hid hI1
    clear hb3 hI1
    go_wp2_with fail
    (go_at_call 23; refine (T1.out _ _ _ HI1.out (HL.out.below HB3.out)).mono ?_; rintro e w4 ⟨rfl, hb4⟩)
    have HB4 := Lib.hid (chain HB3.out hb4)
    clear hb4
    go_wp2_with fail
    (go_at_call 22; refine (D4.out _).mono ?_; rintro e w5 ⟨A2, c2, rfl, hI2, hb5⟩)
    have HB5 := Lib.hid (chain HB4.out hb5)
    have HI2 := Lib.hid hI2
    clear hb5 hI2
    go_wp2_with fail
    (go_at_call 24; refine (D5.out _).mono ?_; rintro e w6 ⟨A3, c3, rfl, hI3, hb6⟩)
    have HB6 := Lib.hid (chain HB5.out hb6)
    have HI23 := Lib.hid (HI2.out.below hb6)
    have HI3 := Lib.hid hI3
    clear hb6 hI3
    go_wp2_with fail
    (go_at_call 23; refine (T2.out _ _ _ _ _ HI23.out HI3.out).mono ?_; rintro e w7 ⟨rfl, hb7⟩)
    have HB7 := Lib.hid (chain HB6.out hb7)
    clear hb7
    go_wp2_with (go_at_call 15; refine (alive_any _).mono ?_; rintro e w8 ⟨rfl, hb8⟩)
    go_ret
    exact ⟨rfl, chain HB7.out hb8⟩
  · have he' : e = 2 := by omega
    subst he'
    go_enter Try.func5, Try.ntmps5
    go_wp2_with fail
    (go_at_call 20; refine D1.out.mono ?_; rintro e w1 ⟨rfl, hb1⟩)
    have HB1 := Lib.hid hb1
    clear hb1
    go_wp2_with fail
    (go_at_call 21; refine (D2.out _ HB1.out).mono ?_; rintro e w2 ⟨rfl, hb2⟩)
    have HB4 := Lib.hid (chain HB1.out hb2)
    clear hb2
    go_wp2_with fail
    (go_at_call 22; refine (D4.out _).mono ?_; rintro e w5 ⟨A2, c2, rfl, hI2, hb5⟩)
    have HB5 := Lib.hid (chain HB4.out hb5)
    have HI2 := Lib.hid hI2
    clear hb5 hI2
    go_wp2_with fail
    (go_at_call 24; refine (D5.out _).mono ?_; rintro e w6 ⟨A3, c3, rfl, hI3, hb6⟩)
    have HB6 := Lib.hid (chain HB5.out hb6)
    have HI23 := Lib.hid (HI2.out.below hb6)
    have HI3 := Lib.hid hI3
    clear hb6 hI3
    go_wp2_with fail
    (go_at_call 23; refine (T2.out _ _ _ _ _ HI23.out HI3.out).mono ?_; rintro e w7 ⟨rfl, hb7⟩)
    have HB7 := Lib.hid (chain HB6.out hb7)
    clear hb7
    go_wp2_with (go_at_call 15; refine (alive_any _).mono ?_; rintro e w8 ⟨rfl, hb8⟩)
    go_ret
    exact ⟨rfl, chain HB7.out hb8⟩

end Go.Proofs.Ytlpcpmnahijgkaa
