/-
  The program's letter, digit, Name, alone: is a text a name, what is wrong with a field alone.
-/
import Derived.Test.YtnmnbnlokmmcmaaFdtake
namespace Go.Proofs.Ytnmnbnlokmmcmaa
open Go.RowKit

def digitB (c : Nat) : Bool := decide (48 ≤ c) && decide (c ≤ 57)
set_option maxHeartbeats 1000000 in
theorem letter_any (c : Nat) (w : World) : Same 31 #[.int .u8 (c : Int)] w (.bool (letterB c)) := by
  by_cases a1 : 97 ≤ c
  · have a1' : (97 : Int) ≤ (c : Int) := by omega
    by_cases a2 : c ≤ 122
    · have a2' : (c : Int) ≤ 122 := by omega
      have HE := Lib.hid (show letterB c = true by unfold letterB; simp [a1, a2])
      go_enter Try.func31, Try.ntmps31
      go_wp2_with fail
      go_ret
      exact ⟨ret_bool HE.out.symm, rfl⟩
    · have a2' : ¬ (c : Int) ≤ 122 := by omega
      have HE := Lib.hid (show letterB c = false by unfold letterB; simp [a2])
      go_enter Try.func31, Try.ntmps31
      go_wp2_with fail
      go_ret
      exact ⟨ret_bool HE.out.symm, rfl⟩
  · have a1' : ¬ (97 : Int) ≤ (c : Int) := by omega
    have HE := Lib.hid (show letterB c = false by unfold letterB; simp [a1])
    go_enter Try.func31, Try.ntmps31
    go_wp2_with fail
    go_ret
    exact ⟨ret_bool HE.out.symm, rfl⟩
set_option maxHeartbeats 1000000 in
theorem digit_any (c : Nat) (w : World) : Same 32 #[.int .u8 (c : Int)] w (.bool (digitB c)) := by
  by_cases a1 : 48 ≤ c
  · have a1' : (48 : Int) ≤ (c : Int) := by omega
    by_cases a2 : c ≤ 57
    · have a2' : (c : Int) ≤ 57 := by omega
      have HE := Lib.hid (show digitB c = true by unfold digitB; simp [a1, a2])
      go_enter Try.func32, Try.ntmps32
      go_wp2_with fail
      go_ret
      exact ⟨ret_bool HE.out.symm, rfl⟩
    · have a2' : ¬ (c : Int) ≤ 57 := by omega
      have HE := Lib.hid (show digitB c = false by unfold digitB; simp [a2])
      go_enter Try.func32, Try.ntmps32
      go_wp2_with fail
      go_ret
      exact ⟨ret_bool HE.out.symm, rfl⟩
  · have a1' : ¬ (48 : Int) ≤ (c : Int) := by omega
    have HE := Lib.hid (show digitB c = false by unfold digitB; simp [a1])
    go_enter Try.func32, Try.ntmps32
    go_wp2_with fail
    go_ret
    exact ⟨ret_bool HE.out.symm, rfl⟩

set_option maxHeartbeats 4000000 in
set_option maxRecDepth 10000 in
theorem pname_same (s : ByteArray) (hs : s.size ≤ 9223372036854775807) (w : World) : Same 12 #[.string s] w (.bool (nameB s)) := by
  obtain ⟨n, hn⟩ : ∃ n, s.size = n := ⟨_, rfl⟩
  have NE : preOk (nats s) = true → nameB s = (!(nats s).isEmpty && decide (n ≤ 12)) := fun hp => by
    unfold nameB
    rw [nameL_pre, hp, Bool.true_and, nats_length, hn]
  have HN := Lib.hid hn
  by_cases h0 : s = ⟨#[]⟩
  · have NB := Lib.hid (show nameB s = false by rw [h0]; rfl)
    subst h0
    clear NE
    go_enter Try.func12, Try.ntmps12
    go_wp2_with fail
    go_ret
    exact ⟨ret_bool NB.out.symm, rfl⟩
  · have he : (nats s).isEmpty = false := by
      cases h3 : nats s with
      | nil => exact absurd (nats_inj (a := s) (b := ⟨#[]⟩) h3) h0
      | cons => rfl
    have hne : s.toList.isEmpty = false := by
      rw [ByteArray.toList_eq]
      unfold nats at he
      rw [List.isEmpty_map] at he
      exact he
    have hpos : 0 < n := by
      rcases Nat.eq_zero_or_pos n with h | h
      · rw [← nats_length] at hn
        rw [List.eq_nil_of_length_eq_zero (hn.trans h)] at he
        cases he
      · exact h
    by_cases h12 : n ≤ 12
    · have h12' : ¬ (12 : Int) < (n : Int) := by omega
      obtain ⟨c0, hc0⟩ : ∃ c, (nats s)[0]? = some c := ⟨_, List.getElem?_eq_getElem (by rw [nats_length]; omega)⟩
      have hi0 : ∀ w, (Instr.index 9 (.string s) (.int .i64 0)).run Try.prog w = .ok (.int .u8 (c0 : Int)) w := index_run hc0
      have CL0 := Lib.hid (fun w => letter_any c0 w)
      have hg : decide (12 < n) = false := by rw [decide_eq_false_iff_not]; omega
      cases hl0 : letterB c0 with
      | false =>
        rw [hl0] at CL0
        have NB := Lib.hid (name_bad (s := s) (k := 0) hc0 (by simp [preOk]) (by rw [if_pos rfl, hl0]))
        clear NE hc0 hl0 he h0
        go_enter Try.func12, Try.ntmps12
        go_wp2_with (go_at_call 31; with_reducible refine (CL0.out _).mono ?_; rintro e w2 ⟨rfl, hw2⟩; obtain rfl := hw2.symm)
        go_ret
        exact ⟨ret_bool NB.out.symm, rfl⟩
      | true =>
        rw [hl0] at CL0
        have HC0 := Lib.hid hc0
        have HL0 := Lib.hid hl0
        have HNE := Lib.hid NE
        have HE := Lib.hid he
        clear NE hc0 hl0 he h0
        go_enter Try.func12, Try.ntmps12
        go_wp2_with (go_at_call 31; with_reducible refine (CL0.out _).mono ?_; rintro e w2 ⟨rfl, hw2⟩; obtain rfl := hw2.symm)
        go_loopw [19] (fun i wr => ∃ k : Nat, k ≤ n ∧ i = .int .i64 k ∧ preOk ((nats s).take k) = true ∧ wr = w) (fun i _ => n - (intOf i).toNat)
        case atStart => exact ⟨0, Nat.zero_le _, rfl, rfl, rfl⟩
        case round =>
          obtain ⟨k, hk, rfl, hp, hwr⟩ := hrel
          obtain rfl := hwr.symm
          by_cases hlt : k < n
          · have hlt' : (k : Int) < (n : Int) := by omega
            obtain ⟨c, hc⟩ : ∃ c, (nats s)[k]? = some c := ⟨_, List.getElem?_eq_getElem (by have := HN.out; rw [nats_length]; omega)⟩
            have hi := index_run hc
            have NEX := Lib.hid (name_next hc hp)
            have BAD := Lib.hid (name_bad hc hp)
            have CL := Lib.hid (fun w => letter_any c w)
            have CD := Lib.hid (fun w => digit_any c w)
            have K0 := Lib.hid (show letterB c = false → k ≠ 0 by
              intro h e
              subst e
              rw [HC0.out] at hc
              injection hc with hc
              subst hc
              rw [HL0.out] at h
              cases h)
            clear hp hc
            cases hl : letterB c with
            | true =>
              rw [hl] at CL
              have NX := Lib.hid (NEX.out (letter_inner hl))
              clear hl
              go_wp2_with (go_at_call 31; with_reducible refine (CL.out _).mono ?_; rintro e w2 ⟨rfl, hw2⟩; obtain rfl := hw2.symm)
              exact ⟨⟨k + 1, by omega, by go_num, NX.out, trivial⟩, by simp [intOf] <;> omega⟩
            | false =>
              rw [hl] at CL
              have hk0 := K0.out hl
              cases hd : digitB c with
              | true =>
                rw [hd] at CD
                have NX := Lib.hid (NEX.out (by rw [if_neg hk0]; unfold innerB; unfold digitB at hd; rw [hd]; simp))
                clear hl hd hk0
                go_wp2_with (first
                  | (go_at_call 31; with_reducible refine (CL.out _).mono ?_; rintro e w2 ⟨rfl, hw2⟩; obtain rfl := hw2.symm)
                  | (go_at_call 32; with_reducible refine (CD.out _).mono ?_; rintro e w2 ⟨rfl, hw2⟩; obtain rfl := hw2.symm))
                exact ⟨⟨k + 1, by omega, by go_num, NX.out, trivial⟩, by simp [intOf] <;> omega⟩
              | false =>
                rw [hd] at CD
                by_cases c1 : c = 45
                · subst c1
                  have hi : ∀ w, (Instr.index 9 (.string s) (.int .i64 (k : Int))).run Try.prog w = .ok (.int .u8 45) w := hi
                  have CL' := Lib.hid (show ∀ w, Same 31 #[.int .u8 45] w (.bool false) from CL.out)
                  have CD' := Lib.hid (show ∀ w, Same 32 #[.int .u8 45] w (.bool false) from CD.out)
                  have NX := Lib.hid (NEX.out (by rw [if_neg hk0]; rfl))
                  clear hl hd hk0 CL CD
                  go_wp2_with (first
                    | (go_at_call 31; with_reducible refine (CL'.out _).mono ?_; rintro e w2 ⟨rfl, hw2⟩; obtain rfl := hw2.symm)
                    | (go_at_call 32; with_reducible refine (CD'.out _).mono ?_; rintro e w2 ⟨rfl, hw2⟩; obtain rfl := hw2.symm))
                  exact ⟨⟨k + 1, by omega, by go_num, NX.out, trivial⟩, by simp [intOf] <;> omega⟩
                · have b1 : ((c : Int) != 45) = true := by rw [bne_iff_ne]; omega
                  have BD := Lib.hid (BAD.out (by rw [if_neg hk0]; unfold innerB; unfold digitB at hd; rw [hd, hl]; simp [c1]))
                  clear hl hd hk0
                  go_wp2_with (first
                    | (go_at_call 31; with_reducible refine (CL.out _).mono ?_; rintro e w2 ⟨rfl, hw2⟩; obtain rfl := hw2.symm)
                    | (go_at_call 32; with_reducible refine (CD.out _).mono ?_; rintro e w2 ⟨rfl, hw2⟩; obtain rfl := hw2.symm))
                  go_ret
                  exact ⟨ret_bool BD.out.symm, rfl⟩
          · obtain rfl : k = n := by omega
            have hlt' : ¬ (k : Int) < (k : Int) := by omega
            rw [List.take_of_length_le (by have := HN.out; rw [nats_length]; omega)] at hp
            have NB := Lib.hid (show nameB s = true by rw [HNE.out hp, HE.out]; simp [h12])
            clear hp
            go_wp2_with fail
            go_ret
            exact ⟨ret_bool NB.out.symm, rfl⟩
    · have h12' : (12 : Int) < (n : Int) := by omega
      have NB := Lib.hid (show nameB s = false by
        cases hp : preOk (nats s) with
        | true => rw [NE hp]; simp [h12]
        | false => unfold nameB; rw [nameL_pre, hp]; rfl)
      have hg : decide (12 < n) = true := by rw [decide_eq_true_eq]; omega
      clear NE he h0
      go_enter Try.func12, Try.ntmps12
      go_wp2_with fail
      go_ret
      exact ⟨ret_bool NB.out.symm, rfl⟩
theorem pname_any (s : ByteArray) (hs : s.size ≤ 9223372036854775807) (w : World) : Ret 12 #[.string s] w (.bool (nameB s)) := by
  refine (pname_same s hs w).mono ?_
  rintro e _ ⟨rfl, rfl⟩
  exact ⟨rfl, bl _⟩

end Go.Proofs.Ytnmnbnlokmmcmaa
