/-
  The document's Name and one: is a text a name, what is wrong with a field alone. Fields in memory.
-/
import Derived.Test.YtnmnbnlokmmcmaaPdtext
import Derived.Test.YtnmnbnlokmmcmaaFpure
namespace Go.Proofs.Ytnmnbnlokmmcmaa
open Go.RowKit

/-- What a name's first bytes may be. -/
def preOk : List Nat → Bool
  | [] => true
  | c :: r => letterB c && r.all innerB
theorem preOk_snoc (l : List Nat) (c : Nat) : preOk (l ++ [c]) = (preOk l && if l = [] then letterB c else innerB c) := by
  cases l with
  | nil => simp [preOk]
  | cons d r => simp [preOk, Bool.and_assoc]
theorem preOk_more : ∀ (l : List Nat) (k : Nat), preOk (l.take k) = false → preOk l = false
  | [], _, h => by simp [preOk] at h
  | c :: r, 0, h => by simp [preOk] at h
  | c :: r, k + 1, h => by
    rw [List.take_succ_cons, preOk] at h
    rw [preOk]
    cases hc : letterB c with
    | false => rfl
    | true =>
      rw [hc, Bool.true_and] at h
      rw [Bool.true_and]
      rw [List.all_eq_false] at h ⊢
      obtain ⟨x, hx, h2⟩ := h
      exact ⟨x, List.mem_of_mem_take hx, h2⟩
theorem nameL_pre (l : List Nat) : nameL l = (preOk l && (!l.isEmpty && decide (l.length ≤ 12))) := by
  cases l with
  | nil => rfl
  | cons c r =>
    rw [nameL, preOk, List.isEmpty_cons, List.length_cons]
    simp
theorem name_bad {s : ByteArray} {k c : Nat} (hc : (nats s)[k]? = some c) (hp : preOk ((nats s).take k) = true) (h : (if k = 0 then letterB c else innerB c) = false) : nameB s = false := by
  unfold nameB
  rw [nameL_pre, preOk_more (nats s) (k + 1), Bool.false_and]
  rw [List.take_add_one, hc, Option.toList_some, preOk_snoc, hp, Bool.true_and]
  have hk : k < (nats s).length := by
    rcases Nat.lt_or_ge k (nats s).length with h' | h'
    · exact h'
    · rw [List.getElem?_eq_none h'] at hc; cases hc
  have e : ((nats s).take k = []) ↔ k = 0 := by
    rw [← List.length_eq_zero_iff, List.length_take, Nat.min_eq_left (by omega)]
  by_cases h0 : k = 0
  · rw [if_pos (e.2 h0)]; rw [if_pos h0] at h; exact h
  · rw [if_neg (fun h' => h0 (e.1 h'))]; rw [if_neg h0] at h; exact h
theorem name_next {s : ByteArray} {k c : Nat} (hc : (nats s)[k]? = some c) (hp : preOk ((nats s).take k) = true) (h : (if k = 0 then letterB c else innerB c) = true) : preOk ((nats s).take (k + 1)) = true := by
  rw [List.take_add_one, hc, Option.toList_some, preOk_snoc, hp, Bool.true_and]
  have hk : k < (nats s).length := by
    rcases Nat.lt_or_ge k (nats s).length with h' | h'
    · exact h'
    · rw [List.getElem?_eq_none h'] at hc; cases hc
  have e : ((nats s).take k = []) ↔ k = 0 := by
    rw [← List.length_eq_zero_iff, List.length_take, Nat.min_eq_left (by omega)]
  by_cases h0 : k = 0
  · rw [if_pos (e.2 h0)]; rw [if_pos h0] at h; exact h
  · rw [if_neg (fun h' => h0 (e.1 h'))]; rw [if_neg h0] at h; exact h
theorem letter_inner {c k : Nat} (h : letterB c = true) : (if k = 0 then letterB c else innerB c) = true := by
  split
  · exact h
  · unfold innerB; rw [h]; rfl
theorem byte0 {s : ByteArray} {c : Nat} (h : (nats s)[0]? = some c) (h0 : 0 < s.size) : (s[0]'h0).toNat = c := by
  have := nats_get (s := s) (i := 0) h0
  rw [this] at h
  exact Option.some.inj h
theorem ret_bool {a b : Bool} (h : a = b) : Ending.returned (.bool a) = .returned (.bool b) := by rw [h]

set_option maxHeartbeats 4000000 in
set_option maxRecDepth 10000 in
theorem dname_any (s : ByteArray) (hs : s.size ≤ 9223372036854775807) (w : World) : Same 13 #[.string s] w (.bool (nameB s)) := by
  obtain ⟨n, hn⟩ : ∃ n, s.size = n := ⟨_, rfl⟩
  have HN := Lib.hid hn
  go_enter Try.func13, Try.ntmps13
  go_wp2_with fail
  go_loopw [3] (fun i wr => ∃ k : Nat, k ≤ n ∧ i = .int .i64 k ∧ preOk ((nats s).take k) = true ∧ wr = w) (fun i _ => n - (intOf i).toNat)
  case atStart => exact ⟨0, Nat.zero_le _, rfl, rfl, rfl⟩
  case round =>
    obtain ⟨k, hk, rfl, hp, hwr⟩ := hrel
    obtain rfl := hwr.symm
    by_cases hlt : k < n
    · have hlt' : (k : Int) < (n : Int) := by omega
      obtain ⟨c, hc⟩ : ∃ c, (nats s)[k]? = some c := ⟨_, List.getElem?_eq_getElem (by rw [nats_length]; omega)⟩
      have hi := index_run hc
      have NEX := Lib.hid (name_next hc hp)
      have BAD := Lib.hid (name_bad hc hp)
      have HC := Lib.hid hc
      clear hp hc
      by_cases a1 : 97 ≤ c
      · have a1' : (97 : Int) ≤ (c : Int) := by omega
        by_cases a2 : c ≤ 122
        · have a2' : (c : Int) ≤ 122 := by omega
          have NX := Lib.hid (NEX.out (letter_inner (by unfold letterB; simp [a1, a2])))
          go_wp2_with fail
          exact ⟨⟨k + 1, by omega, by go_num, NX.out, trivial⟩, by simp [intOf] <;> omega⟩
        · have a2' : ¬ (c : Int) ≤ 122 := by omega
          have BD := Lib.hid (BAD.out (by unfold innerB letterB; simp [a2]; intro _; omega))
          by_cases k0 : k = 0
          · have kb : ((k : Int) == 0) = true := by rw [beq_iff_eq]; omega
            have kd : decide ((k : Int) = 0) = true := by rw [decide_eq_true_eq]; omega
            clear k0
            go_wp2_with fail
            go_ret
            exact ⟨ret_bool BD.out.symm, rfl⟩
          · have k0' : ¬ (k : Int) = 0 := by omega
            have b1 : ((c : Int) != 45) = true := by rw [bne_iff_ne]; omega
            have b2 : ¬ (c : Int) < 48 := by omega
            have b3 : (57 : Int) < (c : Int) := by omega
            go_wp2_with fail
            go_ret
            exact ⟨ret_bool BD.out.symm, rfl⟩
      · have a1' : ¬ (97 : Int) ≤ (c : Int) := by omega
        by_cases k0 : k = 0
        · have BD := Lib.hid (BAD.out (by rw [if_pos k0]; unfold letterB; simp [a1]))
          have kb : ((k : Int) == 0) = true := by rw [beq_iff_eq]; omega
          have kd : decide ((k : Int) = 0) = true := by rw [decide_eq_true_eq]; omega
          clear k0
          go_wp2_with fail
          go_ret
          exact ⟨ret_bool BD.out.symm, rfl⟩
        · have k0' : ¬ (k : Int) = 0 := by omega
          by_cases c1 : c = 45
          · subst c1
            have hi : ∀ w, (Instr.index 9 (.string s) (.int .i64 (k : Int))).run Try.prog w = .ok (.int .u8 45) w := hi
            have NX := Lib.hid (NEX.out (by rw [if_neg k0]; rfl))
            clear a1 a1'
            go_wp2_with fail
            exact ⟨⟨k + 1, by omega, by go_num, NX.out, trivial⟩, by simp [intOf] <;> omega⟩
          · have b1 : ((c : Int) != 45) = true := by rw [bne_iff_ne]; omega
            by_cases c2 : c < 48
            · have c2' : (c : Int) < 48 := by omega
              have BD := Lib.hid (BAD.out (by rw [if_neg k0]; unfold innerB letterB; simp [a1, c1]; intro _; omega))
              go_wp2_with fail
              go_ret
              exact ⟨ret_bool BD.out.symm, rfl⟩
            · have c2' : ¬ (c : Int) < 48 := by omega
              by_cases c3 : 57 < c
              · have c3' : (57 : Int) < (c : Int) := by omega
                have BD := Lib.hid (BAD.out (by rw [if_neg k0]; unfold innerB letterB; simp [a1, c1]; intro _; omega))
                go_wp2_with fail
                go_ret
                exact ⟨ret_bool BD.out.symm, rfl⟩
              · have c3' : ¬ (57 : Int) < (c : Int) := by omega
                have NX := Lib.hid (NEX.out (by rw [if_neg k0]; unfold innerB letterB; simp [c1]; right; omega))
                go_wp2_with fail
                exact ⟨⟨k + 1, by omega, by go_num, NX.out, trivial⟩, by simp [intOf] <;> omega⟩
    · obtain rfl : k = n := by omega
      have hlt' : ¬ (k : Int) < (k : Int) := by omega
      have hall : (nats s).take k = nats s := List.take_of_length_le (by rw [nats_length, hn]; exact Nat.le_refl _)
      rw [hall] at hp
      have NE : nameB s = (!(nats s).isEmpty && decide (s.size ≤ 12)) := by
        unfold nameB
        rw [nameL_pre, hp, Bool.true_and, nats_length]
      by_cases h0 : s = ⟨#[]⟩
      · have NB := Lib.hid (show nameB s = false by rw [NE, h0]; rfl)
        subst h0
        go_wp2_with fail
        go_ret
        exact ⟨ret_bool NB.out.symm, rfl⟩
      · have he : (nats s).isEmpty = false := by
          cases h3 : nats s with
          | nil => exact absurd (nats_inj (a := s) (b := ⟨#[]⟩) h3) h0
          | cons => rfl
        have hne : s.toList.isEmpty = false := by
          rw [ByteArray.toList_eq]
          unfold nats at he
          rw [List.isEmpty_map] at he
          exact he
        by_cases h12 : s.size ≤ 12
        · have h12' : (s.size : Int) ≤ 12 := by omega
          have h12k : (k : Int) ≤ 12 := by omega
          have NB := Lib.hid (show nameB s = true by rw [NE, he]; simp [h12])
          clear NE hp hall
          go_wp2_with fail
          go_ret
          exact ⟨ret_bool NB.out.symm, rfl⟩
        · have h12' : ¬ (s.size : Int) ≤ 12 := by omega
          have h12k : ¬ (k : Int) ≤ 12 := by omega
          have NB := Lib.hid (show nameB s = false by rw [NE]; simp [h12])
          clear NE hp hall
          go_wp2_with fail
          go_ret
          exact ⟨ret_bool NB.out.symm, rfl⟩

end Go.Proofs.Ytnmnbnlokmmcmaa
