/-
  The key of a text by the program: its Text.
-/
import Derived.Test.YthbnaomhgmokkaaSpint
namespace Go.Proofs.Ythbnaomhgmokkaa
open Go.RowKit

set_option maxHeartbeats 4000000 in
set_option maxRecDepth 10000 in
theorem text_any (s : ByteArray) (hs : s.size ≤ 60000000000000) (w : World) : Ret 13 #[.string s] w (.string (keyTS s)) := by
  obtain ⟨n, hn⟩ : ∃ n, s.size = n := ⟨_, rfl⟩
  have HN := Lib.hid hn
  have B0 := Lib.hid (Bld.new w)
  go_enter Try.func13, Try.ntmps13
  go_wp2_with fail
  go_loopw [7] (fun i wr => ∃ (k : Nat) (l : List Nat), k ≤ n ∧ i = .int .i64 k ∧ esc ((nats s).take k) = l ∧ l.length ≤ 2 * k ∧ Bld w w.heap.size l wr) (fun i _ => n - (intOf i).toNat)
  case atStart => exact ⟨0, [], Nat.zero_le _, rfl, rfl, Nat.zero_le _, B0.out⟩
  case round =>
    obtain ⟨k, l, hk, rfl, hl, hlen, hb⟩ := hrel
    have HB := Lib.hid hb
    clear hb
    by_cases hlt : k < n
    · have hlt' : (k : Int) < (n : Int) := by omega
      obtain ⟨c, hc⟩ : ∃ c, (nats s)[k]? = some c := ⟨_, List.getElem?_eq_getElem (by rw [nats_length]; omega)⟩
      have hc256 := nats_lt s c (List.mem_of_getElem? hc)
      have hi := index_run hc
      have NX := esc_next hc
      rw [hl] at NX
      clear hl hc
      by_cases h0 : c = 0
      · subst h0
        have hi : ∀ w, (Instr.index 9 (.string s) (.int .i64 (k : Int))).run Try.prog w = .ok (.int .u8 0) w := hi
        have NX2 := Lib.hid NX
        clear NX
        go_wp2_with (first
          | (go_at_call 28; with_reducible refine (HB.out.byte0 (by omega)).mono ?_; rintro e w2 ⟨rfl, hb2⟩; have HB2 := Lib.hid hb2; clear hb2)
          | (go_at_call 28; with_reducible refine (HB2.out.byte255 (by simp; omega)).mono ?_; rintro e w3 ⟨rfl, hb3⟩; have HB3 := Lib.hid hb3; clear hb3))
        exact ⟨⟨k + 1, l ++ [0, 255], by omega, by go_num, NX2.out, by simp; omega, by simpa using HB3.out⟩, by simp [intOf] <;> omega⟩
      · have h0' : ¬ (c : Int) = 0 := by omega
        rw [if_neg h0] at NX
        have NX2 := Lib.hid NX
        clear NX
        go_wp2_with (go_at_call 28; with_reducible refine (HB.out.byte c hc256 (by omega)).mono ?_; rintro e w2 ⟨rfl, hb2⟩; have HB2 := Lib.hid hb2; clear hb2)
        exact ⟨⟨k + 1, l ++ [c], by omega, by go_num, NX2.out, by simp; omega, HB2.out⟩, by simp [intOf] <;> omega⟩
    · obtain rfl : k = n := by omega
      have hlt' : ¬ (k : Int) < (k : Int) := by omega
      have hall : (nats s).take k = nats s := List.take_of_length_le (by rw [nats_length, hn]; exact Nat.le_refl _)
      rw [hall] at hl
      have E2 := Lib.hid (show keyTS s = bytesN (l ++ [0, 0]) by
        rw [keyTS, keyT, hl])
      clear hall hl
      go_wp2_with (first
        | (go_at_call 28; with_reducible refine (HB.out.byte0 (by omega)).mono ?_; rintro e w2 ⟨rfl, hb2⟩; have HB2 := Lib.hid hb2; clear hb2)
        | (go_at_call 28; with_reducible refine (HB2.out.byte0 (by simp; omega)).mono ?_; rintro e w3 ⟨rfl, hb3⟩; have HB3 := Lib.hid hb3; clear hb3)
        | (go_at_call 29; with_reducible refine HB3.out.read.mono ?_; rintro e w4 ⟨rfl, hb4⟩))
      go_ret
      exact ⟨ret_s E2.out.symm, hb4⟩

end Go.Proofs.Ythbnaomhgmokkaa
