/-
  The key of a text by the document, and what it takes of bytes as a text: its Text and TakeText; does a text begin with another one.
-/
import Derived.Test.YthbnaomhgmokkaaSint
namespace Go.Proofs.Ythbnaomhgmokkaa
open Go.RowKit

def keyTS (s : ByteArray) : ByteArray := bytesN (keyT (nats s))
theorem bytes_one (l : List Nat) (c : Nat) : bytesN l ++ bytesN [c] = bytesN (l ++ [c]) := (bytes_append l [c]).symm
theorem esc_next {l : List Nat} {k c : Nat} (h : l[k]? = some c) : esc (l.take (k + 1)) = esc (l.take k) ++ (if c = 0 then [0, 255] else [c]) := by
  rw [List.take_add_one, h, Option.toList_some, esc_append]
  rcases c with _ | c
  · rfl
  · rfl

set_option maxHeartbeats 4000000 in
theorem dtext_any (s : ByteArray) (hs : s.size ≤ 1152921504606846976) (w : World) : Ret 15 #[.string s] w (.string (keyTS s)) := by
  obtain ⟨n, hn⟩ : ∃ n, s.size = n := ⟨_, rfl⟩
  have HN := Lib.hid hn
  go_enter Try.func15, Try.ntmps15
  go_wp2_with fail
  go_loopw [3, 4] (fun o i wr => ∃ (k : Nat) (l : List Nat), k ≤ n ∧ i = .int .i64 k ∧ esc ((nats s).take k) = l ∧ o = .string (bytesN l) ∧ wr = w) (fun _ i _ => n - (intOf i).toNat)
  case atStart => exact ⟨0, [], Nat.zero_le _, rfl, rfl, rfl, rfl⟩
  case round =>
    obtain ⟨k, l, hk, rfl, hl, rfl, hwr⟩ := hrel
    obtain rfl := hwr.symm
    by_cases hlt : k < n
    · have hlt' : (k : Int) < (n : Int) := by omega
      obtain ⟨c, hc⟩ : ∃ c, (nats s)[k]? = some c := ⟨_, List.getElem?_eq_getElem (by rw [nats_length]; omega)⟩
      have hi := index_run hc
      have hcut : ∀ w, (Instr.slice 9 (.string s) (some (.int .i64 (k : Int))) (some (.int .i64 ((k : Int) + 1))) none).run Try.prog w = .ok (.string (bytesN [c])) w := fun w => by
        rw [← nats_one hc]
        exact cut_run (j := k + 1) (by omega) (by omega) w
      have hlen : l.length ≤ 2 * k := by
        have := (esc_length ((nats s).take k)).2
        rw [hl, List.length_take, nats_length] at this
        omega
      have z1 : ¬ (bytesN l).size + (bytesN [c]).size > 9223372036854775807 := by rw [size_bytes, size_bytes]; simp; omega
      have z2 : ¬ (bytesN l ++ bytesN [c]).size + (ByteArray.mk #[255]).size > 9223372036854775807 := by
        have : (ByteArray.mk #[255]).size = 1 := rfl
        rw [ByteArray.size_append, size_bytes, size_bytes, this]; simp; omega
      have NX := esc_next hc
      rw [hl] at NX
      clear hl hc hlen
      by_cases h0 : c = 0
      · subst h0
        have NX2 := Lib.hid NX
        have E2 := Lib.hid (show bytesN l ++ bytesN [0] ++ ByteArray.mk #[255] = bytesN (l ++ [0, 255]) by
          rw [bytes_one, show ByteArray.mk #[255] = bytesN [255] from rfl, bytes_one]; simp)
        go_wp2_with fail
        exact ⟨⟨k + 1, l ++ [0, 255], by omega, by go_num, NX2.out, by rw [E2.out], trivial⟩, by simp [intOf] <;> omega⟩
      · have h0' : ¬ (c : Int) = 0 := by omega
        rw [if_neg h0] at NX
        have NX2 := Lib.hid NX
        have E2 := Lib.hid (bytes_one l c)
        go_wp2_with fail
        exact ⟨⟨k + 1, l ++ [c], by omega, by go_num, NX2.out, by rw [E2.out], trivial⟩, by simp [intOf] <;> omega⟩
    · obtain rfl : k = n := by omega
      have hlt' : ¬ (k : Int) < (k : Int) := by omega
      have hall : (nats s).take k = nats s := List.take_of_length_le (by rw [nats_length, hn]; exact Nat.le_refl _)
      rw [hall] at hl
      have hlen : l.length ≤ 2 * k := by
        have := (esc_length (nats s)).2
        rw [hl, nats_length] at this
        omega
      have z1 : ¬ (bytesN l).size + (ByteArray.mk #[0, 0]).size > 9223372036854775807 := by
        have : (ByteArray.mk #[0, 0]).size = 2 := rfl
        rw [size_bytes, this]; omega
      have E2 := Lib.hid (show keyTS s = bytesN l ++ ByteArray.mk #[0, 0] by
        rw [keyTS, keyT, hl, show ByteArray.mk #[0, 0] = bytesN [0, 0] from rfl, bytes_append])
      clear hall hl hlen
      go_wp2_with fail
      go_ret
      exact ⟨ret_s E2.out.symm, bl _⟩

end Go.Proofs.Ythbnaomhgmokkaa
