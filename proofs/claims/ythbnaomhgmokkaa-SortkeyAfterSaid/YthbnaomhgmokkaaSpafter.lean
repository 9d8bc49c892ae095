/-
  The text that comes after all that begin with another one, by the program: its After.
-/
import Derived.Test.YthbnaomhgmokkaaSpcmpl
namespace Go.Proofs.Ythbnaomhgmokkaa
open Go.RowKit

theorem ret_sb {s t : ByteArray} {a b : Bool} (h : s = t) (k : a = b) : Ending.returned (.tuple #[.string s, .bool a]) = .returned (.tuple #[.string t, .bool b]) := by rw [h, k]
theorem aftp_is {p : ByteArray} {q : List Nat} {x k : Nat} (h : nats p = q ++ x :: List.replicate k 255) (hx : x ≠ 255) : aftS p = bytesN (q ++ [x + 1]) ∧ aftB p = true := by
  unfold aftS aftB
  rw [h, aftL_is q x k hx]
  exact ⟨rfl, rfl⟩
theorem aftp_none {p : ByteArray} {k : Nat} (h : nats p = List.replicate k 255) : aftS p = ⟨#[]⟩ ∧ aftB p = false := by
  unfold aftS aftB
  rw [h, aftL_rep k]
  exact ⟨rfl, rfl⟩
/-- One byte, made, read as a text. -/
theorem conv_one (w : World) (x : Nat) (c : Nat) : (convert 57 9 (.slice (some ⟨w.heap.size, 0, none⟩) 1 c)).run Try.prog (w.alloc (.cells #[.int .u8 (x : Int)] 5)) = .ok (.string (bytesN [x])) (w.alloc (.cells #[.int .u8 (x : Int)] 5)) :=
  conv_arr (T := fun _ => x) (l := [x]) ⟨by simp, fun i hi => ⟨by
    obtain rfl : i = 0 := by omega
    simp [go_sem], by
    obtain rfl : i = 0 := by omega
    simp [go_sem]⟩⟩ rfl (fun i hi => by
    obtain rfl : i = 0 := by omega
    rfl)

set_option maxHeartbeats 4000000 in
set_option maxRecDepth 10000 in
theorem after_any (p : ByteArray) (hp : p.size ≤ 1048576) (w : World) : Ret 27 #[.string p] w (.tuple #[.string (aftS p), .bool (aftB p)]) := by
  obtain ⟨n, hn⟩ : ∃ n, p.size = n := ⟨_, rfl⟩
  have HN := Lib.hid hn
  go_enter Try.func27, Try.ntmps27
  go_wp2_with fail
  go_loopw [8] (fun i wr => ∃ k : Nat, k ≤ n ∧ i = .int .i64 k ∧ (nats p).drop (n - k) = List.replicate k 255 ∧ wr = w) (fun i _ => n - (intOf i).toNat)
  case atStart => exact ⟨0, Nat.zero_le _, rfl, by rw [List.drop_of_length_le (by rw [nats_length, hn]; omega)]; rfl, rfl⟩
  case round =>
    obtain ⟨k, hk, rfl, hd, hwr⟩ := hrel
    obtain rfl := hwr.symm
    have HD := Lib.hid hd
    clear hd
    by_cases hlt : k < n
    · have hlt' : (k : Int) < (n : Int) := by omega
      obtain ⟨j, hj⟩ : ∃ j, n - 1 - k = j := ⟨_, rfl⟩
      obtain ⟨x, hx⟩ : ∃ x, (nats p)[j]? = some x := ⟨_, List.getElem?_eq_getElem (by rw [nats_length]; omega)⟩
      have hx256 := nats_lt p x (List.mem_of_getElem? hx)
      have hi : ∀ w, (Instr.index 9 (.string p) (.int .i64 ((n : Int) - 1 - (k : Int)))).run Try.prog w = .ok (.int .u8 (x : Int)) w := fun w => by
        rw [show (n : Int) - 1 - (k : Int) = (j : Int) by omega]; exact index_run hx w
      have hsl : ∀ w, (Instr.slice 9 (.string p) none (some (.int .i64 ((n : Int) - 1 - (k : Int)))) none).run Try.prog w = .ok (.string (p.extract 0 j)) w := fun w => by
        rw [run_slice_string_to_if w 9 p .i64 ((n : Int) - 1 - (k : Int)) Try.underlying9, if_pos (by omega), show ((n : Int) - 1 - (k : Int)).toNat = j by omega]
      have DC := Lib.hid (show (nats p).drop j = x :: List.replicate k 255 by
        rw [drop_cons hx, ← HD.out]
        congr 2
        omega)
      clear hx
      by_cases h255 : x < 255
      · have h255' : (x : Int) < 255 := by omega
        have hwx : IntKind.u8.wrap ((x : Int) + 1) = ((x + 1 : Nat) : Int) := by rw [IntKind.wrap_u8]; omega
        have AF := Lib.hid (aftp_is (p := p) (q := (nats p).take j) (x := x) (k := k) (by rw [← DC.out, List.take_append_drop]) (by omega))
        have EX := Lib.hid (show bytesN ((nats p).take j ++ [x + 1]) = p.extract 0 j ++ bytesN [x + 1] by
          rw [bytes_append]; congr 1
          apply nats_inj
          rw [nats_bytes (fun b hb => nats_lt p b (List.mem_of_mem_take hb)), nats_extract, List.drop_zero, Nat.sub_zero])
        have z1 : ¬ (p.extract 0 j).size + (bytesN [x + 1]).size > 9223372036854775807 := by
          rw [size_bytes, ByteArray.size_extract]; simp; omega
        have cv : (convert 57 9 (.slice (some ⟨w.heap.size, 0, none⟩) 1 1)).run Try.prog (w.alloc (.cells #[.int .u8 ((x : Int) + 1)] 5)).drew = .ok (.string (bytesN [x + 1])) (w.alloc (.cells #[.int .u8 ((x : Int) + 1)] 5)).drew := conv_one w.drew (x + 1) 1
        obtain ⟨y, hy⟩ : ∃ y, p.extract 0 j = y := ⟨_, rfl⟩
        obtain ⟨z, hz⟩ : ∃ z, bytesN [x + 1] = z := ⟨_, rfl⟩
        rw [hy] at hsl z1 EX
        rw [hz] at cv z1 EX
        clear hy hz
        go_wp2_with fail
        go_region
        go_wp2_with fail
        go_ret2
        exact ⟨ret_sb (by rw [AF.out.1, EX.out]) AF.out.2.symm, ((bl w).alloc (Nat.le_refl _) _).drew⟩
      · have h255' : ¬ (x : Int) < 255 := by omega
        have NX := Lib.hid (show (nats p).drop (n - (k + 1)) = List.replicate (k + 1) 255 by
          rw [show n - (k + 1) = j from by omega, DC.out, show x = 255 from by omega]; rfl)
        go_wp2_with fail
        exact ⟨⟨k + 1, by omega, by go_num, NX.out, trivial⟩, by simp [intOf] <;> omega⟩
    · obtain rfl : k = n := by omega
      have hlt' : ¬ (k : Int) < (k : Int) := by omega
      have AF := Lib.hid (aftp_none (p := p) (k := k) (by have := HD.out; rwa [Nat.sub_self, List.drop_zero] at this))
      go_wp2_with fail
      go_ret2
      exact ⟨ret_sb AF.out.1.symm AF.out.2.symm, bl _⟩

end Go.Proofs.Ythbnaomhgmokkaa
