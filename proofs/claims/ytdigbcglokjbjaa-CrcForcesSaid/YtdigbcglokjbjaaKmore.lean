import Derived.Test.YtdigbcglokjbjaaKturn
/-
  Plain facts on sums, for the walks: a number's bytes one by one, what Open gives, what is sealed, the examples.
-/
namespace Go.Proofs.Ytdigbcglokjbjaa

theorem le_get : ∀ (k n j : Nat), j < k → (le k n)[j]? = some (n / 256 ^ j % 256)
  | 0, _, _, h => by omega
  | k + 1, n, 0, _ => by simp [le]
  | k + 1, n, j + 1, h => by
    rw [le, List.getElem?_cons_succ, le_get k _ j (by omega), Nat.div_div_eq_div_mul, Nat.pow_succ, Nat.mul_comm 256]
def fourS (n : Nat) : ByteArray := bytesN (le 4 n)
theorem fourS_size (n : Nat) : (fourS n).size = 4 := by rw [fourS, size_bytes, le_length]
theorem nats_fourS (n : Nat) : nats (fourS n) = le 4 n := nats_bytes (le_lt 4 n)
def sealS (s : ByteArray) : ByteArray := s ++ fourS (sumN (nats s))
theorem nats_app (a b : ByteArray) : nats (a ++ b) = nats a ++ nats b := by
  unfold nats
  rw [ByteArray.data_append, Array.toList_append, List.map_append]
theorem nats_sealS (s : ByteArray) : nats (sealS s) = sealN (nats s) := by
  rw [sealS, nats_app, nats_fourS]; rfl
theorem sealS_size (s : ByteArray) : (sealS s).size = s.size + 4 := by rw [sealS, ByteArray.size_append, fourS_size]
/-- What Open gives back. -/
def opS (s : ByteArray) : ByteArray := bytesN (openN (nats s)).1
def opE (s : ByteArray) : Nat := (openN (nats s)).2
theorem op_seal (s : ByteArray) : opS (sealS s) = s ∧ opE (sealS s) = 0 := by
  unfold opS opE
  rw [nats_sealS, openN_seal]
  exact ⟨bytes_nats s, rfl⟩
theorem op_short {s : ByteArray} (h : s.size < 4) : opS s = ⟨#[]⟩ ∧ opE s = 9 := by
  unfold opS opE openN
  rw [if_pos (by rw [nats_length]; exact h)]
  exact ⟨rfl, rfl⟩
theorem op_long {s : ByteArray} {n : Nat} (hn : s.size = n + 4) :
    (fourS (sumN (nats (s.extract 0 n))) = s.extract n (n + 4) ∧ opS s = s.extract 0 n ∧ opE s = 0) ∨ (fourS (sumN (nats (s.extract 0 n))) ≠ s.extract n (n + 4) ∧ opS s = ⟨#[]⟩ ∧ opE s = 10) := by
  have e1 : nats (s.extract 0 n) = (nats s).take n := by rw [nats_extract, List.drop_zero, Nat.sub_zero]
  have e2 : nats (s.extract n (n + 4)) = (nats s).drop n := by
    rw [nats_extract, List.take_of_length_le]
    rw [List.length_drop, nats_length]; omega
  unfold opS opE openN
  rw [if_neg (by rw [nats_length]; omega), nats_length, show s.size - 4 = n by omega]
  by_cases h : (nats s).drop n = le 4 (sumN ((nats s).take n))
  · left
    rw [if_pos h]
    refine ⟨nats_inj ?_, ?_, rfl⟩
    · rw [nats_fourS, e1, e2, h]
    · rw [← e1, bytes_nats]
  · right
    rw [if_neg h]
    refine ⟨fun e => h ?_, rfl, rfl⟩
    rw [← e2, ← e, nats_fourS, e1]
theorem example_sum : sumN (nats ⟨#[49, 50, 51, 52, 53, 54, 55, 56, 57]⟩) = 3808858755 ∧ sumN (nats ⟨#[]⟩) = 0 := by decide +kernel
/-- A sealed text of which bits are turned. -/
def turnS (s : ByteArray) (a : Int) (bits : Nat) : ByteArray := bytesN (turnL (nats s) a bits 32)
theorem op_turned {s : ByteArray} (a : Int) (bits : Nat) (h : turnS (sealS s) a bits ≠ sealS s) : opS (turnS (sealS s) a bits) = ⟨#[]⟩ ∧ opE (turnS (sealS s) a bits) = 10 := by
  have hl := turnL_lt (l := nats (sealS s)) (nats_lt _) a bits 32
  have e : nats (turnS (sealS s) a bits) = turnL (sealN (nats s)) a bits 32 := by
    unfold turnS
    rw [nats_bytes hl, nats_sealS]
  have h2 : turnL (sealN (nats s)) a bits 32 ≠ sealN (nats s) := fun e2 => h (nats_inj (by rw [e, e2, nats_sealS]))
  unfold opS opE
  rw [e, openN_turned (nats_lt s) a bits h2]
  exact ⟨rfl, rfl⟩
/-- The xor of three texts of one length. -/
def xorN (a b c : ByteArray) : List Nat := List.zipWith (· ^^^ ·) (List.zipWith (· ^^^ ·) (nats a) (nats b)) (nats c)
theorem sum_three {a b c : ByteArray} (h : b.size = a.size) (h2 : c.size = a.size) : sumN (xorN a b c) = sumN (nats a) ^^^ sumN (nats b) ^^^ sumN (nats c) := by
  have k := runN_three (nats a) (nats b) (nats c) all1 all1 all1 (by rw [nats_length, nats_length, h]) (by rw [nats_length, nats_length, h2])
  rw [Nat.xor_self, Nat.zero_xor] at k
  unfold sumN addN xorN
  rw [Nat.zero_xor, k, xor_swap (runN all1 (nats a)) all1, Nat.xor_self, Nat.xor_zero, Nat.xor_assoc (runN all1 (nats a) ^^^ _)]

end Go.Proofs.Ytdigbcglokjbjaa
