import Derived.Test.YtjpkeadnccodjaaPnum
/-
  Plain facts on bits: a number's bytes, laid bit by bit.
-/
namespace Go.Proofs.Ytjpkeadnccodjaa

/-- All bits of a number's bytes: its own, and the mark's. -/
def whole (n : Nat) : Nat := mark (kN n) * 256 ^ kN n + n
def bitAt (v i : Nat) : Nat := v / 2 ^ i % 2
theorem whole_be {n : Nat} (hn : n < 4611686018427387904) : be (kN n + 1) (whole n) = enc n := by
  obtain ⟨_, h2, _, _⟩ := topB_range hn
  rw [be, enc, whole, be_mod, Nat.mul_comm (mark (kN n)), Nat.mul_add_div (pow_pos' _), ← topB]
  rw [Nat.mod_eq_of_lt h2]
theorem p256 (p : Nat) : 256 ^ p = 2 ^ (8 * p) := by rw [Nat.pow_mul]
theorem be_get : ∀ (k n j : Nat), j < k → (be k n)[j]? = some (n / 256 ^ (k - 1 - j) % 256)
  | 0, _, _, h => by omega
  | k + 1, n, 0, _ => by simp [be]
  | k + 1, n, j + 1, h => by
    rw [be, List.getElem?_cons_succ, be_get k n j (by omega)]
    congr 4
    omega
theorem two_pos (i : Nat) : 0 < 2 ^ i := Nat.pow_pos (by decide)
/-- One more bit changes one byte. -/
theorem be_step {K w i : Nat} (hw : w < 2 ^ i) (hi : i < 8 * K) : be K (w + 2 ^ i) = (be K w).set (K - 1 - i / 8) (w / 256 ^ (i / 8) % 256 + 2 ^ (i % 8)) ∧ w / 256 ^ (i / 8) % 256 + 2 ^ (i % 8) < 256 := by
  have hsplit : 2 ^ i = 256 ^ (i / 8) * 2 ^ (i % 8) := by
    rw [p256, ← Nat.pow_add]; congr 1; omega
  have hlow : w / 256 ^ (i / 8) < 2 ^ (i % 8) := by
    rw [Nat.div_lt_iff_lt_mul (pow_pos' _), Nat.mul_comm, ← hsplit]; exact hw
  have h8 : 2 ^ (i % 8) * 2 ≤ 256 := by
    have : i % 8 < 8 := Nat.mod_lt _ (by decide)
    have key : ∀ r, r < 8 → 2 ^ r * 2 ≤ 256 := by decide
    exact key _ this
  have hm : w / 256 ^ (i / 8) % 256 = w / 256 ^ (i / 8) := Nat.mod_eq_of_lt (by omega)
  refine ⟨?_, by rw [hm]; omega⟩
  apply List.ext_getElem?
  intro j
  rcases Nat.lt_or_ge j K with hj | hj
  · rw [be_get K _ j hj]
    rcases Nat.lt_trichotomy (K - 1 - j) (i / 8) with h | h | h
    · rw [List.getElem?_set_ne (by omega), be_get K _ j hj]
      congr 1
      have e : 2 ^ i = 256 ^ (K - 1 - j) * (256 * (256 ^ (i / 8 - (K - 1 - j) - 1) * 2 ^ (i % 8))) := by
        rw [hsplit, ← Nat.mul_assoc, ← Nat.mul_assoc, ← Nat.pow_succ, ← Nat.pow_add]
        congr 2; omega
      rw [e, Nat.add_comm w, Nat.mul_add_div (pow_pos' _), Nat.add_comm, Nat.add_mul_mod_self_left]
    · have hp : K - 1 - i / 8 = j := by omega
      rw [hp, List.getElem?_set_self (by rw [be_length]; exact hj), h]
      congr 1
      rw [hsplit, Nat.add_comm w, Nat.mul_add_div (pow_pos' _), hm, Nat.add_comm]
      exact Nat.mod_eq_of_lt (by omega)
    · rw [List.getElem?_set_ne (by omega), be_get K _ j hj]
      have hbig : 2 ^ (i + 1) ≤ 256 ^ (K - 1 - j) := by
        rw [p256]; exact Nat.pow_le_pow_right (by decide) (by omega)
      have h2 : 2 ^ (i + 1) = 2 ^ i * 2 := Nat.pow_succ ..
      rw [Nat.div_eq_of_lt (show w + 2 ^ i < 256 ^ (K - 1 - j) by omega), Nat.div_eq_of_lt (show w < 256 ^ (K - 1 - j) by omega)]
  · rw [List.getElem?_eq_none (by rw [be_length]; omega), List.getElem?_eq_none (by rw [List.length_set, be_length]; omega)]
theorem mod_next (v i : Nat) : v % 2 ^ (i + 1) = v % 2 ^ i + bitAt v i * 2 ^ i := by
  rw [Nat.mod_pow_succ, bitAt, Nat.mul_comm (2 ^ i)]
theorem bit_or (v i : Nat) : bitAt v i = 0 ∨ bitAt v i = 1 := by
  unfold bitAt
  omega
/-- A higher number's bits. -/
theorem bit_low {n m r i : Nat} (h : i < r) : bitAt (m * 2 ^ r + n) i = bitAt n i := by
  unfold bitAt
  have e : m * 2 ^ r = 2 ^ i * (2 * (m * 2 ^ (r - i - 1))) := by
    have h2 : 2 ^ r = 2 ^ i * (2 * 2 ^ (r - i - 1)) := by
      rw [show 2 ^ i * (2 * 2 ^ (r - i - 1)) = 2 ^ (i + (1 + (r - i - 1))) from by rw [Nat.pow_add, Nat.pow_add, Nat.pow_one]]
      congr 1
      omega
    rw [h2, Nat.mul_left_comm, Nat.mul_left_comm m]
  rw [e, Nat.mul_add_div (two_pos i), Nat.add_comm, Nat.add_mul_mod_self_left]
theorem bit_high {n m r i : Nat} (hn : n < 2 ^ r) : bitAt (m * 2 ^ r + n) (r + i) = bitAt m i := by
  unfold bitAt
  rw [Nat.pow_add, ← Nat.div_div_eq_div_mul, Nat.mul_comm m, Nat.mul_add_div (two_pos r), Nat.div_eq_of_lt hn, Nat.add_zero]
theorem mark_eq {k : Nat} (h : k < 8) : mark k * 256 ^ k = (2 * (2 ^ k - 1)) * 2 ^ (7 * (k + 1)) := by
  have key : ∀ k, k < 8 → mark k * 256 ^ k = (2 * (2 ^ k - 1)) * 2 ^ (7 * (k + 1)) := by decide
  exact key k h
theorem kN_room {n : Nat} (h : kN n < 8) : n < 2 ^ (7 * (kN n + 1)) := by
  have hc := kN_cases n
  obtain ⟨k, hk⟩ : ∃ k, kN n = k := ⟨_, rfl⟩
  rw [hk] at h ⊢ hc
  have hk' : k = 0 ∨ k = 1 ∨ k = 2 ∨ k = 3 ∨ k = 4 ∨ k = 5 ∨ k = 6 ∨ k = 7 := by omega
  rcases hk' with rfl | rfl | rfl | rfl | rfl | rfl | rfl | rfl <;> simp only [Nat.reduceAdd, Nat.reduceMul, Nat.reducePow] <;> omega
/-- The bits of a number's bytes, the lowest first: the number's own, then (where there is one) a 0, then the mark's. -/
theorem whole_bits_own {n i : Nat} (h : kN n < 8) (hi : i < 7 * (kN n + 1)) : bitAt (whole n) i = bitAt n i := by
  rw [whole, mark_eq h]; exact bit_low hi
theorem whole_bits_zero {n : Nat} (h : kN n < 8) : bitAt (whole n) (7 * (kN n + 1)) = 0 := by
  rw [whole, mark_eq h]
  have h0 := bit_high (m := 2 * (2 ^ kN n - 1)) (i := 0) (kN_room h)
  rw [show 7 * (kN n + 1) + 0 = 7 * (kN n + 1) from rfl] at h0
  exact h0.trans (by unfold bitAt; omega)
theorem whole_bits_mark {n t : Nat} (h : kN n < 8) (ht : t < kN n) : bitAt (whole n) (7 * (kN n + 1) + 1 + t) = 1 := by
  rw [whole, mark_eq h, Nat.add_assoc]
  rw [bit_high (kN_room h), bitAt, Nat.add_comm 1 t, Nat.pow_succ, Nat.mul_comm (2 ^ t), ← Nat.div_div_eq_div_mul, Nat.mul_div_cancel_left _ (by decide)]
  have key : ∀ k, k < 8 → ∀ t, t < k → (2 ^ k - 1) / 2 ^ t % 2 = 1 := by decide
  exact key _ h _ ht
theorem whole_bits_own8 {n i : Nat} (h : kN n = 8) (hi : i < 64) : bitAt (whole n) i = bitAt n i := by
  rw [whole, h, show (256 : Nat) ^ 8 = 2 ^ 64 from rfl]; exact bit_low hi
theorem whole_bits_mark8 {n t : Nat} (hn : n < 4611686018427387904) (h : kN n = 8) (ht : t < 8) : bitAt (whole n) (64 + t) = 1 := by
  rw [whole, h, show (256 : Nat) ^ 8 = 2 ^ 64 from rfl, bit_high (by omega)]
  have key : ∀ t, t < 8 → bitAt (mark 8) t = 1 := by decide
  exact key t ht
theorem whole_lt {n : Nat} (hn : n < 4611686018427387904) : whole n < 2 ^ (8 * (kN n + 1)) := by
  obtain ⟨_, h2, _, _⟩ := topB_range hn
  rw [whole, ← p256, Nat.pow_succ]
  have e := Nat.div_add_mod n (256 ^ kN n)
  have hm := Nat.mod_lt n (pow_pos' (kN n))
  unfold topB at h2
  have h3 : (mark (kN n) + n / 256 ^ kN n) * 256 ^ kN n + 256 ^ kN n ≤ 256 * 256 ^ kN n := by rw [← Nat.succ_mul]; exact Nat.mul_le_mul_right _ h2
  rw [Nat.add_mul, Nat.mul_comm (n / 256 ^ kN n)] at h3
  rw [Nat.mul_comm (256 ^ kN n) 256]
  omega

end Go.Proofs.Ytjpkeadnccodjaa
