/-
  Plain facts on numbers as bytes: how many bytes a number has, which ones they are, that they are taken as it, and their order.
-/
namespace Go.Proofs.Ytjpkeadnccodjaa

/-- How many bytes stand behind the first one. -/
def kN (n : Nat) : Nat :=
  if n < 128 then 0 else if n < 16384 then 1 else if n < 2097152 then 2 else if n < 268435456 then 3 else if n < 34359738368 then 4
  else if n < 4398046511104 then 5 else if n < 562949953421312 then 6 else if n < 72057594037927936 then 7 else 8
/-- The first byte's mark. -/
def mark : Nat → Nat
  | 0 => 0 | 1 => 128 | 2 => 192 | 3 => 224 | 4 => 240 | 5 => 248 | 6 => 252 | 7 => 254 | _ => 255
/-- The lowest k bytes of a number, the highest first. -/
def be : Nat → Nat → List Nat
  | 0, _ => []
  | k + 1, n => (n / 256 ^ k % 256) :: be k n
/-- The first byte. -/
def topB (n : Nat) : Nat := mark (kN n) + n / 256 ^ kN n
def enc (n : Nat) : List Nat := topB n :: be (kN n) n
/-- The number that bytes are. -/
def val : List Nat → Nat
  | [] => 0
  | b :: l => b * 256 ^ l.length + val l
/-- How many bytes a first byte begins. -/
def ones (c : Nat) : Nat := if c < 128 then 0 else if c < 192 then 1 else if c < 224 then 2 else if c < 240 then 3 else if c < 248 then 4 else if c < 252 then 5 else if c < 254 then 6 else if c < 255 then 7 else 8

theorem kN_cases (n : Nat) : (n < 128 ∧ kN n = 0) ∨ (128 ≤ n ∧ n < 16384 ∧ kN n = 1) ∨ (16384 ≤ n ∧ n < 2097152 ∧ kN n = 2) ∨ (2097152 ≤ n ∧ n < 268435456 ∧ kN n = 3) ∨ (268435456 ≤ n ∧ n < 34359738368 ∧ kN n = 4) ∨ (34359738368 ≤ n ∧ n < 4398046511104 ∧ kN n = 5) ∨ (4398046511104 ≤ n ∧ n < 562949953421312 ∧ kN n = 6) ∨ (562949953421312 ≤ n ∧ n < 72057594037927936 ∧ kN n = 7) ∨ (72057594037927936 ≤ n ∧ kN n = 8) := by
  unfold kN
  by_cases h0 : n < 128
  · rw [if_pos h0]; omega
  by_cases h1 : n < 16384
  · rw [if_neg h0, if_pos h1]; omega
  by_cases h2 : n < 2097152
  · rw [if_neg h0, if_neg h1, if_pos h2]; omega
  by_cases h3 : n < 268435456
  · rw [if_neg h0, if_neg h1, if_neg h2, if_pos h3]; omega
  by_cases h4 : n < 34359738368
  · rw [if_neg h0, if_neg h1, if_neg h2, if_neg h3, if_pos h4]; omega
  by_cases h5 : n < 4398046511104
  · rw [if_neg h0, if_neg h1, if_neg h2, if_neg h3, if_neg h4, if_pos h5]; omega
  by_cases h6 : n < 562949953421312
  · rw [if_neg h0, if_neg h1, if_neg h2, if_neg h3, if_neg h4, if_neg h5, if_pos h6]; omega
  by_cases h7 : n < 72057594037927936
  · rw [if_neg h0, if_neg h1, if_neg h2, if_neg h3, if_neg h4, if_neg h5, if_neg h6, if_pos h7]; omega
  rw [if_neg h0, if_neg h1, if_neg h2, if_neg h3, if_neg h4, if_neg h5, if_neg h6, if_neg h7]; omega
theorem ones_cases (c : Nat) : (c < 128 ∧ ones c = 0) ∨ (128 ≤ c ∧ c < 192 ∧ ones c = 1) ∨ (192 ≤ c ∧ c < 224 ∧ ones c = 2) ∨ (224 ≤ c ∧ c < 240 ∧ ones c = 3) ∨ (240 ≤ c ∧ c < 248 ∧ ones c = 4) ∨ (248 ≤ c ∧ c < 252 ∧ ones c = 5) ∨ (252 ≤ c ∧ c < 254 ∧ ones c = 6) ∨ (254 ≤ c ∧ c < 255 ∧ ones c = 7) ∨ (255 ≤ c ∧ ones c = 8) := by
  unfold ones
  by_cases h0 : c < 128
  · rw [if_pos h0]; omega
  by_cases h1 : c < 192
  · rw [if_neg h0, if_pos h1]; omega
  by_cases h2 : c < 224
  · rw [if_neg h0, if_neg h1, if_pos h2]; omega
  by_cases h3 : c < 240
  · rw [if_neg h0, if_neg h1, if_neg h2, if_pos h3]; omega
  by_cases h4 : c < 248
  · rw [if_neg h0, if_neg h1, if_neg h2, if_neg h3, if_pos h4]; omega
  by_cases h5 : c < 252
  · rw [if_neg h0, if_neg h1, if_neg h2, if_neg h3, if_neg h4, if_pos h5]; omega
  by_cases h6 : c < 254
  · rw [if_neg h0, if_neg h1, if_neg h2, if_neg h3, if_neg h4, if_neg h5, if_pos h6]; omega
  by_cases h7 : c < 255
  · rw [if_neg h0, if_neg h1, if_neg h2, if_neg h3, if_neg h4, if_neg h5, if_neg h6, if_pos h7]; omega
  rw [if_neg h0, if_neg h1, if_neg h2, if_neg h3, if_neg h4, if_neg h5, if_neg h6, if_neg h7]; omega
theorem kN_le (n : Nat) : kN n ≤ 8 := by have := kN_cases n; omega
theorem be_length : ∀ k n, (be k n).length = k
  | 0, _ => rfl
  | k + 1, n => by simp [be, be_length k n]
theorem enc_length (n : Nat) : (enc n).length = kN n + 1 := by simp [enc, be_length]
theorem be_lt : ∀ k n, ∀ b ∈ be k n, b < 256
  | 0, _ => by simp [be]
  | k + 1, n => by
    intro b hb
    rcases List.mem_cons.1 hb with rfl | h
    · exact Nat.mod_lt _ (by decide)
    · exact be_lt k n b h
theorem pow_pos' (k : Nat) : 0 < 256 ^ k := Nat.pow_pos (by decide)
theorem be_mod : ∀ k b m, be k (b * 256 ^ k + m) = be k m
  | 0, _, _ => rfl
  | k + 1, b, m => by
    have e : b * 256 ^ (k + 1) + m = (b * 256) * 256 ^ k + m := by rw [Nat.pow_succ, Nat.mul_comm (256 ^ k) 256, ← Nat.mul_assoc]
    rw [be, be, e, be_mod k (b * 256) m, Nat.mul_comm (b * 256) (256 ^ k), Nat.mul_add_div (pow_pos' k), Nat.add_comm, Nat.add_mul_mod_self_right]
theorem val_be : ∀ k n, val (be k n) = n % 256 ^ k
  | 0, n => by simp [be, val, Nat.mod_one]
  | k + 1, n => by
    rw [be, val, be_length, val_be k n, Nat.mod_pow_succ, Nat.mul_comm (n / 256 ^ k % 256)]
    omega
theorem val_lt : ∀ l : List Nat, (∀ b ∈ l, b < 256) → val l < 256 ^ l.length
  | [], _ => by simp [val]
  | b :: l, h => by
    have h1 := val_lt l fun c hc => h c (by simp [hc])
    have h2 := h b (by simp)
    rw [val, List.length_cons, Nat.pow_succ]
    have h3 : b * 256 ^ l.length + 256 ^ l.length ≤ 256 * 256 ^ l.length := by
      rw [← Nat.succ_mul]; exact Nat.mul_le_mul_right _ h2
    rw [Nat.mul_comm (256 ^ l.length)]
    omega
theorem be_val : ∀ l : List Nat, (∀ b ∈ l, b < 256) → be l.length (val l) = l
  | [], _ => rfl
  | b :: l, h => by
    have h1 := val_lt l fun c hc => h c (by simp [hc])
    have h2 := h b (by simp)
    rw [List.length_cons, be, val, be_mod, be_val l fun c hc => h c (by simp [hc]), Nat.mul_comm b, Nat.mul_add_div (pow_pos' _), Nat.div_eq_of_lt h1, Nat.add_zero, Nat.mod_eq_of_lt h2]

/- The first byte of each size. -/
theorem topB_of {n k : Nat} (h : kN n = k) : topB n = mark k + n / 256 ^ k := by rw [topB, h]
theorem topB_range {n : Nat} (hn : n < 4611686018427387904) : mark (kN n) ≤ topB n ∧ topB n < 256 ∧ ones (topB n) = kN n ∧ n / 256 ^ kN n < 128 := by
  have h := kN_cases n
  unfold topB
  rcases h with h | h | h | h | h | h | h | h | h
  all_goals
    obtain ⟨k, hk⟩ : ∃ k, kN n = k := ⟨_, rfl⟩
    have e : k = k := rfl
    simp only [hk] at h ⊢
    obtain rfl : k = _ := by first | exact h.2.2 | exact h.2
    simp only [mark, Nat.pow_zero, Nat.div_one, Nat.reducePow]
    refine ⟨by omega, by omega, ?_, by omega⟩
    refine (fun (c : Nat) (lo : _) => ?_) (0 : Nat) trivial
    have := ones_cases (mark (kN n) + n / 256 ^ kN n)
    simp only [hk, mark, Nat.pow_zero, Nat.div_one, Nat.reducePow] at this
    omega
theorem mark_mono {k k' : Nat} (h : k < k') (h' : k' ≤ 8) : mark k < mark k' := by
  have key : ∀ k', k' ≤ 8 → ∀ k, k < k' → mark k < mark k' := by decide
  exact key k' h' k h
theorem ones_mono {c d : Nat} (h : c ≤ d) : ones c ≤ ones d := by
  have h1 := ones_cases c
  have h2 := ones_cases d
  omega
theorem kN_mono {n m : Nat} (h : n ≤ m) : kN n ≤ kN m := by
  have h1 := kN_cases n
  have h2 := kN_cases m
  omega

/-- Somewhere the first one is less, and ahead of that both are one. -/
def Diff (l m : List Nat) : Prop := ∃ p x y l' m', l = p ++ x :: l' ∧ m = p ++ y :: m' ∧ x < y
theorem Diff.cons {l m : List Nat} (b : Nat) (h : Diff l m) : Diff (b :: l) (b :: m) := by
  obtain ⟨p, x, y, l', m', rfl, rfl, h⟩ := h
  exact ⟨b :: p, x, y, l', m', rfl, rfl, h⟩
theorem be_diff : ∀ k n m, n % 256 ^ k < m % 256 ^ k → Diff (be k n) (be k m)
  | 0, n, m, h => by simp [Nat.mod_one] at h
  | k + 1, n, m, h => by
    rw [Nat.mod_pow_succ, Nat.mod_pow_succ] at h
    rw [be, be]
    rcases Nat.lt_trichotomy (n / 256 ^ k % 256) (m / 256 ^ k % 256) with h1 | h1 | h1
    · exact ⟨[], _, _, _, _, rfl, rfl, h1⟩
    · rw [h1] at h ⊢
      exact (be_diff k n m (by omega)).cons _
    · exfalso
      have h2 : 256 ^ k * (m / 256 ^ k % 256) + 256 ^ k ≤ 256 ^ k * (n / 256 ^ k % 256) := by
        rw [← Nat.mul_succ]; exact Nat.mul_le_mul_left _ h1
      have h3 := Nat.mod_lt n (pow_pos' k)
      have h4 := Nat.mod_lt m (pow_pos' k)
      omega
/-- Of two numbers the lesser one's bytes are less, and neither begins with the other one's. -/
theorem enc_diff {n m : Nat} (h : n < m) (hm : m < 4611686018427387904) : Diff (enc n) (enc m) := by
  have rn := topB_range (n := n) (by omega)
  have rm := topB_range hm
  unfold enc
  rcases Nat.lt_or_ge (kN n) (kN m) with h1 | h1
  · refine ⟨[], _, _, _, _, rfl, rfl, ?_⟩
    rcases Nat.lt_or_ge (topB n) (topB m) with h2 | h2
    · exact h2
    · have := ones_mono h2
      omega
  · have hk : kN n = kN m := Nat.le_antisymm (kN_mono (Nat.le_of_lt h)) h1
    rw [topB_of hk, topB_of rfl, hk]
    have hd := Nat.div_le_div_right (c := 256 ^ kN m) (Nat.le_of_lt h)
    rcases Nat.lt_or_ge (n / 256 ^ kN m) (m / 256 ^ kN m) with h2 | h2
    · exact ⟨[], _, _, _, _, rfl, rfl, by omega⟩
    · have he : n / 256 ^ kN m = m / 256 ^ kN m := Nat.le_antisymm hd h2
      rw [he]
      refine (be_diff _ _ _ ?_).cons _
      have e1 := Nat.div_add_mod n (256 ^ kN m)
      have e2 := Nat.div_add_mod m (256 ^ kN m)
      rw [he] at e1
      omega

/- Taking. -/
/-- The number that a first byte, and those behind it, make. -/
def takeV (c : Nat) (r : List Nat) : Nat := (c - mark (ones c)) * 256 ^ ones c + val (r.take (ones c))
theorem mark_ones {c : Nat} : mark (ones c) ≤ c := by
  have key : ∀ k, k ≤ 8 → ∀ c, ones c = k → mark k ≤ c := by
    intro k hk c hc
    have h := ones_cases c
    rw [hc] at h
    have hk' : k = 0 ∨ k = 1 ∨ k = 2 ∨ k = 3 ∨ k = 4 ∨ k = 5 ∨ k = 6 ∨ k = 7 ∨ k = 8 := by omega
    rcases hk' with rfl | rfl | rfl | rfl | rfl | rfl | rfl | rfl | rfl <;> simp only [mark] <;> omega
  exact key _ (by have := ones_cases c; omega) c rfl
theorem takeV_enc {n : Nat} (hn : n < 4611686018427387904) (rest : List Nat) : takeV (topB n) (be (kN n) n ++ rest) = n := by
  obtain ⟨h1, _, h3, _⟩ := topB_range hn
  rw [takeV, h3, List.take_append_of_le_length (by rw [be_length]; omega), List.take_of_length_le (by rw [be_length]; omega), val_be, topB]
  have := Nat.div_add_mod n (256 ^ kN n)
  rw [Nat.add_sub_cancel_left, Nat.mul_comm]
  exact this
/-- What is taken is laid as the same bytes, just if no fewer would do. -/
theorem enc_takeV {c : Nat} {r : List Nat} (hr : ∀ b ∈ r, b < 256) (hl : ones c ≤ r.length) (hk : kN (takeV c r) = ones c) : enc (takeV c r) = c :: r.take (ones c) := by
  have hlen : (r.take (ones c)).length = ones c := by rw [List.length_take]; omega
  have hb : ∀ b ∈ r.take (ones c), b < 256 := fun b hb => hr b (List.mem_of_mem_take hb)
  have hv := val_lt _ hb
  rw [hlen] at hv
  have e2 := be_val _ hb
  rw [hlen] at e2
  rw [enc, topB, hk]
  have hm := mark_ones (c := c)
  have e1 : takeV c r / 256 ^ ones c = c - mark (ones c) := by
    rw [takeV, Nat.mul_comm, Nat.mul_add_div (pow_pos' _), Nat.div_eq_of_lt hv, Nat.add_zero]
  rw [e1, show mark (ones c) + (c - mark (ones c)) = c from by omega]
  congr 1
  rw [takeV, be_mod, e2]
theorem enc_takeV_iff {c : Nat} {r : List Nat} (hr : ∀ b ∈ r, b < 256) (hl : ones c ≤ r.length) : enc (takeV c r) = c :: r.take (ones c) ↔ kN (takeV c r) = ones c := by
  refine ⟨fun h => ?_, enc_takeV hr hl⟩
  have := congrArg List.length h
  rw [enc_length, List.length_cons, List.length_take] at this
  omega

end Go.Proofs.Ytjpkeadnccodjaa
