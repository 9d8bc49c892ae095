/-
  A number's bytes, laid by the program: Num.
-/
import Derived.Test.YtnmnbnlokmmcmaaPmem
namespace Go.Proofs.Ytnmnbnlokmmcmaa
open Go.RowKit

/-- What Num and the document's Num give back. -/
def numS (n : Int) : ByteArray := if 0 ≤ n ∧ n ≤ 4611686018427387903 then encS n.toNat else ⟨#[]⟩
def numE (n : Int) : Int := if 0 ≤ n ∧ n ≤ 4611686018427387903 then 0 else 2
def NumPost (n : Int) (w : World) (e : Ending) (w' : World) : Prop := e = .returned (.tuple #[.string (numS n), .int .i64 (numE n)]) ∧ Below w.heap.size w w'

theorem ret_se {s t : ByteArray} {a b : Int} (h : s = t) (k : a = b) : Ending.returned (.tuple #[.string s, .int .i64 a]) = .returned (.tuple #[.string t, .int .i64 b]) := by rw [h, k]

/-- The bytes that lie behind the i lowest have been laid. -/
def layT (K n i : Nat) : Nat → Nat := fun j => if K - j < i then n / 256 ^ (K - j) % 256 else 0
theorem layT_put {K n i : Nat} (hi : i < K) : ∀ j, j < K + 1 → upd (layT K n i) (K - i) (n / 256 ^ i % 256) j = layT K n (i + 1) j := by
  intro j hj
  unfold upd layT
  by_cases e : j = K - i
  · rw [if_pos e, if_pos (by omega), show K - j = i from by omega]
  · rw [if_neg e]
    by_cases h : K - j < i
    · rw [if_pos h, if_pos (by omega)]
    · rw [if_neg h, if_neg (by omega)]
theorem layT_all {K n c : Nat} : ∀ j, j < K + 1 → (c :: be K n)[j]? = some (upd (layT K n K) 0 c j) := by
  intro j hj
  rcases j with _ | j
  · rfl
  · rw [List.getElem?_cons_succ, be_get K n j (by omega)]
    unfold upd layT
    rw [if_neg (by omega), if_pos (by omega)]
    congr 4
    omega
theorem top_bits {n : Nat} (hn : n < 4611686018427387904) : bits BinOp.or IntKind.u8 (mark (kN n) : Int) (IntKind.u8.wrap ((n : Int) / 2 ^ (8 * kN n))) = (topB n : Int) := by
  have h := topB_range hn
  have hk := kN_le n
  have h2 := kN_cases n
  have e : (n : Int) / 2 ^ (8 * kN n) = ((n / 256 ^ kN n : Nat) : Int) := by
    rw [p256]; simp
  have hx : n / 256 ^ kN n < 2 ^ (8 - kN n) := by
    have h1 : mark (kN n) + n / 256 ^ kN n < 256 := h.2.1
    have key : ∀ k, k ≤ 8 → 256 ≤ mark k + 2 ^ (8 - k) := by decide
    have := key _ hk
    omega
  have key : ∀ k, k ≤ 8 → ∀ x, x < 2 ^ (8 - k) → bits BinOp.or IntKind.u8 (mark k : Int) (IntKind.u8.wrap ((x : Nat) : Int)) = ((mark k + x : Nat) : Int) := by decide +kernel
  rw [e, key _ hk _ hx]
  rfl
theorem low_byte (n i : Nat) : IntKind.u8.wrap ((n : Int) / 2 ^ (8 * i)) = ((n / 256 ^ i % 256 : Nat) : Int) := by
  have e : (n : Int) / 2 ^ (8 * i) = ((n / 256 ^ i : Nat) : Int) := by
    rw [p256]; simp
  rw [e]
  simp [IntKind.wrap, IntKind.bits, IntKind.signed]

set_option maxHeartbeats 4000000 in
set_option maxRecDepth 10000 in
theorem num_good (n : Nat) (hn : n < 4611686018427387904) (w : World) : Calls Try.prog 35 #[.int .i64 (n : Int)] w (NumPost n w) := by
  have hz := low_byte n
  have ht := top_bits hn
  have HB := Lib.hid (behind_any n hn)
  have HM := Lib.hid (mark_any (kN n) (kN_le n))
  have hK := kN_le n
  have HP := Lib.hid (show numS n = bytesN (topB n :: be (kN n) n) ∧ numE n = 0 by unfold numS numE encS enc; rw [if_pos (by omega), if_pos (by omega), Int.toNat_natCast]; exact ⟨rfl, rfl⟩)
  obtain ⟨c, hc⟩ : ∃ c, topB n = c := ⟨_, rfl⟩
  have hc256 : c < 256 := by rw [← hc]; exact (topB_range hn).2.1
  obtain ⟨m, hm⟩ : ∃ m, mark (kN n) = m := ⟨_, rfl⟩
  rw [hc] at ht HP
  rw [hm] at ht HM
  generalize kN n = K at *
  clear hc hm
  obtain ⟨w1, hmk0, hA, hB⟩ := make_bytes w (K + 1) (by omega)
  have hmk : (Instr.makeSlice 58 (.int .i64 ((K : Int) + 1)) (.int .i64 ((K : Int) + 1))).run Try.prog w = .ok (.slice (some ⟨w.heap.size, 0, none⟩) (K + 1) (K + 1)) w1 := hmk0
  have HZ := Lib.hid hz
  have HT := Lib.hid ht
  have HA := Lib.hid hA
  have HB1 := Lib.hid hB
  clear hz ht hmk0 hA hB
  have n0 : ¬ (n : Int) < 0 := by omega
  have n1 : ¬ (4611686018427387903 : Int) < (n : Int) := by omega
  have k1 : IntKind.i64.wrap ((K : Int) + 1) = (K : Int) + 1 := IntWalk.i64_in _ (by omega)
  go_enter Try.func35, Try.ntmps35
  go_wp2_with (go_at_call 52; refine (HB.out _).mono ?_; rintro e w2 ⟨rfl, rfl⟩)
  clear hmk
  have hNS := Lib.hid hn
  clear hn n0 n1
  go_loopw [19] (fun i wr => ∃ k : Nat, k ≤ K ∧ i = .int .i64 k ∧ Arr wr w2.heap.size (layT K n k) (K + 1) ∧ Below w2.heap.size w2 wr) (fun i _ => K - (intOf i).toNat)
  case atStart => exact ⟨0, Nat.zero_le _, rfl, HA.out.congr fun j hj => by unfold layT; rw [if_neg (by omega)], HB1.out⟩
  case round =>
    obtain ⟨k, hk, rfl, hA, hB⟩ := hrel
    have HAr := Lib.hid hA
    have HBr := Lib.hid hB
    clear hA hB
    by_cases hlt : k < K
    · have hlt' : (k : Int) < (K : Int) := by omega
      have w1 : IntKind.i64.wrap ((K : Int) - (k : Int)) = ((K - k : Nat) : Int) := by rw [IntKind.wrap_i64]; omega
      have w3 : ((K - k : Nat) : Int) < (K : Int) + 1 := by omega
      have w4 : IntKind.i64.wrap (8 * (k : Int)) = 8 * (k : Int) := IntWalk.i64_in _ (by omega)
      obtain ⟨c0, f0⟩ := HAr.out.2 (K - k) (by omega)
      have hb := HZ.out k
      have NX := Lib.hid ((HAr.out.put (v := n / 256 ^ k % 256) (show K - k < K + 1 by omega)).congr (layT_put (n := n) hlt))
      obtain ⟨v, hv⟩ : ∃ v : Nat, n / 256 ^ k % 256 = v := ⟨_, rfl⟩
      rw [hv] at hb NX
      clear hv
      generalize K - k = p at *
      go_wp2_with fail
      exact ⟨⟨k + 1, by omega, by go_num, NX.out, HBr.out.setCell (Nat.le_refl _) _⟩, by simp [intOf]; omega⟩
    · have hlt' : ¬ (k : Int) < (K : Int) := by omega
      obtain rfl : k = K := by omega
      obtain ⟨c0, f0⟩ := HAr.out.2 0 (by omega)
      have hkk : (0 : Int) < (k : Int) + 1 := by omega
      have w4 : IntKind.i64.wrap (8 * (k : Int)) = 8 * (k : Int) := IntWalk.i64_in _ (by omega)
      go_wp2_with fail
      go_still_tail 10, (by kernel_rfl)
      still_call (HM.out _)
      repeat still_step
      refine wpStill_nil ?_
      change wpList _ _ _ _ _ wr.drew
      have ht2 : bits BinOp.or IntKind.u8 (m : Int) ((n : Int) / 2 ^ (8 * k) % 256) = (c : Int) := by
        rw [← HT.out]
        simp [IntKind.wrap, IntKind.bits, IntKind.signed]
      have A2 := (HAr.out.put (v := c) (show 0 < k + 1 by omega))
      have cv := conv_arr (c := k + 1) (w := (wr.setCell ⟨w2.heap.size, 0, none⟩ (.int .u8 (c : Int))).drew) (l := c :: be k n) A2 (by simp [be_length]) (layT_all (n := n))
      have HBE := Lib.hid (HBr.out.setCell (p := ⟨w2.heap.size, 0, none⟩) (Nat.le_refl _) (.int .u8 (c : Int))).drew
      clear A2
      go_wp2_with fail
      go_ret2
      exact ⟨ret_se HP.out.1.symm HP.out.2.symm, HBE.out⟩

set_option maxHeartbeats 1000000 in
theorem num_any (n : Int) (w : World) : Calls Try.prog 35 #[.int .i64 n] w (NumPost n w) := by
  by_cases h0 : n < 0
  · have HP := Lib.hid (show numS n = ⟨#[]⟩ ∧ numE n = 2 by unfold numS numE; rw [if_neg (by omega), if_neg (by omega)]; exact ⟨rfl, rfl⟩)
    go_enter Try.func35, Try.ntmps35
    go_wp2_with fail
    go_ret2
    exact ⟨ret_se HP.out.1.symm HP.out.2.symm, bl _⟩
  · by_cases h1 : 4611686018427387903 < n
    · have HP := Lib.hid (show numS n = ⟨#[]⟩ ∧ numE n = 2 by unfold numS numE; rw [if_neg (by omega), if_neg (by omega)]; exact ⟨rfl, rfl⟩)
      go_enter Try.func35, Try.ntmps35
      go_wp2_with fail
      go_ret2
      exact ⟨ret_se HP.out.1.symm HP.out.2.symm, bl _⟩
    · obtain ⟨m, rfl⟩ : ∃ m : Nat, n = (m : Int) := ⟨n.toNat, by omega⟩
      exact num_good m (by omega) w

end Go.Proofs.Ytnmnbnlokmmcmaa
