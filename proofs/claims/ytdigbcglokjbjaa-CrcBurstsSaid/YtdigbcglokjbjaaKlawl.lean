/-
  The law of sums CrcLinear.
-/
import Derived.Test.YtdigbcglokjbjaaKlawb
namespace Go.Proofs.Ytdigbcglokjbjaa
open Go.RowKit

theorem i64_xor_nat {a b : Nat} (ha : a < 4294967296) (hb : b < 4294967296) : bits .xor .i64 (a : Int) (b : Int) = ((a ^^^ b : Nat) : Int) := by
  have hx : a ^^^ b < 2 ^ 32 := Nat.xor_lt_two_pow (by omega) (by omega)
  show IntKind.i64.wrap ((BitVec.ofInt 64 (a : Int) ^^^ BitVec.ofInt 64 (b : Int)).toNat : Int) = _
  rw [BitVec.toNat_xor, BitVec.ofInt_natCast, BitVec.ofInt_natCast, BitVec.toNat_ofNat, BitVec.toNat_ofNat, Nat.mod_eq_of_lt (by omega), Nat.mod_eq_of_lt (by omega), IntKind.wrap_i64]
  omega
/-- The first k bytes have been laid. -/
def linT (l : List Nat) (k : Nat) : Nat → Nat := fun j => if j < k then l.getD j 0 else 0
theorem linT_put {l : List Nat} {k v : Nat} (hv : l.getD k 0 = v) : ∀ j, upd (linT l k) k v j = linT l (k + 1) j := by
  intro j
  unfold upd linT
  by_cases e : j = k
  · rw [if_pos e, if_pos (by omega), e, hv]
  · rw [if_neg e]
    by_cases h : j < k
    · rw [if_pos h, if_pos (by omega)]
    · rw [if_neg h, if_neg (by omega)]
theorem xorN_length {a b c : ByteArray} (h : b.size = a.size) (h2 : c.size = a.size) : (xorN a b c).length = a.size := by
  unfold xorN
  rw [List.length_zipWith, List.length_zipWith, nats_length, nats_length, nats_length]
  omega
theorem xorN_get {a b c : ByteArray} {k x y z : Nat} (hx : (nats a)[k]? = some x) (hy : (nats b)[k]? = some y) (hz : (nats c)[k]? = some z) : (xorN a b c).getD k 0 = x ^^^ y ^^^ z := by
  unfold xorN
  rw [List.getD_eq_getElem?_getD, List.getElem?_zipWith, List.getElem?_zipWith, hx, hy, hz]
  rfl
theorem xorN_lt (a b c : ByteArray) : ∀ d ∈ xorN a b c, d < 256 := by
  intro d hd
  obtain ⟨k, hk⟩ := List.getElem?_of_mem hd
  unfold xorN at hk
  rw [List.getElem?_zipWith, List.getElem?_zipWith] at hk
  cases hx : (nats a)[k]? with
  | none => rw [hx] at hk; simp at hk
  | some x =>
    cases hy : (nats b)[k]? with
    | none => rw [hx, hy] at hk; simp at hk
    | some y =>
      cases hz : (nats c)[k]? with
      | none => rw [hx, hy, hz] at hk; simp at hk
      | some z =>
        rw [hx, hy, hz] at hk
        have h1 := nats_lt a x (List.mem_of_getElem? hx)
        have h2 := nats_lt b y (List.mem_of_getElem? hy)
        have h3 := nats_lt c z (List.mem_of_getElem? hz)
        obtain rfl : x ^^^ y ^^^ z = d := by simpa using hk
        exact Nat.xor_lt_two_pow (n := 8) (Nat.xor_lt_two_pow h1 h2) h3

set_option maxHeartbeats 4000000 in
set_option maxRecDepth 10000 in
theorem linear_walk (a b c : ByteArray) (w : World) : Ret 7 #[.string a, .string b, .string c] w (.bool true) := by
  have AL := Lib.hid alive_any
  by_cases h0 : 3000 < a.size
  · have h0' : (3000 : Int) < (a.size : Int) := by omega
    go_enter Try.func7, Try.ntmps7
    go_wp2_with (go_at_call 8; with_reducible refine (AL.out _).mono ?_; rintro e w3 ⟨rfl, hb3⟩)
    go_ret
    exact ⟨rfl, hb3⟩
  have h0' : ¬ (3000 : Int) < (a.size : Int) := by omega
  by_cases h1n : b.size ≠ a.size
  · have h1' : ((b.size : Int) != (a.size : Int)) = true := by rw [bne_iff_ne]; omega
    go_enter Try.func7, Try.ntmps7
    go_wp2_with (go_at_call 8; with_reducible refine (AL.out _).mono ?_; rintro e w3 ⟨rfl, hb3⟩)
    go_ret
    exact ⟨rfl, hb3⟩
  have h1 : b.size = a.size := by omega
  by_cases h2n : c.size ≠ a.size
  · have h2' : ((c.size : Int) != (a.size : Int)) = true := by rw [bne_iff_ne]; omega
    go_enter Try.func7, Try.ntmps7
    go_wp2_with (go_at_call 8; with_reducible refine (AL.out _).mono ?_; rintro e w3 ⟨rfl, hb3⟩)
    go_ret
    exact ⟨rfl, hb3⟩
  have h2 : c.size = a.size := by omega
  clear h1n h2n
  have S3 := sum_three h1 h2
  have C1 := Lib.hid (fun w => sum_any a (by omega) w)
  have C2 := Lib.hid (fun w => sum_any b (by omega) w)
  have C3 := Lib.hid (fun w => sum_any c (by omega) w)
  have hl := xorN_length h1 h2
  have hxl := xorN_lt a b c
  have C4 := Lib.hid (fun w => sum_any (bytesN (xorN a b c)) (by rw [size_bytes]; omega) w)
  rw [nats_bytes hxl, S3] at C4
  have k1 := sumN_lt (nats_lt a)
  have k2 := sumN_lt (nats_lt b)
  have k3 := sumN_lt (nats_lt c)
  have x1 := i64_xor_nat k1 k2
  have x2 := i64_xor_nat (Nat.xor_lt_two_pow (n := 32) k1 k2) k3
  generalize sumN (nats a) = sa at *
  generalize sumN (nats b) = sb' at *
  generalize sumN (nats c) = sc at *
  generalize sa ^^^ sb' = s1 at *
  generalize s1 ^^^ sc = s2 at *
  obtain ⟨N, hN⟩ : ∃ N, a.size = N := ⟨_, rfl⟩
  rw [hN] at h1 h2 hl h0'
  have XG := Lib.hid (fun k x y z hx hy hz => xorN_get (a := a) (b := b) (c := c) (k := k) (x := x) (y := y) (z := z) hx hy hz)
  obtain ⟨l, hll⟩ : ∃ l, xorN a b c = l := ⟨_, rfl⟩
  rw [hll] at C4 XG hl hxl
  have HL := Lib.hid hl
  clear hll hl S3 k1 k2 k3
  obtain ⟨w1, hmk, hA, hB⟩ := make_bytes w N (by omega)
  have HA := Lib.hid hA
  have HB := Lib.hid hB
  clear hA hB
  go_enter Try.func7, Try.ntmps7
  go_wp2_with fail
  clear hmk
  go_loopw [32] (fun i wr => ∃ k : Nat, k ≤ N ∧ i = .int .i64 k ∧ Arr wr w.heap.size (linT l k) N ∧ Below w.heap.size w wr) (fun i _ => N - (intOf i).toNat)
  case atStart => exact ⟨0, Nat.zero_le _, rfl, HA.out.congr fun j hj => by unfold linT; rw [if_neg (by omega)], HB.out⟩
  case round =>
    obtain ⟨k, hk, rfl, hA, hB⟩ := hrel
    have HAr := Lib.hid hA
    have HBr := Lib.hid hB
    clear hA hB
    by_cases hlt : k < N
    · have hlt' : (k : Int) < (N : Int) := by omega
      obtain ⟨x, hx⟩ : ∃ x, (nats a)[k]? = some x := ⟨_, List.getElem?_eq_getElem (by rw [nats_length]; omega)⟩
      obtain ⟨y, hy⟩ : ∃ y, (nats b)[k]? = some y := ⟨_, List.getElem?_eq_getElem (by rw [nats_length]; omega)⟩
      obtain ⟨z, hz⟩ : ∃ z, (nats c)[k]? = some z := ⟨_, List.getElem?_eq_getElem (by rw [nats_length]; omega)⟩
      have i1 := index_run hx
      have i2 := index_run hy
      have i3 := index_run hz
      have hx256 := nats_lt a x (List.mem_of_getElem? hx)
      have hy256 := nats_lt b y (List.mem_of_getElem? hy)
      have hz256 := nats_lt c z (List.mem_of_getElem? hz)
      have e1 := u8_xor_nat x y hx256 hy256
      have e2 := u8_xor_nat (x ^^^ y) z (Nat.xor_lt_two_pow (n := 8) hx256 hy256) hz256
      have G := XG.out k x y z hx hy hz
      obtain ⟨c0, f0⟩ := HAr.out.2 k hlt
      clear hx hy hz
      generalize x ^^^ y = u at *
      generalize u ^^^ z = v at *
      have NX := Lib.hid ((HAr.out.put (v := v) hlt).congr (fun j _ => linT_put G j))
      have HD := Lib.hid (HBr.out.setCell (p := ⟨w.heap.size, k, none⟩) (Nat.le_refl _) (.int .u8 (v : Int)))
      clear G
      go_wp2_with fail
      go_still_tail 14, (by kernel_rfl)
      change wpList _ _ _ _ _ wr.drew
      go_wp2_with fail
      exact ⟨⟨k + 1, by omega, by go_num, NX.out, HD.out.drew⟩, by simp [intOf] <;> omega⟩
    · obtain rfl : k = N := by omega
      have hlt' : ¬ (k : Int) < (k : Int) := by omega
      have mk : ∀ w', Below wr.heap.size wr w' → (Below wr.heap.size wr w' ∧ (convert 36 9 (.slice (some ⟨w.heap.size, 0, none⟩) k k)).run Try.prog w' = .ok (.string (bytesN l)) w') := fun w' hb =>
        ⟨hb, conv_arr (HAr.out.below HAr.out.1 hb) HL.out fun j hj => by
          unfold linT
          rw [if_pos hj]
          rw [List.getD_eq_getElem?_getD, List.getElem?_eq_getElem (by rw [HL.out]; exact hj)]; rfl⟩
      have MK := Lib.hid mk
      clear mk
      go_wp2_with fail
      go_region_held3 (fun w' => Below wr.heap.size wr w' ∧ (convert 36 9 (.slice (some ⟨w.heap.size, 0, none⟩) k k)).run Try.prog w' = .ok (.string (bytesN l)) w')
        (first | exact MK.out _ ((bl wr).drew) | exact MK.out _ B1.out | exact MK.out _ B2.out | exact MK.out _ B3.out | exact MK.out _ B4.out | exact MK.out _ B5.out | fail)
        (first
          | (go_at_call 9; with_reducible refine (C1.out _).mono ?_; rintro e w2 ⟨rfl, hb2⟩; have B1 := Lib.hid (chain ((bl wr).drew) hb2); clear hb2)
          | (go_at_call 9; with_reducible refine (C2.out _).mono ?_; rintro e w3 ⟨rfl, hb3⟩; have B2 := Lib.hid (chain B1.out hb3); clear hb3)
          | (go_at_call 9; with_reducible refine (C3.out _).mono ?_; rintro e w4 ⟨rfl, hb4⟩; have B3 := Lib.hid (chain B2.out hb4); clear hb4)
          | (go_at_call 9; with_reducible refine (C4.out _).mono ?_; rintro e w5 ⟨rfl, hb5⟩; have B4 := Lib.hid (chain B3.out hb5); clear hb5)
          | (go_at_call 8; with_reducible refine (AL.out _).mono ?_; rintro e w6 ⟨rfl, hb6⟩; have B5 := Lib.hid (chain B4.out hb6); clear hb6))
      go_wp2_with fail
      go_ret
      exact ⟨rfl, chain HBr.out B5.out⟩

end Go.Proofs.Ytdigbcglokjbjaa
