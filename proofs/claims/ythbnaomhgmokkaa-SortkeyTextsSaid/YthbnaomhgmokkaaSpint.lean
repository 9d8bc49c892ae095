/-
  The key of a number by the program, and what it takes of bytes as a number: its Int and TakeInt.
-/
import Derived.Test.YthbnaomhgmokkaaSbuild
namespace Go.Proofs.Ythbnaomhgmokkaa
open Go.RowKit

theorem low_byteS (n i : Nat) : IntKind.u8.wrap ((n : Int) / 2 ^ (8 * i)) = ((n / 256 ^ i % 256 : Nat) : Int) := by
  have e : (n : Int) / 2 ^ (8 * i) = ((n / 256 ^ i : Nat) : Int) := by
    rw [p256]; simp
  rw [e]
  simp [IntKind.wrap, IntKind.bits, IntKind.signed]

/-- An array of eight bytes is laid. -/
theorem arr_new (w : World) (T : TypeId) : Arr (w.alloc (.cells #[.int .u8 0, .int .u8 0, .int .u8 0, .int .u8 0, .int .u8 0, .int .u8 0, .int .u8 0, .int .u8 0] T)) w.heap.size (fun _ => 0) 8 := by
  refine ⟨by simp, fun i hi => ?_⟩
  have h : i = 0 ∨ i = 1 ∨ i = 2 ∨ i = 3 ∨ i = 4 ∨ i = 5 ∨ i = 6 ∨ i = 7 := by omega
  rcases h with rfl | rfl | rfl | rfl | rfl | rfl | rfl | rfl <;> exact ⟨by simp [go_sem], by simp [go_sem]⟩

set_option maxHeartbeats 4000000 in
set_option maxRecDepth 10000 in
theorem int_any (n : Int) (hn : isI n) (w : World) : Ret 9 #[.int .i64 n] w (.string (keyIS n)) := by
  have hu := up_wrap hn
  have hm := upI_lt hn
  have HA := Lib.hid (arr_new w 56)
  have ALL := Lib.hid (intT_all (n := n))
  have HK := Lib.hid (show keyIS n = bytesN (keyI n) from rfl)
  have HZ := Lib.hid (low_byteS (upI n))
  generalize upI n = m at *
  go_enter Try.func9, Try.ntmps9
  go_wp2_with fail
  go_loopw [9] (fun i wr => ∃ k : Nat, k ≤ 8 ∧ i = .int .i64 k ∧ Arr wr w.heap.size (intT m k) 8 ∧ Below w.heap.size w wr) (fun i _ => 8 - (intOf i).toNat)
  case atStart => exact ⟨0, Nat.zero_le _, rfl, HA.out.congr fun j hj => by unfold intT; rw [if_neg (by omega)], (bl w).alloc (Nat.le_refl _) _⟩
  case round =>
    obtain ⟨k, hk, rfl, hA, hB⟩ := hrel
    have HAr := Lib.hid hA
    have HBr := Lib.hid hB
    clear hA hB
    by_cases hlt : k < 8
    · have hlt' : (k : Int) < 8 := by omega
      have w1 : IntKind.i64.wrap (7 - (k : Int)) = ((7 - k : Nat) : Int) := by rw [IntKind.wrap_i64]; omega
      have w3 : ((7 - k : Nat) : Int) < 8 := by omega
      have w4 : IntKind.i64.wrap (8 * (k : Int)) = 8 * (k : Int) := IntWalk.i64_in _ (by omega)
      obtain ⟨c0, f0⟩ := HAr.out.2 (7 - k) (by omega)
      have hb := HZ.out k
      have NX := Lib.hid ((HAr.out.put (v := m / 256 ^ k % 256) (show 7 - k < 8 by omega)).congr (intT_put (m := m) hlt))
      obtain ⟨v, hv⟩ : ∃ v : Nat, m / 256 ^ k % 256 = v := ⟨_, rfl⟩
      rw [hv] at hb NX
      clear hv
      generalize 7 - k = p at *
      go_wp2_with fail
      exact ⟨⟨k + 1, by omega, by go_num, NX.out, HBr.out.setCell (Nat.le_refl _) _⟩, by simp [intOf]; omega⟩
    · obtain rfl : k = 8 := by omega
      have cv := conv_arr (c := 8) (w := wr) (l := keyI n) HAr.out (keyI_length n) ALL.out
      go_wp2_with fail
      go_ret
      exact ⟨ret_s HK.out.symm, HBr.out⟩

theorem wraps_u64' (n : Int) (h0 : 0 ≤ n) (h1 : n < 2 ^ 64) : IntKind.u64.wrap n = n := by
  rw [IntKind.wrap_u64]
  omega
theorem shl_or {n b : Nat} (hn : n < 72057594037927936) (hb : b < 256) : bits BinOp.or IntKind.u64 ((n : Int) * 256) (b : Int) = ((256 * n + b : Nat) : Int) := by
  rw [bits_join .u64 64 (by decide) wraps_u64' 8 _ _ (by omega) (by omega) (by omega) (by omega) (by omega) (by omega)]
  omega

set_option maxHeartbeats 4000000 in
theorem takeint_any (s : ByteArray) (hs : s.size ≤ 1152921504606846976) (w : World) : Calls Try.prog 10 #[.string s] w fun e w' => e = .returned (.tuple #[.int .i64 (tiN s), .string (tiR s), .int .i64 (tiE s : Int)]) ∧ Below w.heap.size w w' := by
  by_cases h8 : s.size < 8
  · have h8' : (s.size : Int) < 8 := by omega
    have TI := Lib.hid (ti_short h8)
    go_enter Try.func10, Try.ntmps10
    go_wp2_with fail
    go_ret3
    exact ⟨ret_ise TI.out.1.symm TI.out.2.1.symm (by rw [TI.out.2.2]; rfl), bl _⟩
  · have h8' : ¬ (s.size : Int) < 8 := by omega
    have TI := Lib.hid (ti_good h8)
    go_enter Try.func10, Try.ntmps10
    go_wp2_with fail
    go_loopw [5, 10] (fun u i wr => ∃ k q : Nat, k ≤ 8 ∧ val ((nats s).take k) = q ∧ u = .int .u64 (q : Int) ∧ i = .int .i64 k ∧ Below w.heap.size w wr) (fun _ i _ => 8 - (intOf i).toNat)
    case atStart => exact ⟨0, 0, Nat.zero_le _, by simp [val], rfl, rfl, bl w⟩
    case round =>
      obtain ⟨k, q, hk, hq, rfl, rfl, hB⟩ := hrel
      have HB := Lib.hid hB
      clear hB
      by_cases hlt : k < 8
      · have hlt' : (k : Int) < 8 := by omega
        obtain ⟨c, hc⟩ : ∃ c, (nats s)[k]? = some c := ⟨_, List.getElem?_eq_getElem (by rw [nats_length]; omega)⟩
        have hc256 := nats_lt s c (List.mem_of_getElem? hc)
        have hi := index_run hc
        have hq2 : q < 256 ^ 7 := by
          have h1 := take_lt s (k := k) (by omega)
          have h2 : 256 ^ k ≤ 256 ^ 7 := Nat.pow_le_pow_right (by decide) (by omega)
          omega
        have NQ := Lib.hid (show val ((nats s).take (k + 1)) = 256 * q + c by rw [List.take_add_one, hc, Option.toList_some, val_snoc, hq])
        have s1 := shl_or (n := q) (b := c) (by omega) hc256
        clear hc hq
        go_wp2_with fail
        exact ⟨⟨k + 1, 256 * q + c, by omega, NQ.out, by go_num, by go_num, HB.out⟩, by simp [intOf] <;> omega⟩
      · obtain rfl : k = 8 := by omega
        have hq8 : q < 256 ^ 8 := by rw [← hq]; exact take_lt s (by omega)
        have hd := down_wrap hq8
        have HQ := Lib.hid (show downI ((nats s).take 8) = (q : Int) - 9223372036854775808 by rw [downI, hq])
        have h8s : (8 : Int) ≤ (s.size : Int) := by omega
        clear hq hq8
        go_wp2_with fail
        go_quiet (fail)
        go_wp2_with fail
        go_ret3
        exact ⟨ret_ise (by rw [TI.out.1, HQ.out]) TI.out.2.1.symm (by rw [TI.out.2.2]; rfl), belowN HB.out _⟩

end Go.Proofs.Ythbnaomhgmokkaa
