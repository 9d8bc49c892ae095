/-
  The key of a number by the document, and what it takes of bytes as a number: its Int and TakeInt.
-/
import Derived.Test.YthbnaomhgmokkaaSbase
namespace Go.Proofs.Ythbnaomhgmokkaa
open Go.RowKit

def keyIS (n : Int) : ByteArray := bytesN (keyI n)
/-- The t lowest bytes have been laid. -/
def intT (m t : Nat) : Nat → Nat := fun j => if 7 - j < t then m / 256 ^ (7 - j) % 256 else 0
theorem intT_put {m t : Nat} (h : t < 8) : ∀ j, j < 8 → upd (intT m t) (7 - t) (m / 256 ^ t % 256) j = intT m (t + 1) j := by
  intro j hj
  unfold upd intT
  by_cases e : j = 7 - t
  · rw [if_pos e, if_pos (by omega), show 7 - j = t from by omega]
  · rw [if_neg e]
    by_cases h : 7 - j < t
    · rw [if_pos h, if_pos (by omega)]
    · rw [if_neg h, if_neg (by omega)]
theorem intT_all {n : Int} : ∀ j, j < 8 → (keyI n)[j]? = some (intT (upI n) 8 j) := by
  intro j hj
  rw [keyI, be_get _ _ _ hj, intT, if_pos (by omega)]
theorem up_wrap {n : Int} (h : isI n) : IntKind.u64.wrap (IntKind.u64.wrap n + 9223372036854775808) = (upI n : Int) := by
  unfold upI isI at *
  rw [IntKind.wrap_u64, IntKind.wrap_u64]
  omega

set_option maxHeartbeats 4000000 in
theorem dint_any (n : Int) (hn : isI n) (w : World) : Ret 11 #[.int .i64 n] w (.string (keyIS n)) := by
  have hu := up_wrap hn
  have hm := upI_lt hn
  obtain ⟨w1, hmk0, hA, hB⟩ := make_bytes w 8 (by omega)
  have hmk : (Instr.makeSlice 57 (.int .i64 8) (.int .i64 8)).run Try.prog w = .ok (.slice (some ⟨w.heap.size, 0, none⟩) 8 8) w1 := hmk0
  have HA := Lib.hid hA
  have HB := Lib.hid hB
  have ALL := Lib.hid (intT_all (n := n))
  have HK := Lib.hid (show keyIS n = bytesN (keyI n) from rfl)
  generalize upI n = m at *
  clear hmk0 hA hB
  go_enter Try.func11, Try.ntmps11
  go_wp2_with fail
  clear hmk
  go_loopw [4, 5] (fun u i wr => ∃ t q : Nat, t ≤ 8 ∧ m / 256 ^ t = q ∧ u = .int .u64 (q : Int) ∧ i = .int .i64 (7 - (t : Int)) ∧ Arr wr w.heap.size (intT m t) 8 ∧ Below w.heap.size w wr) (fun _ i _ => (intOf i + 1).toNat)
  case atStart => exact ⟨0, m, Nat.zero_le _, by simp, rfl, rfl, HA.out.congr fun j hj => by unfold intT; rw [if_neg (by omega)], HB.out⟩
  case round =>
    obtain ⟨t, q, ht, hq, rfl, rfl, hA, hB⟩ := hrel
    have HAr := Lib.hid hA
    have HBr := Lib.hid hB
    clear hA hB
    by_cases hlt : t < 8
    · obtain ⟨j, hj⟩ : ∃ j, 7 - t = j := ⟨_, rfl⟩
      have ej : 7 - (t : Int) = (j : Int) := by omega
      have hj8 : (j : Int) < 8 := by omega
      obtain ⟨c0, f0⟩ := HAr.out.2 j (by omega)
      have NX := Lib.hid ((HAr.out.put (v := m / 256 ^ t % 256) (show 7 - t < 8 by omega)).congr (intT_put (m := m) hlt))
      rw [hq, hj] at NX
      have NQ := Lib.hid (show m / 256 ^ (t + 1) = q / 256 by rw [Nat.pow_succ, ← Nat.div_div_eq_div_mul, hq])
      have hq64 : q < 256 ^ 8 := by rw [← hq]; exact Nat.lt_of_le_of_lt (Nat.div_le_self _ _) hm
      have EJ := Lib.hid (show (j : Int) - 1 = 7 - ((t + 1 : Nat) : Int) by omega)
      have hb : IntKind.u8.wrap ((q : Int) % 256) = ((q % 256 : Nat) : Int) := by rw [IntKind.wrap_u8]; omega
      rw [ej]
      clear hq hj ej
      go_wp2_with fail
      rw [show (q : Int) % 256 = ((q % 256 : Nat) : Int) by omega]
      exact ⟨⟨t + 1, q / 256, by omega, NQ.out, by go_num, by rw [EJ.out], NX.out, HBr.out.setCell (p := ⟨w.heap.size, j, none⟩) (Nat.le_refl _) _⟩, by simp [intOf] <;> omega⟩
    · obtain rfl : t = 8 := by omega
      have cv := conv_arr (c := 8) (w := wr) (l := keyI n) HAr.out (keyI_length n) ALL.out
      go_wp2_with fail
      go_ret
      exact ⟨ret_s HK.out.symm, HBr.out⟩

/-- What TakeInt gives back. -/
def tiN (s : ByteArray) : Int := (takI (nats s)).1
def tiR (s : ByteArray) : ByteArray := bytesN (takI (nats s)).2.1
def tiE (s : ByteArray) : Nat := (takI (nats s)).2.2
theorem bytes_nil : bytesN [] = ⟨#[]⟩ := rfl
theorem ti_short {s : ByteArray} (h : s.size < 8) : tiN s = 0 ∧ tiR s = ⟨#[]⟩ ∧ tiE s = 9 := by
  unfold tiN tiR tiE takI
  rw [if_pos (by rw [nats_length]; exact h)]
  exact ⟨rfl, rfl, rfl⟩
theorem bytes_drop (s : ByteArray) (k : Nat) : bytesN ((nats s).drop k) = s.extract k s.size := by
  apply nats_inj
  rw [nats_bytes (fun b hb => nats_lt s b (List.mem_of_mem_drop hb)), nats_extract, List.take_of_length_le (by rw [List.length_drop, nats_length]; omega)]
theorem ti_good {s : ByteArray} (h : ¬ s.size < 8) : tiN s = downI ((nats s).take 8) ∧ tiR s = s.extract 8 s.size ∧ tiE s = 0 := by
  unfold tiN tiR tiE takI
  rw [if_neg (by rw [nats_length]; exact h)]
  exact ⟨rfl, bytes_drop s 8, rfl⟩
theorem down_wrap {q : Nat} (h : q < 256 ^ 8) : IntKind.i64.wrap (IntKind.u64.wrap ((q : Int) - 9223372036854775808)) = (q : Int) - 9223372036854775808 := by
  rw [IntKind.wrap_u64, IntKind.wrap_i64]
  omega
theorem take_lt (s : ByteArray) {k : Nat} (hk : k ≤ s.size) : val ((nats s).take k) < 256 ^ k := by
  have := val_lt ((nats s).take k) fun b hb => nats_lt s b (List.mem_of_mem_take hb)
  rwa [List.length_take, nats_length, Nat.min_eq_left hk] at this

set_option maxHeartbeats 4000000 in
theorem dtakeint_any (s : ByteArray) (hs : s.size ≤ 4611686018427387903) (w : World) : Calls Try.prog 17 #[.string s] w fun e w' => e = .returned (.tuple #[.int .i64 (tiN s), .string (tiR s), .int .i64 (tiE s : Int)]) ∧ Below w.heap.size w w' := by
  by_cases h8 : s.size < 8
  · have h8' : (s.size : Int) < 8 := by omega
    have TI := Lib.hid (ti_short h8)
    go_enter Try.func17, Try.ntmps17
    go_wp2_with fail
    go_ret3
    exact ⟨ret_ise TI.out.1.symm TI.out.2.1.symm (by rw [TI.out.2.2]; rfl), bl _⟩
  · have h8' : ¬ (s.size : Int) < 8 := by omega
    have TI := Lib.hid (ti_good h8)
    go_enter Try.func17, Try.ntmps17
    go_wp2_with fail
    go_loopw [5, 6] (fun u i wr => ∃ k q : Nat, k ≤ 8 ∧ val ((nats s).take k) = q ∧ u = .int .u64 (q : Int) ∧ i = .int .i64 k ∧ Below w.heap.size w wr) (fun _ i _ => 8 - (intOf i).toNat)
    case atStart => exact ⟨0, 0, Nat.zero_le _, by simp [val], rfl, rfl, bl w⟩
    case round =>
      obtain ⟨k, q, hk, hq, rfl, rfl, hB⟩ := hrel
      have HB := Lib.hid hB
      clear hB
      by_cases hlt : k < 8
      · have hlt' : (k : Int) < 8 := by omega
        obtain ⟨c, hc⟩ : ∃ c, (nats s)[k]? = some c := ⟨_, List.getElem?_eq_getElem (by rw [nats_length]; omega)⟩
        have hc256 := nats_lt s c (List.mem_of_getElem? hc)
        have hi := index_run hc
        have hq2 : q < 256 ^ 7 := by
          have h1 := take_lt s (k := k) (by omega)
          have h2 : 256 ^ k ≤ 256 ^ 7 := Nat.pow_le_pow_right (by decide) (by omega)
          omega
        have NQ := Lib.hid (show val ((nats s).take (k + 1)) = 256 * q + c by rw [List.take_add_one, hc, Option.toList_some, val_snoc, hq])
        clear hc hq
        go_wp2_with fail
        exact ⟨⟨k + 1, 256 * q + c, by omega, NQ.out, by go_num, by go_num, HB.out⟩, by simp [intOf] <;> omega⟩
      · obtain rfl : k = 8 := by omega
        have hq8 : q < 256 ^ 8 := by rw [← hq]; exact take_lt s (by omega)
        have hd := down_wrap hq8
        have HQ := Lib.hid (show downI ((nats s).take 8) = (q : Int) - 9223372036854775808 by rw [downI, hq])
        have h8s : (8 : Int) ≤ (s.size : Int) := by omega
        clear hq hq8
        go_wp2_with fail
        go_quiet (fail)
        go_wp2_with fail
        go_ret3
        exact ⟨ret_ise (by rw [TI.out.1, HQ.out]) TI.out.2.1.symm (by rw [TI.out.2.2]; rfl), belowN HB.out _⟩

end Go.Proofs.Ythbnaomhgmokkaa
