/-
  The document's Four, Seal and Open.
-/
import Derived.Test.YtdigbcglokjbjaaKstep
import Derived.Test.YtdigbcglokjbjaaKmore
namespace Go.Proofs.Ytdigbcglokjbjaa
open Go.RowKit

/-- The t lowest bytes have been laid. -/
def fourT (m t : Nat) : Nat → Nat := fun j => if j < t then m / 256 ^ j % 256 else 0
theorem fourT_put {m t : Nat} : ∀ j, j < 4 → upd (fourT m t) t (m / 256 ^ t % 256) j = fourT m (t + 1) j := by
  intro j _
  unfold upd fourT
  by_cases e : j = t
  · rw [if_pos e, if_pos (by omega), e]
  · rw [if_neg e]
    by_cases h : j < t
    · rw [if_pos h, if_pos (by omega)]
    · rw [if_neg h, if_neg (by omega)]
theorem fourT_all {m : Nat} : ∀ j, j < 4 → (le 4 m)[j]? = some (fourT m 4 j) := by
  intro j hj
  rw [le_get 4 m j hj, fourT, if_pos hj]

set_option maxHeartbeats 4000000 in
theorem dfour_any (n : Int) (w : World) : Ret 23 #[.int .i64 n] w (.string (fourS (lo n))) := by
  have e0 := lo_wrap n
  have hlo := lo_lt n
  generalize lo n = m at *
  obtain ⟨w1, hmk0, hA, hB⟩ := make_bytes w 4 (by omega)
  have hmk : (Instr.makeSlice 36 (.int .i64 4) (.int .i64 4)).run Try.prog w = .ok (.slice (some ⟨w.heap.size, 0, none⟩) 4 4) w1 := hmk0
  have HA := Lib.hid hA
  have HB := Lib.hid hB
  have ALL := Lib.hid (fourT_all (m := m))
  clear hmk0 hA hB
  go_enter Try.func23, Try.ntmps23
  go_wp2_with fail
  clear hmk
  go_loopw [4, 5] (fun u i wr => ∃ t q : Nat, t ≤ 4 ∧ m / 256 ^ t = q ∧ u = .int .u32 (q : Int) ∧ i = .int .i64 t ∧ Arr wr w.heap.size (fourT m t) 4 ∧ Below w.heap.size w wr) (fun _ i _ => 4 - (intOf i).toNat)
  case atStart => exact ⟨0, m, Nat.zero_le _, by simp, rfl, rfl, HA.out.congr fun j hj => by unfold fourT; rw [if_neg (by omega)], HB.out⟩
  case round =>
    obtain ⟨t, q, ht, hq, rfl, rfl, hA, hB⟩ := hrel
    have HAr := Lib.hid hA
    have HBr := Lib.hid hB
    clear hA hB
    by_cases hlt : t < 4
    · have hlt' : (t : Int) < 4 := by omega
      obtain ⟨c0, f0⟩ := HAr.out.2 t (by omega)
      have NX := Lib.hid ((HAr.out.put (v := m / 256 ^ t % 256) hlt).congr (fourT_put (m := m)))
      rw [hq] at NX
      have NQ := Lib.hid (show m / 256 ^ (t + 1) = q / 256 by rw [Nat.pow_succ, ← Nat.div_div_eq_div_mul, hq])
      have hq32 : q < 4294967296 := by rw [← hq]; exact Nat.lt_of_le_of_lt (Nat.div_le_self _ _) hlo
      clear hq
      go_wp2_with fail
      rw [show (q : Int) % 256 = ((q % 256 : Nat) : Int) by omega]
      exact ⟨⟨t + 1, q / 256, by omega, NQ.out, by go_num, by go_num, NX.out, HBr.out.setCell (p := ⟨w.heap.size, t, none⟩) (Nat.le_refl _) _⟩, by simp [intOf] <;> omega⟩
    · obtain rfl : t = 4 := by omega
      have cv := conv_arr (c := 4) (w := wr) (l := le 4 m) HAr.out (le_length 4 m) ALL.out
      go_wp2_with fail
      go_ret
      exact ⟨ret_s rfl, HBr.out⟩

theorem sum_lo (s : ByteArray) : lo ((sumN (nats s) : Nat) : Int) = sumN (nats s) := lo_nat (sumN_lt (nats_lt s))
set_option maxHeartbeats 1000000 in
theorem dseal_any (s : ByteArray) (hs : s.size ≤ 4611686018427387903) (w : World) : Ret 16 #[.string s] w (.string (sealS s)) := by
  have CS := Lib.hid (fun w => dsum_any s hs w)
  have CF := Lib.hid (fun w => dfour_any ((sumN (nats s) : Nat) : Int) w)
  rw [sum_lo] at CF
  have HE := Lib.hid (show sealS s = s ++ fourS (sumN (nats s)) from rfl)
  have z1 : ¬ s.size + (fourS (sumN (nats s))).size > 9223372036854775807 := by rw [fourS_size]; omega
  generalize sumN (nats s) = m at *
  generalize fourS m = f at *
  go_enter Try.func16, Try.ntmps16
  go_wp2_with (first
    | (go_at_call 10; with_reducible refine (CS.out _).mono ?_; rintro e w2 ⟨rfl, rfl⟩)
    | (go_at_call 23; with_reducible refine (CF.out _).mono ?_; rintro e w3 ⟨rfl, hb⟩))
  go_ret
  exact ⟨ret_s HE.out.symm, hb⟩

theorem ret_se {s t : ByteArray} {a b : Int} (h : s = t) (k : a = b) : Ending.returned (.tuple #[.string s, .int .i64 a]) = .returned (.tuple #[.string t, .int .i64 b]) := by rw [h, k]
theorem bytes_is {s t : ByteArray} : s.toList = t.toList ↔ s = t := by
  constructor
  · intro h
    rw [ByteArray.toList_eq, ByteArray.toList_eq] at h
    exact nats_inj (by unfold nats; rw [h])
  · rintro rfl; rfl

set_option maxHeartbeats 4000000 in
set_option maxRecDepth 10000 in
theorem dopen_any (s : ByteArray) (hs : s.size ≤ 4611686018427387903) (w : World) : Ret 14 #[.string s] w (.tuple #[.string (opS s), .int .i64 ((opE s : Nat) : Int)]) := by
  by_cases h4 : s.size < 4
  · have h4' : (s.size : Int) - 4 < 0 := by omega
    have OS := Lib.hid (op_short h4)
    go_enter Try.func14, Try.ntmps14
    go_wp2_with fail
    go_ret2
    exact ⟨ret_se OS.out.1.symm (by rw [OS.out.2]; rfl), bl _⟩
  · obtain ⟨n, hn⟩ : ∃ n, s.size = n + 4 := ⟨s.size - 4, by omega⟩
    have OL := Lib.hid (op_long hn)
    have h4' : ¬ (n : Int) < 0 := by omega
    have hsl : ∀ w, (Instr.slice 9 (.string s) none (some (.int .i64 (n : Int))) none).run Try.prog w = .ok (.string (s.extract 0 n)) w := fun w => by
      rw [run_slice_string_to_if w 9 s .i64 (n : Int) Try.underlying9, if_pos (by omega), show (n : Int).toNat = n by omega]
    have hsr : ∀ w, (Instr.slice 9 (.string s) (some (.int .i64 (n : Int))) none none).run Try.prog w = .ok (.string (s.extract n (n + 4))) w := fun w => by
      rw [run_slice_string_from_if w 9 s .i64 (n : Int) Try.underlying9, if_pos (by omega), show (n : Int).toNat = n by omega, hn]
    have CS := Lib.hid (fun w => dsum_any (s.extract 0 n) (by rw [ByteArray.size_extract]; omega) w)
    have CF := Lib.hid (fun w => dfour_any ((sumN (nats (s.extract 0 n)) : Nat) : Int) w)
    rw [sum_lo] at CF
    generalize sumN (nats (s.extract 0 n)) = m at *
    generalize fourS m = f at *
    generalize s.extract 0 n = a at *
    generalize s.extract n (n + 4) = b at *
    go_enter Try.func14, Try.ntmps14
    by_cases hf : f = b
    · have O1 := Lib.hid (show opS s = a ∧ opE s = 0 from by
        rcases OL.out with h | h
        · exact h.2
        · exact absurd hf h.1)
      subst hf
      go_wp2_with fail
      go_region_held3 (fun w' => Below w.heap.size w w')
        (first | exact (bl w).drew | exact hb | fail)
        (first
          | (go_at_call 10; with_reducible refine (CS.out _).mono ?_; rintro e w2 ⟨rfl, rfl⟩)
          | (go_at_call 23; with_reducible refine (CF.out _).mono ?_; rintro e w3 ⟨rfl, hb0⟩; have hb := (bl w).drew.trans (hb0.mono (Nat.le_refl _)); clear hb0))
      go_wp2_with fail
      go_ret2
      exact ⟨ret_se O1.out.1.symm (by rw [O1.out.2]; rfl), by assumption⟩
    · have O1 := Lib.hid (show opS s = ⟨#[]⟩ ∧ opE s = 10 from by
        rcases OL.out with h | h
        · exact absurd h.1 hf
        · exact h.2)
      have hne : (f.toList == b.toList) = false := by rw [beq_eq_false_iff_ne]; exact fun e => hf (bytes_is.1 e)
      go_wp2_with fail
      go_region_held3 (fun w' => Below w.heap.size w w')
        (first | exact (bl w).drew | exact hb | fail)
        (first
          | (go_at_call 10; with_reducible refine (CS.out _).mono ?_; rintro e w2 ⟨rfl, rfl⟩)
          | (go_at_call 23; with_reducible refine (CF.out _).mono ?_; rintro e w3 ⟨rfl, hb0⟩; have hb := (bl w).drew.trans (hb0.mono (Nat.le_refl _)); clear hb0))
      go_wp2_with fail
      go_ret2
      exact ⟨ret_se O1.out.1.symm (by rw [O1.out.2]; rfl), by assumption⟩

end Go.Proofs.Ytdigbcglokjbjaa
