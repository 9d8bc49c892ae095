/-
  The program's Sum, Seal, Open and Force.
-/
import Derived.Test.YtdigbcglokjbjaaKadd
namespace Go.Proofs.Ytdigbcglokjbjaa
open Go.RowKit

theorem sum_any (s : ByteArray) (hs : s.size ≤ 1000000) (w : World) : Ret 9 #[.string s] w (.int .i64 ((sumN (nats s) : Nat) : Int)) := by
  have h := fun w => add_any 0 (by unfold isI; omega) s hs w
  have HE : addN (lo 0) (nats s) = sumN (nats s) := rfl
  rw [HE] at h
  have CA := Lib.hid h
  clear h
  go_enter Try.func9, Try.ntmps9
  go_wp2_with (go_at_call 11; with_reducible refine (CA.out _).mono ?_; rintro e w2 ⟨rfl, hb⟩)
  go_ret
  exact ⟨rfl, hb⟩

theorem sum_wrap (s : ByteArray) : IntKind.u32.wrap ((sumN (nats s) : Nat) : Int) = ((sumN (nats s) : Nat) : Int) := by rw [lo_wrap, sum_lo]

set_option maxHeartbeats 1000000 in
theorem seal_any (s : ByteArray) (hs : s.size ≤ 1000000) (w : World) : Ret 15 #[.string s] w (.string (sealS s)) := by
  have CS := Lib.hid (fun w => sum_any s hs w)
  have CF := Lib.hid (fun w => play_any (sumN (nats s)) w)
  have HE := Lib.hid (show sealS s = s ++ fourS (sumN (nats s)) from rfl)
  have z1 : ¬ s.size + (fourS (sumN (nats s))).size > 9223372036854775807 := by rw [fourS_size]; omega
  have hw := sum_wrap s
  generalize sumN (nats s) = m at *
  generalize fourS m = f at *
  go_enter Try.func15, Try.ntmps15
  go_wp2_with (first
    | (go_at_call 9; with_reducible refine (CS.out _).mono ?_; rintro e w2 ⟨rfl, hb⟩)
    | (go_at_call 22; with_reducible refine (CF.out _).mono ?_; rintro e w3 ⟨rfl, hb2⟩))
  go_ret
  exact ⟨ret_s HE.out.symm, chain hb hb2⟩

set_option maxHeartbeats 4000000 in
set_option maxRecDepth 10000 in
theorem open_any (s : ByteArray) (hs : s.size ≤ 1000000) (w : World) : Ret 13 #[.string s] w (.tuple #[.string (opS s), .int .i64 ((opE s : Nat) : Int)]) := by
  by_cases h4 : s.size < 4
  · have h4' : (s.size : Int) < 4 := by omega
    have OS := Lib.hid (op_short h4)
    go_enter Try.func13, Try.ntmps13
    go_wp2_with fail
    go_ret2
    exact ⟨ret_se OS.out.1.symm (by rw [OS.out.2]; rfl), bl _⟩
  · obtain ⟨n, hn⟩ : ∃ n, s.size = n + 4 := ⟨s.size - 4, by omega⟩
    have OL := Lib.hid (op_long hn)
    have h4' : ¬ ((n + 4 : Nat) : Int) < 4 := by omega
    have hw4 : IntKind.i64.wrap (((n + 4 : Nat) : Int) - 4) = (n : Int) := by rw [IntKind.wrap_i64]; omega
    have hsl : ∀ w, (Instr.slice 9 (.string s) none (some (.int .i64 (n : Int))) none).run Try.prog w = .ok (.string (s.extract 0 n)) w := fun w => by
      rw [run_slice_string_to_if w 9 s .i64 (n : Int) Try.underlying9, if_pos (by omega), show (n : Int).toNat = n by omega]
    have hsr : ∀ w, (Instr.slice 9 (.string s) (some (.int .i64 (n : Int))) none none).run Try.prog w = .ok (.string (s.extract n (n + 4))) w := fun w => by
      rw [run_slice_string_from_if w 9 s .i64 (n : Int) Try.underlying9, if_pos (by omega), show (n : Int).toNat = n by omega, hn]
    have CS := Lib.hid (fun w => sum_any (s.extract 0 n) (by rw [ByteArray.size_extract]; omega) w)
    have CF := Lib.hid (fun w => play_any (sumN (nats (s.extract 0 n))) w)
    have hw := sum_wrap (s.extract 0 n)
    generalize sumN (nats (s.extract 0 n)) = m at *
    generalize fourS m = f at *
    generalize s.extract 0 n = a at *
    generalize s.extract n (n + 4) = b at *
    go_enter Try.func13, Try.ntmps13
    by_cases hf : f = b
    · have O1 := Lib.hid (show opS s = a ∧ opE s = 0 from by
        rcases OL.out with h | h
        · exact h.2
        · exact absurd hf h.1)
      subst hf
      go_wp2_with fail
      go_quiet (fail)
      go_wp2_with (first
        | (go_at_call 9; with_reducible refine (CS.out _).mono ?_; rintro e w2 ⟨rfl, hb⟩)
        | (go_at_call 22; with_reducible refine (CF.out _).mono ?_; rintro e w3 ⟨rfl, hb2⟩))
      go_ret2
      exact ⟨ret_se O1.out.1.symm (by rw [O1.out.2]; rfl), chain (chain (belowN (bl w) _) hb) hb2⟩
    · have O1 := Lib.hid (show opS s = ⟨#[]⟩ ∧ opE s = 10 from by
        rcases OL.out with h | h
        · exact absurd h.1 hf
        · exact h.2)
      have hne : (b.toList == f.toList) = false := by rw [beq_eq_false_iff_ne]; exact fun e => hf (bytes_is.1 e).symm
      go_wp2_with fail
      go_quiet (fail)
      go_wp2_with (first
        | (go_at_call 9; with_reducible refine (CS.out _).mono ?_; rintro e w2 ⟨rfl, hb⟩)
        | (go_at_call 22; with_reducible refine (CF.out _).mono ?_; rintro e w3 ⟨rfl, hb2⟩))
      go_ret2
      exact ⟨ret_se O1.out.1.symm (by rw [O1.out.2]; rfl), chain (chain (belowN (bl w) _) hb) hb2⟩

/-- A state ahead of k steps. -/
def zbk : Nat → Nat → Nat
  | 0, y => y
  | k + 1, y => zb (zbk k y)
theorem zbk_lt : ∀ k {y : Nat}, y < 4294967296 → zbk k y < 4294967296
  | 0, _, h => h
  | k + 1, _, h => zb_lt (zbk_lt k h)
theorem zz_zbk : ∀ k (y : Nat), zz k (zbk k y) = y
  | 0, _ => rfl
  | k + 1, y => by rw [zz, zbk, z1_zb, zz_zbk k y]
theorem force_good {a b : Nat} (ha : a < 4294967296) (hb : b < 4294967296) : addN a (le 4 (zbk 32 (b ^^^ all1) ^^^ (a ^^^ all1))) = b := by
  have h1 : b ^^^ all1 < 4294967296 := Nat.xor_lt_two_pow (n := 32) hb (by decide)
  have h2 : a ^^^ all1 < 4294967296 := Nat.xor_lt_two_pow (n := 32) ha (by decide)
  have h3 := zbk_lt 32 h1
  unfold addN
  rw [runN_le 4 _ _ (Nat.xor_lt_two_pow (n := 32) h3 h2), Nat.xor_comm (zbk 32 _), xor_fwd, zz_zbk, xor_back]

set_option maxHeartbeats 4000000 in
set_option maxRecDepth 10000 in
theorem force_any (n m : Int) (hn : isI n) (hm : isI m) (w : World) : Calls Try.prog 18 #[.int .i64 n, .int .i64 m] w fun e w' => ∃ y : Nat, y < 4294967296 ∧ addN (lo n) (le 4 y) = lo m ∧ e = .returned (.string (fourS y)) ∧ Below w.heap.size w w' := by
  have e0 := lo_wrap n
  have e1 := lo_wrap m
  have ha := lo_lt n
  have hb := lo_lt m
  generalize lo n = a at *
  generalize lo m = b at *
  have n1 := not32 ha
  have n2 := not32 hb
  have FG := Lib.hid (force_good ha hb)
  have h1 : a ^^^ all1 < 4294967296 := Nat.xor_lt_two_pow (n := 32) ha (by decide)
  have h2 : b ^^^ all1 < 4294967296 := Nat.xor_lt_two_pow (n := 32) hb (by decide)
  generalize a ^^^ all1 = x at *
  generalize b ^^^ all1 = y at *
  go_enter Try.func18, Try.ntmps18
  go_wp2_with fail
  go_loopw [5, 9] (fun u i wr => ∃ k z : Nat, k ≤ 32 ∧ i = .int .i64 k ∧ zbk k y = z ∧ z < 4294967296 ∧ u = .int .u32 (z : Int) ∧ wr = w) (fun _ i _ => 32 - (intOf i).toNat)
  case atStart => exact ⟨0, y, Nat.zero_le _, rfl, rfl, h2, rfl, rfl⟩
  case round =>
    obtain ⟨k, z, hk, rfl, hz, hzl, rfl, hwr⟩ := hrel
    obtain rfl := hwr.symm
    by_cases hlt : k < 32
    · have hlt' : (k : Int) < 32 := by omega
      have CB := Lib.hid (fun w => pback_any z hzl w)
      have NZ := Lib.hid (show zbk (k + 1) y = zb z by rw [zbk, hz])
      have NL := Lib.hid (zb_lt hzl)
      clear hz
      generalize zb z = q at *
      go_wp2_with (go_at_call 24; with_reducible refine (CB.out _).mono ?_; rintro e w2 ⟨rfl, rfl⟩)
      exact ⟨⟨k + 1, q, by omega, by go_num, NZ.out, NL.out, rfl, trivial⟩, by simp [intOf] <;> omega⟩
    · obtain rfl : k = 32 := by omega
      have ex := u32_xor_nat z x hzl h1
      have CF := Lib.hid (fun w => play_any (z ^^^ x) w)
      have HP := Lib.hid (show z ^^^ x < 4294967296 ∧ addN a (le 4 (z ^^^ x)) = b from ⟨Nat.xor_lt_two_pow (n := 32) hzl h1, by rw [← hz]; exact FG.out⟩)
      clear hz
      generalize z ^^^ x = q at *
      go_wp2_with (go_at_call 22; with_reducible refine (CF.out _).mono ?_; rintro e w2 ⟨rfl, hb2⟩)
      go_ret
      exact ⟨q, HP.out.1, HP.out.2, rfl, hb2⟩

end Go.Proofs.Ytdigbcglokjbjaa
