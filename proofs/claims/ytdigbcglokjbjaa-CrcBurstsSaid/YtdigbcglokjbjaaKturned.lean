/-
  The document's Turned: bits of a text are turned.
-/
import Derived.Test.YtdigbcglokjbjaaKseal
import Derived.Lib.ConvBytes
namespace Go.Proofs.Ytdigbcglokjbjaa
open Go.RowKit

/-- A text is read as bytes of the call's own. -/
theorem text_bytes (w : World) (s : ByteArray) : ∃ w' c, (convert 9 36 (.string s)).run Try.prog w = .ok (.slice (some ⟨w.heap.size, 0, none⟩) s.size c) w' ∧ Arr w' w.heap.size (fun j => (nats s).getD j 0) s.size ∧ Below w.heap.size w w' := by
  refine ⟨_, _, Lib.run_convert_string_bytes w 9 36 5 s Try.underlying9 Try.underlying36 Try.underlying5, ⟨by rw [Lib.bytesWorld_size]; omega, fun j hj => ⟨?_, ?_⟩⟩, ⟨rfl, rfl, rfl, by rw [Lib.bytesWorld_size]; omega, fun k hk => Lib.bytesWorld_at_old w _ s k hk⟩⟩
  · rw [Lib.bytesWorld_cell w _ s j hj]
    have hj2 : j < s.data.toList.length := by rw [Array.length_toList]; exact hj
    simp only [nats, List.getD_eq_getElem?_getD, List.getElem?_map, List.getElem?_eq_getElem hj2]
    rfl
  · have h1 := Lib.bytesWorld_at_new w 5 s
    have h2 : j < (Lib.bytesCells w 5 s).size := by
      unfold Lib.bytesCells
      rw [Array.size_append, Array.size_map]
      have : s.data.size = s.size := rfl
      omega
    simp [World.frozen?, h1]
    omega
theorem getD_some {l : List Nat} {j : Nat} (h : j < l.length) : l[j]? = some (l.getD j 0) := by
  rw [List.getD_eq_getElem?_getD, List.getElem?_eq_getElem h]; rfl
theorem getD_lt {l : List Nat} (h : ∀ b ∈ l, b < 256) (j : Nat) : l.getD j 0 < 256 := by
  rw [List.getD_eq_getElem?_getD]
  cases e : l[j]? with
  | none => simp
  | some c => exact h c (List.mem_of_getElem? e)
theorem turnL_neg {l : List Nat} {a : Int} (h : a < 0) (B : Nat) : ∀ i, turnL l a B i = l
  | 0 => rfl
  | i + 1 => by
    rw [turnL, if_neg, turnL_neg h B i]
    unfold isT
    rw [decide_eq_true_eq]
    omega
theorem flip_get {l : List Nat} {J : Nat} (hJ : J / 8 < l.length) : ∀ j, upd (fun j => l.getD j 0) (J / 8) (l.getD (J / 8) 0 ^^^ 2 ^ (J % 8)) j = (flipAt l J).getD j 0 := by
  intro j
  unfold upd flipAt
  by_cases e : j = J / 8
  · subst e
    rw [if_pos rfl]
    simp [List.getElem?_set_self hJ]
  · rw [if_neg e, List.getD_eq_getElem?_getD, List.getD_eq_getElem?_getD, List.getElem?_set_ne (fun h => e h.symm)]
    rfl
theorem turn_yes {l : List Nat} {A B i : Nat} (h : B / 2 ^ i % 2 = 1) (h2 : A + i < 8 * l.length) : turnL l (A : Int) B (i + 1) = flipAt (turnL l (A : Int) B i) (A + i) := by
  rw [turnL, if_pos, Int.toNat_natCast]
  unfold isT
  rw [decide_eq_true_eq]
  omega
theorem turn_no {l : List Nat} {A B i : Nat} (h : ¬ (B / 2 ^ i % 2 = 1 ∧ A + i < 8 * l.length)) : turnL l (A : Int) B (i + 1) = turnL l (A : Int) B i := by
  rw [turnL, if_neg]
  unfold isT
  rw [decide_eq_true_eq]
  omega

set_option maxHeartbeats 4000000 in
set_option maxRecDepth 10000 in
theorem turned_nat (s : ByteArray) (A B : Nat) (hA : A ≤ 9223372036854775807) (hB : B < 4294967296) (hs : s.size ≤ 100000) (w : World) : Ret 17 #[.string s, .int .i64 (A : Int), .int .u32 (B : Int)] w (.string (turnS s (A : Int) B)) := by
  obtain ⟨w1, c, hcv, hA1, hB1⟩ := text_bytes w s
  have LEN := Lib.hid (fun i => turnL_length (nats s) (A : Int) B i)
  obtain ⟨l, hl⟩ : ∃ l, nats s = l := ⟨_, rfl⟩
  obtain ⟨N, hN⟩ : ∃ N, s.size = N := ⟨_, rfl⟩
  have hlN : l.length = N := by rw [← hl, nats_length, hN]
  have HLN := Lib.hid hlN
  have LT := Lib.hid (fun i => turnL_lt (nats_lt s) (A : Int) B i)
  have HTS := Lib.hid (show turnS s (A : Int) B = bytesN (turnL (nats s) (A : Int) B 32) from rfl)
  rw [hl] at LEN HTS LT hA1
  rw [hN] at hcv hA1 hs
  have HA := Lib.hid hA1
  have HBw := Lib.hid hB1
  clear hA1 hB1 hlN
  generalize turnS s (A : Int) B = ts at *
  have HHA := Lib.hid hA
  go_enter Try.func17, Try.ntmps17
  go_wp2_with fail
  clear hcv
  go_loopw [2, 8] (fun u i wr => ∃ t q : Nat, t ≤ 32 ∧ B / 2 ^ t = q ∧ u = .int .u32 (q : Int) ∧ i = .int .i64 t ∧ Arr wr w.heap.size (fun j => (turnL l (A : Int) B t).getD j 0) N ∧ Below w.heap.size w wr) (fun _ i _ => 32 - (intOf i).toNat)
  case atStart => exact ⟨0, B, Nat.zero_le _, by simp, rfl, rfl, HA.out, HBw.out⟩
  case round =>
    obtain ⟨t, q, ht, hq, rfl, rfl, hAr, hBr⟩ := hrel
    have HAr := Lib.hid hAr
    have HBr := Lib.hid hBr
    clear hAr hBr
    by_cases hlt : t < 32
    · have hlt' : (t : Int) < 32 := by omega
      have hq32 : q < 4294967296 := by rw [← hq]; exact Nat.lt_of_le_of_lt (Nat.div_le_self _ _) hB
      have e1 := and_one32 hq32
      have NQ := Lib.hid (show B / 2 ^ (t + 1) = q / 2 by rw [Nat.pow_succ, ← Nat.div_div_eq_div_mul, hq])
      have sN : IntKind.i64.wrap (8 * (N : Int)) = 8 * (N : Int) := IntWalk.i64_in _ (by omega)
      rcases Nat.mod_two_eq_zero_or_one q with h | h
      · rw [h] at e1
        have TN := Lib.hid (turn_no (l := l) (A := A) (B := B) (i := t) (by rw [hq]; omega))
        clear hq h
        go_wp2_with fail
        exact ⟨⟨t + 1, q / 2, by omega, NQ.out, by go_num, by go_num, by rw [TN.out]; exact HAr.out, HBr.out⟩, by simp [intOf] <;> omega⟩
      · rw [h] at e1
        by_cases h2 : A + t < 8 * N
        · have hle : (A : Int) ≤ 8 * (N : Int) - 1 - (t : Int) := by omega
          have h0A : (0 : Int) ≤ (A : Int) := by omega
          have TY := Lib.hid (turn_yes (l := l) (A := A) (B := B) (i := t) (by rw [hq]; exact h) (by rw [HLN.out]; exact h2))
          obtain ⟨J, hJ⟩ : ∃ J, A + t = J := ⟨_, rfl⟩
          rw [hJ] at TY
          have hJ8 : J / 8 < N := by omega
          have FG := Lib.hid (flip_get (l := turnL l (A : Int) B t) (J := J) (by rw [LEN.out, HLN.out]; exact hJ8))
          obtain ⟨c0, f0⟩ := HAr.out.2 (J / 8) hJ8
          have NX := Lib.hid ((HAr.out.put (v := (turnL l (A : Int) B t).getD (J / 8) 0 ^^^ 2 ^ (J % 8)) hJ8).congr (fun j _ => FG.out j))
          have hx256 := getD_lt (LT.out t) (J / 8)
          clear hq h
          obtain ⟨x, hx⟩ : ∃ x, (turnL l (A : Int) B t).getD (J / 8) 0 = x := ⟨_, rfl⟩
          simp only [hx] at c0 NX hx256
          clear hx FG
          have hadd : (A : Int) + (t : Int) = (J : Int) := by omega
          have hJ63 : (J : Int) ≤ 9223372036854775807 := by omega
          have d1 : (J : Int) / 8 = ((J / 8 : Nat) : Int) := by omega
          have d2 : Int.tdiv (J : Int) 8 = ((J / 8 : Nat) : Int) := by rw [Int.tdiv_eq_ediv_of_nonneg (by omega)]; omega
          have d3 : (J : Int) % 8 = ((J % 8 : Nat) : Int) := by omega
          have d4 : Int.tmod (J : Int) 8 = ((J % 8 : Nat) : Int) := by rw [Int.tmod_eq_emod_of_nonneg (by omega)]; omega
          have hr8 : J % 8 < 8 := Nat.mod_lt _ (by decide)
          have hp8 : ((J / 8 : Nat) : Int) < (N : Int) := by omega
          have HJ := Lib.hid hJ
          clear hJ
          generalize J / 8 = p at *
          generalize J % 8 = r at *
          have hb : bits BinOp.xor IntKind.u8 (x : Int) (2 ^ r % 256) = ((x ^^^ 2 ^ r : Nat) : Int) := by
            have h2 : 2 ^ r < 256 := Nat.pow_lt_pow_right (m := r) (n := 8) (by decide) hr8
            rw [← u8_xor_nat x (2 ^ r) hx256 h2]
            congr 1
            have : (2 : Int) ^ r = ((2 ^ r : Nat) : Int) := by simp
            rw [this]
            clear this
            generalize 2 ^ r = m2 at h2 ⊢
            exact Int.emod_eq_of_lt (Int.natCast_nonneg _) (by exact_mod_cast h2)
          obtain ⟨v, hv⟩ : ∃ v, x ^^^ 2 ^ r = v := ⟨_, rfl⟩
          rw [hv] at hb NX
          clear hv
          go_wp2_with fail
          exact ⟨⟨t + 1, q / 2, by omega, NQ.out, by go_num, by go_num, by rw [TY.out]; exact NX.out, HBr.out.setCell (p := ⟨w.heap.size, p, none⟩) (Nat.le_refl _) _⟩, by simp [intOf] <;> omega⟩
        · have hle : ¬ (A : Int) ≤ 8 * (N : Int) - 1 - (t : Int) := by omega
          have h0A : (0 : Int) ≤ (A : Int) := by omega
          have TN := Lib.hid (turn_no (l := l) (A := A) (B := B) (i := t) (by rw [HLN.out]; omega))
          clear hq h
          go_wp2_with fail
          exact ⟨⟨t + 1, q / 2, by omega, NQ.out, by go_num, by go_num, by rw [TN.out]; exact HAr.out, HBr.out⟩, by simp [intOf] <;> omega⟩
    · obtain rfl : t = 32 := by omega
      have cv := conv_arr (c := c) (w := wr) (l := turnL l (A : Int) B 32) HAr.out (by rw [LEN.out, HLN.out]) (fun j hj => getD_some (by rw [LEN.out, HLN.out]; exact hj))
      go_wp2_with fail
      go_ret
      exact ⟨ret_s HTS.out.symm, HBr.out⟩

set_option maxHeartbeats 4000000 in
set_option maxRecDepth 10000 in
theorem turned_neg (s : ByteArray) (a : Int) (B : Nat) (ha : a < 0) (hB : B < 4294967296) (hs : s.size ≤ 100000) (w : World) : Ret 17 #[.string s, .int .i64 a, .int .u32 (B : Int)] w (.string (turnS s a B)) := by
  obtain ⟨w1, c, hcv, hA1, hB1⟩ := text_bytes w s
  obtain ⟨l, hl⟩ : ∃ l, nats s = l := ⟨_, rfl⟩
  obtain ⟨N, hN⟩ : ∃ N, s.size = N := ⟨_, rfl⟩
  have HLN := Lib.hid (show l.length = N by rw [← hl, nats_length, hN])
  have HTS := Lib.hid (show turnS s a B = bytesN l by unfold turnS; rw [turnL_neg ha, hl])
  rw [hl] at hA1
  rw [hN] at hcv hA1 hs
  have HA := Lib.hid hA1
  have HBw := Lib.hid hB1
  clear hA1 hB1
  generalize turnS s a B = ts at *
  have h0A : ¬ (0 : Int) ≤ a := by omega
  go_enter Try.func17, Try.ntmps17
  go_wp2_with fail
  clear hcv
  go_loopw [2, 8] (fun u i wr => ∃ t q : Nat, t ≤ 32 ∧ q < 4294967296 ∧ u = .int .u32 (q : Int) ∧ i = .int .i64 t ∧ wr = w1) (fun _ i _ => 32 - (intOf i).toNat)
  case atStart => exact ⟨0, B, Nat.zero_le _, hB, rfl, rfl, rfl⟩
  case round =>
    obtain ⟨t, q, ht, hq32, rfl, rfl, hwr⟩ := hrel
    obtain rfl := hwr.symm
    by_cases hlt : t < 32
    · have hlt' : (t : Int) < 32 := by omega
      have e1 := and_one32 hq32
      rcases Nat.mod_two_eq_zero_or_one q with h | h
      · rw [h] at e1
        clear h
        go_wp2_with fail
        exact ⟨⟨t + 1, q / 2, by omega, by omega, by go_num, by go_num, trivial⟩, by simp [intOf] <;> omega⟩
      · rw [h] at e1
        clear h
        go_wp2_with fail
        exact ⟨⟨t + 1, q / 2, by omega, by omega, by go_num, by go_num, trivial⟩, by simp [intOf] <;> omega⟩
    · obtain rfl : t = 32 := by omega
      have cv := conv_arr (c := c) (w := w1) (l := l) HA.out HLN.out (fun j hj => getD_some (by rw [HLN.out]; exact hj))
      go_wp2_with fail
      go_ret
      exact ⟨ret_s HTS.out.symm, HBw.out⟩

theorem dturned_any (s : ByteArray) (a : Int) (B : Nat) (ha : -9223372036854775808 ≤ a ∧ a ≤ 9223372036854775807) (hB : B < 4294967296) (hs : s.size ≤ 100000) (w : World) : Ret 17 #[.string s, .int .i64 a, .int .u32 (B : Int)] w (.string (turnS s a B)) := by
  by_cases h : a < 0
  · exact turned_neg s a B h hB hs w
  · obtain ⟨A, rfl⟩ := Int.eq_ofNat_of_zero_le (show 0 ≤ a by omega)
    exact turned_nat s A B (by omega) hB hs w

end Go.Proofs.Ytdigbcglokjbjaa
