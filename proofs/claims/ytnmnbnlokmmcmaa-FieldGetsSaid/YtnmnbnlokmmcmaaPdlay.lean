/-
  A number's bytes, laid by the document bit by bit: its Num.
-/
import Derived.Test.YtnmnbnlokmmcmaaPints
namespace Go.Proofs.Ytnmnbnlokmmcmaa
open Go.RowKit

/-- The least number that needs more than k bytes behind (k at most 7). -/
def topN (k : Nat) : Nat := 2 ^ (7 * (min k 7 + 1))
theorem topN_next {k : Nat} (h : k < 7) : wrap64 (128 * ((topN k : Nat) : Int)) = ((topN (k + 1) : Nat) : Int) := by
  have hk' : k = 0 ∨ k = 1 ∨ k = 2 ∨ k = 3 ∨ k = 4 ∨ k = 5 ∨ k = 6 := by omega
  rcases hk' with rfl | rfl | rfl | rfl | rfl | rfl | rfl <;> decide +kernel
theorem topN_iff {n k : Nat} (hk : k < 8) : kN n ≤ k ↔ n < topN k := by
  rw [kN_lt_iff hk, topN, show min k 7 = k from by omega]

theorem own_intsN {w : World} {base : Nat} {v : Value} {l : List Int} {N : Nat} (h : ownI w base v l) (hl : l.length = N) : ∃ A c, v = .slice A N c ∧ Ints w A l ∧ (A = none → c = 0) := by
  subst hl
  exact own_ints h
theorem Ints.some {w : World} {A : Option Addr} {l : List Int} (h : Ints w A l) (hl : 0 < l.length) : ∃ g off, A = .some ⟨g, off, none⟩ ∧ g < w.heap.size := by
  obtain ⟨g, off, e, c⟩ := h 0 _ (List.getElem?_eq_getElem hl)
  exact ⟨g, off, e, lt_of_cell c⟩
theorem Ints.at {w : World} {g off i : Nat} {x : Int} {l : List Int} (h : Ints w (.some ⟨g, off, none⟩) l) (hx : l[i]? = .some x) : w.cell? ⟨g, off + i, none⟩ = .some (.int .i64 x) := by
  obtain ⟨g', off', e, c⟩ := h i x hx
  injection e with e
  injection e with e1 e2
  subst e1 e2
  exact c
theorem Ints.put {w : World} {g off G j : Nat} {u : Value} {l : List Int} (h : Ints w (.some ⟨g, off, none⟩) l) (hne : g ≠ G) : Ints (w.setCell ⟨G, j, none⟩ u).drew (.some ⟨g, off, none⟩) l := fun i x hx =>
  ⟨g, off, rfl, (World.cell?_setCell_other w _ _ _ (by simp [hne])).trans (h.at hx)⟩
theorem be_zero (K j : Nat) : (be K 0).getD j 0 = 0 := by
  rw [List.getD_eq_getElem?_getD]
  rcases Nat.lt_or_ge j K with h | h
  · rw [be_get _ _ _ h]; simp
  · rw [List.getElem?_eq_none (by rw [be_length]; exact h)]; rfl

theorem bit_step {v k K : Nat} (hb : bitAt v k = 1) (hk : k < 8 * (K + 1)) : (be (K + 1) (v % 2 ^ k)).getD (K - k / 8) 0 + 2 ^ (k % 8) < 256 ∧
    ∀ j, j < K + 1 → upd (fun j => (be (K + 1) (v % 2 ^ k)).getD j 0) (K - k / 8) ((be (K + 1) (v % 2 ^ k)).getD (K - k / 8) 0 + 2 ^ (k % 8)) j = (be (K + 1) (v % 2 ^ (k + 1))).getD j 0 := by
  have hs := be_step (K := K + 1) (w := v % 2 ^ k) (i := k) (Nat.mod_lt _ (two_pos k)) hk
  have e : K + 1 - 1 - k / 8 = K - k / 8 := by omega
  rw [e] at hs
  have hg : (be (K + 1) (v % 2 ^ k)).getD (K - k / 8) 0 = v % 2 ^ k / 256 ^ (k / 8) % 256 := by
    rw [List.getD_eq_getElem?_getD, be_get _ _ _ (by omega), show K + 1 - 1 - (K - k / 8) = k / 8 from by omega]
    rfl
  rw [hg]
  refine ⟨hs.2, fun j hj => ?_⟩
  rw [mod_next, hb, Nat.one_mul, hs.1]
  unfold upd
  simp only [List.getD_eq_getElem?_getD]
  by_cases h : j = K - k / 8
  · subst h
    rw [if_pos rfl, List.getElem?_set_self (by rw [be_length]; omega)]
    rfl
  · rw [if_neg h, List.getElem?_set_ne (fun h' => h h'.symm)]

set_option maxHeartbeats 4000000 in
set_option maxRecDepth 10000 in
theorem dnum_good (n : Nat) (hn : n < 4611686018427387904) (w : World) : Calls Try.prog 55 #[.int .i64 (n : Int)] w (NumPost n w) := by
  obtain ⟨i0, hi, hz0, hz1, hz2⟩ := info_parts Try.infoInt
  have n0 : ¬ (n : Int) < 0 := by omega
  have n1 : ¬ (4611686018427387903 : Int) < (n : Int) := by omega
  have hK := kN_le n
  go_enter Try.func55, Try.ntmps55
  go_wp2_with fail
  clear n0 n1
  have HNN := Lib.hid hn
  go_loopw [4, 5] (fun i t wr => ∃ k : Nat, k ≤ kN n ∧ i = .int .i64 k ∧ t = .int .i64 (topN k : Int) ∧ wr = w) (fun i _ _ => 8 - (intOf i).toNat)
  case atStart => exact ⟨0, Nat.zero_le _, rfl, rfl, rfl⟩
  case round =>
    obtain ⟨k, hk, rfl, rfl, hwr⟩ := hrel
    obtain rfl := hwr.symm
    by_cases hlt : k < kN n
    · have k8 : (k : Int) < 8 := by omega
      have hge : ¬ n < topN k := fun h => by have := (topN_iff (n := n) (k := k) (by omega)).2 h; omega
      have hge' : (topN k : Int) ≤ (n : Int) := by omega
      by_cases h7 : k < 7
      · have h7' : (k : Int) + 1 < 8 := by omega
        have ht := topN_next h7
        obtain ⟨p, hp⟩ : ∃ p, topN k = p := ⟨_, rfl⟩
        rw [hp] at ht hge' hge ⊢
        clear hp
        go_wp2_with fail
        exact ⟨⟨k + 1, by omega, by go_num, by rw [ht], trivial⟩, by simp [intOf]; omega⟩
      · have h7' : ¬ (k : Int) + 1 < 8 := by omega
        have ht : topN (k + 1) = topN k := by unfold topN; congr 2; omega
        obtain ⟨p, hp⟩ : ∃ p, topN k = p := ⟨_, rfl⟩
        rw [hp] at ht hge' hge ⊢
        clear hp
        go_wp2_with fail
        exact ⟨⟨k + 1, by omega, by go_num, by rw [ht], trivial⟩, by simp [intOf]; omega⟩
    · obtain rfl : kN n = k := by omega
      have hge : kN n < 8 → ¬ (topN (kN n) : Int) ≤ (n : Int) := fun h8 => by have := (topN_iff h8).1 (Nat.le_refl (kN n)); omega
      obtain ⟨room, R8, R9⟩ : ∃ room : Nat, (kN n < 8 → room = 7 * (kN n + 1)) ∧ (kN n = 8 → room = 64) := by
        by_cases h : kN n = 8
        · exact ⟨64, fun h' => by omega, fun _ => rfl⟩
        · exact ⟨7 * (kN n + 1), fun _ => rfl, fun h' => absurd h' h⟩
      have r64 : room ≤ 64 := by omega
      have OWN := Lib.hid (show ∀ i, i < room → bitAt (whole n) i = bitAt n i from fun i h => by
        rcases Nat.lt_or_ge (kN n) 8 with h8 | h8
        · exact whole_bits_own h8 (by omega)
        · exact whole_bits_own8 (by omega) (by omega))
      have ZERO := Lib.hid (show kN n < 8 → bitAt (whole n) room = 0 from fun h8 => by rw [R8 h8]; exact whole_bits_zero h8)
      obtain ⟨B0, hB0, hB8, MARK0⟩ : ∃ B0 : Nat, (kN n < 8 → B0 = room + 1) ∧ (kN n = 8 → B0 = room) ∧ ∀ t, t < kN n → bitAt (whole n) (B0 + t) = 1 := by
        by_cases h : kN n = 8
        · exact ⟨room, fun h' => by omega, fun _ => rfl, fun t ht => by rw [R9 h]; exact whole_bits_mark8 hn h (by omega)⟩
        · exact ⟨room + 1, fun _ => rfl, fun h' => absurd h' h, fun t ht => by rw [R8 (by omega)]; exact whole_bits_mark (by omega) ht⟩
      have MARK := Lib.hid MARK0
      have HV := Lib.hid (whole_be hn)
      have VLT := Lib.hid (whole_lt hn)
      have HP := Lib.hid (show numS n = bytesN (enc n) ∧ numE n = 0 by unfold numS numE encS; rw [if_pos (by omega), if_pos (by omega), Int.toNat_natCast]; exact ⟨rfl, rfl⟩)
      have hB : B0 + kN n = 8 * (kN n + 1) := by
        rcases Nat.lt_or_ge (kN n) 8 with h8 | h8
        · have := R8 h8; have := hB0 h8; omega
        · have := R9 (by omega); have := hB8 (by omega); omega
      clear MARK0
      generalize whole n = v at *
      generalize topN (kN n) = tp at *
      generalize kN n = K at *
      rcases Nat.lt_or_ge K 8 with h8 | h8
      · have h8i : (K : Int) < 8 := by omega
        have hg := hge h8
        have CND := Lib.hid (fun (i : Nat) (h : i < room) => (show (i : Int) < 7 * ((K : Int) + 1) by have := R8 h8; omega))
        have CNN := Lib.hid (fun (i : Nat) (h : ¬ i < room) => (show ¬ (i : Int) < 7 * ((K : Int) + 1) by have := R8 h8; omega))
        have HB0 := hB0 h8
        clear hge R8 R9 hB0 hB8
        go_wp2_with fail
        go_loopw [0, 6, 8] (fun q b i wr => ∃ k qn : Nat, k ≤ room ∧ n / 2 ^ k = qn ∧ i = .int .i64 k ∧ q = .int .i64 (qn : Int) ∧ OI w (bitsL v k) b wr) (fun _ _ i _ => room - (intOf i).toNat)
        case atStart => exact ⟨0, n, Nat.zero_le _, by simp, rfl, rfl, OI.nil _⟩
        case round =>
          obtain ⟨k, q, hk, hq, rfl, rfl, hO⟩ := hrel
          have HO := Lib.hid hO
          clear hO
          have hown := HO.out.own
          have hsz := HO.out.bel.size
          have hlen := bitsL_length v k
          by_cases hlt : k < room
          · have hc := CND.out k hlt
            have hb := Lib.hid (show bitAt v k = q % 2 by rw [OWN.out k hlt, bitAt, hq])
            have hq2 : n / 2 ^ (k + 1) = q / 2 := by rw [Nat.pow_succ, ← Nat.div_div_eq_div_mul, hq]
            have HQ2 := Lib.hid hq2
            have q62 : q < 4611686018427387904 := by rw [← hq]; exact Nat.lt_of_le_of_lt (Nat.div_le_self _ _) HNN.out
            clear hq hq2
            go_wp2_with (at_builtin; refine wpList_append_own _ rfl (.tmp 41) (.tmp 44) 95 rfl w.heap.size 3 i0 (.int .i64 0) 1 8 Try.underlying95 hi hz0 hz1 hz2 rfl (by decide) _ _ _ rfl (World.ownsRow.alloc hown _) ⟨wr.heap.size, 0, none⟩ 1 1 [.int .i64 ((q : Int) % 2)] rfl rfl (news_one wr _ _) (by simp [Value.oneCell']) (by unfold maxLen; omega) (by omega) (by simp; omega) ?_; intro v' w2 hown2 hgrow2 _)
            have NX := HO.out.app rfl hgrow2 hown2
            rw [show (q : Int) % 2 = ((bitAt v k : Nat) : Int) by rw [hb.out]; omega, ← bitsL_succ] at NX
            exact ⟨⟨k + 1, q / 2, by omega, HQ2.out, by go_num, by go_num, NX⟩, by simp [intOf]; omega⟩
          · have hc := CNN.out k hlt
            obtain rfl : room = k := by omega
            clear hq
            go_wp2_with (at_builtin; refine wpList_append_own _ rfl (.tmp 50) (.tmp 51) 95 rfl w.heap.size 3 i0 (.int .i64 0) 1 8 Try.underlying95 hi hz0 hz1 hz2 rfl (by decide) _ _ _ rfl (World.ownsRow.alloc hown _) ⟨wr.heap.size, 0, none⟩ 1 1 [.int .i64 0] rfl rfl (news_one wr _ _) (by simp [Value.oneCell']) (by unfold maxLen; omega) (by omega) (by simp; omega) ?_; intro v' w2 hown2 hgrow2 _)
            have NX := HO.out.app rfl hgrow2 hown2
            rw [show (0 : Int) = ((bitAt v room : Nat) : Int) by rw [ZERO.out h8]; rfl, ← bitsL_succ, ← HB0] at NX
            clear hown hgrow2 hown2 hsz
            have NX := Lib.hid NX
            go_loopw [6, 9] (fun b i wr => ∃ t : Nat, t ≤ K ∧ i = .int .i64 t ∧ OI w (bitsL v (B0 + t)) b wr) (fun _ i _ => K - (intOf i).toNat)
            case atStart => exact ⟨0, Nat.zero_le _, rfl, NX.out⟩
            case round =>
              obtain ⟨t, ht, rfl, hO⟩ := hrel
              have HO := Lib.hid hO
              clear hO NX
              by_cases hlt : t < K
              · have hlt' : (t : Int) < (K : Int) := by omega
                have hown := HO.out.own
                have hsz := HO.out.bel.size
                have hlen := bitsL_length v (B0 + t)
                go_wp2_with (at_builtin; refine wpList_append_own _ rfl (.tmp 58) (.tmp 59) 95 rfl w.heap.size 3 i0 (.int .i64 0) 1 8 Try.underlying95 hi hz0 hz1 hz2 rfl (by decide) _ _ _ rfl (World.ownsRow.alloc hown _) ⟨wr.heap.size, 0, none⟩ 1 1 [.int .i64 1] rfl rfl (news_one wr _ _) (by simp [Value.oneCell']) (by unfold maxLen; omega) (by omega) (by simp; omega) ?_; intro v' w2 hown2 hgrow2 _)
                have NX := HO.out.app rfl hgrow2 hown2
                rw [show (1 : Int) = ((bitAt v (B0 + t) : Nat) : Int) by rw [MARK.out t hlt]; rfl, ← bitsL_succ] at NX
                first
                  | exact ⟨⟨t + 1, by omega, by go_num, NX⟩, by simp [intOf]; omega⟩
                  | (go_roundw
                     case rel => exact ⟨t + 1, by omega, by go_num, NX⟩
                     case measure => simp [intOf]; omega)
              · have hlt' : ¬ (t : Int) < (K : Int) := by omega
                obtain rfl : K = t := by omega
                obtain ⟨N, hN⟩ : ∃ N, N = 8 * (K + 1) := ⟨_, rfl⟩
                obtain ⟨A, c, rfl, hI, _⟩ := own_intsN HO.out.own (N := N) (by rw [bitsL_length, hN, ← hB])
                obtain ⟨g, off, rfl, gG⟩ := hI.some (by rw [bitsL_length]; omega)
                obtain ⟨w2, hmk0, hA, hB2⟩ := make_bytes wr (K + 1) (by omega)
                have hmk : (Instr.makeSlice 58 (.int .i64 ((K : Int) + 1)) (.int .i64 ((K : Int) + 1))).run Try.prog wr = .ok (.slice (some ⟨wr.heap.size, 0, none⟩) (K + 1) (K + 1)) w2 := hmk0
                have HI := Lib.hid (show Ints w2 (some ⟨g, off, none⟩) (bitsL v N) by rw [hN, ← hB]; exact hI.below hB2)
                have HA := Lib.hid hA
                have HB2 := Lib.hid (show Below w.heap.size w w2 from chain HO.out.bel hB2)
                have hG := HO.out.bel.size
                have hG2 : wr.heap.size < w2.heap.size := HA.out.1
                clear hI hA hB2 hmk0
                go_wp2_with fail
                clear hmk
                generalize wr.heap.size = G at *
                go_loopw [11] (fun i wr => ∃ k : Nat, k ≤ N ∧ i = .int .i64 k ∧ Arr wr G (fun j => (be (K + 1) (v % 2 ^ k)).getD j 0) (K + 1) ∧ Below w.heap.size w wr ∧ Ints wr (some ⟨g, off, none⟩) (bitsL v N)) (fun i _ => N - (intOf i).toNat)
                case atStart => exact ⟨0, Nat.zero_le _, rfl, HA.out.congr fun j _ => (by rw [Nat.pow_zero, Nat.mod_one, be_zero]), HB2.out, HI.out⟩
                case round =>
                  obtain ⟨k, hk, rfl, hA, hB3, hI⟩ := hrel
                  have HA := Lib.hid hA
                  have HB3 := Lib.hid hB3
                  have HI := Lib.hid hI
                  clear hA hB3 hI
                  by_cases hlt : k < N
                  · have hlt' : (k : Int) < (N : Int) := by omega
                    have c0 := HI.out.at (bitsL_get hlt)
                    rcases bit_or v k with hbit | hbit
                    · rw [hbit] at c0
                      go_wp2_with fail
                      exact ⟨⟨k + 1, by omega, by go_num, HA.out.congr fun j _ => (by rw [mod_next, hbit]; simp), HB3.out, HI.out⟩, by simp [intOf]; omega⟩
                    · rw [hbit] at c0
                      obtain ⟨ho, hup⟩ := bit_step hbit (K := K) (by omega)
                      have UP := Lib.hid hup
                      obtain ⟨r, hr⟩ : ∃ r, k % 8 = r := ⟨_, rfl⟩
                      obtain ⟨p, hp⟩ : ∃ p, k / 8 = p := ⟨_, rfl⟩
                      obtain ⟨j, hj⟩ : ∃ j, K - p = j := ⟨_, rfl⟩
                      have e1 : (k : Int) / 8 = (p : Int) := by omega
                      have e2 : (k : Int) % 8 = (r : Int) := by omega
                      have hjK : j < K + 1 := by omega
                      have hjI : (j : Int) < (K : Int) + 1 := by omega
                      have e3 : wrap64 ((K : Int) - (p : Int)) = (j : Int) := by rw [IntWalk.wrap64_in _ (by omega)]; omega
                      have e4 : Int.tmod (k : Int) 8 = (r : Int) := by rw [Int.tmod_eq_emod_of_nonneg (by omega)]; omega
                      have e5 : IntKind.i64.wrap (p : Int) = (p : Int) := IntWalk.i64_in _ (by omega)
                      have e6 : IntKind.i64.wrap ((K : Int) - (p : Int)) = (j : Int) := by rw [IntWalk.i64_in _ (by omega)]; omega
                      have PW := Lib.hid (fun w => power_any r (by omega) w)
                      rw [hr, hp, hj] at ho UP
                      obtain ⟨c1, f1⟩ := HA.out.2 j hjK
                      have NX := Lib.hid ((HA.out.put (v := (be (K + 1) (v % 2 ^ k)).getD j 0 + 2 ^ r) hjK).congr UP.out)
                      obtain ⟨x, hx⟩ : ∃ x, (be (K + 1) (v % 2 ^ k)).getD j 0 = x := ⟨_, rfl⟩
                      obtain ⟨y, hy⟩ : ∃ y, 2 ^ r = y := ⟨_, rfl⟩
                      rw [hy] at PW
                      simp only [hx, hy] at c1 NX ho
                      clear hx hy hr hp hj UP
                      go_wp2_with fail
                      go_still_tail 17, (by kernel_rfl)
                      still_call (PW.out _)
                      repeat still_step
                      refine wpStill_nil ?_
                      change wpList _ _ _ _ _ wr.drew
                      go_wp2_with fail
                      have hx : (x : Int) + (y : Int) = ((x + y : Nat) : Int) := by omega
                      rw [hx]
                      exact ⟨⟨k + 1, by omega, by go_num, NX.out, (HB3.out.setCell (p := ⟨G, j, none⟩) hG _).drew, HI.out.put (Nat.ne_of_lt gG)⟩, by simp [intOf]; omega⟩
                  · have hlt' : ¬ (k : Int) < (N : Int) := by omega
                    obtain rfl : k = N := by omega
                    have cv := conv_arr (c := K + 1) (w := wr) (l := enc n) HA.out (by rw [← HV.out, be_length]) (fun j hj => by
                      rw [← HV.out, Nat.mod_eq_of_lt (by rw [hN]; exact VLT.out), List.getD_eq_getElem?_getD, be_get _ _ _ hj]; rfl)
                    go_wp2_with fail
                    go_ret2
                    exact ⟨ret_se HP.out.1.symm HP.out.2.symm, HB3.out⟩
      · obtain rfl : K = 8 := by omega
        have CND := Lib.hid (fun (i : Nat) (h : i < room) => (show (i : Int) < 64 by have := R9 rfl; omega))
        have CNN := Lib.hid (fun (i : Nat) (h : ¬ i < room) => (show ¬ (i : Int) < 64 by have := R9 rfl; omega))
        have HB0 := hB8 rfl
        clear hge R8 R9 hB0 hB8
        go_wp2_with fail
        go_loopw [0, 6, 8] (fun q b i wr => ∃ k qn : Nat, k ≤ room ∧ n / 2 ^ k = qn ∧ i = .int .i64 k ∧ q = .int .i64 (qn : Int) ∧ OI w (bitsL v k) b wr) (fun _ _ i _ => room - (intOf i).toNat)
        case atStart => exact ⟨0, n, Nat.zero_le _, by simp, rfl, rfl, OI.nil _⟩
        case round =>
          obtain ⟨k, q, hk, hq, rfl, rfl, hO⟩ := hrel
          have HO := Lib.hid hO
          clear hO
          have hown := HO.out.own
          have hsz := HO.out.bel.size
          have hlen := bitsL_length v k
          by_cases hlt : k < room
          · have hc := CND.out k hlt
            have hb := Lib.hid (show bitAt v k = q % 2 by rw [OWN.out k hlt, bitAt, hq])
            have hq2 : n / 2 ^ (k + 1) = q / 2 := by rw [Nat.pow_succ, ← Nat.div_div_eq_div_mul, hq]
            have HQ2 := Lib.hid hq2
            have q62 : q < 4611686018427387904 := by rw [← hq]; exact Nat.lt_of_le_of_lt (Nat.div_le_self _ _) HNN.out
            clear hq hq2
            go_wp2_with (at_builtin; refine wpList_append_own _ rfl (.tmp 41) (.tmp 44) 95 rfl w.heap.size 3 i0 (.int .i64 0) 1 8 Try.underlying95 hi hz0 hz1 hz2 rfl (by decide) _ _ _ rfl (World.ownsRow.alloc hown _) ⟨wr.heap.size, 0, none⟩ 1 1 [.int .i64 ((q : Int) % 2)] rfl rfl (news_one wr _ _) (by simp [Value.oneCell']) (by unfold maxLen; omega) (by omega) (by simp; omega) ?_; intro v' w2 hown2 hgrow2 _)
            have NX := HO.out.app rfl hgrow2 hown2
            rw [show (q : Int) % 2 = ((bitAt v k : Nat) : Int) by rw [hb.out]; omega, ← bitsL_succ] at NX
            exact ⟨⟨k + 1, q / 2, by omega, HQ2.out, by go_num, by go_num, NX⟩, by simp [intOf]; omega⟩
          · have hc := CNN.out k hlt
            obtain rfl : room = k := by omega
            clear hq
            go_wp2_with fail
            obtain ⟨w2, hw2⟩ : ∃ w2, wr = w2 := ⟨_, rfl⟩
            rw [← HB0] at HO
            have NX := Lib.hid (show OI w (bitsL v B0) _ w2 from hw2 ▸ HO.out)
            subst hw2
            clear hown hsz
            go_loopw [6, 9] (fun b i wr => ∃ t : Nat, t ≤ 8 ∧ i = .int .i64 t ∧ OI w (bitsL v (B0 + t)) b wr) (fun _ i _ => 8 - (intOf i).toNat)
            case atStart => exact ⟨0, Nat.zero_le _, rfl, NX.out⟩
            case round =>
              obtain ⟨t, ht, rfl, hO⟩ := hrel
              have HO := Lib.hid hO
              clear hO NX
              by_cases hlt : t < 8
              · have hlt' : (t : Int) < (8 : Int) := by omega
                have hown := HO.out.own
                have hsz := HO.out.bel.size
                have hlen := bitsL_length v (B0 + t)
                go_wp2_with (at_builtin; refine wpList_append_own _ rfl (.tmp 58) (.tmp 59) 95 rfl w.heap.size 3 i0 (.int .i64 0) 1 8 Try.underlying95 hi hz0 hz1 hz2 rfl (by decide) _ _ _ rfl (World.ownsRow.alloc hown _) ⟨wr.heap.size, 0, none⟩ 1 1 [.int .i64 1] rfl rfl (news_one wr _ _) (by simp [Value.oneCell']) (by unfold maxLen; omega) (by omega) (by simp; omega) ?_; intro v' w2 hown2 hgrow2 _)
                have NX := HO.out.app rfl hgrow2 hown2
                rw [show (1 : Int) = ((bitAt v (B0 + t) : Nat) : Int) by rw [MARK.out t hlt]; rfl, ← bitsL_succ] at NX
                first
                  | exact ⟨⟨t + 1, by omega, by go_num, NX⟩, by simp [intOf]; omega⟩
                  | (go_roundw
                     case rel => exact ⟨t + 1, by omega, by go_num, NX⟩
                     case measure => simp [intOf]; omega)
              · have hlt' : ¬ (t : Int) < (8 : Int) := by omega
                obtain rfl : 8 = t := by omega
                obtain ⟨N, hN⟩ : ∃ N, N = 8 * (8 + 1) := ⟨_, rfl⟩
                obtain ⟨A, c, rfl, hI, _⟩ := own_intsN HO.out.own (N := N) (by rw [bitsL_length, hN, ← hB])
                obtain ⟨g, off, rfl, gG⟩ := hI.some (by rw [bitsL_length]; omega)
                obtain ⟨w2, hmk0, hA, hB2⟩ := make_bytes wr (8 + 1) (by omega)
                have hmk : (Instr.makeSlice 58 (.int .i64 9) (.int .i64 9)).run Try.prog wr = .ok (.slice (some ⟨wr.heap.size, 0, none⟩) (8 + 1) (8 + 1)) w2 := hmk0
                have HI := Lib.hid (show Ints w2 (some ⟨g, off, none⟩) (bitsL v N) by rw [hN, ← hB]; exact hI.below hB2)
                have HA := Lib.hid hA
                have HB2 := Lib.hid (show Below w.heap.size w w2 from chain HO.out.bel hB2)
                have hG := HO.out.bel.size
                have hG2 : wr.heap.size < w2.heap.size := HA.out.1
                clear hI hA hB2 hmk0
                go_wp2_with fail
                clear hmk
                generalize wr.heap.size = G at *
                go_loopw [11] (fun i wr => ∃ k : Nat, k ≤ N ∧ i = .int .i64 k ∧ Arr wr G (fun j => (be (8 + 1) (v % 2 ^ k)).getD j 0) (8 + 1) ∧ Below w.heap.size w wr ∧ Ints wr (some ⟨g, off, none⟩) (bitsL v N)) (fun i _ => N - (intOf i).toNat)
                case atStart => exact ⟨0, Nat.zero_le _, rfl, HA.out.congr fun j _ => (by rw [Nat.pow_zero, Nat.mod_one, be_zero]), HB2.out, HI.out⟩
                case round =>
                  obtain ⟨k, hk, rfl, hA, hB3, hI⟩ := hrel
                  have HA := Lib.hid hA
                  have HB3 := Lib.hid hB3
                  have HI := Lib.hid hI
                  clear hA hB3 hI
                  by_cases hlt : k < N
                  · have hlt' : (k : Int) < (N : Int) := by omega
                    have c0 := HI.out.at (bitsL_get hlt)
                    rcases bit_or v k with hbit | hbit
                    · rw [hbit] at c0
                      go_wp2_with fail
                      exact ⟨⟨k + 1, by omega, by go_num, HA.out.congr fun j _ => (by rw [mod_next, hbit]; simp), HB3.out, HI.out⟩, by simp [intOf]; omega⟩
                    · rw [hbit] at c0
                      obtain ⟨ho, hup⟩ := bit_step hbit (K := 8) (by omega)
                      have UP := Lib.hid hup
                      obtain ⟨r, hr⟩ : ∃ r, k % 8 = r := ⟨_, rfl⟩
                      obtain ⟨p, hp⟩ : ∃ p, k / 8 = p := ⟨_, rfl⟩
                      obtain ⟨j, hj⟩ : ∃ j, 8 - p = j := ⟨_, rfl⟩
                      have e1 : (k : Int) / 8 = (p : Int) := by omega
                      have e2 : (k : Int) % 8 = (r : Int) := by omega
                      have hjK : j < 8 + 1 := by omega
                      have hjI : (j : Int) < 9 := by omega
                      have e3 : wrap64 (8 - (p : Int)) = (j : Int) := by rw [IntWalk.wrap64_in _ (by omega)]; omega
                      have e4 : Int.tmod (k : Int) 8 = (r : Int) := by rw [Int.tmod_eq_emod_of_nonneg (by omega)]; omega
                      have e5 : IntKind.i64.wrap (p : Int) = (p : Int) := IntWalk.i64_in _ (by omega)
                      have e6 : IntKind.i64.wrap (8 - (p : Int)) = (j : Int) := by rw [IntWalk.i64_in _ (by omega)]; omega
                      have PW := Lib.hid (fun w => power_any r (by omega) w)
                      rw [hr, hp, hj] at ho UP
                      obtain ⟨c1, f1⟩ := HA.out.2 j hjK
                      have NX := Lib.hid ((HA.out.put (v := (be (8 + 1) (v % 2 ^ k)).getD j 0 + 2 ^ r) hjK).congr UP.out)
                      obtain ⟨x, hx⟩ : ∃ x, (be (8 + 1) (v % 2 ^ k)).getD j 0 = x := ⟨_, rfl⟩
                      obtain ⟨y, hy⟩ : ∃ y, 2 ^ r = y := ⟨_, rfl⟩
                      rw [hy] at PW
                      simp only [hx, hy] at c1 NX ho
                      clear hx hy hr hp hj UP
                      go_wp2_with fail
                      go_still_tail 17, (by kernel_rfl)
                      still_call (PW.out _)
                      repeat still_step
                      refine wpStill_nil ?_
                      change wpList _ _ _ _ _ wr.drew
                      go_wp2_with fail
                      have hx : (x : Int) + (y : Int) = ((x + y : Nat) : Int) := by omega
                      rw [hx]
                      exact ⟨⟨k + 1, by omega, by go_num, NX.out, (HB3.out.setCell (p := ⟨G, j, none⟩) hG _).drew, HI.out.put (Nat.ne_of_lt gG)⟩, by simp [intOf]; omega⟩
                  · have hlt' : ¬ (k : Int) < (N : Int) := by omega
                    obtain rfl : k = N := by omega
                    have cv := conv_arr (c := 8 + 1) (w := wr) (l := enc n) HA.out (by rw [← HV.out, be_length]) (fun j hj => by
                      rw [← HV.out, Nat.mod_eq_of_lt (by rw [hN]; exact VLT.out), List.getD_eq_getElem?_getD, be_get _ _ _ hj]; rfl)
                    go_wp2_with fail
                    go_ret2
                    exact ⟨ret_se HP.out.1.symm HP.out.2.symm, HB3.out⟩

end Go.Proofs.Ytnmnbnlokmmcmaa
