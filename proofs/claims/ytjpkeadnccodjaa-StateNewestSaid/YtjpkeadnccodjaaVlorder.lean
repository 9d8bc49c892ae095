/-
  StateOrder gives back true for any versions and any number.
-/
import Derived.Test.YtjpkeadnccodjaaVlof
namespace Go.Proofs.Ytjpkeadnccodjaa
open Go.RowKit

/-- The first so many stamps are apart. -/
def ApartV (l : List Vr) (t : Nat) : Prop := ∀ i j x y, i < t → j < i → l[i]? = some x → l[j]? = some y → x.st ≠ y.st
theorem apart_dist {l : List Vr} (h : ApartV l l.length) : DistV l := by
  refine List.pairwise_iff_getElem.2 fun i j hi hj hij e => ?_
  exact h j i _ _ hj hij (List.getElem?_eq_getElem hj) (List.getElem?_eq_getElem hi) e.symm
/-- The place from which a list is turned. -/
def rotK (n : Int) (N : Nat) : Nat := (Int.tmod (Int.tmod n N + N) N).toNat
theorem rot_facts {n : Int} {N : Nat} (hN : 0 < N) (hm : N ≤ 1000) : Int.tmod (Int.tmod n N + N) N = (rotK n N : Int) ∧ rotK n N < N ∧ IntKind.i64.wrap (Int.tmod n N + N) = Int.tmod n N + N ∧ -(N : Int) < Int.tmod n N ∧ Int.tmod n N < N := by
  have h1 : Int.tmod n N < N := Int.tmod_lt_of_pos n (by omega)
  have h2 : -(N : Int) < Int.tmod n N := by
    have := Int.tmod_lt_of_pos (-n) (b := (N : Int)) (by omega)
    rw [Int.neg_tmod] at this
    omega
  have h3 : 0 ≤ Int.tmod n N + N := by omega
  have h4 : 0 ≤ Int.tmod (Int.tmod n N + N) N := Int.tmod_nonneg _ h3
  have h5 : Int.tmod (Int.tmod n N + N) N < N := Int.tmod_lt_of_pos _ (by omega)
  refine ⟨by unfold rotK; omega, by unfold rotK; omega, by rw [IntKind.wrap_i64]; omega, h2, h1⟩

set_option maxHeartbeats 4000000 in
set_option maxRecDepth 10000 in
theorem order_walk (u : Value) (l : List Vr) (x : Int) (w : World) (hl : VersL w u l) (hok : ∀ v ∈ l, okF v.fs) (hn : l.length ≤ 9223372036854775807) (hx : -9223372036854775808 ≤ x ∧ x ≤ 9223372036854775807) : Ret 6 #[u, .int .i64 x] w (.bool true) := by
  have CAL := Lib.hid alive_any
  have CF := Lib.hid (dfew_any w u l 100 hl.1 hn)
  have HV := Lib.hid hl
  obtain ⟨⟨A, c, rfl, hA, hc, hnc⟩, hVF⟩ := hl
  have HA := Lib.hid hA
  have HVF := Lib.hid hVF
  have HOK := Lib.hid hok
  have HNC := Lib.hid hnc
  have HC := Lib.hid hc
  clear hVF hok hA hnc hc
  cases hf : fewB l 100 with
  | false =>
    rw [hf] at CF
    clear hf
    generalize l.length = N at *
    go_enter Try.func6, Try.ntmps6
    go_wp2_with (first
      | (go_at_call 8; (with_reducible refine CF.out.mono ?_); rintro e w1 ⟨rfl, rfl⟩)
      | (go_at_call 9; (with_reducible refine (CAL.out _).mono ?_); rintro e w2 ⟨rfl, hb⟩))
    go_ret
    exact ⟨rfl, hb⟩
  | true =>
    have hfew := few_of hf (by decide)
    rw [hf] at CF
    have HFEW := Lib.hid hfew
    have HFB := Lib.hid hf
    clear hf
    by_cases h0 : l.length = 0
    · clear HV
      rw [h0] at CF ⊢
      go_enter Try.func6, Try.ntmps6
      go_wp2_with (first
        | (go_at_call 8; (with_reducible refine CF.out.mono ?_); rintro e w1 ⟨rfl, rfl⟩)
        | (go_at_call 9; (with_reducible refine (CAL.out _).mono ?_); rintro e w2 ⟨rfl, hb⟩))
      go_ret
      exact ⟨rfl, hb⟩
    · obtain ⟨N, hN⟩ : ∃ N, l.length = N := ⟨_, rfl⟩
      have hN2 : N ≤ 200 := by rw [← hN]; exact hfew.1
      have hN0 : 0 < N := by omega
      have h0b : ((N : Int) == 0) = false := by rw [beq_eq_false_iff_ne]; omega
      have h0c : ¬ (N : Int) = 0 := by omega
      rw [hN] at CF HV HC ⊢
      have HN := Lib.hid hN
      clear hfew h0 hN hn
      go_enter Try.func6, Try.ntmps6
      go_wp2_with (first
        | (go_at_call 8; (with_reducible refine CF.out.mono ?_); rintro e w1 ⟨rfl, rfl⟩))
      go_loopw [20] (fun i wr => ∃ t q, t ≤ N ∧ i = .int .i64 (t : Nat) ∧ ApartV l t ∧ wr = w1.drewN q) (fun i _ => N - (intOf i).toNat)
      case atStart => exact ⟨0, 0, Nat.zero_le _, rfl, fun i j x y hi => absurd hi (by omega), rfl⟩
      case round =>
        obtain ⟨t, q, ht, rfl, hap, rfl⟩ := hrel
        have HAP := Lib.hid hap
        clear hap
        by_cases hlt : t < N
        · have hlt' : (t : Int) < (N : Int) := by omega
          obtain ⟨v, hv⟩ : ∃ v, l[t]? = some v := ⟨_, List.getElem?_eq_getElem (by have := HN.out; omega)⟩
          obtain ⟨g, off, rfl, hX⟩ := HA.out.cells7 hv
          have HVt := Lib.hid hv
          have HX1 := Lib.hid hX.2.1
          clear hv hX
          go_wp2_with fail
          go_loopw [24] (fun i wr => ∃ k p, k ≤ t ∧ i = .int .i64 (k : Nat) ∧ (∀ j y, j < k → l[j]? = some y → v.st ≠ y.st) ∧ wr = w1.drewN p) (fun i _ => t - (intOf i).toNat)
          case atStart => exact ⟨0, q, Nat.zero_le _, rfl, fun j y hj => absurd hj (by omega), rfl⟩
          case round =>
            obtain ⟨k, p, hk, rfl, hne, rfl⟩ := hrel
            have HNE := Lib.hid hne
            clear hne
            by_cases hkt : k < t
            · have hkt' : (k : Int) < (t : Int) := by omega
              have hkN : (k : Int) < (N : Int) := by omega
              obtain ⟨y, hy⟩ : ∃ y, l[k]? = some y := ⟨_, List.getElem?_eq_getElem (by have := HN.out; omega)⟩
              have hY := HA.out.at hy (j := 1) rfl
              have y1 : w1.cell? ⟨g, off + k * 7 + 1, none⟩ = some (.int .i64 y.st) := hY
              have x1 := HX1.out
              clear hY
              by_cases hst : v.st = y.st
              · have hsb : (v.st == y.st) = true := by rw [beq_iff_eq]; exact hst
                rw [← hst] at y1
                clear hst hsb hy
                go_wp2_with fail
                go_quiet (fail)
                go_wp2_with (go_at_call 9; (with_reducible refine (CAL.out _).mono ?_); rintro e w2 ⟨rfl, hb⟩)
                go_ret
                exact ⟨rfl, (belowN (bl w1) _).trans (hb.mono (by simp))⟩
              · have hsb : (v.st == y.st) = false := by rw [beq_eq_false_iff_ne]; exact hst
                have hsd : ¬ v.st = y.st := hst
                have NX := Lib.hid (show ∀ j z, j < k + 1 → l[j]? = some z → v.st ≠ z.st from fun j z hj hz => by
                  rcases Nat.lt_or_ge j k with h1 | h1
                  · exact HNE.out j z h1 hz
                  · obtain rfl : j = k := by omega
                    rw [hy] at hz
                    rw [← Option.some.inj hz]; exact hst)
                clear hy hst
                go_wp2_with fail
                go_quiet (fail)
                go_wp2_with fail
                exact ⟨⟨k + 1, _, by omega, by go_num, NX.out, rfl⟩, by simp [intOf] <;> omega⟩
            · obtain rfl : k = t := by omega
              have hkt' : ¬ (k : Int) < (k : Int) := by omega
              have NX := Lib.hid (show ApartV l (k + 1) from fun i j x y hi hj hx hy => by
                rcases Nat.lt_or_ge i k with h1 | h1
                · exact HAP.out i j x y h1 hj hx hy
                · obtain rfl : i = k := by omega
                  rw [HVt.out] at hx
                  rw [← Option.some.inj hx]
                  exact HNE.out j y hj hy)
              go_wp2_with fail
              exact ⟨⟨k + 1, p, by omega, by go_num, NX.out, rfl⟩, by simp [intOf] <;> omega⟩
        · obtain rfl : t = N := by omega
          have hlt' : ¬ (t : Int) < (t : Int) := by omega
          have hd : DistV l := apart_dist (by rw [HN.out]; exact HAP.out)
          have HD := Lib.hid hd
          obtain ⟨r1, hK, r2, r3, r4⟩ := rot_facts (n := x) hN0 (by omega)
          obtain ⟨K, hKe⟩ : ∃ K, rotK x t = K := ⟨_, rfl⟩
          rw [hKe] at r1 hK
          have HK := Lib.hid hK
          clear hd hK hKe
          go_upto_region 14 with fail
          refine abstract_worldV (fun W => Below w1.heap.size w1 W) (belowN (bl w1) _) ?_
          intro W hW
          have HW := Lib.hid hW
          clear hW
          obtain ⟨B2, hs20, hfr, hnb2⟩ := slice_from (E := EV) (A := A) (n := t) (c := c) (k := K) (by have := HK.out; omega) HC.out HNC.out
          have hs2 : ∀ w, (Instr.slice 22 (.slice A t c) (some (.int .i64 (K : Int))) none none).run Try.prog w = .ok (.slice B2 (t - K) (c - K)) w := hs20
          have hs1 : ∀ w, (Instr.slice 22 (.slice A t c) none (some (.int .i64 (K : Int))) none).run Try.prog w = .ok (.slice A K c) w := slice_ahead (E := EV) (A := A) (n := t) (c := c) (k := K) (by have := HK.out; omega) HC.out
          have HFR := Lib.hid (hfr W l (HA.out.below HW.out) HN.out)
          have HTK := Lib.hid ((HA.out.below HW.out).take K)
          have HNB2 := Lib.hid hnb2
          have HL1 := Lib.hid (show t - K = (l.drop K).length by rw [List.length_drop, HN.out])
          have HL2 := Lib.hid (show K = (l.take K).length by rw [List.length_take, HN.out]; have := HK.out; omega)
          have HS1 := Lib.hid (show (l.drop K).length ≤ 200 by rw [List.length_drop, HN.out]; omega)
          have HS2 := Lib.hid (show (l.take K).length ≤ 200 by rw [List.length_take, HN.out]; omega)
          clear hs20 hfr hnb2 r1 r2 r3 r4
          go_region_held3 (fun w' => Below W.heap.size W w')
            (first | exact (Below.refl _ _).drew | exact hb2 | exact hb1 | go_grown | fail)
            (first
              | (refine step_appE (E := EV) rfl (.tmp 51) (.tmp 54) rfl rfl (base := W.heap.size) rfl (ownE_f1 W) rfl HL1.out (HFR.out.below (by first | assumption | (go_split_ands; assumption))) HNB2.out (by have := HS1.out; simp only [List.length_nil]; omega) (by simp) ?_; intro v1 w3 hown1 hg1 hat1; have hb1 : Below W.heap.size W w3 := below_grownE (by first | assumption | (go_split_ands; assumption)) hg1 (fun r hr => ((ownE_f1 (E := EV) W).lt r hr).1))
              | (refine step_appE (E := EV) rfl (.tmp 55) (.tmp 58) rfl rfl (base := W.heap.size) rfl hown1 rfl HL2.out (HTK.out.below hb1) HNC.out (by have := HS1.out; have := HS2.out; simp only [List.length_append, List.length_nil]; omega) hb1.size ?_; intro v2 w4 hown2 hg2 hat2; have hb2 : Below W.heap.size W w4 := below_grownE hb1 hg2 (fun r hr => (hown1.lt r hr).1))
              | fail)
          have hperm : l.Perm ([] ++ l.drop K ++ l.take K) := by rw [List.nil_append]; exact rot_perm l K
          have hM : VersL w4 v2 ([] ++ l.drop K ++ l.take K) := ⟨ownE_list hown2, fun v hv => (HVF.out v (hperm.mem_iff.2 hv)).below (chain HW.out hb2)⟩
          have HB4 := Lib.hid (chain HW.out hb2)
          have hfm : fewV ([] ++ l.drop K ++ l.take K) := ⟨by rw [← hperm.length_eq, HN.out]; exact hN2, fun v hv => HFEW.out.2 v (hperm.mem_iff.2 hv)⟩
          have hokm : ∀ v ∈ [] ++ l.drop K ++ l.take K, okF v.fs := fun v hv => HOK.out v (hperm.mem_iff.2 hv)
          have e1 := of_unique hperm HD.out
          have e2 := at_unique x hperm HD.out
          have len1 := of_length HFEW.out
          have len2 : (atL x l).length ≤ 20000 := of_length (few_filter _ HFEW.out)
          have CO1 := Lib.hid (fun w' (h : Below w1.heap.size w1 w') => pof_any w' _ l (HV.out.below h) HFEW.out HOK.out)
          have CO2 := Lib.hid (fun w' (h : Below w4.heap.size w4 w') => pof_any w' v2 _ (hM.below h) hfm hokm)
          have CA1 := Lib.hid (fun w' (h : Below w1.heap.size w1 w') => pat_any w' x _ l (HV.out.below h) HFEW.out HOK.out)
          have CA2 := Lib.hid (fun w' (h : Below w4.heap.size w4 w') => pat_any w' x v2 _ (hM.below h) hfm hokm)
          rw [← e1] at CO2
          rw [← e2] at CA2
          generalize ofL l = R at *
          generalize atL x l = T at *
          have CSR := Lib.hid (fun w' u v (h : ListF w' u R) (k : ListF w' v R) => dsamef_any w' u v R R h k (by omega) (by omega))
          have CST := Lib.hid (fun w' u v (h : ListF w' u T) (k : ListF w' v T) => dsamef_any w' u v T T h k (by omega) (by omega))
          rw [sameF_self] at CSR CST
          clear hperm hM hfm hokm e1 e2 len1 len2 hown1 hown2 hg1 hg2 hat1 hat2 hb1 hb2 HV
          go_wp2_with (first
            | (go_at_call 14; (with_reducible refine (CO1.out _ HB4.out).mono ?_); rintro e w5 ⟨u5, rfl, hl5, hb5⟩; have hc5 := chain HB4.out hb5)
            | (go_at_call 14; (with_reducible refine (CO2.out _ hb5).mono ?_); rintro e w6 ⟨u6, rfl, hl6, hb6⟩; have hc6 := chain hc5 hb6; have hd6 := chain hb5 hb6)
            | (go_at_call 13; (with_reducible refine (CSR.out _ _ _ (hl5.below hb6) hl6).mono ?_); rintro e w7 ⟨rfl, hb7⟩; have hc7 := chain hc6 hb7; have hd7 := chain hd6 hb7)
            | (go_at_call 18; (with_reducible refine (CA1.out _ hc7).mono ?_); rintro e w8 ⟨u8, rfl, hl8, hb8⟩; have hc8 := chain hc7 hb8; have hd8 := chain hd7 hb8)
            | (go_at_call 18; (with_reducible refine (CA2.out _ hd8).mono ?_); rintro e w9 ⟨u9, rfl, hl9, hb9⟩; have hc9 := chain hc8 hb9)
            | (go_at_call 13; (with_reducible refine (CST.out _ _ _ (hl8.below hb9) hl9).mono ?_); rintro e wa ⟨rfl, hba⟩; have hca := chain hc9 hba)
            | (go_at_call 9; (with_reducible refine (CAL.out _).mono ?_); rintro e wb ⟨rfl, hbb⟩; have hcb := chain hca hbb))
          go_ret
          exact ⟨rfl, hcb⟩

end Go.Proofs.Ytjpkeadnccodjaa
