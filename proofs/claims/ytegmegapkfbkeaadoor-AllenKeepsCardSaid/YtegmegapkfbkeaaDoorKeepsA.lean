/-
  The law AllenKeeps, walked: for any spans and any numbers it gives back true.
-/
import Derived.Test.YtegmegapkfbkeaaDoorKeepP
import Derived.StillTailTactics
namespace Go.Proofs.YtegmegapkfbkeaaDoor
open Go.RowKit

abbrev SpC (w : World) (g off i : Nat) (a b : Int) : Prop := w.cell? ⟨g, off + i * 2, none⟩ = some (.int .i64 a) ∧ w.cell? ⟨g, off + i * 2 + 1, none⟩ = some (.int .i64 b)
theorem Spans.at {w : World} {g off i : Nat} {l : List (Int × Int)} (h : Spans w (some ⟨g, off, none⟩) l) (hi : i < l.length) : SpC w g off i (lF l i) (lT l i) := by
  obtain ⟨g', off', e, c0, c1⟩ := h i _ (l_get l hi)
  simp only [Option.some.injEq, Addr.mk.injEq, and_true] at e
  obtain ⟨rfl, rfl⟩ := e
  exact ⟨c0, c1⟩
theorem Spans.some {w : World} {A : Option Addr} {i : Nat} {l : List (Int × Int)} (h : Spans w A l) (hi : i < l.length) : ∃ g off, A = some ⟨g, off, none⟩ := by
  obtain ⟨g', off', e, _⟩ := h i _ (l_get l hi)
  exact ⟨g', off', e⟩
theorem Ints.some {w : World} {A : Option Addr} {i N : Nat} {zs : Nat → Int} (h : Ints w A zs N) (hi : i < N) : ∃ g off, A = some ⟨g, off, none⟩ := by
  obtain ⟨g', off', e, _⟩ := h i hi
  exact ⟨g', off', e⟩

set_option maxRecDepth 100000 in
set_option maxHeartbeats 16000000 in
theorem keeps_walk (l : List (Int × Int)) (A : Option Addr) (c : Nat) (ys : Nat → Int) (M d : Nat) (B : Option Addr) (w : World) (hT : Tab w) (hA : Spans w A l) (hB : Ints w B ys M) :
    Ret 8 #[.slice A l.length c, .slice B M d] w (.bool true) := by
  have HT := Lib.hid hT
  have HA := Lib.hid hA
  have HB := Lib.hid hB
  clear hT hA hB
  by_cases hn : 5 < (l.length : Int)
  · go_enter Tryd.func8, Tryd.ntmps8
    go_wp2_with fail
    (go_at_call 15; refine (alive_any _ HT.out).mono ?_; rintro e w1 ⟨rfl, hb1⟩)
    go_wp2_with fail
    go_ret
    exact ⟨rfl, hb1⟩
  have hnI : (l.length : Int) ≤ 5 := by omega
  have hn5 : l.length ≤ 5 := by omega
  have hn8 : l.length ≤ 8 := by omega
  clear hn
  have vn := wrap_mul hn8 hn8
  have m3 := mul_le64 hn8 hn8
  obtain ⟨N, eN⟩ : ∃ N, l.length * l.length = N := ⟨_, rfl⟩
  rw [eN] at vn m3
  have EN := Lib.hid eN
  clear eN
  obtain ⟨w1, hmk, hA1, hB1⟩ := make_ints w N (by omega)
  have K0 := Lib.hid (show Kp w w.heap.size N l A B ys M 0 0 (fun _ => ((0 : Nat) : Int)) w1 from ⟨hA1.toI, fun _ _ _ _ h => by omega, HA.out.below hB1, HB.out.below hB1, hB1⟩)
  clear hA1 hB1
  go_enter Tryd.func8, Tryd.ntmps8
  go_wp2_with fail
  clear hmk
  go_loopg [30] l.length (fun g ii wr => ∃ i : Nat, i ≤ l.length ∧ g = l.length - i ∧ ii = .int .i64 i ∧ ∃ zs, Kp w w.heap.size N l A B ys M i 0 zs wr)
  case atStart => exact ⟨0, Nat.zero_le _, rfl, rfl, _, K0.out⟩
  case round =>
    obtain ⟨i, hi, rfl, rfl, zs0, hK⟩ := hrel
    have HK := Lib.hid hK
    clear hK
    by_cases hlt : i < l.length
    · have hltI : (i : Int) < l.length := by omega
      go_wp2_with fail
      go_loopg [35] l.length (fun g kk wr => ∃ k : Nat, k ≤ l.length ∧ g = l.length - k ∧ kk = .int .i64 k ∧ ∃ zs, Kp w w.heap.size N l A B ys M i k zs wr)
      case atStart => exact ⟨0, Nat.zero_le _, rfl, rfl, _, HK.out⟩
      case round =>
        obtain ⟨k, hk, rfl, rfl, zs, hK⟩ := hrel
        have HK2 := Lib.hid hK
        clear hK
        by_cases hlt2 : k < l.length
        · have hltJ : (k : Int) < l.length := by omega
          obtain ⟨ga, off, hAe⟩ := HA.out.some hlt
          subst hAe
          have mk : ∀ w', Below wr.heap.size wr w' → (Below wr.heap.size wr w' ∧ SpC w' ga off i (lF l i) (lT l i) ∧ SpC w' ga off k (lF l k) (lT l k)) := fun w' hb => ⟨hb, (HK2.out.step hb).spans.at hlt, (HK2.out.step hb).spans.at hlt2⟩
          have MK := Lib.hid mk
          have OF := Lib.hid (fun w' (hb : Below wr.heap.size wr w') => of_any (lF l i) (lT l i) (lF l k) (lT l k) w' (HT.out.below HT.out.1 (HK2.out.step hb).world))
          clear mk
          cases hbl : bL l i k
          · have hbb : bothB (lF l i) (lT l i) (lF l k) (lT l k) = false := hbl
            rw [hbb] at OF
            go_wp2_with fail
            go_region_held3 (fun w' => Below wr.heap.size wr w' ∧ SpC w' ga off i (lF l i) (lT l i) ∧ SpC w' ga off k (lF l k) (lT l k))
              (first | exact MK.out _ ((Below.refl _ _).drew) | (go_split_ands; exact MK.out _ (chain (by assumption) hb3)) | fail)
              (first
                | (go_at_call 9; refine (OF.out _ (by go_split_ands; assumption)).mono ?_; rintro e w3 ⟨rfl, hb3⟩))
            have hfin : Below wr.heap.size wr w3 := by go_split_ands; assumption
            have MK3 := Lib.hid (fun w' (hb : Below w3.heap.size w3 w') => MK.out w' (chain hfin hb))
            have WW := Lib.hid (chain HK2.out.world hfin)
            go_split_ands
            cases hra : rightB (lF l i) (lT l i)
            · go_wp2_with fail
              (go_at_call 18; refine (dright_any _ _ _).mono ?_; rintro e w4 ⟨rfl, hb4⟩)
              rw [hra]
              have W4 := Lib.hid (chain WW.out hb4)
              clear hb4
              go_wp2_with fail
              (go_at_call 15; refine (alive_any _ (HT.out.below HT.out.1 W4.out)).mono ?_; rintro e w5 ⟨rfl, hb5⟩)
              go_wp2_with fail
              go_ret
              exact ⟨rfl, chain W4.out hb5⟩
            · have hrc : rightB (lF l k) (lT l k) = false := by simpa [bothB, hra] using hbb
              go_wp2_with fail
              (go_at_call 18; refine (dright_any _ _ _).mono ?_; rintro e w4 ⟨rfl, hb4⟩)
              rw [hra]
              have W4 := Lib.hid (chain WW.out hb4)
              have x4 := MK3.out w4 hb4
              go_split_ands
              clear hb4
              go_wp2_with fail
              (go_at_call 18; refine (dright_any _ _ _).mono ?_; rintro e w5 ⟨rfl, hb5⟩)
              rw [hrc]
              have W5 := Lib.hid (chain W4.out hb5)
              clear hb5
              go_wp2_with fail
              (go_at_call 15; refine (alive_any _ (HT.out.below HT.out.1 W5.out)).mono ?_; rintro e w6 ⟨rfl, hb6⟩)
              go_wp2_with fail
              go_ret
              exact ⟨rfl, chain W5.out hb6⟩
          · have hbb : bothB (lF l i) (lT l i) (lF l k) (lT l k) = true := hbl
            rw [hbb, ofL hbl] at OF
            have hr13 := (rL_eq hbl).2
            go_wp2_with fail
            go_region_held3 (fun w' => Below wr.heap.size wr w' ∧ SpC w' ga off i (lF l i) (lT l i) ∧ SpC w' ga off k (lF l k) (lT l k))
              (first | exact MK.out _ ((Below.refl _ _).drew) | (go_split_ands; exact MK.out _ (chain (by assumption) hb3)) | fail)
              (first
                | (go_at_call 9; refine (OF.out _ (by go_split_ands; assumption)).mono ?_; rintro e w3 ⟨rfl, hb3⟩))
            have hfin : Below wr.heap.size wr w3 := by go_split_ands; assumption
            have l1 := place_lt hlt hlt2
            rw [EN.out] at l1
            have K3 := HK2.out.step hfin
            have K4 := K3.put hlt2 l1 (Nat.le_refl _) HA.out HB.out ((2 : Int) ^ rL l i k)
            have c1 := (K3.sets.2 _ l1).1
            have f1 := (K3.sets.2 _ l1).2
            have c4 := (K4.sets.2 _ l1).1
            have f4 := (K4.sets.2 _ l1).2
            have U4 : updI zs (i * l.length + k) ((2 : Int) ^ rL l i k) (i * l.length + k) = (2 : Int) ^ rL l i k := by unfold updI; rw [if_pos rfl]
            rw [U4] at c4
            have bp : bitB ((2 : Int) ^ rL l i k) (rL l i k) = true := by have := bit_pow (rL l i k); rwa [Int.natCast_pow] at this
            have N4 := Lib.hid (K4.next ⟨hbl, by rw [U4]; exact bp⟩)
            have U5 : updI (updI zs (i * l.length + k) ((2 : Int) ^ rL l i k)) (i * l.length + k) (bits .or .i64 ((2 : Int) ^ rL l i k) (ys (i * l.length + k))) (i * l.length + k) = bits .or .i64 ((2 : Int) ^ rL l i k) (ys (i * l.length + k)) := by unfold updI; rw [if_pos rfl]
            have K5 := (K4.put hlt2 l1 (Nat.le_refl _) HA.out HB.out (bits .or .i64 ((2 : Int) ^ rL l i k) (ys (i * l.length + k)))).drew
            have N5 := Lib.hid (K5.next ⟨hbl, by rw [U5, bitB_or _ _ _ hr13, bp]; rfl⟩)
            have M4 := Lib.hid K4.more
            have M5 := Lib.hid K5.more
            have v1 := wrap_mul' (show i ≤ 8 by omega) hn8
            have m1 := mul_le64 (show i ≤ 8 by omega) hn8
            have v2 := wrap_add (show i * l.length ≤ 1000 by omega) (show k ≤ 1000 by omega)
            have lp1 : ((i * l.length + k : Nat) : Int) < (N : Int) := by omega
            have SH := (shl_nat hr13).1
            have SH2 := (shl_nat hr13).2
            rw [Int.natCast_pow] at SH SH2
            have SH := (show IntKind.i64.wrap (1 * 2 ^ rL l i k) = (2 : Int) ^ rL l i k from SH)
            have SH2 := (show IntKind.i64.wrap (2 ^ rL l i k) = (2 : Int) ^ rL l i k from SH2)
            go_split_ands
            clear hfin K3 K4 K5 U4 U5 bp m1 l1 MK OF hbb
            obtain ⟨p1, e1⟩ : ∃ p, i * l.length + k = p := ⟨_, rfl⟩
            rw [e1] at c1 f1 c4 f4 N4 N5 M4 M5 v2 lp1
            obtain ⟨a1, j1⟩ : ∃ a, i * l.length = a := ⟨_, rfl⟩
            rw [j1] at v1 v2
            obtain ⟨r, hr⟩ : ∃ r, rL l i k = r := ⟨_, rfl⟩
            rw [hr] at hr13 c4 f4 N4 N5 M4 M5 SH SH2 ⊢
            have E := Lib.hid (And.intro e1 (And.intro j1 hr))
            clear e1 j1 hr hbl
            obtain ⟨w4, hw4⟩ : ∃ w4, w3.setCell ⟨w.heap.size, p1, none⟩ (.int .i64 ((2 : Int) ^ r)) = w4 := ⟨_, rfl⟩
            rw [hw4] at c4 f4 N4 N5 M4 M5
            have HW4 := Lib.hid hw4
            clear hw4
            by_cases hM : p1 < M
            · have hMI : (p1 : Int) < M := by omega
              obtain ⟨gb, offb, hBe⟩ := HB.out.some hM
              subst hBe
              obtain ⟨_, _, x1, b4⟩ := M4.out p1 hM
              simp only [Option.some.injEq, Addr.mk.injEq, and_true] at x1
              obtain ⟨rfl, rfl⟩ := x1
              obtain ⟨_, _, x1, b5⟩ := M5.out p1 hM
              simp only [Option.some.injEq, Addr.mk.injEq, and_true] at x1
              obtain ⟨rfl, rfl⟩ := x1
              clear M4 M5
              go_upto_region 16 with fail
              rw [HW4.out]
              clear c1 f1
              clear b5
              go_still_tail 18, (by kernel_rfl)
              change wpList _ _ _ _ _ w4.drew
              go_wp2_with fail
              go_roundg (l.length - (k + 1))
              case measure => omega
              case rel => exact ⟨k + 1, by omega, rfl, by go_num, _, N5.out⟩
            · have hMI : (M : Int) ≤ p1 := by omega
              clear M4 M5
              go_wp2_with fail
              rw [HW4.out]
              go_roundg (l.length - (k + 1))
              case measure => omega
              case rel => exact ⟨k + 1, by omega, rfl, by go_num, _, N4.out⟩
        · obtain rfl : k = l.length := by omega
          go_wp2_with fail
          go_roundg (l.length - (i + 1))
          case measure => omega
          case rel => exact ⟨i + 1, by omega, rfl, by go_num, zs, HK2.out.line⟩
    · obtain rfl : i = l.length := by omega
      have hall : ∀ a b, a < l.length → b < l.length → bL l a b = true ∧ bitB (zs0 (a * l.length + b)) (rL l a b) = true := fun a b ha hb => HK.out.done a b ha hb (.inl ha)
      have GD := mL_good fun a b ha hb => (hall a b ha hb).1
      have LE := mL_le hall
      have HALL := Lib.hid hall
      have CO := Lib.hid (show Calls Tryd.prog 24 #[.int .i64 l.length, .slice (some ⟨w.heap.size, 0, none⟩) N N] wr (CloseOut wr l.length (fun p => low (zs0 p))) by
        have h2 := HK.out.sets.ints
        rw [← EN.out] at h2 ⊢
        exact close_ok l.length hn8 _ _ zs0 wr (HT.out.below HT.out.1 HK.out.world) h2)
      have HGD := Lib.hid GD
      have HLE := Lib.hid LE
      clear GD LE hall
      go_wp2_with fail
      (go_at_call 24; refine CO.out.mono ?_; rintro e w2 ⟨hb2, ⟨L, g, rfl, hLA, hg, hG, hnz, hsm⟩ | ⟨rfl, a, b, ha, hb, hz⟩⟩)
      · rw [EN.out] at hLA hnz ⊢
        have W2 := Lib.hid (chain HK.out.world hb2)
        have S2 := Lib.hid (HK.out.spans.below hb2)
        have A2 := Lib.hid hLA
        have NZ := Lib.hid hnz
        have HG := Lib.hid hG
        have SM := Lib.hid hsm
        have MO := Lib.hid (hG.most _ HGD.out HLE.out)
        clear hb2 hLA hg hG hnz hsm CO HK
        go_wp2_with fail
        go_loopg [123] l.length (fun g ii wr => ∃ i : Nat, i ≤ l.length ∧ g = l.length - i ∧ ii = .int .i64 i ∧ Below w2.heap.size w2 wr)
        case atStart => exact ⟨0, Nat.zero_le _, rfl, rfl, bl _⟩
        case round =>
          obtain ⟨i, hi, rfl, rfl, hB⟩ := hrel
          have HB1 := Lib.hid hB
          clear hB
          by_cases hlt : i < l.length
          · have hltI : (i : Int) < l.length := by omega
            go_wp2_with fail
            go_loopg [128] l.length (fun g kk wr => ∃ k : Nat, k ≤ l.length ∧ g = l.length - k ∧ kk = .int .i64 k ∧ Below w2.heap.size w2 wr)
            case atStart => exact ⟨0, Nat.zero_le _, rfl, rfl, HB1.out⟩
            case round =>
              obtain ⟨k, hk, rfl, rfl, hB⟩ := hrel
              have HB2 := Lib.hid hB
              clear hB
              by_cases hlt2 : k < l.length
              · have hltJ : (k : Int) < l.length := by omega
                obtain ⟨ga, off, hAe⟩ := HA.out.some hlt
                subst hAe
                have hbl := (HALL.out i k hlt hlt2).1
                have mk : ∀ w', Below wr.heap.size wr w' → (Below wr.heap.size wr w' ∧ SpC w' ga off i (lF l i) (lT l i) ∧ SpC w' ga off k (lF l k) (lT l k)) := fun w' hb => ⟨hb, (S2.out.below (chain HB2.out hb)).at hlt, (S2.out.below (chain HB2.out hb)).at hlt2⟩
                have MK := Lib.hid mk
                have OF := Lib.hid (fun w' (hb : Below wr.heap.size wr w') => of_any (lF l i) (lT l i) (lF l k) (lT l k) w' (HT.out.below HT.out.1 (chain W2.out (chain HB2.out hb))))
                have hbb : bothB (lF l i) (lT l i) (lF l k) (lT l k) = true := hbl
                rw [hbb, ofL hbl] at OF
                have hr13 := (rL_eq hbl).2
                have l1 := place_lt hlt hlt2
                have BIT := MO.out i k hlt hlt2 (rL l i k) (by rw [mL_at hlt2, Nat.testBit_two_pow]; simp)
                rw [EN.out] at l1
                have v1 := wrap_mul' (show i ≤ 8 by omega) hn8
                have m1 := mul_le64 (show i ≤ 8 by omega) hn8
                have v2 := wrap_add (show i * l.length ≤ 1000 by omega) (show k ≤ 1000 by omega)
                have lp1 : ((i * l.length + k : Nat) : Int) < (N : Int) := by omega
                have CX := Lib.hid (fun w' (hb : Below wr.heap.size wr w') => ((A2.out.below A2.out.1 (chain HB2.out hb)).2 _ l1).1)
                have IN := Lib.hid (fun w' => in_any (L (i * l.length + k)) (rL l i k) hr13 w')
                rw [bitB_nat, BIT] at IN
                clear mk hbb hbl BIT m1 l1
                obtain ⟨p1, e1⟩ : ∃ p, i * l.length + k = p := ⟨_, rfl⟩
                rw [e1] at CX IN v2 lp1
                obtain ⟨a1, j1⟩ : ∃ a, i * l.length = a := ⟨_, rfl⟩
                rw [j1] at v1 v2
                have E := Lib.hid (And.intro e1 j1)
                clear e1 j1
                go_wp2_with fail
                go_region_held3 (fun w' => Below wr.heap.size wr w' ∧ SpC w' ga off i (lF l i) (lT l i) ∧ SpC w' ga off k (lF l k) (lT l k))
                  (first | exact MK.out _ ((Below.refl _ _).drew) | (go_split_ands; exact MK.out _ (chain (by assumption) hb3)) | fail)
                  (first
                    | (go_at_call 9; refine (OF.out _ (by go_split_ands; assumption)).mono ?_; rintro e w3 ⟨rfl, hb3⟩))
                have hfin : Below wr.heap.size wr w3 := by go_split_ands; assumption
                have c1 := CX.out w3 hfin
                have HF := Lib.hid hfin
                clear MK OF CX hfin
                go_wp2_with fail
                (go_at_call 19; refine (IN.out _).mono ?_; rintro e w4 ⟨rfl, rfl⟩)
                go_wp2_with fail
                go_roundg (l.length - (k + 1))
                case measure => omega
                case rel => exact ⟨k + 1, by omega, rfl, by go_num, chain HB2.out HF.out⟩
              · obtain rfl : k = l.length := by omega
                go_wp2_with fail
                go_roundg (l.length - (i + 1))
                case measure => omega
                case rel => exact ⟨i + 1, by omega, rfl, by go_num, HB2.out⟩
          · obtain rfl : i = l.length := by omega
            have W3 := Lib.hid (chain W2.out HB1.out)
            have A3 := Lib.hid (A2.out.below A2.out.1 HB1.out)
            have hlow : ∀ p, low ((L p : Nat) : Int) = L p := fun p => low_nat (SM.out p)
            have CO2 := Lib.hid (show Calls Tryd.prog 24 #[.int .i64 l.length, .slice (some ⟨g, 0, none⟩) N N] wr (CloseOut wr l.length L) by
              have h2 := A3.out.ints
              have h3 := close_ok l.length hn8 (some ⟨g, 0, none⟩) N (fun p => (L p : Int)) wr (HT.out.below HT.out.1 W3.out) (by rw [EN.out]; exact h2)
              rw [EN.out] at h3
              have e : (fun p => low ((L p : Nat) : Int)) = L := funext hlow
              rw [e] at h3
              exact h3)
            clear hlow
            go_wp2_with fail
            (go_at_call 24; refine CO2.out.mono ?_; rintro e w4 ⟨hb4, ⟨L2, g2, rfl, hLA, hg, hG, hnz, hsm⟩ | ⟨rfl, a, b, ha, hb, hz⟩⟩)
            · rw [EN.out] at hLA ⊢
              have SA := Lib.hid (dsame_true w4 (some ⟨g, 0, none⟩) (some ⟨g2, 0, none⟩) N N N (fun p => (L p : Int)) (A3.out.below A3.out.1 hb4).ints (hLA.ints.congr fun p hp => by
                rw [hG.unique (⟨HG.out.good, fun _ _ _ _ => Sub.rfl' _, fun _ _ h => h⟩ : Greatest l.length L L) (by rw [EN.out]; exact hp)]) (by omega))
              have W4 := Lib.hid (chain W3.out hb4)
              clear hb4 hLA hg hG hnz hsm
              go_wp2_with fail
              (go_at_call 26; refine SA.out.mono ?_; rintro e w5 ⟨rfl, hb5⟩)
              have W5 := Lib.hid (chain W4.out hb5)
              clear hb5
              go_wp2_with fail
              (go_at_call 15; refine (alive_any _ (HT.out.below HT.out.1 W5.out)).mono ?_; rintro e w6 ⟨rfl, hb6⟩)
              go_wp2_with fail
              go_ret
              exact ⟨rfl, chain W5.out hb6⟩
            · exact absurd (hz L HG.out.good fun _ _ _ _ => Sub.rfl' _) (NZ.out _ (by rw [← EN.out]; exact place_lt ha hb))
      · exact absurd (hz _ HGD.out HLE.out) (mL_pos l _)

end Go.Proofs.YtegmegapkfbkeaaDoor
