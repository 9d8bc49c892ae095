/-
  The greatest closed net below what came in, as the document finds it: Close.
-/
import Derived.Test.YtegmegapkfbkeaaDoorDclP
namespace Go.Proofs.YtegmegapkfbkeaaDoor
open Go.RowKit

theorem wrap_mul' {i n : Nat} (hi : i ≤ 8) (hn : n ≤ 8) : IntKind.i64.wrap ((n : Int) * (i : Int)) = ((i * n : Nat) : Int) := by
  rw [Int.mul_comm]; exact wrap_mul hi hn

set_option maxRecDepth 100000 in
set_option maxHeartbeats 16000000 in
theorem dclose_ok (n : Nat) (hn : n ≤ 8) (A : Option Addr) (c : Nat) (zs : Nat → Int) (w : World) (hI : Ints w A zs (n * n)) :
    Calls Tryd.prog 25 #[.int .i64 n, .slice A (n * n) c] w (DCloseOut w n (n * n) (fun p => low (zs p))) := by
  have m3 := mul_le64 hn hn
  have vn := wrap_mul hn hn
  have hnI : (n : Int) ≤ 8 := by omega
  obtain ⟨N, eN⟩ : ∃ N, n * n = N := ⟨_, rfl⟩
  rw [eN] at vn m3 hI ⊢
  have EN := Lib.hid eN
  have HA := Lib.hid hI
  clear eN hI
  go_enter Tryd.func25, Tryd.ntmps25
  go_wp2_with fail
  (go_at_call 16; refine (table_any _).mono ?_; rintro e w1 ⟨tb, TT, rfl, hT, hC, htb, hb1⟩)
  obtain ⟨w2, hmk, hA2, hB2⟩ := make_ints w1 N (by omega)
  have hgt : w1.heap.size ≠ tb := by have := hT.1; omega
  have hG : w.heap.size ≤ w1.heap.size := hb1.size
  have P0 := Lib.hid (show Ph1 w w1.heap.size tb n N TT A zs 0 0 (fun _ => 0) w2 from ⟨hA2, fun _ => (show 0 < 8192 by decide), fun _ _ _ _ h => by omega, hT.below hT.1 hB2, HA.out.below (chain hb1 hB2), chain hb1 hB2⟩)
  have HC := Lib.hid hC
  clear hT hC htb hb1 hA2 hB2
  go_wp2_with fail
  clear hmk
  generalize w1.heap.size = G at *
  go_loopg [8] n (fun g ii wr => ∃ i : Nat, i ≤ n ∧ g = n - i ∧ ii = .int .i64 i ∧ ∃ T, Ph1 w G tb n N TT A zs i 0 T wr)
  case atStart => exact ⟨0, Nat.zero_le _, rfl, rfl, _, P0.out⟩
  case round =>
    obtain ⟨i, hi, rfl, rfl, T, hP⟩ := hrel
    have HP := Lib.hid hP
    clear hP
    by_cases hlt : i < n
    · have hltI : (i : Int) < n := by omega
      go_wp2_with fail
      go_loopg [9] n (fun g kk wr => ∃ k : Nat, k ≤ n ∧ g = n - k ∧ kk = .int .i64 k ∧ ∃ T, Ph1 w G tb n N TT A zs i k T wr)
      case atStart => exact ⟨0, Nat.zero_le _, rfl, rfl, _, HP.out⟩
      case round =>
        obtain ⟨k, hk, rfl, rfl, T2, hP⟩ := hrel
        have HP2 := Lib.hid hP
        by_cases hlt2 : k < n
        · have hltJ : (k : Int) < n := by omega
          have l1 := place_lt hlt hlt2
          have l2 := place_lt hlt2 hlt
          rw [EN.out] at l1 l2
          obtain ⟨ga, off, hA1, c1⟩ := hP.args _ l1
          obtain ⟨ga', off', hA1', c2⟩ := hP.args _ l2
          subst hA1
          simp only [Option.some.injEq, Addr.mk.injEq, and_true] at hA1'
          obtain ⟨rfl, rfl⟩ := hA1'
          have c3 := (hP.sets.2 _ l1).1
          have f3 := (hP.sets.2 _ l1).2
          have v1 := wrap_mul' (show i ≤ 8 by omega) hn
          have v3 := wrap_mul' (show k ≤ 8 by omega) hn
          have m1 := mul_le64 (show i ≤ 8 by omega) hn
          have m2 := mul_le64 (show k ≤ 8 by omega) hn
          have v2 := wrap_add (show i * n ≤ 1000 by omega) (show k ≤ 1000 by omega)
          have v4 := wrap_add (show k * n ≤ 1000 by omega) (show i ≤ 1000 by omega)
          have lp1 : ((i * n + k : Nat) : Int) < (N : Int) := by omega
          have lp2 : ((k * n + i : Nat) : Int) < (N : Int) := by omega
          have TA := Lib.hid (fun w' => dturn_any (zs (k * n + i)) w')
          have BO := Lib.hid (fun w' => both_turn (zs (i * n + k)) (zs (k * n + i)) w')
          have hv : (low (zs (i * n + k)) &&& turnI (zs (k * n + i))) < 8192 := and_lt (turnI_lt _)
          have Q1 := (hP.put hlt hlt2 l1 hG hgt HA.out hv).drew1
          have I0 := init_eq n zs i k
          have d1 := (Q1.sets.2 _ l1).1
          have g1 := (Q1.sets.2 _ l1).2
          have HU := Lib.hid (show upd T2 (i * n + k) (low (zs (i * n + k)) &&& turnI (zs (k * n + i))) (i * n + k) = low (zs (i * n + k)) &&& turnI (zs (k * n + i)) by unfold upd; rw [if_pos rfl])
          rw [HU.out] at d1
          have b1 : _ ∧ _ := ⟨(hP.put hlt hlt2 l1 hG hgt HA.out hv).args _ l1, (hP.put hlt hlt2 l1 hG hgt HA.out hv).args _ l2⟩
          obtain ⟨⟨_, _, x1, k1⟩, ⟨_, _, x2, k2⟩⟩ := b1
          simp only [Option.some.injEq, Addr.mk.injEq, and_true] at x1 x2
          obtain ⟨rfl, rfl⟩ := x1
          obtain ⟨rfl, rfl⟩ := x2
          have BO2 := Lib.hid (fun w' => both_nat hv (show 64 < 8192 by decide) w')
          have hv2 : ((low (zs (i * n + k)) &&& turnI (zs (k * n + i))) &&& 64) < 8192 := and_lt (by decide)
          have Q2 := Q1.put hlt hlt2 l1 hG hgt HA.out hv2
          have U2 := Lib.hid (show upd (upd T2 (i * n + k) (low (zs (i * n + k)) &&& turnI (zs (k * n + i)))) (i * n + k) ((low (zs (i * n + k)) &&& turnI (zs (k * n + i))) &&& 64) (i * n + k) = (low (zs (i * n + k)) &&& turnI (zs (k * n + i))) &&& 64 by unfold upd; rw [if_pos rfl])
          have N1 := Lib.hid (fun e => Q1.next hlt2 (HU.out.trans e))
          have N2 := Lib.hid (fun e => Q2.next hlt2 (U2.out.trans e))
          have I0 := Lib.hid I0
          clear hP l1 l2 m1 m2 Q1 Q2 HU U2 hv hv2
          obtain ⟨p1, e1⟩ : ∃ p, i * n + k = p := ⟨_, rfl⟩
          obtain ⟨p2, e2⟩ : ∃ p, k * n + i = p := ⟨_, rfl⟩
          rw [e1] at c1 c3 f3 v2 lp1 BO d1 g1 k1 k2 BO2 N1 N2 I0
          rw [e2] at c2 v4 lp2 TA BO d1 k1 k2 BO2 N1 N2 I0
          obtain ⟨a1, j1⟩ : ∃ a, i * n = a := ⟨_, rfl⟩
          obtain ⟨a2, j2⟩ : ∃ a, k * n = a := ⟨_, rfl⟩
          rw [j1] at v1 v2
          rw [j2] at v3 v4
          have E := Lib.hid (And.intro e1 (And.intro e2 (And.intro j1 j2)))
          clear e1 e2 j1 j2
          have reg : (i = k → ((i : Int) == (k : Int)) = true) ∧ (i ≠ k → ((i : Int) == (k : Int)) = false) := ⟨fun h => by simp [h], fun h => by simp; omega⟩
          have HREG := Lib.hid reg
          clear reg
          go_wp2_with fail
          go_region_held3 (fun w' => w'.cell? ⟨ga, off + p1, none⟩ = some (.int .i64 (zs p1)) ∧ w'.cell? ⟨ga, off + p2, none⟩ = some (.int .i64 (zs p2)))
            (first | exact ⟨c1, c2⟩ | assumption | exact ⟨k1, k2⟩ | fail)
            (first
              | (go_at_call 21; refine (TA.out _).mono ?_; rintro e w3 ⟨rfl, rfl⟩)
              | (go_at_call 39; refine (BO.out _).mono ?_; rintro e w4 ⟨rfl, rfl⟩))
          clear c1 c2 k1 k2
          by_cases hik : i = k
          · have ee := HREG.out.1 hik
            have N2' := Lib.hid (N2.out (I0.out.trans (if_pos hik)).symm)
            clear hik
            go_wp2_with fail
            (go_at_call 39; refine (BO2.out _).mono ?_; rintro e w5 ⟨rfl, rfl⟩)
            go_wp2_with fail
            go_roundg (n - (k + 1))
            case measure => omega
            case rel => exact ⟨k + 1, by omega, rfl, by go_num, _, N2'.out⟩
          · have ee := HREG.out.2 hik
            have N1' := Lib.hid (N1.out (I0.out.trans (if_neg hik)).symm)
            clear hik
            go_wp2_with fail
            go_roundg (n - (k + 1))
            case measure => omega
            case rel => exact ⟨k + 1, by omega, rfl, by go_num, _, N1'.out⟩
        · obtain rfl : k = n := by omega
          go_wp2_with fail
          go_roundg (k - (i + 1))
          case measure => omega
          case rel => exact ⟨i + 1, by omega, rfl, by go_num, T2, HP2.out.line⟩
    · obtain rfl : i = n := by omega
      have HP2 := Lib.hid HP.out.ph2
      clear HP
      go_wp2_with fail
      go_loopg [10] (2 * sumTo T N + 1) (fun g c wr => ∃ T b, c = .bool b ∧ Ph2 w G tb i N TT (fun p => low (zs p)) T wr ∧ (b = false → Tri i T) ∧ g = 2 * sumTo T N + b.toNat)
      case atStart => exact ⟨T, true, rfl, HP2.out, (fun h => by cases h), rfl⟩
      case round =>
        obtain ⟨T3, b, rfl, hP, hb, rfl⟩ := hrel
        have HP3 := Lib.hid hP
        have HT3 := Lib.hid hb
        clear hP hb
        cases b
        · have GR := Lib.hid (HP3.out.inv.greatest (fun p => low_lt _) (HT3.out rfl))
          have lenN : ((N : Nat) : Int) ≤ 64 := by omega
          go_wp2_with fail
          go_loopg [15] N (fun g ii wr' => ∃ p : Nat, p ≤ N ∧ g = N - p ∧ ii = .int .i64 p ∧ (∀ q, q < p → T3 q ≠ 0) ∧ wr' = wr)
          case atStart => exact ⟨0, Nat.zero_le _, rfl, rfl, fun q hq => by omega, rfl⟩
          case round =>
            obtain ⟨p, hp, rfl, rfl, hq, rfl⟩ := hrel
            have HQ := Lib.hid hq
            clear hq
            by_cases hlt : p < N
            · have hltI : (p : Int) < N := by omega
              have c1 := (HP3.out.sets.2 p hlt).1
              by_cases hz : T3 p = 0
              · have HZ := Lib.hid hz
                rw [hz] at c1
                clear hz
                go_wp2_with fail
                go_ret2
                exact ⟨HP3.out.world, T3, GR.out, .inr ⟨rfl, p, hlt, HZ.out⟩⟩
              · have z0 : ((T3 p : Int) == 0) = false := by simp; omega
                have NX := Lib.hid (show ∀ q, q < p + 1 → T3 q ≠ 0 from fun q hq => by
                  by_cases e : q = p
                  · subst e; exact hz
                  · exact HQ.out q (by omega))
                clear hz
                go_wp2_with fail
                go_roundg (N - (p + 1))
                case measure => omega
                case rel => exact ⟨p + 1, by omega, rfl, by go_num, NX.out, rfl⟩
            · obtain rfl : p = N := by omega
              go_wp2_with fail
              go_ret2
              exact ⟨HP3.out.world, T3, GR.out, .inl ⟨G, rfl, HP3.out.sets, HQ.out⟩⟩
        · have PS := Lib.hid (Pass.mk0 HP3.out)
          go_wp2_with fail
          go_loopg [10, 11] i (fun g c ii wr => ∃ x : Nat, x ≤ i ∧ g = i - x ∧ ii = .int .i64 x ∧ Pass w G tb i N TT (fun p => low (zs p)) (sumTo T3 N) x 0 0 c wr)
          case atStart => exact ⟨0, Nat.zero_le _, rfl, rfl, PS.out⟩
          case round =>
            obtain ⟨x, hx, rfl, rfl, hp⟩ := hrel
            have HX := Lib.hid hp
            clear hp
            by_cases hltx : x < i
            · have hltxI : (x : Int) < i := by omega
              go_wp2_with fail
              go_loopg [10, 12] i (fun g c ii wr => ∃ y : Nat, y ≤ i ∧ g = i - y ∧ ii = .int .i64 y ∧ Pass w G tb i N TT (fun p => low (zs p)) (sumTo T3 N) x y 0 c wr)
              case atStart => exact ⟨0, Nat.zero_le _, rfl, rfl, HX.out⟩
              case round =>
                obtain ⟨y, hy, rfl, rfl, hp⟩ := hrel
                have HY := Lib.hid hp
                clear hp
                by_cases hlty : y < i
                · have hltyI : (y : Int) < i := by omega
                  go_wp2_with fail
                  go_loopg [10, 13] i (fun g c ii wr => ∃ z : Nat, z ≤ i ∧ g = i - z ∧ ii = .int .i64 z ∧ Pass w G tb i N TT (fun p => low (zs p)) (sumTo T3 N) x y z c wr)
                  case atStart => exact ⟨0, Nat.zero_le _, rfl, rfl, HY.out⟩
                  case round =>
                    obtain ⟨z, hz, rfl, rfl, T4, b4, rfl, h1, h2⟩ := hrel
                    have H1 := Lib.hid h1
                    have H2 := Lib.hid h2
                    clear h1 h2
                    by_cases hltz : z < i
                    · have hltzI : (z : Int) < i := by omega
                      have l1 := place_lt hltx hlty
                      have l2 := place_lt hltx hltz
                      have l3 := place_lt hltz hlty
                      rw [EN.out] at l1 l2 l3
                      have c1 := (H1.out.sets.2 _ l1).1
                      have f1 := (H1.out.sets.2 _ l1).2
                      have c2 := (H1.out.sets.2 _ l2).1
                      have c3 := (H1.out.sets.2 _ l3).1
                      have v1 := wrap_mul' (show x ≤ 8 by omega) hn
                      have v3 := wrap_mul' (show z ≤ 8 by omega) hn
                      have m1 := mul_le64 (show x ≤ 8 by omega) hn
                      have m2 := mul_le64 (show z ≤ 8 by omega) hn
                      have v2 := wrap_add (show x * i ≤ 1000 by omega) (show y ≤ 1000 by omega)
                      have v4 := wrap_add (show x * i ≤ 1000 by omega) (show z ≤ 1000 by omega)
                      have v5 := wrap_add (show z * i ≤ 1000 by omega) (show y ≤ 1000 by omega)
                      have lp1 : ((x * i + y : Nat) : Int) < (N : Int) := by omega
                      have lp2 : ((x * i + z : Nat) : Int) < (N : Int) := by omega
                      have lp3 : ((z * i + y : Nat) : Int) < (N : Int) := by omega
                      have FO := Lib.hid (fun q => dfollow_any (T4 (x * i + z)) (T4 (z * i + y)) (wr.drewN q) tb TT H1.out.table HC.out)
                      have BO := Lib.hid (fun w' => both_nat (H1.out.inv.small (x * i + y)) (followI_lt (T4 (x * i + z)) (T4 (z * i + y))) w')
                      have ST := Lib.hid (fun q e => Pass.stays (H1.out.drew q) H2.out e (S := sumTo T3 N) (i := x) (k := y) (j := z))
                      have LE := Lib.hid (fun q e => Pass.less (H1.out.drew q) H2.out hltx hltz hlty l1 hG hgt e)
                      clear m1 m2 l1 l2 l3
                      obtain ⟨p1, e1⟩ : ∃ p, x * i + y = p := ⟨_, rfl⟩
                      obtain ⟨p2, e2⟩ : ∃ p, x * i + z = p := ⟨_, rfl⟩
                      obtain ⟨p3, e3⟩ : ∃ p, z * i + y = p := ⟨_, rfl⟩
                      rw [e1] at c1 f1 v2 lp1 BO ST LE
                      rw [e2] at c2 v4 lp2 FO BO ST LE
                      rw [e3] at c3 v5 lp3 FO BO ST LE
                      obtain ⟨a1, j1⟩ : ∃ a, x * i = a := ⟨_, rfl⟩
                      obtain ⟨a2, j2⟩ : ∃ a, z * i = a := ⟨_, rfl⟩
                      rw [j1] at v1 v2 v4
                      rw [j2] at v3 v5
                      have E := Lib.hid (And.intro e1 (And.intro e2 (And.intro e3 (And.intro j1 j2))))
                      clear e1 e2 e3 j1 j2
                      go_wp2_with fail
                      go_quiet (first
                        | (go_at_call 23; exact (FO.out _).mono fun e w' h => ⟨h.1, _, h.2⟩)
                        | (go_at_call 39; exact (BO.out _).mono fun e w' h => ⟨h.1, _, h.2⟩))
                      by_cases he : T4 p1 &&& followI (T4 p2) (T4 p3) = T4 p1
                      · have ST' := Lib.hid (ST.out nq he)
                        rw [he]
                        clear he
                        go_wp2_with fail
                        go_roundg (i - (z + 1))
                        case measure => omega
                        case rel => exact ⟨z + 1, by omega, rfl, by go_num, ST'.out⟩
                      · have LE' := Lib.hid (LE.out nq he)
                        have q0 : (((T4 p1 &&& followI (T4 p2) (T4 p3) : Nat) : Int) != (T4 p1 : Int)) = true := by simp only [bne_iff_ne, ne_eq, Int.natCast_inj]; exact he
                        clear he
                        obtain ⟨u, hu⟩ : ∃ u, T4 p1 &&& followI (T4 p2) (T4 p3) = u := ⟨_, rfl⟩
                        rw [hu] at q0 LE' ⊢
                        have HU := Lib.hid hu
                        clear hu
                        go_wp2_with fail
                        go_roundg (i - (z + 1))
                        case measure => omega
                        case rel => exact ⟨z + 1, by omega, rfl, by go_num, LE'.out⟩
                    · obtain rfl : z = i := by omega
                      have KL := Lib.hid (Pass.kline ⟨T4, b4, rfl, H1.out, H2.out⟩)
                      go_wp2_with fail
                      go_roundg (z - (y + 1))
                      case measure => omega
                      case rel => exact ⟨y + 1, by omega, rfl, by go_num, KL.out⟩
                · obtain rfl : y = i := by omega
                  go_wp2_with fail
                  go_roundg (y - (x + 1))
                  case measure => omega
                  case rel => exact ⟨x + 1, by omega, rfl, by go_num, HY.out.iline⟩
            · obtain rfl : x = i := by omega
              obtain ⟨T5, b5, hc5, h5, h6⟩ := HX.out.done
              subst hc5
              have H5 := Lib.hid h5
              have H6 := Lib.hid h6
              clear h5 h6
              go_wp2_with fail
              go_roundg (2 * sumTo T5 N + b5.toNat)
              case measure => rcases H6.out with ⟨rfl, e, _⟩ | ⟨rfl, e⟩ <;> simp <;> omega
              case rel => exact ⟨T5, b5, rfl, H5.out, (fun h => H6.out.elim (fun t => t.2.2) (fun e => by rw [e.1] at h; cases h)), rfl⟩

end Go.Proofs.YtegmegapkfbkeaaDoor
