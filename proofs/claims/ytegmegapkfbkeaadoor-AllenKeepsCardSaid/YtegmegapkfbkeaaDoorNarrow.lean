/-
  What the other sets of a net leave of one of them, and a set that is put: narrow and put.
-/
import Derived.Test.YtegmegapkfbkeaaDoorBegin
namespace Go.Proofs.YtegmegapkfbkeaaDoor
open Go.RowKit

theorem wrap_mul {i n : Nat} (hi : i ≤ 8) (hn : n ≤ 8) : IntKind.i64.wrap ((i : Int) * (n : Int)) = ((i * n : Nat) : Int) := by
  have : i * n ≤ 8 * 8 := Nat.mul_le_mul hi hn
  rw [← Int.natCast_mul]
  generalize i * n = m at *
  rw [IntKind.wrap_i64]; omega
theorem wrap_add {a b : Nat} (ha : a ≤ 1000) (hb : b ≤ 1000) : IntKind.i64.wrap ((a : Int) + (b : Int)) = ((a + b : Nat) : Int) := by
  rw [IntKind.wrap_i64]; omega
theorem mul_le64 {i n : Nat} (hi : i ≤ 8) (hn : n ≤ 8) : i * n ≤ 64 := Nat.mul_le_mul hi hn

abbrev Cells4 (w : World) (P G n N p q x y : Nat) : Prop := w.cell? ⟨P, 0, none⟩ = some (.int .i64 n) ∧ w.cell? ⟨P, 1, none⟩ = some (.slice (some ⟨G, 0, none⟩) N N) ∧ w.cell? ⟨G, p, none⟩ = some (.int .i64 x) ∧ w.cell? ⟨G, q, none⟩ = some (.int .i64 y)
theorem NetAt.cells4 {w : World} {P G n N p q : Nat} {T : Nat → Nat} (h : NetAt w P G n N T) (hp : p < N) (hq : q < N) : Cells4 w P G n N p q (T p) (T q) := ⟨h.head.1, h.head.2, (h.sets.2 p hp).1, (h.sets.2 q hq).1⟩

set_option maxRecDepth 100000 in
set_option maxHeartbeats 4000000 in
theorem narrow_any (n i k P G : Nat) (T : Nat → Nat) (hn : n ≤ 8) (hi : i < n) (hk : k < n) (hT : ∀ p, T p < 8192) (w : World) (hN : NetAt w P G n (n * n) T) :
    Ret 37 #[.pointer (some ⟨P, 0, none⟩), .int .i64 i, .int .i64 k] w (.int .i64 (narN n T i k)) := by
  have l1 := place_lt hi hk
  have l2 := place_lt hk hi
  have v1 := wrap_mul (show i ≤ 8 by omega) hn
  have v3 := wrap_mul (show k ≤ 8 by omega) hn
  have m1 := mul_le64 (show i ≤ 8 by omega) hn
  have m2 := mul_le64 (show k ≤ 8 by omega) hn
  have m3 := mul_le64 hn hn
  have v2 := wrap_add (show i * n ≤ 1000 by omega) (show k ≤ 1000 by omega)
  have v4 := wrap_add (show k * n ≤ 1000 by omega) (show i ≤ 1000 by omega)
  have NB := Lib.hid (show narTo n T i k 0 = if i = k then (T (i * n + k) &&& turnI (T (k * n + i))) &&& 64 else T (i * n + k) &&& turnI (T (k * n + i)) from rfl)
  have NS := Lib.hid (show ∀ j, narTo n T i k (j + 1) = narTo n T i k j &&& followI (T (i * n + j)) (T (j * n + k)) from fun _ => rfl)
  have NL := Lib.hid (show ∀ j, j < n → i * n + j < n * n ∧ j * n + k < n * n ∧ i * n ≤ 1000 ∧ j * n ≤ 1000 from fun j hj => ⟨place_lt hi hj, place_lt hj hk, by omega, by have := mul_le64 (show j ≤ 8 by omega) hn; omega⟩)
  have HN := Lib.hid hN
  obtain ⟨h0, h1, c1, c2⟩ := hN.cells4 l1 l2
  have ln1 : ((i * n + k : Nat) : Int) < ((n * n : Nat) : Int) := by omega
  have ln2 : ((k * n + i : Nat) : Int) < ((n * n : Nat) : Int) := by omega
  have TA := Lib.hid (fun w' => turn_any (T (k * n + i)) w')
  have AN := Lib.hid (and_nat (hT (i * n + k)) (turnI_lt (T (k * n + i))))
  have AN2 := Lib.hid (and_nat (and_lt (a := T (i * n + k)) (turnI_lt (T (k * n + i)))) (show 64 < 8192 by decide))
  clear hN l1 l2 m1 m2 m3
  have hnI : (n : Int) ≤ 8 := by omega
  obtain ⟨N, eN⟩ : ∃ N, n * n = N := ⟨_, rfl⟩
  obtain ⟨p1, e1⟩ : ∃ p, i * n + k = p := ⟨_, rfl⟩
  obtain ⟨p2, e2⟩ : ∃ p, k * n + i = p := ⟨_, rfl⟩
  rw [eN] at h1 ln1 ln2 HN NL
  rw [e1] at v2 c1 ln1 AN AN2 NB
  rw [e2] at v4 c2 ln2 TA AN AN2 NB
  obtain ⟨a1, f1⟩ : ∃ a, i * n = a := ⟨_, rfl⟩
  obtain ⟨a2, f2⟩ : ∃ a, k * n = a := ⟨_, rfl⟩
  rw [f1] at v1 v2 NS NL
  rw [f2] at v3 v4
  have E := Lib.hid (And.intro eN (And.intro e1 (And.intro e2 (And.intro f1 f2))))
  clear eN e1 e2 f1 f2
  by_cases hik : i = k
  all_goals
    have HIK := Lib.hid hik
    clear hik
    go_enter Tryd.func37, Tryd.ntmps37
    go_wp2_with fail
    go_quiet (first | (go_at_call 20; exact (TA.out _).mono fun e w' h => ⟨h.1, _, h.2⟩))
    rw [AN.out]
  · have NB0 := Lib.hid (NB.out.trans (if_pos HIK.out))
    have e0 : ((i : Int) == (k : Int)) = true := by simp [HIK.out]
    go_upto_region 4 with fail
    rw [show (64 : Int) = ((64 : Nat) : Int) from rfl, AN2.out, ← NB0.out]
    clear NB NB0 AN AN2 TA v2 v3 v4 c1 c2 ln1 ln2 h1
    go_wp2_with fail
    go_loopw [7, 48] (fun v jj wr => ∃ j : Nat, j ≤ n ∧ jj = .int .i64 j ∧ v = .int .i64 (narTo n T i k j) ∧ Below w.heap.size w wr) (fun _ jj _ => n - (intOf jj).toNat)
    case atStart => exact ⟨0, Nat.zero_le _, rfl, rfl, below_drewN (bl _) _⟩
    case round =>
      obtain ⟨j, hj, rfl, rfl, hB⟩ := hrel
      have HB := Lib.hid hB
      clear hB
      by_cases hlt : j < n
      · have hltI : (j : Int) < n := by omega
        obtain ⟨q1, q2, q3, q4⟩ := NL.out j hlt
        have mk : ∀ w', Below wr.heap.size wr w' → (Below wr.heap.size wr w' ∧ Cells4 w' P G n N (a1 + j) (j * n + k) (T (a1 + j)) (T (j * n + k))) := fun w' hb => ⟨hb, ((HN.out.step HB.out).step hb).cells4 q1 q2⟩
        have MK := Lib.hid mk
        have u1 := wrap_mul (show j ≤ 8 by omega) hn
        have u2 := wrap_add q3 (show j ≤ 1000 by omega)
        have u3 := wrap_add q4 (show k ≤ 1000 by omega)
        have lp1 : ((a1 + j : Nat) : Int) < N := by omega
        have lp2 : ((j * n + k : Nat) : Int) < N := by omega
        have NS1 := Lib.hid (NS.out j)
        have AN3 := Lib.hid (and_nat (narTo_lt n T i k j) (followI_lt (T (a1 + j)) (T (j * n + k))))
        have WF := Lib.hid (fun w' (hb : Below wr.heap.size wr w') => wfollow_any (T (a1 + j)) (T (j * n + k)) w' P ((HN.out.step HB.out).step hb).comp)
        clear mk q1 q2 q3 q4
        obtain ⟨a3, f3⟩ : ∃ a, j * n = a := ⟨_, rfl⟩
        rw [f3] at u1 u3 lp2 NS1 AN3 WF MK
        have F3 := Lib.hid f3
        clear f3
        obtain ⟨p3, e3⟩ : ∃ a, a1 + j = a := ⟨_, rfl⟩
        obtain ⟨p4, e4⟩ : ∃ a, a3 + k = a := ⟨_, rfl⟩
        rw [e3] at u2 lp1 NS1 AN3 WF MK
        rw [e4] at u3 lp2 NS1 AN3 WF MK
        have E3 := Lib.hid (And.intro e3 e4)
        clear e3 e4 h0
        go_wp2_with fail
        go_region_held3 (fun w' => Below wr.heap.size wr w' ∧ Cells4 w' P G n N p3 p4 (T p3) (T p4))
          (first | exact MK.out _ ((Below.refl _ _).drew) | (go_split_ands; exact MK.out _ (chain (by assumption) hb3)) | fail)
          (first
            | (go_at_call 35; refine (WF.out _ (by go_split_ands; assumption)).mono ?_; rintro e w3 ⟨rfl, hb3⟩))
        have hfin : Below wr.heap.size wr w3 := by go_split_ands; assumption
        go_wp2_with fail
        go_roundw
        case rel => exact ⟨j + 1, by omega, by go_num, by rw [NS1.out, ← AN3.out], chain HB.out hfin⟩
        case measure => simp [intOf]; omega
      · obtain rfl : j = n := by omega
        go_wp2_with fail
        go_ret
        exact ⟨rfl, HB.out⟩
  · have NB0 := Lib.hid (NB.out.trans (if_neg HIK.out))
    have e0 : ((i : Int) == (k : Int)) = false := by have := HIK.out; simp; omega
    go_upto_region 4 with fail
    rw [← NB0.out]
    clear NB NB0 AN AN2 TA v2 v3 v4 c1 c2 ln1 ln2 h1
    go_wp2_with fail
    go_loopw [7, 48] (fun v jj wr => ∃ j : Nat, j ≤ n ∧ jj = .int .i64 j ∧ v = .int .i64 (narTo n T i k j) ∧ Below w.heap.size w wr) (fun _ jj _ => n - (intOf jj).toNat)
    case atStart => exact ⟨0, Nat.zero_le _, rfl, rfl, below_drewN (bl _) _⟩
    case round =>
      obtain ⟨j, hj, rfl, rfl, hB⟩ := hrel
      have HB := Lib.hid hB
      clear hB
      by_cases hlt : j < n
      · have hltI : (j : Int) < n := by omega
        obtain ⟨q1, q2, q3, q4⟩ := NL.out j hlt
        have mk : ∀ w', Below wr.heap.size wr w' → (Below wr.heap.size wr w' ∧ Cells4 w' P G n N (a1 + j) (j * n + k) (T (a1 + j)) (T (j * n + k))) := fun w' hb => ⟨hb, ((HN.out.step HB.out).step hb).cells4 q1 q2⟩
        have MK := Lib.hid mk
        have u1 := wrap_mul (show j ≤ 8 by omega) hn
        have u2 := wrap_add q3 (show j ≤ 1000 by omega)
        have u3 := wrap_add q4 (show k ≤ 1000 by omega)
        have lp1 : ((a1 + j : Nat) : Int) < N := by omega
        have lp2 : ((j * n + k : Nat) : Int) < N := by omega
        have NS1 := Lib.hid (NS.out j)
        have AN3 := Lib.hid (and_nat (narTo_lt n T i k j) (followI_lt (T (a1 + j)) (T (j * n + k))))
        have WF := Lib.hid (fun w' (hb : Below wr.heap.size wr w') => wfollow_any (T (a1 + j)) (T (j * n + k)) w' P ((HN.out.step HB.out).step hb).comp)
        clear mk q1 q2 q3 q4
        obtain ⟨a3, f3⟩ : ∃ a, j * n = a := ⟨_, rfl⟩
        rw [f3] at u1 u3 lp2 NS1 AN3 WF MK
        have F3 := Lib.hid f3
        clear f3
        obtain ⟨p3, e3⟩ : ∃ a, a1 + j = a := ⟨_, rfl⟩
        obtain ⟨p4, e4⟩ : ∃ a, a3 + k = a := ⟨_, rfl⟩
        rw [e3] at u2 lp1 NS1 AN3 WF MK
        rw [e4] at u3 lp2 NS1 AN3 WF MK
        have E3 := Lib.hid (And.intro e3 e4)
        clear e3 e4 h0
        go_wp2_with fail
        go_region_held3 (fun w' => Below wr.heap.size wr w' ∧ Cells4 w' P G n N p3 p4 (T p3) (T p4))
          (first | exact MK.out _ ((Below.refl _ _).drew) | (go_split_ands; exact MK.out _ (chain (by assumption) hb3)) | fail)
          (first
            | (go_at_call 35; refine (WF.out _ (by go_split_ands; assumption)).mono ?_; rintro e w3 ⟨rfl, hb3⟩))
        have hfin : Below wr.heap.size wr w3 := by go_split_ands; assumption
        go_wp2_with fail
        go_roundw
        case rel => exact ⟨j + 1, by omega, by go_num, by rw [NS1.out, ← AN3.out], chain HB.out hfin⟩
        case measure => simp [intOf]; omega
      · obtain rfl : j = n := by omega
        go_wp2_with fail
        go_ret
        exact ⟨rfl, HB.out⟩

end Go.Proofs.YtegmegapkfbkeaaDoor
