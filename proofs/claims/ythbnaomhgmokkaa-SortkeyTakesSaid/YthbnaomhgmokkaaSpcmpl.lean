/-
  How two lists of parts stand, by the program: its Compare.
-/
import Derived.Test.YthbnaomhgmokkaaSpcmp
import Derived.Laws.StructEq
namespace Go.Proofs.Ythbnaomhgmokkaa
open Go.RowKit

theorem Try.noGuardPartP : Try.prog.eqGuardType Try.prog.depth PT = false := by kernel_rfl
theorem run_eql_partP (a b : Prt) (w : World) : (binOp .eql PT (pv a) (pv b)).run Try.prog w = .ok (.bool (decide (a.i = b.i ∧ a.n = b.n ∧ a.s.toList = b.s.toList))) w := by
  rw [run_eql_struct, run_equalIn_struct w 9999 PT _ _ Try.underlying50 (by kernel_rfl)]
  have h3 := Try.underlying3
  have h4 := Try.underlying4
  have h9 := Try.underlying9
  have a3 : ∀ w, (isAgg 3).run Try.prog w = .ok false w := Try.isAgg3
  have a4 : ∀ w, (isAgg 4).run Try.prog w = .ok false w := Try.isAgg4
  have a9 : ∀ w, (isAgg 9).run Try.prog w = .ok false w := Try.isAgg9
  simp [Op.eqFields, Program.fieldsOf, Try.underlying50, part, a3, a4, a9, run_equalIn_bool' w 9998 _ _ _ h4, run_equalIn_int w 9998 _ .i64 .i64 _ _ h3, run_equalIn_string w 9998 _ _ _ h9]
  by_cases h1 : a.i = b.i
  · by_cases h2 : a.n = b.n
    · by_cases h3 : a.s.toList = b.s.toList <;> simp [h1, h2, h3]
    · simp [h1, h2]
  · simp [h1]
theorem bytes_same {s t : ByteArray} : s.toList = t.toList ↔ nats s = nats t := by
  constructor
  · intro h
    rw [ByteArray.toList_eq, ByteArray.toList_eq] at h
    unfold nats; rw [h]
  · intro h; rw [nats_inj h]
theorem cmpP_zero (p q : Prt) : (( (bareP p).i = (bareP q).i ∧ (bareP p).n = (bareP q).n ∧ (bareP p).s.toList = (bareP q).s.toList)) ↔ cmpP p q = 0 := by
  rw [bytes_same]
  cases hp : p.i with
  | true =>
    cases hq : q.i with
    | true =>
      rw [bare_int hp, bare_int hq]
      unfold cmpP
      rw [if_neg (by rw [hp, hq]; simp), if_pos hp]
      simp only [true_and, and_true]
      split
      · simp; omega
      · split
        · simp; omega
        · simp; omega
    | false =>
      rw [bare_int hp, bare_text hq]
      unfold cmpP
      rw [if_pos (by rw [hp, hq]; simp), if_pos hp]
      simp
  | false =>
    cases hq : q.i with
    | true =>
      rw [bare_text hp, bare_int hq]
      unfold cmpP
      rw [if_pos (by rw [hp, hq]; simp), if_neg (by rw [hp]; simp)]
      simp
    | false =>
      rw [bare_text hp, bare_text hq]
      unfold cmpP
      rw [if_neg (by rw [hp, hq]; simp), if_neg (by rw [hp]; simp)]
      simp only [true_and]
      rcases lessN_or (nats p.s) (nats q.s) with h | h | h
      · rw [if_pos h]
        simp
        intro e; rw [e, lessN_self] at h; cases h
      · rw [if_neg (by rw [lessN_not _ _ h]; simp), if_pos h]
        simp
        intro e; rw [e, lessN_self] at h; cases h
      · rw [h, lessN_self]; simp
theorem run_eql_bare (p q : Prt) (w : World) : (binOp .eql PT (pv (bareP p)) (pv (bareP q))).run Try.prog w = .ok (.bool (decide (cmpP p q = 0))) w := by
  rw [run_eql_partP]
  congr 2
  exact decide_eq_decide.2 (cmpP_zero p q)
theorem ahB_cmp {p q : Prt} (h : cmpP p q ≠ 0) : cmpP p q = if ahB (bareP p) (bareP q) then -1 else 1 := by
  unfold cmpP at h ⊢
  cases hp : p.i with
  | true =>
    cases hq : q.i with
    | true =>
      rw [ahB_ints (by rw [bare_int hp]) (by rw [bare_int hq]), bare_int hp, bare_int hq]
      rw [hp, hq] at h
      simp at h ⊢
      by_cases h1 : p.n < q.n
      · simp [h1]
      · by_cases h2 : q.n < p.n
        · simp [h1, h2]
        · simp [h1, h2] at h
    | false =>
      rw [ahB_unlike (by rw [bare_int hp, bare_text hq]; simp), bare_int hp]
      simp
  | false =>
    cases hq : q.i with
    | true =>
      rw [ahB_unlike (by rw [bare_text hp, bare_int hq]; simp), bare_text hp]
      simp
    | false =>
      rw [ahB_texts (by rw [bare_text hp]) (by rw [bare_text hq]), bare_text hp, bare_text hq]
      rw [hp, hq] at h
      simp at h ⊢
      by_cases h1 : lessN (nats p.s) (nats q.s) = true
      · simp [h1]
      · by_cases h2 : lessN (nats q.s) (nats p.s) = true
        · simp [h1, h2]
        · simp [h1, h2] at h

set_option maxHeartbeats 4000000 in
set_option maxRecDepth 10000 in
theorem compare_any (w : World) (A B : Option Addr) (c d : Nat) (a b : List Prt) (ha : Parts w A a) (hb : Parts w B b) (hn : a.length ≤ 1048576) (hm : b.length ≤ 1048576) :
    Ret 24 #[.slice A a.length c, .slice B b.length d] w (.int .i64 (cmpL a b)) := by
  have HA := Lib.hid ha
  have HB := Lib.hid hb
  obtain ⟨n, hnn⟩ : ∃ n, a.length = n := ⟨_, rfl⟩
  obtain ⟨m, hmm⟩ : ∃ m, b.length = m := ⟨_, rfl⟩
  rw [hnn] at hn ⊢
  rw [hmm] at hm ⊢
  have HN := Lib.hid hnn
  have HM := Lib.hid hmm
  clear ha hb hnn hmm
  have hng := Try.noGuardPartP
  go_enter Try.func24, Try.ntmps24
  go_wp2_with fail
  obtain ⟨K, hK⟩ : ∃ K : Nat, min (n : Int) (m : Int) = (K : Int) ∧ min n m = K := ⟨min n m, by omega, rfl⟩
  rw [hK.1]
  have HK := Lib.hid hK.2
  clear hK
  go_loopw [13] (fun i wr => ∃ k : Nat, k ≤ K ∧ i = .int .i64 k ∧ cmpL a b = cmpL (a.drop k) (b.drop k) ∧ Below w.heap.size w wr) (fun i _ => K - (intOf i).toNat)
  case atStart => exact ⟨0, Nat.zero_le _, rfl, rfl, bl w⟩
  case round =>
    obtain ⟨k, hk, rfl, hC, hW⟩ := hrel
    have HC := Lib.hid hC
    have HW := Lib.hid hW
    clear hC hW
    by_cases hlt : k < K
    · have hlt' : (k : Int) < (K : Int) := by omega
      have hkn : k < n := by have := HK.out; omega
      have hkm : k < m := by have := HK.out; omega
      have hlt1 : (k : Int) < (n : Int) := by omega
      have hlt2 : (k : Int) < (m : Int) := by omega
      obtain ⟨p, hp⟩ : ∃ p, a[k]? = some p := ⟨_, List.getElem?_eq_getElem (by have := HN.out; omega)⟩
      obtain ⟨q, hq⟩ : ∃ q, b[k]? = some q := ⟨_, List.getElem?_eq_getElem (by have := HM.out; omega)⟩
      have NX := Lib.hid (HC.out.trans (cmpL_next hp hq))
      obtain ⟨g, off, rfl, c0, c1, c2⟩ := (HA.out.below HW.out) k p hp
      obtain ⟨g', off', rfl, d0, d1, d2⟩ := (HB.out.below HW.out) k q hq
      have CO := Lib.hid (fun p w => plain_any p w)
      clear hp hq
      go_upto_region 4 with fail
      go_cut [6, 7] from 16 to 26 (fun s6 s7 wx => ∃ gx gy, s6 = .pointer (some ⟨gx, 0, none⟩) ∧ s7 = .pointer (some ⟨gy, 0, none⟩) ∧ (wx.cell? ⟨gx, 0, none⟩ = some (.bool (bareP p).i) ∧ wx.cell? ⟨gx, 1, none⟩ = some (.int .i64 (bareP p).n) ∧ wx.cell? ⟨gx, 2, none⟩ = some (.string (bareP p).s)) ∧ (wx.cell? ⟨gy, 0, none⟩ = some (.bool (bareP q).i) ∧ wx.cell? ⟨gy, 1, none⟩ = some (.int .i64 (bareP q).n) ∧ wx.cell? ⟨gy, 2, none⟩ = some (.string (bareP q).s)) ∧ Below wr.heap.size wr wx)
      case first =>
        have mk : ∀ w', Below wr.heap.size wr w' → (Below wr.heap.size wr w' ∧ (w'.cell? ⟨g, off + k * 3, none⟩ = some (.bool p.i) ∧ w'.cell? ⟨g, off + k * 3 + 1, none⟩ = some (.int .i64 p.n) ∧ w'.cell? ⟨g, off + k * 3 + 2, none⟩ = some (.string p.s)) ∧ (w'.cell? ⟨g', off' + k * 3, none⟩ = some (.bool q.i) ∧ w'.cell? ⟨g', off' + k * 3 + 1, none⟩ = some (.int .i64 q.n) ∧ w'.cell? ⟨g', off' + k * 3 + 2, none⟩ = some (.string q.s))) := fun w' h => ⟨h, ⟨keepc h c0, keepc h c1, keepc h c2⟩, ⟨keepc h d0, keepc h d1, keepc h d2⟩⟩
        have MK := Lib.hid mk
        clear mk
        go_region_held3 (fun w' => Below wr.heap.size wr w' ∧ (w'.cell? ⟨g, off + k * 3, none⟩ = some (.bool p.i) ∧ w'.cell? ⟨g, off + k * 3 + 1, none⟩ = some (.int .i64 p.n) ∧ w'.cell? ⟨g, off + k * 3 + 2, none⟩ = some (.string p.s)) ∧ (w'.cell? ⟨g', off' + k * 3, none⟩ = some (.bool q.i) ∧ w'.cell? ⟨g', off' + k * 3 + 1, none⟩ = some (.int .i64 q.n) ∧ w'.cell? ⟨g', off' + k * 3 + 2, none⟩ = some (.string q.s)))
          (first | assumption | exact MK.out _ ((Below.refl _ _).drew) | exact MK.out _ (by go_grown) | fail)
          (first
            | (go_at_call 33; with_reducible refine (CO.out _ _).mono ?_; rintro e w3 ⟨rfl, rfl⟩))
        all_goals go_wp2_with fail
        all_goals go_meet
        all_goals refine ⟨_, _, rfl, rfl, ⟨by simp [go_sem], by simp [go_sem], by simp [go_sem]⟩, ⟨by simp [go_sem], by simp [go_sem], by simp [go_sem]⟩, by go_grown⟩
      case rest =>
        obtain ⟨gx, gy, rfl, rfl, ⟨x0, x1, x2⟩, ⟨y0, y1, y2⟩, hbc⟩ := hcut
        have HBC := Lib.hid (chain HW.out hbc)
        have hq := run_eql_bare p q
        have AH := Lib.hid (fun w => ahead_any (bareP p) (bareP q) w)
        clear hbc c0 c1 c2 d0 d1 d2
        by_cases h0 : cmpP p q = 0
        · rw [decide_eq_true h0] at hq
          have NY := Lib.hid (NX.out.trans (if_neg (fun h => h h0)))
          clear h0 NX
          go_wp2_with fail
          go_roundw
          case rel => exact ⟨k + 1, by omega, by go_num, NY.out, HBC.out⟩
          case measure => simp [intOf]; omega
        · rw [decide_eq_false h0] at hq
          have NY := Lib.hid ((NX.out.trans (if_pos h0)).trans (ahB_cmp h0))
          clear h0 NX
          cases hr : ahB (bareP p) (bareP q) with
          | true =>
            rw [hr] at AH NY
            have NZ := Lib.hid (NY.out.trans (if_pos rfl))
            clear hr NY
            go_wp2_with (go_at_call 34; with_reducible refine (AH.out _).mono ?_; rintro e w3 ⟨rfl, hb3⟩)
            go_ret
            exact ⟨ret_int NZ.out.symm, chain HBC.out hb3⟩
          | false =>
            rw [hr] at AH NY
            have NZ := Lib.hid (NY.out.trans (if_neg (by simp)))
            clear hr NY
            go_wp2_with (go_at_call 34; with_reducible refine (AH.out _).mono ?_; rintro e w3 ⟨rfl, hb3⟩)
            go_ret
            exact ⟨ret_int NZ.out.symm, chain HBC.out hb3⟩
    · obtain rfl : k = K := by omega
      have hlt' : ¬ (k : Int) < (k : Int) := by omega
      have hkk := HK.out
      have CE := Lib.hid (HC.out.trans (cmpL_end (by have := HN.out; omega) (by have := HM.out; omega) (by rw [HN.out, HM.out]; omega)))
      have CF := Lib.hid (show cmpL a b = cmpI (n : Int) (m : Int) by
        rw [CE.out, HN.out, HM.out]; unfold cmpI; simp only [Int.ofNat_lt])
      have CI := Lib.hid (fun w => cmpint_any (n : Int) (m : Int) w)
      clear CE hkk
      go_wp2_with (go_at_call 35; with_reducible refine (CI.out _).mono ?_; rintro e w3 ⟨rfl, rfl⟩)
      go_ret
      exact ⟨ret_int CF.out.symm, HW.out⟩

end Go.Proofs.Ythbnaomhgmokkaa
