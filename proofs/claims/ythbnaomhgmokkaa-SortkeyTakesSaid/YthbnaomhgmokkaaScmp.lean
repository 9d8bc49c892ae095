/-
  How two parts stand, and two lists of them, by the document: one and Compare.
-/
import Derived.Test.YthbnaomhgmokkaaSjoin
namespace Go.Proofs.Ythbnaomhgmokkaa
open Go.RowKit

theorem toList_eq_nats (a b : ByteArray) : (a.toList == b.toList) = decide (nats a = nats b) := by
  rw [Bool.eq_iff_iff, beq_iff_eq, decide_eq_true_eq]
  constructor
  · intro e
    have e2 := congrArg (fun z => z.map UInt8.toNat) e
    simp only [ByteArray.toList_eq] at e2
    exact e2
  · intro e; rw [nats_inj e]
theorem cmp_unlike {a b : Prt} (h : a.i ≠ b.i) : cmpP a b = if a.i then -1 else 1 := by unfold cmpP; rw [if_pos h]
theorem cmp_ints {a b : Prt} (h : a.i = true) (h2 : b.i = true) : cmpP a b = if a.n < b.n then -1 else if b.n < a.n then 1 else 0 := by
  unfold cmpP; rw [if_neg (by rw [h, h2]; simp), if_pos h]
theorem cmp_texts {a b : Prt} (h : a.i = false) (h2 : b.i = false) : cmpP a b = if lessN (nats a.s) (nats b.s) then -1 else if lessN (nats b.s) (nats a.s) then 1 else 0 := by
  unfold cmpP; rw [if_neg (by rw [h, h2]; simp), if_neg (by rw [h]; simp)]

set_option maxHeartbeats 4000000 in
theorem done_any (a b : Prt) (w : World) : Ret 36 #[pv a, pv b] w (.int .i64 (cmpP a b)) := by
  cases ha : a.i with
  | true =>
    cases hb : b.i with
    | true =>
      have CP := Lib.hid (cmp_ints ha hb)
      by_cases h1 : a.n < b.n
      · have CQ := Lib.hid (CP.out.trans (if_pos h1))
        go_enter Try.func36, Try.ntmps36
        go_wp2_with fail
        go_ret
        exact ⟨ret_int CQ.out.symm, ((bl w).alloc (Nat.le_refl _) _).alloc (by simp) _⟩
      · by_cases h2 : b.n < a.n
        · have CQ := Lib.hid (CP.out.trans ((if_neg h1).trans (if_pos h2)))
          go_enter Try.func36, Try.ntmps36
          go_wp2_with fail
          go_ret
          exact ⟨ret_int CQ.out.symm, ((bl w).alloc (Nat.le_refl _) _).alloc (by simp) _⟩
        · have CQ := Lib.hid (CP.out.trans ((if_neg h1).trans (if_neg h2)))
          go_enter Try.func36, Try.ntmps36
          go_wp2_with fail
          go_ret
          exact ⟨ret_int CQ.out.symm, ((bl w).alloc (Nat.le_refl _) _).alloc (by simp) _⟩
    | false =>
      have CP := Lib.hid (cmp_unlike (a := a) (b := b) (by rw [ha, hb]; simp))
      have HA := Lib.hid ha
      go_enter Try.func36, Try.ntmps36
      go_wp2_with fail
      go_ret
      exact ⟨ret_int (by rw [CP.out, if_pos HA.out]), ((bl w).alloc (Nat.le_refl _) _).alloc (by simp) _⟩
  | false =>
    cases hb : b.i with
    | true =>
      have CP := Lib.hid (cmp_unlike (a := a) (b := b) (by rw [ha, hb]; simp))
      have HA := Lib.hid ha
      go_enter Try.func36, Try.ntmps36
      go_wp2_with fail
      go_ret
      exact ⟨ret_int (by rw [CP.out, if_neg (by rw [HA.out]; simp)]), ((bl w).alloc (Nat.le_refl _) _).alloc (by simp) _⟩
    | false =>
      have CP := Lib.hid (cmp_texts ha hb)
      have e1 := less_nats a.s b.s
      have e2 := toList_eq_nats a.s b.s
      rcases lessN_or (nats a.s) (nats b.s) with h | h | h
      · rw [h] at e1
        have CQ := Lib.hid (CP.out.trans (if_pos h))
        clear h e2
        go_enter Try.func36, Try.ntmps36
        go_wp2_with fail
        go_ret
        exact ⟨ret_int CQ.out.symm, ((bl w).alloc (Nat.le_refl _) _).alloc (by simp) _⟩
      · have h' := lessN_not _ _ h
        have hne : ¬ nats a.s = nats b.s := fun e => by rw [e, lessN_self] at h; cases h
        rw [h'] at e1
        rw [decide_eq_false hne] at e2
        have CQ := Lib.hid (CP.out.trans (by rw [if_neg (by rw [h']; simp), if_pos h]))
        clear h h' hne
        go_enter Try.func36, Try.ntmps36
        go_wp2_with fail
        go_ret
        exact ⟨ret_int CQ.out.symm, ((bl w).alloc (Nat.le_refl _) _).alloc (by simp) _⟩
      · rw [h, lessN_self] at e1
        rw [decide_eq_true h] at e2
        have CQ := Lib.hid (CP.out.trans (by rw [h, lessN_self]))
        clear h
        go_enter Try.func36, Try.ntmps36
        go_wp2_with fail
        go_ret
        exact ⟨ret_int CQ.out.symm, ((bl w).alloc (Nat.le_refl _) _).alloc (by simp) _⟩

theorem drop_consP {l : List Prt} {k : Nat} {p : Prt} (h : l[k]? = some p) : l.drop k = p :: l.drop (k + 1) := by
  have hk : k < l.length := by
    rcases Nat.lt_or_ge k l.length with h' | h'
    · exact h'
    · rw [List.getElem?_eq_none h'] at h; cases h
  rw [List.drop_eq_getElem_cons hk]
  rw [List.getElem?_eq_getElem hk] at h
  rw [Option.some.inj h]
theorem cmpL_next {a b : List Prt} {k : Nat} {p q : Prt} (ha : a[k]? = some p) (hb : b[k]? = some q) : cmpL (a.drop k) (b.drop k) = if cmpP p q ≠ 0 then cmpP p q else cmpL (a.drop (k + 1)) (b.drop (k + 1)) := by
  rw [drop_consP ha, drop_consP hb, cmpL]
/-- Where one of the lists ends. -/
theorem cmpL_end {a b : List Prt} {k : Nat} (hk : k ≤ a.length) (hk2 : k ≤ b.length) (h : ¬ (k < a.length ∧ k < b.length)) : cmpL (a.drop k) (b.drop k) = if a.length < b.length then -1 else if b.length < a.length then 1 else 0 := by
  rcases Nat.lt_trichotomy a.length b.length with h1 | h1 | h1
  · have : k = a.length := by omega
    obtain ⟨q, hq⟩ : ∃ q, b[k]? = some q := ⟨_, List.getElem?_eq_getElem (by omega)⟩
    rw [if_pos h1, List.drop_of_length_le (l := a) (by omega), drop_consP hq]; rfl
  · rw [if_neg (by omega), if_neg (by omega), List.drop_of_length_le (l := a) (by omega), List.drop_of_length_le (l := b) (by omega)]; rfl
  · have : k = b.length := by omega
    obtain ⟨q, hq⟩ : ∃ q, a[k]? = some q := ⟨_, List.getElem?_eq_getElem (by omega)⟩
    rw [if_neg (by omega), if_pos h1, List.drop_of_length_le (l := b) (by omega), drop_consP hq]; rfl

set_option maxHeartbeats 4000000 in
set_option maxRecDepth 10000 in
theorem dcompare_any (w : World) (A B : Option Addr) (c d : Nat) (a b : List Prt) (ha : Parts w A a) (hb : Parts w B b) (hn : a.length ≤ 1048576) (hm : b.length ≤ 1048576) :
    Ret 25 #[.slice A a.length c, .slice B b.length d] w (.int .i64 (cmpL a b)) := by
  have HA := Lib.hid ha
  have HB := Lib.hid hb
  obtain ⟨n, hnn⟩ : ∃ n, a.length = n := ⟨_, rfl⟩
  obtain ⟨m, hmm⟩ : ∃ m, b.length = m := ⟨_, rfl⟩
  rw [hnn] at hn ⊢
  rw [hmm] at hm ⊢
  have HN := Lib.hid hnn
  have HM := Lib.hid hmm
  clear ha hb hnn hmm
  go_enter Try.func25, Try.ntmps25
  go_wp2_with fail
  go_loopw [5] (fun i wr => ∃ k : Nat, k ≤ n ∧ k ≤ m ∧ i = .int .i64 k ∧ cmpL a b = cmpL (a.drop k) (b.drop k) ∧ Below w.heap.size w wr) (fun i _ => n - (intOf i).toNat)
  case atStart => exact ⟨0, Nat.zero_le _, Nat.zero_le _, rfl, rfl, bl w⟩
  case round =>
    obtain ⟨k, hk, hkm, rfl, hC, hW⟩ := hrel
    have HC := Lib.hid hC
    have HW := Lib.hid hW
    clear hC hW
    by_cases hlt : k < n ∧ k < m
    · have hlt1 : (k : Int) < (n : Int) := by omega
      have hlt2 : (k : Int) < (m : Int) := by omega
      obtain ⟨p, hp⟩ : ∃ p, a[k]? = some p := ⟨_, List.getElem?_eq_getElem (by have := HN.out; omega)⟩
      obtain ⟨q, hq⟩ : ∃ q, b[k]? = some q := ⟨_, List.getElem?_eq_getElem (by have := HM.out; omega)⟩
      have NX := Lib.hid (HC.out.trans (cmpL_next hp hq))
      obtain ⟨g, off, rfl, c0, c1, c2⟩ := (HA.out.below HW.out) k p hp
      obtain ⟨g', off', rfl, d0, d1, d2⟩ := (HB.out.below HW.out) k q hq
      have CO := Lib.hid (fun w => done_any p q w)
      have hlt' := Lib.hid hlt
      clear hp hq hlt
      obtain ⟨x, hx⟩ : ∃ x, cmpP p q = x := ⟨_, rfl⟩
      rw [hx] at CO NX
      clear hx
      by_cases h0 : x = 0
      · subst h0
        have NY := Lib.hid (NX.out.trans (if_neg (fun h => h rfl)))
        clear NX
        go_wp2_with fail
        go_still_tail 8, (by kernel_rfl)
        change wpList _ _ _ _ _ wr.drew
        go_wp2_with (go_at_call 36; refine (CO.out _).mono ?_; rintro e w2 ⟨rfl, hb2⟩)
        exact ⟨⟨k + 1, by have := hlt'.out; omega, by have := hlt'.out; omega, by go_num, NY.out, chain HW.out.drew hb2⟩, by simp [intOf] <;> omega⟩
      · have NY := Lib.hid (NX.out.trans (if_pos h0))
        clear NX
        go_wp2_with fail
        go_still_tail 8, (by kernel_rfl)
        change wpList _ _ _ _ _ wr.drew
        go_wp2_with (go_at_call 36; refine (CO.out _).mono ?_; rintro e w2 ⟨rfl, hb2⟩)
        go_ret
        exact ⟨ret_int NY.out.symm, chain HW.out.drew hb2⟩
    · have CE := Lib.hid (HC.out.trans (cmpL_end (by have := HN.out; omega) (by have := HM.out; omega) (by rw [HN.out, HM.out]; exact hlt)))
      rw [HN.out, HM.out] at CE
      by_cases h1 : k < n
      · have hmn : m < n := by omega
        have h2 : k = m := by omega
        subst h2
        have hlt1 : (k : Int) < (n : Int) := by omega
        have hlt2 : ¬ (k : Int) < (k : Int) := by omega
        have hlt3 : ¬ (n : Int) < (k : Int) := by omega
        have CF := Lib.hid (CE.out.trans ((if_neg (by omega)).trans (if_pos hmn)))
        clear hlt CE
        go_wp2_with fail
        go_ret
        exact ⟨ret_int CF.out.symm, HW.out⟩
      · have h2 : k = n := by omega
        subst h2
        have hlt1 : ¬ (k : Int) < (k : Int) := by omega
        by_cases h3 : k < m
        · have hlt2 : (k : Int) < (m : Int) := by omega
          have CF := Lib.hid (CE.out.trans (if_pos h3))
          clear hlt CE
          go_wp2_with fail
          go_ret
          exact ⟨ret_int CF.out.symm, HW.out⟩
        · have h4 : k = m := by omega
          subst h4
          have CF := Lib.hid (CE.out.trans ((if_neg (by omega)).trans (if_neg (by omega))))
          clear hlt CE
          go_wp2_with fail
          go_ret
          exact ⟨ret_int CF.out.symm, HW.out⟩

end Go.Proofs.Ythbnaomhgmokkaa
