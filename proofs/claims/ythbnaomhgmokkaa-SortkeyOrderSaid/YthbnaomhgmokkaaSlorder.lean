/-
  SortkeyOrder gives back true for any two lists of parts.
-/
import Derived.Test.YthbnaomhgmokkaaSljoins
namespace Go.Proofs.Ythbnaomhgmokkaa
open Go.RowKit

theorem own_block {w : World} {base e size n g cap : Nat} {xs : List Value} (h : w.ownsRow base e size (.slice (some ⟨g, 0, none⟩) n cap) n xs) : ∃ cur, w.heap[g]? = some (.cells cur e (0, 0)) ∧ n ≤ cap ∧ cap ≤ maxLen ∧ cur.size = cap * size ∧ cur.toList.take (n * size) = xs ∧ base ≤ g := by
  rcases h.2 with ⟨hv, _⟩ | ⟨g', cap', cur, hv, h5, hb, h1, h2, h3, h4⟩
  · cases hv
  · injection hv with e1 e2 e3
    injection e1 with e1
    injection e1 with e1
    subst e1 e3
    exact ⟨cur, hb, h1, h2, h3, h4, h5⟩
theorem own_set {w : World} {base e size n g cap : Nat} {xs : List Value} (h : w.ownsRow base e size (.slice (some ⟨g, 0, none⟩) n cap) n xs) (j : Nat) (u : Value) : (w.setCell ⟨g, j, none⟩ u).ownsRow base e size (.slice (some ⟨g, 0, none⟩) n cap) n (xs.set j u) := by
  obtain ⟨cur, hb, h1, h2, h3, h4, h5⟩ := own_block h
  refine ⟨by rw [List.length_set]; exact h.1, .inr ⟨g, cap, cur.setIfInBounds j u, rfl, h5, ?_, h1, h2, by simpa using h3, ?_⟩⟩
  · simp [World.setCell, Array.getElem?_modify, hb]
  · rw [← h4, Array.toList_setIfInBounds, List.take_set]
/-- Of the first k parts what does not count is set to nought. -/
def mixP (a : List Prt) (k : Nat) : List Prt := (a.take k).map bareP ++ a.drop k
theorem mixP_length (a : List Prt) {k : Nat} : (mixP a k).length = a.length := by simp [mixP]; omega
theorem mixP_zero (a : List Prt) : mixP a 0 = a := by simp [mixP]
theorem mixP_all (a : List Prt) : mixP a a.length = a.map bareP := by simp [mixP]
theorem flat_mid (L R : List Prt) (p q : Prt) (j : Nat) (u : Value) (h : [Value.bool p.i, .int .i64 p.n, .string p.s].set j u = [.bool q.i, .int .i64 q.n, .string q.s]) (hj : j < 3) :
    (flatP (L ++ p :: R)).set (L.length * 3 + j) u = flatP (L ++ q :: R) := by
  rw [flatP_append, flatP_append, List.set_append_right _ _ (by rw [flatP_length]; omega), flatP_length, Nat.add_sub_cancel_left]
  congr 1
  have e : ∀ p : Prt, flatP (p :: R) = [Value.bool p.i, .int .i64 p.n, .string p.s] ++ flatP R := fun p => rfl
  rw [e, e, List.set_append_left _ _ (by simpa using hj), h]
theorem mix_next {a : List Prt} {k : Nat} {p : Prt} (h : a[k]? = some p) : mixP a k = (a.take k).map bareP ++ p :: a.drop (k + 1) ∧ mixP a (k + 1) = (a.take k).map bareP ++ bareP p :: a.drop (k + 1) := by
  constructor
  · rw [mixP, drop_consP h]
  · rw [mixP, take_snocP h, List.map_append]; simp
theorem mix_set {a : List Prt} {k : Nat} {p : Prt} (h : a[k]? = some p) {j : Nat} {u : Value} (hj : j < 3) (e : [Value.bool p.i, .int .i64 p.n, .string p.s].set j u = [.bool (bareP p).i, .int .i64 (bareP p).n, .string (bareP p).s]) :
    (flatP (mixP a k)).set (k * 3 + j) u = flatP (mixP a (k + 1)) := by
  have hk : k < a.length := by
    rcases Nat.lt_or_ge k a.length with h' | h'
    · exact h'
    · rw [List.getElem?_eq_none h'] at h; cases h
  have hl : ((a.take k).map bareP).length = k := by rw [List.length_map, List.length_take]; omega
  rw [(mix_next h).1, (mix_next h).2]
  have := flat_mid ((a.take k).map bareP) (a.drop (k + 1)) p (bareP p) j u e hj
  rw [hl] at this
  exact this
theorem OP.mix {W wr : World} {a : List Prt} {k g cap n j : Nat} {p : Prt} {u : Value} (hn : a.length = n) (h : OP W (mixP a k) (.slice (some ⟨g, 0, none⟩) n cap) wr) (hp : a[k]? = some p) (hj : j < 3)
    (e : [Value.bool p.i, .int .i64 p.n, .string p.s].set j u = [.bool (bareP p).i, .int .i64 (bareP p).n, .string (bareP p).s]) : OP W (mixP a (k + 1)) (.slice (some ⟨g, 0, none⟩) n cap) (wr.setCell ⟨g, k * 3 + j, none⟩ u) := by
  have h1 := h.own
  unfold ownP at h1
  rw [mixP_length, hn] at h1
  have h2 := own_set h1 (k * 3 + j) u
  rw [mix_set hp hj e] at h2
  obtain ⟨cur, _, _, _, _, _, h5⟩ := own_block h1
  refine ⟨?_, h.bel.setCell (p := ⟨g, _, none⟩) h5 u⟩
  unfold ownP
  rw [mixP_length, hn]
  exact h2
theorem OP.cellAt {W wr : World} {m : List Prt} {g cap n k j : Nat} {u : Value} (hn : m.length = n) (h : OP W m (.slice (some ⟨g, 0, none⟩) n cap) wr) (hu : (flatP m)[k * 3 + j]? = some u) : wr.cell? ⟨g, k * 3 + j, none⟩ = some u ∧ wr.frozen? ⟨g, k * 3 + j, none⟩ = false := by
  subst hn
  have c := h.own.cells (g := g) rfl _ _ hu
  have add : ∀ n, (⟨g, 0, none⟩ : Addr).add n = ⟨g, 0 + n, none⟩ := fun n => by unfold Addr.add; split <;> simp_all
  rw [add, Nat.zero_add] at c
  exact ⟨c, h.own.frozenAt _⟩
theorem mix_get {a : List Prt} {k : Nat} {p : Prt} (h : a[k]? = some p) : (mixP a k)[k]? = some p := by
  have hk : k < a.length := by
    rcases Nat.lt_or_ge k a.length with h' | h'
    · exact h'
    · rw [List.getElem?_eq_none h'] at h; cases h
  have hl : ((a.take k).map bareP).length = k := by rw [List.length_map, List.length_take]; omega
  rw [(mix_next h).1, List.getElem?_append_right (by omega), hl, Nat.sub_self]; rfl
theorem kinds_next {a : List Prt} {k : Nat} {p : Prt} (h : a[k]? = some p) : kindsOf (a.take (k + 1)) = kindsOf (a.take k) ++ [if p.i then 105 else 116] := by
  rw [take_snocP h, kindsOf, List.map_append]; rfl
theorem kinds_ok (a : List Prt) : kindOk (kindsOf a) ∧ ∀ b ∈ kindsOf a, b < 256 := by
  constructor
  · intro c hc
    obtain ⟨p, _, rfl⟩ := List.mem_map.1 hc
    cases p.i
    · exact .inr rfl
    · exact .inl rfl
  · intro c hc
    obtain ⟨p, _, rfl⟩ := List.mem_map.1 hc
    cases p.i <;> simp
theorem spL_join {a : List Prt} (h : okP a) : spL (joinS a) (bytesN (kindsOf a)) = (a.map bareP, 0) := by
  unfold spL
  rw [nats_bytes (kinds_ok a).2, if_pos (kinds_ok a).1, joinS, nats_bytes (joinP_lt a)]
  exact splitP_join a h
theorem joinS_less (a b : List Prt) : Op.bytesLess (joinS a).toList (joinS b).toList = lessN (joinP a) (joinP b) := by
  rw [less_nats, joinS, joinS, nats_bytes (joinP_lt a), nats_bytes (joinP_lt b)]
theorem joinS_eq (a b : List Prt) : ((joinS a).toList == (joinS b).toList) = decide (joinP a = joinP b) := by
  rw [toList_eq_nats, joinS, joinS, nats_bytes (joinP_lt a), nats_bytes (joinP_lt b)]
/-- The order of two keys, as the law asks for it. -/
theorem order_facts {a b : List Prt} (ha : okP a) (hb : okP b) (hk : a.map (·.i) = b.map (·.i)) :
    Op.bytesLess (joinS a).toList (joinS b).toList = decide (cmpL a b < 0) ∧ ((joinS a).toList == (joinS b).toList) = (cmpL a b == 0) := by
  rw [joinS_less, joinS_eq]
  rcases cmpL_key a b ha hb hk with ⟨e, d⟩ | ⟨e, d⟩ | ⟨e, d⟩
  · rw [e, (lessN_diff d).1]
    refine ⟨rfl, ?_⟩
    rw [decide_eq_false fun h => by rw [h] at d; have := (lessN_diff d).1; rw [lessN_self] at this; cases this]
    rfl
  · rw [e, (lessN_diff d).2]
    refine ⟨rfl, ?_⟩
    rw [decide_eq_false fun h => by rw [h] at d; have := (lessN_diff d).1; rw [lessN_self] at this; cases this]
    rfl
  · rw [e, d, lessN_self, decide_eq_true rfl]
    exact ⟨rfl, rfl⟩
theorem joinS_size {a : List Prt} (h : okL a) (hn : a.length ≤ 1000) : (joinS a).size ≤ 2097160000 := by
  have := join_length a h
  rw [joinS, size_bytes]
  omega
theorem map_next {a b : List Prt} {k : Nat} {p q : Prt} (ha : a[k]? = some p) (hb : b[k]? = some q) (h : (a.take k).map (·.i) = (b.take k).map (·.i)) (he : p.i = q.i) : (a.take (k + 1)).map (·.i) = (b.take (k + 1)).map (·.i) := by
  rw [take_snocP ha, take_snocP hb, List.map_append, List.map_append, h]
  simp [he]

set_option maxRecDepth 10000 in
set_option maxHeartbeats 8000000 in
theorem order_walk (A B : Option Addr) (c d : Nat) (a b : List Prt) (w : World) (ha : Parts w A a) (hb : Parts w B b)
    (hsa : ∀ p ∈ a, isI p.n ∧ p.s.size ≤ 9223372036854775807) (hsb : ∀ p ∈ b, isI p.n ∧ p.s.size ≤ 9223372036854775807) (hna : a.length ≤ 9223372036854775807) (hnb : b.length ≤ 9223372036854775807) :
    Ret 7 #[.slice A a.length c, .slice B b.length d] w (.bool true) := by
  have HA := Lib.hid ha
  have HBb := Lib.hid hb
  clear ha hb
  obtain ⟨na, hla⟩ : ∃ n, a.length = n := ⟨_, rfl⟩
  obtain ⟨nb, hlb⟩ : ∃ n, b.length = n := ⟨_, rfl⟩
  have O1 := own_at w A c a HA.out (fun p hp => (hsa p hp).2) hna
  have O2 := fun w' (h : Parts w' B b) => own_at w' B d b h (fun p hp => (hsb p hp).2) hnb
  rw [hla] at O1 ⊢
  simp only [hlb] at O2 ⊢
  have D1 := Lib.hid O1
  have D2 := Lib.hid O2
  have HLA := Lib.hid hla
  have HLB := Lib.hid hlb
  have HSA := Lib.hid hsa
  have HSB := Lib.hid hsb
  rw [hla] at hna
  rw [hlb] at hnb
  clear O1 O2 hla hlb hsa hsb
  go_enter Try.func7, Try.ntmps7
  go_wp2_with fail
  (go_at_call 19; refine D1.out.mono ?_; rintro e w1 ⟨v1, m1, N1, rfl, ho1, h51, hq1⟩)
  have HO1 := Lib.hid ho1
  have HQ1 := Lib.hid hq1
  clear ho1 hq1
  go_wp2_with fail
  (go_at_call 19; refine (D2.out _ (HBb.out.below HO1.out.bel)).mono ?_; rintro e w2 ⟨v2, m2, N2, rfl, ho2, h52, hq2⟩)
  have B2 := Lib.hid (chain HO1.out.bel ho2.bel)
  have HOC := Lib.hid (HO1.out.below ho2.bel)
  have HQ2 := Lib.hid hq2
  clear ho2 hq2
  by_cases g1 : 2000 ≤ N1
  · have g1' : (2000 : Int) ≤ (N1 : Int) := by omega
    go_wp2_with (go_at_call 12; refine (alive_any _).mono ?_; rintro e w9 ⟨rfl, hb9⟩)
    go_ret
    exact ⟨rfl, chain B2.out hb9⟩
  have g1' : ¬ (2000 : Int) ≤ (N1 : Int) := by omega
  by_cases g2 : 2000 ≤ N2
  · have g2' : (2000 : Int) ≤ (N2 : Int) := by omega
    go_wp2_with (go_at_call 12; refine (alive_any _).mono ?_; rintro e w9 ⟨rfl, hb9⟩)
    go_ret
    exact ⟨rfl, chain B2.out hb9⟩
  have g2' : ¬ (2000 : Int) ≤ (N2 : Int) := by omega
  by_cases g3 : na ≠ nb
  · have g3' : ¬ (na : Int) = (nb : Int) := by omega
    have b3 : ((na : Int) != (nb : Int)) = true := by rw [bne_iff_ne]; exact g3'
    have b4 : ((na : Int) == (nb : Int)) = false := by rw [beq_eq_false_iff_ne]; exact g3'
    go_wp2_with (go_at_call 12; refine (alive_any _).mono ?_; rintro e w9 ⟨rfl, hb9⟩)
    go_ret
    exact ⟨rfl, chain B2.out hb9⟩
  obtain rfl : na = nb := by omega
  clear g3
  obtain ⟨hma, q1, q2⟩ := HQ1.out (by omega)
  obtain ⟨_, q3, q4⟩ := HQ2.out (by omega)
  rw [hma] at HOC
  have ela := HLA.out
  have elb := HLB.out
  have ok1 : okL a := fun p hp => ⟨(HSA.out p hp).1, by have := q1 p hp; omega⟩
  have ok2 : okL b := fun p hp => ⟨(HSB.out p hp).1, by have := q3 p hp; omega⟩
  have hn200 : na ≤ 200 := by omega
  have OK1 := Lib.hid ok1
  have OK2 := Lib.hid ok2
  have M0 := Lib.hid (show OP w (mixP a 0) v1 w2 by rw [mixP_zero]; exact HOC.out)
  clear hma q1 q2 q3 q4 ok1 ok2 ela elb g1 g2
  go_wp2_with fail
  go_loopw [9, 42] (fun s i wr => ∃ (k : Nat) (l : List Nat), k ≤ na ∧ i = .int .i64 k ∧ kindsOf (a.take k) = l ∧ s = .string (bytesN l) ∧ OP w (mixP a k) v1 wr ∧ (a.take k).map (·.i) = (b.take k).map (·.i)) (fun _ i _ => na - (intOf i).toNat)
  case atStart => exact ⟨0, [], Nat.zero_le _, rfl, rfl, rfl, M0.out, rfl⟩
  case round =>
    obtain ⟨k, l, hk, rfl, hl, rfl, hM, hK⟩ := hrel
    have HM := Lib.hid hM
    have HK := Lib.hid hK
    clear hM hK
    by_cases hlt : k < na
    · have hlt' : (k : Int) < (na : Int) := by omega
      obtain ⟨p, hp⟩ : ∃ p, a[k]? = some p := ⟨_, List.getElem?_eq_getElem (by have := HLA.out; omega)⟩
      obtain ⟨q, hq⟩ : ∃ q, b[k]? = some q := ⟨_, List.getElem?_eq_getElem (by have := HLB.out; omega)⟩
      obtain ⟨gA, offA, rfl, c0, c1, c2⟩ := (HA.out.below HM.out.bel) k p hp
      obtain ⟨gB, offB, rfl, d0, d1, d2⟩ := (HBb.out.below HM.out.bel) k q hq
      obtain ⟨A1, cap, hv, _, _⟩ := own_parts HM.out.own
      have hlen : (mixP a k).length = na := by rw [mixP_length]; exact HLA.out
      rw [hlen] at hv
      obtain ⟨g, hA1⟩ : ∃ g, A1 = some ⟨g, 0, none⟩ := by
        rcases HM.out.own.2 with ⟨_, h0⟩ | ⟨g, cap', cur, hv', _⟩
        · omega
        · rw [hv] at hv'
          injection hv' with e1
          exact ⟨g, e1⟩
      subst hA1
      subst hv
      have hll : l.length ≤ na := by rw [← hl, kindsOf, List.length_map, List.length_take]; omega
      have HP := Lib.hid hp
      have HQ := Lib.hid hq
      by_cases hpq : p.i = q.i
      · have NK := Lib.hid (map_next hp hq HK.out hpq)
        have KN := kinds_next hp
        rw [hl] at KN
        rw [← hpq] at d0
        cases hpi : p.i with
        | true =>
          rw [hpi] at c0 d0 KN
          have NL := Lib.hid (show kindsOf (a.take (k + 1)) = l ++ [105] from KN)
          have z1 : ¬ (bytesN l).size + (ByteArray.mk #[105]).size > 9223372036854775807 := by
            have : (ByteArray.mk #[105]).size = 1 := rfl
            rw [size_bytes, this]; omega
          have E2 := Lib.hid (show bytesN l ++ ByteArray.mk #[105] = bytesN (l ++ [105]) from bytes_one l 105)
          obtain ⟨s0, f0⟩ := OP.cellAt (k := k) (j := 2) hlen HM.out (flatP_get _ _ _ (mix_get hp)).2.2
          have NM := Lib.hid (fun q => OP.mix (j := 2) (u := .string ⟨#[]⟩) HLA.out (⟨HM.out.own, belowN HM.out.bel q⟩ : OP w (mixP a k) (.slice (some ⟨g, 0, none⟩) na cap) (wr.drewN q)) hp (by decide) (by simp [bareP, hpi]))
          clear hp hq hl hpi hpq KN hlen
          go_wp2_with fail
          go_quiet (fail)
          go_wp2_with fail
          exact ⟨⟨k + 1, l ++ [105], by omega, by go_num, NL.out, by rw [E2.out], NM.out _, NK.out⟩, by simp [intOf] <;> omega⟩
        | false =>
          rw [hpi] at c0 d0 KN
          have NL := Lib.hid (show kindsOf (a.take (k + 1)) = l ++ [116] from KN)
          have z1 : ¬ (bytesN l).size + (ByteArray.mk #[116]).size > 9223372036854775807 := by
            have : (ByteArray.mk #[116]).size = 1 := rfl
            rw [size_bytes, this]; omega
          have E2 := Lib.hid (show bytesN l ++ ByteArray.mk #[116] = bytesN (l ++ [116]) from bytes_one l 116)
          obtain ⟨s0, f0⟩ := OP.cellAt (k := k) (j := 1) hlen HM.out (flatP_get _ _ _ (mix_get hp)).2.1
          have NM := Lib.hid (fun q => OP.mix (j := 1) (u := .int .i64 0) HLA.out (⟨HM.out.own, belowN HM.out.bel q⟩ : OP w (mixP a k) (.slice (some ⟨g, 0, none⟩) na cap) (wr.drewN q)) hp (by decide) (by simp [bareP, hpi]))
          clear hp hq hl hpi hpq KN hlen
          go_wp2_with fail
          go_quiet (fail)
          go_wp2_with fail
          exact ⟨⟨k + 1, l ++ [116], by omega, by go_num, NL.out, by rw [E2.out], NM.out _, NK.out⟩, by simp [intOf] <;> omega⟩
      · cases hpi : p.i with
        | true =>
          have hqi : q.i = false := by
            cases hq2 : q.i with
            | true => exact absurd (hpi.trans hq2.symm) hpq
            | false => rfl
          rw [hpi] at c0
          rw [hqi] at d0
          clear hpi hqi
          clear hp hq hl hpq hlen
          go_wp2_with fail
          go_quiet (fail)
          go_wp2_with (go_at_call 12; refine (alive_any _).mono ?_; rintro e w9 ⟨rfl, hb9⟩)
          go_ret
          exact ⟨rfl, chain (belowN HM.out.bel _) hb9⟩
        | false =>
          have hqi : q.i = true := by
            cases hq2 : q.i with
            | false => exact absurd (hpi.trans hq2.symm) hpq
            | true => rfl
          rw [hpi] at c0
          rw [hqi] at d0
          clear hpi hqi
          clear hp hq hl hpq hlen
          go_wp2_with fail
          go_quiet (fail)
          go_wp2_with (go_at_call 12; refine (alive_any _).mono ?_; rintro e w9 ⟨rfl, hb9⟩)
          go_ret
          exact ⟨rfl, chain (belowN HM.out.bel _) hb9⟩
    · obtain rfl : k = na := by omega
      have hlt' : ¬ (k : Int) < (k : Int) := by omega
      have ela := HLA.out
      have elb := HLB.out
      have hta : a.take k = a := List.take_of_length_le (by omega)
      have htb : b.take k = b := List.take_of_length_le (by omega)
      have hKK := HK.out
      rw [hta, htb] at hKK
      rw [hta] at hl
      have op1 : okP a := fun p hp => (OK1.out p hp).1
      have op2 : okP b := fun p hp => (OK2.out p hp).1
      obtain ⟨F1, F2⟩ := order_facts op1 op2 hKK
      have SJ := spL_join op1
      have HM2 : OP w (a.map bareP) v1 wr := by have := HM.out; rw [← ela, mixP_all] at this; exact this
      obtain ⟨A1, c1, rfl, hP1, _⟩ := own_parts HM2.own
      have zj := joinS_size OK1.out (by omega)
      have J1 := fun w' (h : Parts w' A a) => join_any w' A c a h OK1.out (by omega)
      have J2 := fun w' (h : Parts w' B b) => join_any w' B d b h OK2.out (by omega)
      have K1 := fun w' (h : Parts w' A a) (h' : Parts w' B b) => compare_any w' A B c d a b h h' (by omega) (by omega)
      have hks : (bytesN (kindsOf a)).size ≤ 1048576 := by rw [size_bytes, kindsOf, List.length_map]; omega
      have P1 : ∀ w', Calls Try.prog 20 #[.string (joinS a), .string (bytesN (kindsOf a))] w' fun e w'' => ∃ A c, e = .returned (.tuple #[.slice A (a.map bareP).length c, .int .i64 0]) ∧ Parts w'' A (a.map bareP) ∧ Below w'.heap.size w' w'' := fun w' => by
        have h := split_any (joinS a) (bytesN (kindsOf a)) (by omega) hks w'
        unfold PartsPost at h
        rw [SJ] at h
        exact h
      have hml : (a.map bareP).length = k := by rw [List.length_map]; exact ela
      have S1 := fun w' A3 c3 A4 c4 (h : Parts w' A3 (a.map bareP)) (h' : Parts w' A4 (a.map bareP)) => same_any w' A3 A4 c3 c4 (a.map bareP) h h' (by omega)
      rw [hl] at P1
      simp only [hml] at P1 S1 ⊢
      simp only [ela] at J1 K1
      simp only [elb] at J2 K1
      have HJ1 := Lib.hid J1
      have HJ2 := Lib.hid J2
      have HK1 := Lib.hid K1
      have HP1 := Lib.hid P1
      have HS1 := Lib.hid S1
      have PA := Lib.hid (HA.out.below HM.out.bel)
      have PB := Lib.hid (HBb.out.below HM.out.bel)
      have PC := Lib.hid hP1
      have BM := Lib.hid HM.out.bel
      generalize a.map bareP = L at *
      generalize cmpL a b = cm at *
      generalize joinS a = x at *
      generalize joinS b = y at *
      clear J1 J2 K1 P1 S1 hP1 HM HM2 SJ zj hks hml hta htb hKK hl op1 op2 ela elb
      go_wp2_with fail
      (go_at_call 22; refine (HJ1.out _ PA.out).mono ?_; rintro e w3 ⟨rfl, hb3⟩)
      have B3 := Lib.hid (chain BM.out hb3)
      have PB := Lib.hid (PB.out.below hb3)
      have PA := Lib.hid (PA.out.below hb3)
      have PC := Lib.hid (PC.out.below hb3)
      clear hb3
      go_wp2_with fail
      (go_at_call 22; refine (HJ2.out _ PB.out).mono ?_; rintro e w4 ⟨rfl, hb4⟩)
      have B4 := Lib.hid (chain B3.out hb4)
      have PB := Lib.hid (PB.out.below hb4)
      have PA := Lib.hid (PA.out.below hb4)
      have PC := Lib.hid (PC.out.below hb4)
      clear hb4
      go_wp2_with fail
      (go_at_call 20; refine (HP1.out _).mono ?_; rintro e w5 ⟨A5, c5, rfl, hp5, hb5⟩)
      have B5 := Lib.hid (chain B4.out hb5)
      have PE := Lib.hid hp5
      have PB := Lib.hid (PB.out.below hb5)
      have PA := Lib.hid (PA.out.below hb5)
      have PC := Lib.hid (PC.out.below hb5)
      clear hb5 hp5
      go_wp2_with fail
      (go_at_call 24; refine (HK1.out _ PA.out PB.out).mono ?_; rintro e w6 ⟨rfl, hb6⟩)
      have B6 := Lib.hid (chain B5.out hb6)
      have PE := Lib.hid (PE.out.below hb6)
      have PC := Lib.hid (PC.out.below hb6)
      clear hb6
      go_wp2_with fail
      (go_at_call 26; refine (HS1.out _ _ _ _ _ PE.out PC.out).mono ?_; rintro e w7 ⟨rfl, hb7⟩)
      have B7 := Lib.hid (chain B6.out hb7)
      clear hb7
      go_wp2_with (go_at_call 12; refine (alive_any _).mono ?_; rintro e w8 ⟨rfl, hb8⟩)
      go_ret
      exact ⟨rfl, chain B7.out hb8⟩

end Go.Proofs.Ythbnaomhgmokkaa
