/-
  SortkeyJoins gives back true for any parts, bytes and kinds.
-/
import Derived.Test.YthbnaomhgmokkaaSalive
namespace Go.Proofs.Ythbnaomhgmokkaa
open Go.RowKit

theorem own_at (w : World) (A : Option Addr) (c : Nat) (l : List Prt) (hl : Parts w A l) (hs : ∀ p ∈ l, p.s.size ≤ 9223372036854775807) (hn : l.length ≤ 9223372036854775807) :
    Calls Try.prog 19 #[.slice A l.length c] w fun e w' => ∃ v m N, e = .returned (.tuple #[v, .int .i64 ((N : Nat) : Int)]) ∧ OP w m v w' ∧ N ≤ 5000 ∧ (N < 2000 → m = l ∧ (∀ p ∈ l, p.s.size < 2000) ∧ 10 * l.length ≤ N) := own_any w A c l hl hs hn

theorem splitP_len : ∀ ks s : List Nat, (splitP ks s).1.length ≤ ks.length
  | [], s => by unfold splitP; split <;> simp
  | k :: ks, s => by
    by_cases hk : k = 105
    · subst hk
      have ih := splitP_len ks (takI s).2.1
      rw [splitP]
      split
      · split
        · simp; omega
        · simp
      · simp
    · have ih := splitP_len ks (takT s).2.1
      rw [splitP]
      · split
        · split
          · simp; omega
          · simp
        · simp
      · exact hk
theorem spL_len (x y : ByteArray) : (spL x y).1.length ≤ y.size := by
  unfold spL
  split
  · have := splitP_len (nats y) (nats x)
    rw [nats_length] at this
    exact this
  · exact Nat.zero_le _
theorem dsplit_at (s kinds : ByteArray) (hs : s.size ≤ 1152921504606846976) (hk : kinds.size ≤ 1048576) (w : World) :
    Calls Try.prog 21 #[.string s, .string kinds] w fun e w' => ∃ A c, e = .returned (.tuple #[.slice A (spL s kinds).1.length c, .int .i64 (((spL s kinds).2 : Nat) : Int)]) ∧ Parts w' A (spL s kinds).1 ∧ Below w.heap.size w w' :=
  (dsplit_any s kinds hs hk w).mono fun e w' h => by
    obtain ⟨v, he, ho⟩ := h
    obtain ⟨A, c, hv, hP, _⟩ := own_parts ho.own
    subst hv
    exact ⟨A, c, he, hP, ho.bel⟩

set_option maxRecDepth 10000 in
set_option maxHeartbeats 8000000 in
theorem joins_walk (A B : Option Addr) (c d : Nat) (a b : List Prt) (x y : ByteArray) (w : World) (ha : Parts w A a) (hb : Parts w B b)
    (hsa : ∀ p ∈ a, isI p.n ∧ p.s.size ≤ 9223372036854775807) (hsb : ∀ p ∈ b, isI p.n ∧ p.s.size ≤ 9223372036854775807) (hna : a.length ≤ 9223372036854775807) (hnb : b.length ≤ 9223372036854775807)
    (hx : x.size ≤ 9223372036854775807) (hy : y.size ≤ 9223372036854775807) :
    Ret 6 #[.slice A a.length c, .slice B b.length d, .agg #[.string x, .string y]] w (.bool true) := by
  have HB := Lib.hid (show Below w.heap.size w (w.alloc (.cells #[.string x, .string y] 35)) from (bl w).alloc (Nat.le_refl _) _)
  obtain ⟨w0, hw0⟩ : ∃ W, w.alloc (.cells #[.string x, .string y] 35) = W := ⟨_, rfl⟩
  have k0 : w0.cell? ⟨w.heap.size, 0, none⟩ = some (.string x) := by rw [← hw0]; simp [go_sem]
  have k1 : w0.cell? ⟨w.heap.size, 1, none⟩ = some (.string y) := by rw [← hw0]; simp [go_sem]
  have HW := Lib.hid hw0
  rw [hw0] at HB
  clear hw0
  have HA := Lib.hid (ha.below HB.out)
  have HBb := Lib.hid (hb.below HB.out)
  clear ha hb
  obtain ⟨na, hla⟩ : ∃ n, a.length = n := ⟨_, rfl⟩
  obtain ⟨nb, hlb⟩ : ∃ n, b.length = n := ⟨_, rfl⟩
  have O1 := own_at w0 A c a HA.out (fun p hp => (hsa p hp).2) hna
  have O2 := fun w' (h : Parts w' B b) => own_at w' B d b h (fun p hp => (hsb p hp).2) hnb
  rw [hla] at O1 ⊢
  simp only [hlb] at O2 ⊢
  have D1 := Lib.hid O1
  have D2 := Lib.hid O2
  have HLA := Lib.hid hla
  have HLB := Lib.hid hlb
  have HSA := Lib.hid hsa
  have HSB := Lib.hid hsb
  clear O1 O2 hla hlb hsa hsb hna hnb
  go_enter Try.func6, Try.ntmps6
  go_upto_region 1 with fail
  rw [HW.out]
  go_wp2_with fail
  (go_at_call 19; refine D1.out.mono ?_; rintro e w1 ⟨v1, m1, N1, rfl, ho1, h51, hq1⟩)
  have B1 := Lib.hid (chain HB.out ho1.bel)
  have HO1 := Lib.hid ho1
  have HQ1 := Lib.hid hq1
  have k0 := keepc ho1.bel k0
  have k1 := keepc ho1.bel k1
  clear ho1 hq1
  go_wp2_with fail
  (go_at_call 19; refine (D2.out _ (HBb.out.below HO1.out.bel)).mono ?_; rintro e w2 ⟨v2, m2, N2, rfl, ho2, h52, hq2⟩)
  have B2 := Lib.hid (chain B1.out ho2.bel)
  have HO2 := Lib.hid ho2
  have HQ2 := Lib.hid hq2
  have k0 := keepc ho2.bel k0
  have k1 := keepc ho2.bel k1
  clear ho2 hq2
  by_cases g1 : 2000 ≤ N1
  · have g1' : (2000 : Int) ≤ (N1 : Int) := by omega
    go_wp2_with (go_at_call 12; refine (alive_any _).mono ?_; rintro e w9 ⟨rfl, hb9⟩)
    go_ret
    exact ⟨rfl, chain B2.out hb9⟩
  have g1' : ¬ (2000 : Int) ≤ (N1 : Int) := by omega
  by_cases g2 : 2000 ≤ N2
  · have g2' : (2000 : Int) ≤ (N2 : Int) := by omega
    go_wp2_with (go_at_call 12; refine (alive_any _).mono ?_; rintro e w9 ⟨rfl, hb9⟩)
    go_ret
    exact ⟨rfl, chain B2.out hb9⟩
  have g2' : ¬ (2000 : Int) ≤ (N2 : Int) := by omega
  by_cases g3 : 2000 < x.size
  · have g3' : (2000 : Int) < (x.size : Int) := by omega
    go_wp2_with (go_at_call 12; refine (alive_any _).mono ?_; rintro e w9 ⟨rfl, hb9⟩)
    go_ret
    exact ⟨rfl, chain B2.out hb9⟩
  have g3' : ¬ (2000 : Int) < (x.size : Int) := by omega
  by_cases g4 : 200 < y.size
  · have g4' : (200 : Int) < (y.size : Int) := by omega
    go_wp2_with (go_at_call 12; refine (alive_any _).mono ?_; rintro e w9 ⟨rfl, hb9⟩)
    go_ret
    exact ⟨rfl, chain B2.out hb9⟩
  have g4' : ¬ (200 : Int) < (y.size : Int) := by omega
  obtain ⟨rfl, q1, q2⟩ := HQ1.out (by omega)
  obtain ⟨rfl, q3, q4⟩ := HQ2.out (by omega)
  obtain ⟨A1, c1, rfl, hP1, _⟩ := own_parts HO1.out.own
  obtain ⟨A2, c2, rfl, hP2, _⟩ := own_parts HO2.out.own
  have ela := HLA.out
  have elb := HLB.out
  have ok1 : okL m1 := fun p hp => ⟨(HSA.out p hp).1, by have := q1 p hp; omega⟩
  have ok2 : okL m2 := fun p hp => ⟨(HSB.out p hp).1, by have := q3 p hp; omega⟩
  have J1 := fun w' (h : Parts w' A m1) => join_any w' A c m1 h ok1 (by omega)
  have J2 := fun w' (h : Parts w' A1 m1) => djoin_any w' A1 c1 m1 h ok1 (by omega)
  have K1 := fun w' (h : Parts w' A m1) (h' : Parts w' B m2) => compare_any w' A B c d m1 m2 h h' (by omega) (by omega)
  have K2 := fun w' (h : Parts w' A1 m1) (h' : Parts w' A2 m2) => dcompare_any w' A1 A2 c1 c2 m1 m2 h h' (by omega) (by omega)
  have P1 : ∀ w', Calls Try.prog 20 #[.string x, .string y] w' fun e w'' => ∃ A c, e = .returned (.tuple #[.slice A (spL x y).1.length c, .int .i64 (((spL x y).2 : Nat) : Int)]) ∧ Parts w'' A (spL x y).1 ∧ Below w'.heap.size w' w'' := split_any x y (by omega) (by omega)
  have P2 := dsplit_at x y (by omega) (by omega)
  have hsp := spL_len x y
  have S1 := fun w' A3 c3 A4 c4 (h : Parts w' A3 (spL x y).1) (h' : Parts w' A4 (spL x y).1) => same_any w' A3 A4 c3 c4 (spL x y).1 h h' (by omega)
  generalize joinS m1 = js at *
  generalize cmpL m1 m2 = cm at *
  generalize (spL x y).2 = E at *
  generalize (spL x y).1 = L at *
  obtain ⟨nt, hnt⟩ : ∃ n, L.length = n := ⟨_, rfl⟩
  simp only [ela] at J1 J2 K1 K2 ⊢
  simp only [elb] at K1 K2 ⊢
  simp only [hnt] at P1 P2 S1
  have HJ1 := Lib.hid J1
  have HJ2 := Lib.hid J2
  have HK1 := Lib.hid K1
  have HK2 := Lib.hid K2
  have HP1 := Lib.hid P1
  have HP2 := Lib.hid P2
  have HS1 := Lib.hid S1
  have PA := Lib.hid ((HA.out.below HO1.out.bel).below HO2.out.bel)
  have PB := Lib.hid ((HBb.out.below HO1.out.bel).below HO2.out.bel)
  have PC := Lib.hid (hP1.below HO2.out.bel)
  have PD := Lib.hid hP2
  clear J1 J2 K1 K2 P1 P2 S1 hP1 hP2 ok1 ok2 q1 q2 q3 q4 hsp hnt g1 g2 g3 g4 ela elb
  go_wp2_with fail
  (go_at_call 20; refine (HP1.out _).mono ?_; rintro e w3 ⟨A3, c3, rfl, hp3, hb3⟩)
  have B3 := Lib.hid (chain B2.out hb3)
  have PE := Lib.hid hp3
  have PA := Lib.hid (PA.out.below hb3)
  have PB := Lib.hid (PB.out.below hb3)
  have PC := Lib.hid (PC.out.below hb3)
  have PD := Lib.hid (PD.out.below hb3)
  have k0 := keepc hb3 k0
  have k1 := keepc hb3 k1
  clear hb3 hp3
  go_wp2_with fail
  (go_at_call 21; refine (HP2.out _).mono ?_; rintro e w4 ⟨A4, c4, rfl, hp4, hb4⟩)
  have B4 := Lib.hid (chain B3.out hb4)
  have PF := Lib.hid hp4
  have PA := Lib.hid (PA.out.below hb4)
  have PB := Lib.hid (PB.out.below hb4)
  have PC := Lib.hid (PC.out.below hb4)
  have PD := Lib.hid (PD.out.below hb4)
  have PE := Lib.hid (PE.out.below hb4)
  clear hb4 hp4 k0 k1
  go_wp2_with fail
  (go_at_call 22; refine (HJ1.out _ PA.out).mono ?_; rintro e w5 ⟨rfl, hb5⟩)
  have B5 := Lib.hid (chain B4.out hb5)
  have PC := Lib.hid (PC.out.below hb5)
  have H5 := Lib.hid hb5
  clear hb5
  go_wp2_with fail
  (go_at_call 23; refine (HJ2.out _ PC.out).mono ?_; rintro e w6 ⟨rfl, hb6⟩)
  have B6 := Lib.hid (chain B5.out hb6)
  have H6 := Lib.hid (chain H5.out hb6)
  have PC := Lib.hid (PC.out.below hb6)
  have PA := Lib.hid (PA.out.below H6.out)
  have PB := Lib.hid (PB.out.below H6.out)
  have PD := Lib.hid (PD.out.below H6.out)
  have PE := Lib.hid (PE.out.below H6.out)
  have PF := Lib.hid (PF.out.below H6.out)
  clear hb6
  go_wp2_with fail
  (go_at_call 24; refine (HK1.out _ PA.out PB.out).mono ?_; rintro e w7 ⟨rfl, hb7⟩)
  have B7 := Lib.hid (chain B6.out hb7)
  have PC := Lib.hid (PC.out.below hb7)
  have PD := Lib.hid (PD.out.below hb7)
  have PE := Lib.hid (PE.out.below hb7)
  have PF := Lib.hid (PF.out.below hb7)
  clear hb7
  go_wp2_with fail
  (go_at_call 25; refine (HK2.out _ PC.out PD.out).mono ?_; rintro e w8 ⟨rfl, hb8⟩)
  have B8 := Lib.hid (chain B7.out hb8)
  have PE := Lib.hid (PE.out.below hb8)
  have PF := Lib.hid (PF.out.below hb8)
  clear hb8
  go_wp2_with fail
  (go_at_call 26; refine (HS1.out _ _ _ _ _ PE.out PF.out).mono ?_; rintro e w9 ⟨rfl, hb9⟩)
  have B9 := Lib.hid (chain B8.out hb9)
  clear hb9
  go_wp2_with (go_at_call 12; refine (alive_any _).mono ?_; rintro e w10 ⟨rfl, hb10⟩)
  go_ret
  exact ⟨rfl, chain B9.out hb10⟩

end Go.Proofs.Ythbnaomhgmokkaa
