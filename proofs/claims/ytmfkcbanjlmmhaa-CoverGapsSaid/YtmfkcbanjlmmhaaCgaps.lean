/-
  CoverGaps gives back true for any span and any list: what the list leaves open within the span is as the document says; with what it has there the span is whole.
-/
import Derived.Test.YtmfkcbanjlmmhaaCsets
namespace Go.Proofs.Ytmfkcbanjlmmhaa
open Go.RowKit

theorem whole_gaps {m1 m3 m4 m5 l : List Sp} {f t : Int} (h1 : CovOf m1 (PickP (fun x y => x && !y) [(f, t)] l)) (h3 : CovOf m3 (PickP (fun x y => x && y) [(f, t)] l)) (h4 : CovOf m4 (PickP (fun x y => x || y) m1 m3)) (h5 : CovOf m5 (Mem [(f, t)])) : m4 = m5 := by
  refine h4.eq h5 fun x => ?_
  simp only [PickP, pick_mem h1, pick_mem h3]
  rw [← memB_iff]
  cases memB [(f, t)] x <;> cases memB l x <;> simp

theorem sp_one (W : World) (f t : Int) : Spans (W.alloc (.cells #[.int .i64 f, .int .i64 t] 36)).drew (some ⟨W.heap.size, 0, none⟩) [(f, t)] := spans_one (w := W) _
theorem sp_two1 (W : World) (f t : Int) : Spans ((W.alloc (.cells #[.int .i64 f, .int .i64 t] 36)).alloc (.cells #[.int .i64 f, .int .i64 t] 36)).drew (some ⟨W.heap.size, 0, none⟩) [(f, t)] := (spans_one (w := W) _).below (belowN ((bl _).alloc (Nat.le_refl _) _) 1)
theorem sp_two2 (W : World) (f t : Int) : Spans ((W.alloc (.cells #[.int .i64 f, .int .i64 t] 36)).alloc (.cells #[.int .i64 f, .int .i64 t] 36)).drew (some ⟨W.heap.size + 1, 0, none⟩) [(f, t)] := by
  have h := spans_one (w := W.alloc (.cells #[.int .i64 f, .int .i64 t] 36)) (f := f) (t := t) 36
  simp only [World.size_alloc] at h
  exact h
theorem sp_new (w : World) (f t : Int) : Spans (w.alloc (.cells #[.int .i64 f, .int .i64 t] 36)) (some ⟨w.heap.size, 0, none⟩) [(f, t)] := spans_one _
theorem and_one (w : World) (A B : Option Addr) (c d : Nat) (f t : Int) (l : List Sp) (ha : Spans w A [(f, t)]) (hb : Spans w B l) (hn : l.length ≤ 1000) :
    Calls Try.prog 17 #[.slice A 1 c, .slice B l.length d] w (CovPost (PickP (fun x y => x && y) [(f, t)] l) (2 + 2 * l.length) w) := by
  have h := and_any w A B c d [(f, t)] l ha hb (by simp; omega)
  simpa using h
theorem make_one (w : World) (A : Option Addr) (c : Nat) (f t : Int) (ha : Spans w A [(f, t)]) : Calls Try.prog 10 #[.slice A 1 c] w (CovPost (Mem [(f, t)]) 1 w) := by
  have h := make_any w A c [(f, t)] ha (by simp)
  simpa using h
theorem chainA {W u w1 : World} (h : Below W.heap.size W u) (o : Obj) (hb : Below (u.alloc o).heap.size (u.alloc o) w1) : Below W.heap.size W w1 := (h.alloc h.size o).trans (hb.mono (by have := h.size; simp; omega))
theorem bel1 (W : World) (o : Obj) : Below W.heap.size W (W.alloc o).drew := belowN ((bl W).alloc (Nat.le_refl _) o) 1
theorem bel2 (W : World) (o o' : Obj) : Below W.heap.size W ((W.alloc o).alloc o').drew := belowN (((bl W).alloc (Nat.le_refl _) o).alloc (by simp) o') 1

set_option maxRecDepth 10000 in
set_option maxHeartbeats 8000000 in
theorem gaps_walk (f t : Int) (A : Option Addr) (c : Nat) (l : List Sp) (w : World) (hl : Spans w A l) (hA : A = none → c = 0) :
    Calls Try.prog 7 #[sp f t, .slice A l.length c] w (Yes w) := by
  have HB := Lib.hid (show Below w.heap.size w (w.alloc (.cells #[.int .i64 f, .int .i64 t] 36)) from (bl w).alloc (Nat.le_refl _) _)
  obtain ⟨w0, hw0⟩ : ∃ W, w.alloc (.cells #[.int .i64 f, .int .i64 t] 36) = W := ⟨_, rfl⟩
  have a0 : w0.cell? ⟨w.heap.size, 0, none⟩ = some (.int .i64 f) := by rw [← hw0]; simp [go_sem]
  have a1 : w0.cell? ⟨w.heap.size, 1, none⟩ = some (.int .i64 t) := by rw [← hw0]; simp [go_sem]
  have HW := Lib.hid hw0
  rw [hw0] at HB
  clear hw0
  have HL := Lib.hid (hl.below (HB.out))
  clear hl
  by_cases hn : 60 < l.length
  · go_enter Try.func7, Try.ntmps7
    go_upto_region 1 with fail
    rw [HW.out]
    go_wp2_with (go_at_call 9; refine (alive_any _).mono ?_; rintro e w1 ⟨rfl, hb1⟩)
    go_ret
    exact ⟨rfl, chain HB.out hb1⟩
  · have hn' : l.length ≤ 60 := by omega
    go_enter Try.func7, Try.ntmps7
    go_upto_region 1 with fail
    rw [HW.out]
    go_wp2_with fail
    (go_at_call 23; refine (gaps_any _ _ _ _ _ l HL.out (by omega)).mono ?_; rintro e w1 ⟨A1, c1, m1, rfl, hs1, hc1, hm1, hb1⟩)
    have B1 := Lib.hid hb1
    have S1 := Lib.hid hs1
    have d0 := keepc hb1 a0
    have d1 := keepc hb1 a1
    clear hb1 hs1 a0 a1
    go_wp2_with fail
    (go_at_call 24; refine (dgaps_any _ _ _ _ _ l (HL.out.below B1.out) hA (by omega)).mono ?_; rintro e w2 ⟨A2, c2, m2, rfl, hs2, hc2, _, hb2⟩)
    obtain rfl : m2 = m1 := hc2.eq hc1 fun x => kind_less _ _ x
    have B2 := Lib.hid (chain B1.out hb2)
    have S12 := Lib.hid (S1.out.below hb2)
    have S2 := Lib.hid hs2
    have d0 := keepc hb2 d0
    have d1 := keepc hb2 d1
    have HC1 := Lib.hid hc1
    clear hb2 hs2 hc2 hc1 S1
    go_wp2_with fail
    (go_at_call 11; refine (same_same _ A1 A2 c1 c2 _ S12.out S2.out (by omega)).mono ?_; rintro e W ⟨rfl, hb3⟩)
    have B3 := Lib.hid (chain B2.out hb3)
    have SG := Lib.hid (S12.out.below hb3)
    have HLW := Lib.hid (HL.out.below B3.out)
    have d0 := keepc hb3 d0
    have d1 := keepc hb3 d1
    clear hb3 S12 S2
    go_wp2_with fail
    have mk : ∀ w', Below W.heap.size W w' → (Below W.heap.size W w' ∧ w'.cell? ⟨w.heap.size, 0, none⟩ = some (.int .i64 f) ∧ w'.cell? ⟨w.heap.size, 1, none⟩ = some (.int .i64 t)) := fun w' h => ⟨h, keepc h d0, keepc h d1⟩
    have MK := Lib.hid mk
    clear mk d0 d1
    have HM1 := Lib.hid hm1
    clear hm1
    go_region_held3 (fun w' => Below W.heap.size W w' ∧ w'.cell? ⟨w.heap.size, 0, none⟩ = some (.int .i64 f) ∧ w'.cell? ⟨w.heap.size, 1, none⟩ = some (.int .i64 t))
      (first | exact MK.out _ ((Below.refl _ _).drew) | exact MK.out _ BW8.out | exact MK.out _ BW7.out | exact MK.out _ BW6.out | exact MK.out _ BW5.out | exact MK.out _ BW4.out | exact MK.out _ (BW5.out.alloc BW5.out.size _) | exact MK.out _ (BW4.out.alloc BW4.out.size _) | exact MK.out _ (bel1 W _) | exact MK.out _ (bel2 W _ _) | fail)
      (first
        | (go_at_call 17; (with_reducible refine (and_one _ _ _ _ _ f t l (sp_one W f t) (HLW.out.below (bel1 W _)) (by omega)).mono ?_); rintro e w4 ⟨A3, c3, m3, rfl, hs3, hc3, hm3, hb4⟩; have BW4 := Lib.hid (chain (bel1 W _) hb4); have S3 := Lib.hid hs3; have HC3 := Lib.hid hc3; have HM3 := Lib.hid hm3; have SG4 := Lib.hid (SG.out.below BW4.out); clear hb4 hs3 hc3 hm3)
        | (go_at_call 17; (with_reducible refine (and_one _ _ _ _ _ f t l (sp_two1 W f t) (HLW.out.below (bel2 W _ _)) (by omega)).mono ?_); rintro e w4 ⟨A3, c3, m3, rfl, hs3, hc3, hm3, hb4⟩; have BW4 := Lib.hid (chain (bel2 W _ _) hb4); have S3 := Lib.hid hs3; have HC3 := Lib.hid hc3; have HM3 := Lib.hid hm3; have SG4 := Lib.hid (SG.out.below BW4.out); have E26 := Lib.hid ((sp_two2 W f t).below hb4); clear hb4 hs3 hc3 hm3)
        | (go_at_call 17; (with_reducible refine (and_one _ _ _ _ _ f t l (sp_two2 W f t) (HLW.out.below (bel2 W _ _)) (by omega)).mono ?_); rintro e w4 ⟨A3, c3, m3, rfl, hs3, hc3, hm3, hb4⟩; have BW4 := Lib.hid (chain (bel2 W _ _) hb4); have S3 := Lib.hid hs3; have HC3 := Lib.hid hc3; have HM3 := Lib.hid hm3; have SG4 := Lib.hid (SG.out.below BW4.out); have E26 := Lib.hid ((sp_two1 W f t).below hb4); clear hb4 hs3 hc3 hm3)
        | (go_at_call 15; (with_reducible refine (or_any _ _ _ _ _ _ m3 SG4.out S3.out (by have := HM1.out; have := HM3.out; simp at this ⊢; omega)).mono ?_); rintro e w5 ⟨A4, c4, m4, rfl, hs4, hc4, hm4, hb5⟩; have BW5 := Lib.hid (chain BW4.out hb5); have S4 := Lib.hid hs4; have HC4 := Lib.hid hc4; have HM4 := Lib.hid hm4; have E27 := Lib.hid (E26.out.below hb5); clear hb5 hs4 hc4 hm4)
        | (go_at_call 15; (with_reducible refine (or_any _ _ _ _ _ _ m3 SG4.out S3.out (by have := HM1.out; have := HM3.out; simp at this ⊢; omega)).mono ?_); rintro e w5 ⟨A4, c4, m4, rfl, hs4, hc4, hm4, hb5⟩; have BW5 := Lib.hid (chain BW4.out hb5); have S4 := Lib.hid hs4; have HC4 := Lib.hid hc4; have HM4 := Lib.hid hm4; clear hb5 hs4 hc4 hm4)
        | (go_at_call 15; (with_reducible refine (or_any _ _ _ _ _ _ m3 (SG4.out.below ((bl w4).alloc (Nat.le_refl _) _)) (S3.out.below ((bl w4).alloc (Nat.le_refl _) _)) (by have := HM1.out; have := HM3.out; simp at this ⊢; omega)).mono ?_); rintro e w5 ⟨A4, c4, m4, rfl, hs4, hc4, hm4, hb5⟩; have BW5 := Lib.hid (chainA BW4.out _ hb5); have S4 := Lib.hid hs4; have HC4 := Lib.hid hc4; have HM4 := Lib.hid hm4; have E27 := Lib.hid ((sp_new w4 f t).below hb5); clear hb5 hs4 hc4 hm4)
        | (go_at_call 10; (with_reducible refine (make_one _ _ _ f t E27.out).mono ?_); rintro e w6 ⟨A5, c5, m5, rfl, hs5, hc5, hm5, hb6⟩; have BW6 := Lib.hid (chain BW5.out hb6); have S5 := Lib.hid hs5; have EQ := whole_gaps HC1.out HC3.out HC4.out hc5; subst EQ; have S46 := Lib.hid (S4.out.below hb6); clear hb6 hs5 hc5 hm5)
        | (go_at_call 10; (with_reducible refine (make_one _ _ _ f t (sp_new w5 f t)).mono ?_); rintro e w6 ⟨A5, c5, m5, rfl, hs5, hc5, hm5, hb6⟩; have BW6 := Lib.hid (chainA BW5.out _ hb6); have S5 := Lib.hid hs5; have EQ := whole_gaps HC1.out HC3.out HC4.out hc5; subst EQ; have S46 := Lib.hid ((S4.out.below ((bl w5).alloc (Nat.le_refl _) _)).below hb6); clear hb6 hs5 hc5 hm5)
        | (go_at_call 11; (with_reducible refine (same_same _ _ _ _ _ _ S46.out S5.out (by have := HM4.out; have := HM1.out; have := HM3.out; simp at this ⊢; omega)).mono ?_); rintro e w7 ⟨rfl, hb7⟩; have BW7 := Lib.hid (chain BW6.out hb7); clear hb7)
        | (go_at_call 9; (with_reducible refine (alive_any _).mono ?_); rintro e w8 ⟨rfl, hb8⟩; have BW8 := Lib.hid (chain BW7.out hb8); clear hb8)
        | fail)
    all_goals
      go_wp2_with fail
      go_ret
      exact ⟨rfl, chain HB.out (chain B3.out BW8.out)⟩

end Go.Proofs.Ytmfkcbanjlmmhaa
