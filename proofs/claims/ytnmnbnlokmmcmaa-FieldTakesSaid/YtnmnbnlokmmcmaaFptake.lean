/-
  The program's takeOne and Take: the fields that bytes begin with.
-/
import Derived.Test.YtnmnbnlokmmcmaaFpmake
namespace Go.Proofs.Ytnmnbnlokmmcmaa
open Go.RowKit

theorem two_setF {w : World} {b : Nat} {u0 u1 : Value} (x y : Value) (h0 : w.cell? ⟨b, 0, none⟩ = some u0) (h1 : w.cell? ⟨b, 1, none⟩ = some u1) :
    ((w.setCell ⟨b, 0, none⟩ x).setCell ⟨b, 1, none⟩ y).cell? ⟨b, 0, none⟩ = some x ∧ ((w.setCell ⟨b, 0, none⟩ x).setCell ⟨b, 1, none⟩ y).cell? ⟨b, 1, none⟩ = some y := by
  have a1 := (World.cell?_setCell_other w ⟨b, 0, none⟩ ⟨b, 1, none⟩ x (by simp)).trans h1
  exact ⟨(World.cell?_setCell_other _ _ _ _ (by simp)).trans (World.cell?_setCell_same _ _ _ h0), World.cell?_setCell_same _ _ _ a1⟩
theorem keep2F {w w2 : World} {T : TypeId} {u0 u1 : Value} (hb2 : Below (w.alloc (.cells #[u0, u1] T)).heap.size (w.alloc (.cells #[u0, u1] T)) w2) :
    (w2.cell? ⟨w.heap.size, 0, none⟩ = some u0 ∧ w2.cell? ⟨w.heap.size, 1, none⟩ = some u1) ∧ (w2.frozen? ⟨w.heap.size, 0, none⟩ = false ∧ w2.frozen? ⟨w.heap.size, 1, none⟩ = false) ∧ Below w.heap.size w w2 :=
  ⟨⟨keepc hb2 (by simp [go_sem]), keepc hb2 (by simp [go_sem])⟩, ⟨(hb2.frozen (p := ⟨w.heap.size, 0, none⟩) (by simp)).trans (by simp [go_sem]), (hb2.frozen (p := ⟨w.heap.size, 1, none⟩) (by simp)).trans (by simp [go_sem])⟩, ((bl w).alloc (Nat.le_refl _) _).trans (hb2.mono (by simp))⟩
theorem stay2F {w w2 w3 : World} {b : Nat} {u0 u1 : Value} (h : (w2.cell? ⟨b, 0, none⟩ = some u0 ∧ w2.cell? ⟨b, 1, none⟩ = some u1) ∧ (w2.frozen? ⟨b, 0, none⟩ = false ∧ w2.frozen? ⟨b, 1, none⟩ = false) ∧ Below w.heap.size w w2) (hb : Below w2.heap.size w2 w3) :
    (w3.cell? ⟨b, 0, none⟩ = some u0 ∧ w3.cell? ⟨b, 1, none⟩ = some u1) ∧ (w3.frozen? ⟨b, 0, none⟩ = false ∧ w3.frozen? ⟨b, 1, none⟩ = false) ∧ Below w.heap.size w w3 := by
  obtain ⟨⟨c0, c1⟩, ⟨f0, f1⟩, h2⟩ := h
  have hl := lt_of_cell c0
  exact ⟨⟨keepc hb c0, keepc hb c1⟩, ⟨(hb.frozen (p := ⟨b, 0, none⟩) hl).trans f0, (hb.frozen (p := ⟨b, 1, none⟩) hl).trans f1⟩, chain h2 hb⟩

/-- A field's block of the call's own, behind an append to another one. -/
theorem stay_oc {w2 w3 : World} {nm : ByteArray} {vv : Int} {v : Value} {T1 T2 : TypeId} (hg3 : ((w2.alloc (.cells #[.string nm, .int .i64 vv] T1)).alloc (.cells #[.string nm, .int .i64 vv] T2)).grownBy w3 v.ownBlock) (hne : v.ownBlock ≠ some w2.heap.size) : w3.cell? ⟨w2.heap.size, 0, none⟩ = some (.string nm) :=
  hg3.cell (a := ⟨w2.heap.size, 0, none⟩) (by simp [go_sem]) (fun e => hne e.symm)

/-- The field that s begins with, behind a name. -/
def oneT (p s : ByteArray) : Fd × ByteArray × Nat :=
  if ttE s 12 ≠ 0 then (⟨⟨#[]⟩, 0⟩, ⟨#[]⟩, ttE s 12)
  else if (nameB (ttS s 12) && aheadB p (ttS s 12)) = false then (⟨⟨#[]⟩, 0⟩, ⟨#[]⟩, 8)
  else if tkE (ttR s 12) ≠ 0 then (⟨⟨#[]⟩, 0⟩, ⟨#[]⟩, tkE (ttR s 12))
  else (⟨ttS s 12, unzig (tkN (ttR s 12))⟩, tkR (ttR s 12), 0)
def OnePost (p s : ByteArray) (w : World) (e : Ending) (w' : World) : Prop :=
  e = .returned (.tuple #[fv (oneT p s).1, .string (oneT p s).2.1, .int .i64 (((oneT p s).2.2 : Nat) : Int)]) ∧ Below w.heap.size w w'
theorem oneT_text {p s : ByteArray} (h : ttE s 12 ≠ 0) : oneT p s = (⟨⟨#[]⟩, 0⟩, ⟨#[]⟩, ttE s 12) := by unfold oneT; rw [if_pos h]
theorem oneT_form {p s : ByteArray} (h : ttE s 12 = 0) (h2 : (nameB (ttS s 12) && aheadB p (ttS s 12)) = false) : oneT p s = (⟨⟨#[]⟩, 0⟩, ⟨#[]⟩, 8) := by unfold oneT; rw [if_neg (by omega), if_pos h2]
theorem oneT_int {p s : ByteArray} (h : ttE s 12 = 0) (h2 : (nameB (ttS s 12) && aheadB p (ttS s 12)) = true) (h3 : tkE (ttR s 12) ≠ 0) : oneT p s = (⟨⟨#[]⟩, 0⟩, ⟨#[]⟩, tkE (ttR s 12)) := by
  unfold oneT; rw [if_neg (by omega), if_neg (by rw [h2]; simp), if_pos h3]
theorem oneT_good {p s : ByteArray} (h : ttE s 12 = 0) (h2 : (nameB (ttS s 12) && aheadB p (ttS s 12)) = true) (h3 : tkE (ttR s 12) = 0) : oneT p s = (⟨ttS s 12, unzig (tkN (ttR s 12))⟩, tkR (ttR s 12), 0) := by
  unfold oneT; rw [if_neg (by omega), if_neg (by rw [h2]; simp), if_neg (by omega)]

set_option maxHeartbeats 4000000 in
set_option maxRecDepth 100000 in
theorem takeOne_any (s p : ByteArray) (hs : s.size ≤ 4611686018427387903) (w : World) : Calls Try.prog 44 #[.string s, .string p] w (OnePost p s w) := by
  have CT := Lib.hid (show ∀ w, Calls Try.prog 57 #[.string s, .int .i64 12] w fun e w' => e = .returned (.tuple #[.string (ttS s 12), .string (ttR s 12), .int .i64 (ttE s 12 : Int)]) ∧ Below w.heap.size w w' from fun w => taketext_any s hs 12 w)
  have HZ2 := Lib.hid (ttR_sizeF s 12)
  have HZ1 := Lib.hid (show (ttS s 12).size ≤ 9223372036854775807 by have := ttS_sizeF s 12; omega)
  have OT := Lib.hid (fun h => oneT_text (p := p) (s := s) h)
  have OF1 := Lib.hid (fun h h2 => oneT_form (p := p) (s := s) h h2)
  have OI1 := Lib.hid (fun h h2 h3 => oneT_int (p := p) (s := s) h h2 h3)
  have OG := Lib.hid (fun h h2 h3 => oneT_good (p := p) (s := s) h h2 h3)
  unfold OnePost
  generalize oneT p s = t at *
  generalize ttS s 12 = nm at *
  generalize ttR s 12 = S2 at *
  generalize ttE s 12 = tE at *
  by_cases ht : tE = 0
  · subst ht
    have CNM := Lib.hid (fun w => pname_same nm HZ1.out w)
    cases hnm : nameB nm with
    | false =>
      rw [hnm] at CNM
      have HX := Lib.hid (OF1.out rfl (by rw [hnm]; rfl))
      clear hnm
      go_enter Try.func44, Try.ntmps44
      go_wp2_with (first
        | (go_at_call 57; (with_reducible refine (CT.out _).mono ?_); rintro e w2 ⟨rfl, hb2⟩; obtain ⟨⟨k0, k1⟩, ⟨f0, f1⟩, hb3⟩ := keep2F hb2; clear hb2)
        | (go_at_call 12; (with_reducible refine (CNM.out _).mono ?_); rintro e w3 ⟨rfl, hw3⟩; obtain rfl := hw3.symm))
      obtain ⟨q0, q1⟩ := two_setF (.string ⟨#[]⟩) (.int .i64 0) k0 k1
      refine bodyPost_ret (v := .tuple #[fv ⟨⟨#[]⟩, 0⟩, .string ⟨#[]⟩, .int .i64 8]) (by simp [results, Try.results44, go_sem, q0, q1]) rfl ⟨by rw [HX.out]; rfl, ?_⟩
      exact (hb3.setCell (Nat.le_refl _) _).setCell (Nat.le_refl _) _
    | true =>
      rw [hnm] at CNM
      cases ha : aheadB p nm with
      | false =>
        have HX := Lib.hid (OF1.out rfl (by rw [ha, Bool.and_false]))
        obtain ⟨e1, e2⟩ | ⟨e1, e2⟩ := leq_true ha
        all_goals
          clear hnm ha
          go_enter Try.func44, Try.ntmps44
          go_wp2_with (first
            | (go_at_call 57; (with_reducible refine (CT.out _).mono ?_); rintro e w2 ⟨rfl, hb2⟩; obtain ⟨⟨k0, k1⟩, ⟨f0, f1⟩, hb3⟩ := keep2F hb2; clear hb2)
            | (go_at_call 12; (with_reducible refine (CNM.out _).mono ?_); rintro e w3 ⟨rfl, hw3⟩; obtain rfl := hw3.symm))
          obtain ⟨q0, q1⟩ := two_setF (.string ⟨#[]⟩) (.int .i64 0) k0 k1
          refine bodyPost_ret (v := .tuple #[fv ⟨⟨#[]⟩, 0⟩, .string ⟨#[]⟩, .int .i64 8]) (by simp [results, Try.results44, go_sem, q0, q1]) rfl ⟨by rw [HX.out]; rfl, ?_⟩
          exact (hb3.setCell (Nat.le_refl _) _).setCell (Nat.le_refl _) _
      | true =>
        have hbe : (nameB nm && aheadB p nm) = true := by rw [hnm, ha]; rfl
        have CI := Lib.hid (show ∀ w, Calls Try.prog 58 #[.string S2] w fun e w' => e = .returned (.tuple #[.int .i64 (unzig (tkN S2)), .string (tkR S2), .int .i64 (tkE S2 : Int)]) ∧ Below w.heap.size w w' from fun w => takeint_any S2 (by have := HZ2.out; omega) w)
        have OI2 := Lib.hid (fun h => OI1.out rfl hbe h)
        have OG2 := Lib.hid (fun h => OG.out rfl hbe h)
        obtain ⟨e1, e2⟩ := leq_false ha
        clear hnm ha hbe OI1 OG OT OF1
        generalize unzig (tkN S2) = vv at *
        generalize tkR S2 = S3 at *
        generalize tkE S2 = iE at *
        by_cases hi : iE = 0
        · have HX := Lib.hid (OG2.out hi)
          subst hi
          go_enter Try.func44, Try.ntmps44
          go_wp2_with (first
            | (go_at_call 57; (with_reducible refine (CT.out _).mono ?_); rintro e w2 ⟨rfl, hb2⟩; have K2 := Lib.hid (keep2F hb2); clear hb2)
            | (go_at_call 12; (with_reducible refine (CNM.out _).mono ?_); rintro e w3 ⟨rfl, hw3⟩; obtain rfl := hw3.symm)
            | (go_at_call 58; (with_reducible refine (CI.out _).mono ?_); rintro e w4 ⟨rfl, hb4⟩; obtain ⟨⟨k0, k1⟩, ⟨f0, f1⟩, hb3⟩ := stay2F K2.out hb4; clear hb4))
          obtain ⟨q0, q1⟩ := two_setF (.string nm) (.int .i64 vv) k0 k1
          refine bodyPost_ret (v := .tuple #[fv ⟨nm, vv⟩, .string S3, .int .i64 0]) (by simp [results, Try.results44, go_sem, q0, q1]) rfl ⟨by rw [HX.out]; rfl, ?_⟩
          exact (hb3.setCell (Nat.le_refl _) _).setCell (Nat.le_refl _) _
        · have HX := Lib.hid (OI2.out hi)
          have hi' : ¬ (iE : Int) = 0 := by omega
          go_enter Try.func44, Try.ntmps44
          go_wp2_with (first
            | (go_at_call 57; (with_reducible refine (CT.out _).mono ?_); rintro e w2 ⟨rfl, hb2⟩; have K2 := Lib.hid (keep2F hb2); clear hb2)
            | (go_at_call 12; (with_reducible refine (CNM.out _).mono ?_); rintro e w3 ⟨rfl, hw3⟩; obtain rfl := hw3.symm)
            | (go_at_call 58; (with_reducible refine (CI.out _).mono ?_); rintro e w4 ⟨rfl, hb4⟩; obtain ⟨⟨k0, k1⟩, ⟨f0, f1⟩, hb3⟩ := stay2F K2.out hb4; clear hb4))
          obtain ⟨q0, q1⟩ := two_setF (.string ⟨#[]⟩) (.int .i64 0) k0 k1
          refine bodyPost_ret (v := .tuple #[fv ⟨⟨#[]⟩, 0⟩, .string ⟨#[]⟩, .int .i64 (iE : Int)]) (by simp [results, Try.results44, go_sem, q0, q1]) rfl ⟨by rw [HX.out], ?_⟩
          exact (hb3.setCell (Nat.le_refl _) _).setCell (Nat.le_refl _) _
  · have HX := Lib.hid (OT.out ht)
    have ht' : ¬ (tE : Int) = 0 := by omega
    go_enter Try.func44, Try.ntmps44
    go_wp2_with (first
      | (go_at_call 57; (with_reducible refine (CT.out _).mono ?_); rintro e w2 ⟨rfl, hb2⟩; obtain ⟨⟨k0, k1⟩, ⟨f0, f1⟩, hb3⟩ := keep2F hb2; clear hb2))
    obtain ⟨q0, q1⟩ := two_setF (.string ⟨#[]⟩) (.int .i64 0) k0 k1
    refine bodyPost_ret (v := .tuple #[fv ⟨⟨#[]⟩, 0⟩, .string ⟨#[]⟩, .int .i64 (tE : Int)]) (by simp [results, Try.results44, go_sem, q0, q1]) rfl ⟨by rw [HX.out], ?_⟩
    exact (hb3.setCell (Nat.le_refl _) _).setCell (Nat.le_refl _) _
theorem behind_ahead (o : Option ByteArray) (s : ByteArray) : behindB o s = (nameB s && aheadB (aheadS o) s) := by
  cases o with
  | some p => rfl
  | none =>
    show nameB s = (nameB s && aheadB ⟨#[]⟩ s)
    cases h : nameB s with
    | false => rfl
    | true => rw [name_pos h]; rfl
/-- One field more is taken, or none. -/
theorem oneT_go (acc : List Fd) (m : Nat) (o : Option ByteArray) (S : ByteArray) :
    ((oneT (aheadS o) S).2.2 ≠ 0 ∧ goOn acc (takeG (m + 1) o S) = ([], ⟨#[]⟩, (oneT (aheadS o) S).2.2)) ∨
    ((oneT (aheadS o) S).2.2 = 0 ∧ (oneT (aheadS o) S).2.1.size ≤ S.size ∧ goOn acc (takeG (m + 1) o S) = goOn (acc ++ [(oneT (aheadS o) S).1]) (takeG m (some (oneT (aheadS o) S).1.n) (oneT (aheadS o) S).2.1)) := by
  by_cases h1 : ttE S 12 = 0
  · cases hb : behindB o (ttS S 12) with
    | false =>
      left
      rw [oneT_form h1 (by rw [← behind_ahead]; exact hb)]
      exact ⟨by decide, goOn_form h1 hb⟩
    | true =>
      by_cases h3 : tkE (ttR S 12) = 0
      · right
        rw [oneT_good h1 (by rw [← behind_ahead]; exact hb) h3]
        exact ⟨rfl, Nat.le_trans (tkR_size _) (ttR_sizeF S 12), goOn_next h1 hb h3⟩
      · left
        rw [oneT_int h1 (by rw [← behind_ahead]; exact hb) h3]
        exact ⟨h3, goOn_int h1 hb h3⟩
  · left
    rw [oneT_text h1]
    exact ⟨h1, goOn_text h1⟩

set_option maxHeartbeats 4000000 in
set_option maxRecDepth 100000 in
theorem ptakef_any (s : ByteArray) (hs : s.size ≤ 4611686018427387903) (w : World) : Calls Try.prog 24 #[.string s] w (TakeFPost s w) := by
  have CN := Lib.hid (show Calls Try.prog 43 #[.string s] w fun e w' => e = .returned (.tuple #[.int .i64 (tkN s : Int), .string (tkR s), .int .i64 (tkE s : Int)]) ∧ Below w.heap.size w w' from take_any s hs w)
  have HN2 := tkN_lt s
  have HZ := Lib.hid (tkR_size s)
  by_cases h0 : tkE s = 0
  · have HE0 := Lib.hid h0
    by_cases h8 : 8 < tkN s
    · have HX := Lib.hid (show takeF s = ([], ⟨#[]⟩, 4) by unfold takeF; rw [if_neg (by omega), if_pos h8])
      rw [h0] at CN
      have h8' : (8 : Int) < (tkN s : Int) := by omega
      clear h0
      generalize tkN s = n at *
      generalize tkR s = S0 at *
      go_enter Try.func24, Try.ntmps24
      go_wp2_with (go_at_call 43; (with_reducible refine CN.out.mono ?_); rintro e w1 ⟨rfl, hb1⟩)
      go_ret3
      exact takeF_end HX.out (ListF.nil _) hb1
    · have h8' : ¬ (8 : Int) < (tkN s : Int) := by omega
      have HX := Lib.hid (show takeF s = goOn [] (takeG (tkN s) none (tkR s)) by
        rw [goOn_start _ (fun h => takeG_err h)]
        unfold takeF
        rw [if_neg (by omega), if_neg h8])
      rw [h0] at CN
      clear h0
      generalize tkN s = n at *
      generalize tkR s = S0 at *
      go_enter Try.func24, Try.ntmps24
      go_wp2_with (go_at_call 43; (with_reducible refine CN.out.mono ?_); rintro e w1 ⟨rfl, hb1⟩)
      have HB1 := Lib.hid hb1
      clear hb1
      go_loopw [6, 8, 9, 27] (fun a v p i wr => ∃ (k : Nat) (S : ByteArray) (acc : List Fd) (o : Option ByteArray), k ≤ n ∧ i = .int .i64 k ∧ a = .string S ∧ p = .string (aheadS o) ∧ acc.length = k ∧ S.size ≤ 4611686018427387903 ∧ takeF s = goOn acc (takeG (n - k) o S) ∧ OF w acc v wr) (fun _ _ _ i _ => n - (intOf i).toNat)
      case atStart => exact ⟨0, S0, [], none, Nat.zero_le _, rfl, rfl, rfl, rfl, by have := HZ.out; omega, HX.out, (OF.nil w).below HB1.out⟩
      case round =>
        obtain ⟨k, S, acc, o, hk, rfl, rfl, rfl, hacc, hS, hT, hO⟩ := hrel
        have HACC := Lib.hid hacc
        have HT := Lib.hid hT
        have HO := Lib.hid hO
        clear hacc hT hO
        by_cases hlt : k < n
        · have hlt' : (k : Int) < (n : Int) := by omega
          obtain ⟨m, hm⟩ : ∃ m, n - k = m + 1 := ⟨n - k - 1, by omega⟩
          rw [hm] at HT
          have HM := Lib.hid hm
          have CO := Lib.hid (show ∀ w, Calls Try.prog 44 #[.string S, .string (aheadS o)] w fun e w' => e = .returned (.tuple #[fv (oneT (aheadS o) S).1, .string (oneT (aheadS o) S).2.1, .int .i64 (((oneT (aheadS o) S).2.2 : Nat) : Int)]) ∧ Below w.heap.size w w' from fun w => takeOne_any S (aheadS o) hS w)
          have GO := oneT_go acc m o S
          generalize hp : aheadS o = pp at *
          obtain ⟨⟨⟨nm, vv⟩, S2, ee⟩, ht⟩ : ∃ t, oneT pp S = t := ⟨_, rfl⟩
          rw [ht] at CO GO
          clear ht hm
          rcases GO with ⟨he, hg⟩ | ⟨he, hz, hg⟩
          · have HX2 := Lib.hid (HT.out.trans hg)
            have he' : ¬ (ee : Int) = 0 := by have : ee ≠ 0 := he; omega
            clear he hg hp
            go_wp2_with (go_at_call 44; (with_reducible refine (CO.out _).mono ?_); rintro e w2 ⟨rfl, hb2⟩; have HB2 := Lib.hid ((chain HO.out.bel hb2).alloc (chain HO.out.bel hb2).size (oc ⟨nm, vv⟩)); clear hb2)
            go_ret3
            exact takeF_end HX2.out (ListF.nil _) HB2.out
          · obtain rfl : ee = 0 := he
            have HX2 := Lib.hid (HT.out.trans hg)
            have HZ2 := Lib.hid (show S2.size ≤ S.size from hz)
            clear hg hz hp
            go_wp2_with (first
              | (go_at_call 44; (with_reducible refine (CO.out _).mono ?_); rintro e w2 ⟨rfl, hb2⟩; have HNE := Lib.hid (HO.out.below hb2).ne; have HO2 := Lib.hid ((HO.out.below hb2).below ((bl w2).alloc (Nat.le_refl _) (oc ⟨nm, vv⟩))); have HO3 := Lib.hid (HO2.out.below ((bl _).alloc (Nat.le_refl _) (oc ⟨nm, vv⟩))); clear hb2)
              | (at_builtin; refine wpList_appF rfl (.tmp 39) (.tmp 41) rfl rfl HO3.out.own (xs := [⟨nm, vv⟩]) rfl rfl (field_cell (by simp [go_sem]) (by simp [go_sem])) (by simp) (by have := HACC.out; simp; omega) HO3.out.bel.size ?_; intro v' w3 hown3 hg3; have HN3 := Lib.hid (HO3.out.grown hg3 hown3); have x0 := stay_oc hg3 HNE.out; clear hown3 hg3)
              | go_in)
            exact ⟨⟨k + 1, S2, acc ++ [⟨nm, vv⟩], some nm, by omega, by go_num, rfl, rfl, by have := HACC.out; simp; omega, by have := HZ2.out; omega, by rw [HX2.out, show n - (k + 1) = m by have := HM.out; omega], HN3.out⟩, by simp [intOf] <;> omega⟩
        · obtain rfl : k = n := by omega
          have hlt' : ¬ (k : Int) < (k : Int) := by omega
          have HX2 := Lib.hid (show takeF s = (acc, S, 0) by rw [HT.out, Nat.sub_self, goOn_end])
          go_wp2_with fail
          go_ret3
          exact takeF_end HX2.out HO.out.list HO.out.bel
  · have HX := Lib.hid (show takeF s = ([], ⟨#[]⟩, tkE s) by unfold takeF; rw [if_pos h0])
    have h0' : ¬ (tkE s : Int) = 0 := by omega
    generalize tkN s = n at *
    generalize tkR s = S0 at *
    generalize tkE s = E at *
    go_enter Try.func24, Try.ntmps24
    go_wp2_with (go_at_call 43; (with_reducible refine CN.out.mono ?_); rintro e w1 ⟨rfl, hb1⟩)
    go_ret3
    exact takeF_end HX.out (ListF.nil _) hb1

end Go.Proofs.Ytnmnbnlokmmcmaa
