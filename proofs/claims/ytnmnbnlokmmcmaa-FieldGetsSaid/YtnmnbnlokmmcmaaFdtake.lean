/-
  The document's Take of fields.
-/
import Derived.Test.YtnmnbnlokmmcmaaFdput
namespace Go.Proofs.Ytnmnbnlokmmcmaa
open Go.RowKit

theorem ttR_sizeF (s : ByteArray) (most : Int) : (ttR s most).size ≤ s.size := by
  have hR := tkR_size s
  unfold ttR tt
  split
  · exact Nat.zero_le _
  · split
    · exact Nat.zero_le _
    · split
      · exact Nat.zero_le _
      · show ((tkR s).extract _ _).size ≤ _
        rw [ByteArray.size_extract]; omega
theorem ttS_sizeF (s : ByteArray) (most : Int) : (ttS s most).size ≤ s.size := by
  have hR := tkR_size s
  unfold ttS tt
  split
  · exact Nat.zero_le _
  · split
    · exact Nat.zero_le _
    · split
      · exact Nat.zero_le _
      · show ((tkR s).extract _ _).size ≤ _
        rw [ByteArray.size_extract]; omega
theorem abstract_worldT {P : Program} {code : Code} {Q : Exit → Act → World → Prop} {a : Act} {w : World} (R : World → Prop) (h0 : R w) (h : ∀ W, R W → Code.wp P code Q a W) : Code.wp P code Q a w := h w h0
theorem ret_lse {u : Value} {s t : ByteArray} {a b : Int} (h : s = t) (k : a = b) : Ending.returned (.tuple #[u, .string s, .int .i64 a]) = .returned (.tuple #[u, .string t, .int .i64 b]) := by rw [h, k]
/-- The name ahead of the place k. -/
def AheadOf (acc : List Fd) (k : Nat) (o : Option ByteArray) : Prop := (k = 0 ∧ o = none) ∨ ∃ j p, k = j + 1 ∧ acc[j]? = some p ∧ o = some p.n
/-- What Take answers. -/
def TakeFPost (s : ByteArray) (w : World) (e : Ending) (w' : World) : Prop := ∃ u, e = .returned (.tuple #[u, .string (takeF s).2.1, .int .i64 (((takeF s).2.2 : Nat) : Int)]) ∧ ListF w' u (takeF s).1 ∧ Below w.heap.size w w'
theorem takeF_end {s : ByteArray} {w w' : World} {u : Value} {l : List Fd} {r : ByteArray} {e : Nat} (h : takeF s = (l, r, e)) (hl : ListF w' u l) (hb : Below w.heap.size w w') : TakeFPost s w (.returned (.tuple #[u, .string r, .int .i64 (e : Int)])) w' :=
  ⟨u, by rw [h], by rw [h]; exact hl, hb⟩

set_option maxHeartbeats 4000000 in
set_option maxRecDepth 10000 in
theorem dtakef_any (s : ByteArray) (hs : s.size ≤ 4611686018427387903) (w : World) : Calls Try.prog 25 #[.string s] w (TakeFPost s w) := by
  have CN := Lib.hid (show Calls Try.prog 45 #[.string s] w fun e w' => e = .returned (.tuple #[.int .i64 (tkN s : Int), .string (tkR s), .int .i64 (tkE s : Int)]) ∧ Below w.heap.size w w' from dtake_any s hs w)
  have HZ := Lib.hid (tkR_size s)
  by_cases h0 : tkE s = 0
  · rw [h0] at CN
    by_cases h8 : 8 < tkN s
    · have HE := Lib.hid (show takeF s = ([], ⟨#[]⟩, 4) by unfold takeF; rw [if_neg (by omega), if_pos h8])
      have h8' : (8 : Int) < (tkN s : Int) := by omega
      generalize tkN s = n at *
      clear h0
      go_enter Try.func25, Try.ntmps25
      go_wp2_with (go_at_call 45; (with_reducible refine CN.out.mono ?_); rintro e w1 ⟨rfl, hb1⟩)
      go_ret3
      exact takeF_end HE.out (ListF.nil _) hb1
    · have HE := Lib.hid (show takeF s = goOn [] (takeG (tkN s) none (tkR s)) by
        rw [goOn_start _ (fun h => takeG_err h)]
        unfold takeF; rw [if_neg (by omega), if_neg h8])
      have h8' : ¬ (8 : Int) < (tkN s : Int) := by omega
      generalize tkN s = n at *
      obtain ⟨S0, hS0⟩ : ∃ S0, tkR s = S0 := ⟨_, rfl⟩
      rw [hS0] at CN HE HZ
      clear h0 hS0
      go_enter Try.func25, Try.ntmps25
      go_wp2_with (go_at_call 45; (with_reducible refine CN.out.mono ?_); rintro e w1 ⟨rfl, hb1⟩)
      have HB1 := Lib.hid hb1
      clear hb1
      go_loopw [0, 6, 7, 8] (fun a ee o i wr => ∃ (k : Nat) (S : ByteArray) (acc : List Fd) (pr : Option ByteArray), k ≤ n ∧ i = .int .i64 k ∧ a = .string S ∧ acc.length = k ∧ S.size ≤ 4611686018427387903 ∧ takeF s = goOn acc (takeG (n - k) pr S) ∧ AheadOf acc k pr ∧ OF w acc o wr) (fun _ _ _ i _ => n - (intOf i).toNat)
      case atStart => exact ⟨0, S0, [], none, Nat.zero_le _, rfl, rfl, rfl, by have := HZ.out; omega, HE.out, .inl ⟨rfl, rfl⟩, (OF.nil w).below HB1.out⟩
      case round =>
        obtain ⟨k, S, acc, pr, hk, rfl, rfl, hacc, hS, hT, hP, hO⟩ := hrel
        have HACC := Lib.hid hacc
        have HT := Lib.hid hT
        have HP := Lib.hid hP
        have HO := Lib.hid hO
        clear hacc hT hP hO
        by_cases hlt : k < n
        · have hlt' : (k : Int) < (n : Int) := by omega
          obtain ⟨m, hm⟩ : ∃ m, n - k = m + 1 := ⟨n - k - 1, by omega⟩
          rw [hm] at HT
          have HM := Lib.hid hm
          have CT := Lib.hid (show ∀ w, Calls Try.prog 46 #[.string S, .int .i64 12] w fun e w' => e = .returned (.tuple #[.string (ttS S 12), .string (ttR S 12), .int .i64 (ttE S 12 : Int)]) ∧ Below w.heap.size w w' from fun w => dtaketext_any S hS 12 w)
          have HZ2 := Lib.hid (ttR_sizeF S 12)
          have HZ1 := Lib.hid (show (ttS S 12).size ≤ 9223372036854775807 by have := ttS_sizeF S 12; omega)
          have GT := Lib.hid (fun h => goOn_text (acc := acc) (n := m) (o := pr) (s := S) h)
          have GF := Lib.hid (fun h h2 => goOn_form (acc := acc) (n := m) (o := pr) (s := S) h h2)
          have GI := Lib.hid (fun h h2 h3 => goOn_int (acc := acc) (n := m) (o := pr) (s := S) h h2 h3)
          have GN := Lib.hid (fun h h2 h3 => goOn_next (acc := acc) (n := m) (o := pr) (s := S) h h2 h3)
          generalize ttS S 12 = nm at *
          generalize ttR S 12 = S2 at *
          generalize ttE S 12 = tE at *
          clear hm
          obtain ⟨b, hb⟩ : ∃ b, wr.heap.size = b := ⟨_, rfl⟩
          have HBK := Lib.hid hb
          go_upto_region 12 with (go_at_call 46; (with_reducible refine (CT.out _).mono ?_); rintro e w2 ⟨rfl, hb2⟩; have HW2 := Lib.hid (FW.start (x := ⟨⟨#[]⟩, 0⟩) HO.out hb2); clear hb2; rw [HBK.out] at HW2; have x0 := HW2.out.c0; have y0 := HW2.out.f0)
          refine abstract_worldT (fun W => FW w acc u7 b ⟨nm, 0⟩ W) (HW2.out.set0 nm) ?_
          intro W hW
          have HW := Lib.hid hW
          clear hW x0 y0
          by_cases ht : tE = 0
          · subst ht
            have CNM := Lib.hid (fun w => dname_any nm HZ1.out w)
            have x0 := HW.out.c0
            obtain ⟨A, c, hu, hFa, hce, hne⟩ := HW.out.of.list
            rw [HACC.out] at hu
            subst hu
            cases hnm : nameB nm with
            | false =>
              have hbe : behindB pr nm = false := by cases pr <;> simp [behindB, hnm]
              rw [hnm] at CNM
              clear hnm hFa hce hne
              have HX := Lib.hid (show takeF s = ([], ⟨#[]⟩, 8) by rw [HT.out, GF.out rfl hbe])
              clear hbe
              go_wp2_with fail
              go_quiet (first | (go_at_call 13; exact (CNM.out _).mono fun e w' h => ⟨h.1, _, h.2⟩))
              go_wp2_with fail
              go_ret3
              exact takeF_end HX.out (ListF.nil _) (belowN HW.out.of.bel _)
            | true =>
              rw [hnm] at CNM
              rcases HP.out with ⟨hk0, hpr⟩ | ⟨j, p, hkj, hp, hpr⟩
              · have hbe : behindB pr nm = true := by rw [hpr, behindB, hnm]
                have kp : ¬ 0 < k := by omega
                have kq : decide (0 < k) = false := by rw [decide_eq_false_iff_not]; exact kp
                clear hnm hFa hce hne hk0 hpr
                have CI := Lib.hid (show ∀ w, Calls Try.prog 47 #[.string S2] w fun e w' => e = .returned (.tuple #[.int .i64 (unzig (tkN S2)), .string (tkR S2), .int .i64 (tkE S2 : Int)]) ∧ Below w.heap.size w w' from fun w => dtakeint_any S2 (by have := HZ2.out; omega) w)
                have GI2 := Lib.hid (fun h => (HT.out.trans (GI.out rfl hbe h)))
                have GN2 := Lib.hid (fun h => (HT.out.trans (GN.out rfl hbe h)))
                have HZ3 := Lib.hid (tkR_size S2)
                clear GI GN GF GT hbe
                generalize unzig (tkN S2) = vv at *
                generalize tkR S2 = S3 at *
                generalize tkE S2 = iE at *
                go_wp2_with fail
                go_quiet (first | (go_at_call 13; exact (CNM.out _).mono fun e w' h => ⟨h.1, _, h.2⟩))
                go_upto_region 17 with (go_at_call 47; (with_reducible refine (CI.out _).mono ?_); rintro e w3 ⟨rfl, hb3⟩; have HW3 := Lib.hid ((HW.out.drewN _).below hb3); clear hb3; have x1 := HW3.out.c1; have y1 := HW3.out.f1)
                refine abstract_worldT (fun W => FW w acc (.slice A k c) b ⟨nm, vv⟩ W) (HW3.out.set1 vv) ?_
                intro V hV
                have HV := Lib.hid hV
                clear hV x1 y1
                by_cases hi : iE = 0
                · subst hi
                  have HX := Lib.hid (GN2.out rfl)
                  have z0 := HV.out.c0
                  have z1 := HV.out.c1
                  go_wp2_with (first
                    | (at_builtin; refine wpList_appF rfl (.tmp 66) (.tmp 68) rfl (base := w.heap.size) rfl (World.ownsRow.alloc HV.out.of.own _) rfl rfl (field_one V ⟨nm, vv⟩ _) (by simp) (by have := HACC.out; simp; omega) (by have := HV.out.of.bel.size; simp; omega) ?_; intro v2 w4 hown4 hg4; have HO4 := Lib.hid ((HV.out.of.below ((bl V).alloc (Nat.le_refl _) _)).grown hg4 hown4)))
                  exact ⟨⟨k + 1, S3, _, some nm, by omega, by go_num, rfl, by rw [List.length_append, HACC.out]; rfl, by have := HZ2.out; have := HZ3.out; omega, by rw [HX.out, show n - (k + 1) = m by have := HM.out; omega], .inr ⟨k, ⟨nm, vv⟩, rfl, by rw [← HACC.out]; simp, rfl⟩, HO4.out⟩, by simp [intOf] <;> omega⟩
                · have hi' : ¬ (iE : Int) = 0 := by omega
                  have HX := Lib.hid (GI2.out hi)
                  go_wp2_with fail
                  go_ret3
                  exact takeF_end HX.out (ListF.nil _) HV.out.of.bel
              · obtain ⟨g, off, rfl, b0, _⟩ := hFa j p hp
                have w1 : IntKind.i64.wrap ((k : Int) - 1) = (j : Int) := by rw [IntKind.wrap_i64]; omega
                have kp : 0 < k := by omega
                have kq : decide (0 < k) = true := by rw [decide_eq_true_eq]; exact kp
                have jn : (j : Int) < (k : Int) := by omega
                have e1 := less_nats p.n nm
                clear hkj hp hce hne hFa
                cases ha : aheadB p.n nm with
                | false =>
                  have hbe : behindB pr nm = false := by rw [hpr, behindB, hnm, ha]; rfl
                  rw [show lessN (nats p.n) (nats nm) = false from ha] at e1
                  clear hnm ha hpr
                  have HX := Lib.hid (show takeF s = ([], ⟨#[]⟩, 8) by rw [HT.out, GF.out rfl hbe])
                  clear hbe
                  go_wp2_with fail
                  go_quiet (first | (go_at_call 13; exact (CNM.out _).mono fun e w' h => ⟨h.1, _, h.2⟩))
                  go_wp2_with fail
                  go_ret3
                  exact takeF_end HX.out (ListF.nil _) (belowN HW.out.of.bel _)
                | true =>
                  have hbe : behindB pr nm = true := by rw [hpr, behindB, hnm, ha]; rfl
                  rw [show lessN (nats p.n) (nats nm) = true from ha] at e1
                  clear hnm ha hpr
                  have CI := Lib.hid (show ∀ w, Calls Try.prog 47 #[.string S2] w fun e w' => e = .returned (.tuple #[.int .i64 (unzig (tkN S2)), .string (tkR S2), .int .i64 (tkE S2 : Int)]) ∧ Below w.heap.size w w' from fun w => dtakeint_any S2 (by have := HZ2.out; omega) w)
                  have GI2 := Lib.hid (fun h => (HT.out.trans (GI.out rfl hbe h)))
                  have GN2 := Lib.hid (fun h => (HT.out.trans (GN.out rfl hbe h)))
                  have HZ3 := Lib.hid (tkR_size S2)
                  clear GI GN GF GT hbe
                  generalize unzig (tkN S2) = vv at *
                  generalize tkR S2 = S3 at *
                  generalize tkE S2 = iE at *
                  go_wp2_with fail
                  go_quiet (first | (go_at_call 13; exact (CNM.out _).mono fun e w' h => ⟨h.1, _, h.2⟩))
                  go_upto_region 17 with (go_at_call 47; (with_reducible refine (CI.out _).mono ?_); rintro e w3 ⟨rfl, hb3⟩; have HW3 := Lib.hid ((HW.out.drewN _).below hb3); clear hb3; have x1 := HW3.out.c1; have y1 := HW3.out.f1)
                  refine abstract_worldT (fun W => FW w acc (.slice (some ⟨g, off, none⟩) k c) b ⟨nm, vv⟩ W) (HW3.out.set1 vv) ?_
                  intro V hV
                  have HV := Lib.hid hV
                  clear hV x1 y1
                  by_cases hi : iE = 0
                  · subst hi
                    have HX := Lib.hid (GN2.out rfl)
                    have z0 := HV.out.c0
                    have z1 := HV.out.c1
                    go_wp2_with (first
                      | (at_builtin; refine wpList_appF rfl (.tmp 66) (.tmp 68) rfl (base := w.heap.size) rfl (World.ownsRow.alloc HV.out.of.own _) rfl rfl (field_one V ⟨nm, vv⟩ _) (by simp) (by have := HACC.out; simp; omega) (by have := HV.out.of.bel.size; simp; omega) ?_; intro v2 w4 hown4 hg4; have HO4 := Lib.hid ((HV.out.of.below ((bl V).alloc (Nat.le_refl _) _)).grown hg4 hown4)))
                    exact ⟨⟨k + 1, S3, _, some nm, by omega, by go_num, rfl, by rw [List.length_append, HACC.out]; rfl, by have := HZ2.out; have := HZ3.out; omega, by rw [HX.out, show n - (k + 1) = m by have := HM.out; omega], .inr ⟨k, ⟨nm, vv⟩, rfl, by rw [← HACC.out]; simp, rfl⟩, HO4.out⟩, by simp [intOf] <;> omega⟩
                  · have hi' : ¬ (iE : Int) = 0 := by omega
                    have HX := Lib.hid (GI2.out hi)
                    go_wp2_with fail
                    go_ret3
                    exact takeF_end HX.out (ListF.nil _) HV.out.of.bel
          · have ht' : ¬ (tE : Int) = 0 := by omega
            have HX := Lib.hid (show takeF s = ([], ⟨#[]⟩, tE) by rw [HT.out, GT.out ht])
            go_wp2_with fail
            go_ret3
            exact takeF_end HX.out (ListF.nil _) HW.out.of.bel
        · obtain rfl : k = n := by omega
          have hlt' : ¬ (k : Int) < (k : Int) := by omega
          have HX := Lib.hid (show takeF s = (acc, S, 0) by rw [HT.out, Nat.sub_self, goOn_end])
          go_wp2_with fail
          go_ret3
          exact takeF_end HX.out HO.out.list HO.out.bel
  · have HE := Lib.hid (show takeF s = ([], ⟨#[]⟩, tkE s) by unfold takeF; rw [if_pos h0])
    have h0' : ¬ (tkE s : Int) = 0 := by omega
    generalize tkE s = z at *
    clear h0
    go_enter Try.func25, Try.ntmps25
    go_wp2_with (go_at_call 45; (with_reducible refine CN.out.mono ?_); rintro e w1 ⟨rfl, hb1⟩)
    go_ret3
    exact takeF_end HE.out (ListF.nil _) hb1

end Go.Proofs.Ytnmnbnlokmmcmaa
