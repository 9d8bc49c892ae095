/-
  Texts joined into one: what the program's and the document's calls give back, piece by piece.
-/
import Derived.Test.YtaoobliajgcdmaaGreatMg1
import Derived.Test.YtaoobliajgcdmaaGreatMg2
import Derived.Test.YtaoobliajgcdmaaGreatMg3
import Derived.Test.YtaoobliajgcdmaaGreatMg4
import Derived.Test.YtaoobliajgcdmaaGreatMg5
import Derived.Test.YtaoobliajgcdmaaGreatMg6
import Derived.Test.YtaoobliajgcdmaaGreatMg7
import Derived.Test.YtaoobliajgcdmaaGreatRows
import Derived.BigQuiet
import Derived.ChangeAlike
import Derived.ChangeKeysEq
import Derived.Deep.AppendLies
import Derived.Deep.CutBlock
import Derived.Deep.CutRange
import Derived.Deep.Light
import Derived.Deep.QuietTactic
import Derived.Deep.RegionHeld3
import Derived.Deep.RegionLaw
import Derived.Handy
import Derived.Laws.BytesArg
import Derived.Laws.OwnMore
import Derived.Laws.Strings
import Derived.Laws.StructEq
import Derived.Lib.Hide
import Derived.Lib.SmallJoins
import Derived.Maps.AppendAt
import Derived.OneCell
import Derived.OwnWalk
import Derived.ProofKit
import Derived.RegionTactic
import Derived.StillTailTactics
import Derived.WalkArith
import Derived.WalkKit
import Derived.WalkLawsBesides
import Derived.WalkSpells
import Derived.Test.YtaoobliajgcdmaaGreatProg
import Derived.Deep.LoopGhost
import Derived.Deep.Upon
import Derived.IntWalk
import Derived.Lib.Bytealg
import Derived.Lib.OwnBridge
import Derived.Lib.QuietBelow
import Derived.LoopIn
import Derived.LoopNIn
import Derived.Maps.OwnSet
import Derived.Maps.RangeWalk
import Derived.OwnWalkIn
import Derived.RangeFuncBound
import Derived.RangeFuncBox
import Derived.RangeFuncCalls
import Derived.RangeFuncLeaves
import Derived.RangeFuncNested
import Derived.RangeFuncOwn
import Derived.Shelf.Abstract
import Derived.Shelf.RegionOpen
import Derived.Shelf.SlSortCmp.KitK
import Derived.Shelf.SlSortCmp.NoneTotal
import Derived.Sort.KeysCollected
import Derived.Sort.OwnSortedInts
import Derived.Sort.WalkB12
import Derived.Sort.WalkB2
import Derived.TacticsInMore

/-
  The document's Splice.
-/
namespace Go.Proofs.YtaoobliajgcdmaaGreat
open Go.RowKit

theorem endsP_next {l : List Pc} {t : Nat} {p : Pc} (h : l[t]? = some p) : (l.take (t + 1)).flatMap endsP = (l.take t).flatMap endsP ++ [p.f, p.t] := by
  rw [List.take_add_one, h, Option.toList_some, List.flatMap_append]
  simp [endsP]
theorem endsP_len (l : List Pc) : (l.flatMap endsP).length ≤ 2 * l.length := flat2_length endsP (fun _ => Nat.le_refl 2) l
theorem spliceV_few {a : Int × Int} {l m : List Pc} {n : Nat} (h : ∀ p ∈ l, p.fs.length ≤ n) (k : ∀ p ∈ m, p.fs.length ≤ n) : ∀ x s, spliceV a l m x = some s → s.length ≤ n := fun x s hs => by
  unfold spliceV at hs
  split at hs
  · exact fs_small k hs
  · exact fs_small h hs
theorem first_some {l : List Pc} {x : Int} (h : (fsP l x).isSome = true) : fsP l x = some (firstF l x) := by
  unfold firstF
  cases hf : fsP l x with
  | none => rw [hf] at h; cases h
  | some s => rfl
theorem first_none {l : List Pc} {x : Int} (h : (fsP l x).isSome = false) : fsP l x = none := by
  cases hf : fsP l x with
  | none => rfl
  | some s => rw [hf] at h; cases h

set_option maxHeartbeats 4000000 in
set_option maxRecDepth 100000 in
theorem dtsplice_any (w : World) (a : Int × Int) (u u' : Value) (l m : List Pc) (hl : PcsL w u l) (hm : PcsL w u' m) (hnl : l.length ≤ 200) (hnm : m.length ≤ 200) (hfl : ∀ p ∈ l, p.fs.length ≤ 1000000) (hfm : ∀ p ∈ m, p.fs.length ≤ 1000000) : Calls Tryz.prog 27 #[u, .agg #[.int .i64 a.1, .int .i64 a.2], u'] w fun e w' => ∃ x, e = .returned x ∧ HasTL w' x (spliceG a l m) ∧ Below w.heap.size w w' := by
  have CL := Lib.hid (fun w' (h : Below w.heap.size w w') => dtright_any w' u l (hl.below h) (by omega) (fun p hp => by have := hfl p hp; omega))
  have CM := Lib.hid (fun w' (h : Below w.heap.size w w') => dtright_any w' u' m (hm.below h) (by omega) (fun p hp => by have := hfm p hp; omega))
  have CAL := Lib.hid (fun w' (h : Below w.heap.size w w') (x : Int) => dtat_any w' u l x (hl.below h) (by omega))
  have CAM := Lib.hid (fun w' (h : Below w.heap.size w w') (x : Int) => dtat_any w' u' m x (hm.below h) (by omega))
  have HPL := Lib.hid hl
  have HFL := Lib.hid hl.2
  have HFM := Lib.hid hm.2
  obtain ⟨⟨A, c, rfl, hA, hc, hnc⟩, _⟩ := hl
  obtain ⟨⟨B, d, rfl, hB, hd, hnd⟩, _⟩ := hm
  have HA := Lib.hid hA
  have HB := Lib.hid hB
  have HSF := Lib.hid (spliceV_few (a := a) hfl hfm)
  obtain ⟨n, hn1⟩ : ∃ n, l.length = n := ⟨_, rfl⟩
  obtain ⟨nm, hn2⟩ : ∃ nm, m.length = nm := ⟨_, rfl⟩
  rw [hn1] at hnl hc CL CAL ⊢
  rw [hn2] at hnm hd CM CAM ⊢
  have HN1 := Lib.hid hn1
  have HN2 := Lib.hid hn2
  have HB1 := Lib.hid (show Below w.heap.size w (w.alloc (ocS a.1 a.2)) from (bl w).alloc (Nat.le_refl _) _)
  have HS1 := Lib.hid (boxS_new w a.1 a.2)
  have CR := Lib.hid (fun w => dright01_any a.1 a.2 w)
  rw [rightS_P] at CR
  clear hA hc hnc hB hd hnd hn1 hn2 hfl hfm
  cases hrl : rightT l with
  | false =>
    rw [hrl] at CL
    have HG := Lib.hid (show ∀ x, spliceG a l m x = none from fun x => by unfold spliceG; rw [hrl]; rfl)
    clear hrl
    go_enter Tryz.func27, Tryz.ntmps27
    go_wp2_with (go_at_call 18; (with_reducible refine (CL.out _ HB1.out).mono ?_); rintro e w2 ⟨rfl, hb2⟩)
    go_ret
    exact ⟨_, rfl, ⟨[], TimeL.nil _ _ HG.out⟩, chain HB1.out hb2⟩
  | true =>
    rw [hrl] at CL
    cases hrm : rightT m with
    | false =>
      rw [hrm] at CM
      have HG := Lib.hid (show ∀ x, spliceG a l m x = none from fun x => by unfold spliceG; rw [hrl, hrm]; rfl)
      clear hrl hrm
      go_enter Tryz.func27, Tryz.ntmps27
      go_wp2_with (first
        | (go_at_call 18; (with_reducible refine (CL.out _ HB1.out).mono ?_); rintro e w2 ⟨rfl, hb2⟩)
        | (go_at_call 18; (with_reducible refine (CM.out _ (chain HB1.out hb2)).mono ?_); rintro e w3 ⟨rfl, hb3⟩))
      go_ret
      exact ⟨_, rfl, ⟨[], TimeL.nil _ _ HG.out⟩, chain (chain HB1.out hb2) hb3⟩
    | true =>
      rw [hrm] at CM
      have HTL := Lib.hid ((rightT_iff l).1 hrl)
      have HTM := Lib.hid ((rightT_iff m).1 hrm)
      have HGG := Lib.hid (show ∀ x, (if rightP a.1 a.2 = true then spliceV a l m x else fsP l x) = spliceG a l m x from fun x => by unfold spliceG; rw [hrl, hrm]; rfl)
      clear hrl hrm
      cases hr : rightP a.1 a.2 with
      | false =>
        rw [hr] at CR HGG
        have HG := Lib.hid (show ∀ x, fsP l x = spliceG a l m x from fun x => by rw [← HGG.out]; rfl)
        clear hr
        go_enter Tryz.func27, Tryz.ntmps27
        go_wp2_with (first
          | (go_at_call 18; (with_reducible refine (CL.out _ HB1.out).mono ?_); rintro e w2 ⟨rfl, hb2⟩; have hw2 := chain HB1.out hb2)
          | (go_at_call 18; (with_reducible refine (CM.out _ hw2).mono ?_); rintro e w3 ⟨rfl, hb3⟩; have hw3 := chain hw2 hb3; obtain ⟨y0, y1⟩ := (HS1.out.below hb2).below hb3)
          | (go_at_call 29; (with_reducible refine (CR.out _).mono ?_); rintro e w4 ⟨rfl, hb4⟩; have HW4 := Lib.hid (chain hw3 hb4)))
        go_ret
        exact ⟨_, rfl, ⟨l, by have := HPL.out.below HW4.out; rwa [HN1.out] at this, HTL.out, HG.out, by have := HN1.out; omega⟩, HW4.out⟩
      | true =>
        rw [hr] at CR HGG
        have HRA := Lib.hid hr
        have HG := Lib.hid (show ∀ x, spliceV a l m x = spliceG a l m x from fun x => by rw [← HGG.out]; rfl)
        clear hr
        go_enter Tryz.func27, Tryz.ntmps27
        go_wp2_with (first
          | (go_at_call 18; (with_reducible refine (CL.out _ HB1.out).mono ?_); rintro e w2 ⟨rfl, hb2⟩; have hw2 := chain HB1.out hb2)
          | (go_at_call 18; (with_reducible refine (CM.out _ hw2).mono ?_); rintro e w3 ⟨rfl, hb3⟩; have hw3 := chain hw2 hb3; have HSX := Lib.hid ((HS1.out.below hb2).below hb3); obtain ⟨y0, y1⟩ := HSX.out)
          | (go_at_call 29; (with_reducible refine (CR.out _).mono ?_); rintro e w4 ⟨rfl, hb4⟩; have HW4 := Lib.hid (chain hw3 hb4); have HS4 := Lib.hid (HSX.out.below hb4); clear y0 y1; obtain ⟨y0, y1⟩ := HS4.out))
        have HE0 := Lib.hid (ends_new w4 a.1 a.2)
        clear y0 y1 hb2 hw2 hb3 hw3 hb4
        go_loopw [7, 8] (fun o i wr => ∃ (t : Nat) (zs : List Int), t ≤ n ∧ i = .int .i64 (t : Nat) ∧ zs = [a.1, a.2] ++ (l.take t).flatMap endsP ∧ OE EI w4 zs o wr) (fun _ i _ => n - (intOf i).toNat)
        case atStart => exact ⟨0, [a.1, a.2], Nat.zero_le _, rfl, rfl, HE0.out⟩
        case round =>
          obtain ⟨t, zs, ht, rfl, hzs, hO⟩ := hrel
          have HZS := Lib.hid hzs
          have HO := Lib.hid hO
          clear hzs hO
          have HLEN := Lib.hid (show zs.length ≤ 402 by
            rw [HZS.out]
            have := endsP_len (l.take t)
            rw [List.length_take] at this
            rw [List.length_append]
            simp only [List.length_cons, List.length_nil]
            omega)
          by_cases hlt : t < n
          · have hlt' : (t : Int) < (n : Int) := by omega
            obtain ⟨p, hx⟩ : ∃ p, l[t]? = some p := ⟨_, List.getElem?_eq_getElem (by have := HN1.out; omega)⟩
            obtain ⟨g, off, rfl, hX⟩ := (HA.out.below HW4.out).cells3 hx
            have NX := Lib.hid (show zs ++ [p.f, p.t] = [a.1, a.2] ++ (l.take (t + 1)).flatMap endsP by rw [endsP_next hx, ← List.append_assoc, ← HZS.out])
            have HOD := Lib.hid (HO.out.below ((bl wr).drew))
            have MK := Lib.hid (show ∀ w', Below w4.heap.size w4 w' → (Below w4.heap.size w4 w' ∧ Cells3 w' g (off + t * 3) p) from fun w' h => ⟨h, hX.below h⟩)
            clear hx hX
            go_upto_region 9 with fail
            first
              | (go_region_held3 (fun w' => Below w4.heap.size w4 w' ∧ Cells3 w' g (off + t * 3) p)
                  (first | exact MK.out _ HOD.out.bel | exact MK.out _ (HOD.out.bel.alloc HOD.out.bel.size _) | exact MK.out _ HN4.out.bel | fail)
                  (first
                    | (refine step_appE (E := EI) (xs := [p.f, p.t]) rfl (.tmp 37) (.tmp 50) rfl rfl rfl (World.ownsRow.alloc HOD.out.own _) rfl rfl (by have hrow := rowI_two wr.drew p.f p.t; first | exact hrow | (simp at hrow ⊢; exact hrow)) (fun h => by cases h) (by have := HLEN.out; simp; omega) (by have := HOD.out.bel.size; simp at this ⊢; omega) ?_; intro v' w6 hown6 hg6 _; have HN4 := Lib.hid ((HOD.out.below ((bl wr.drew).alloc (Nat.le_refl _) _)).grown hg6 hown6))
                    | fail))
              | fail
            go_wp2_with fail
            exact ⟨⟨t + 1, zs ++ [p.f, p.t], by omega, by go_num, NX.out, HN4.out⟩, by simp [intOf] <;> omega⟩
          · obtain rfl : t = n := by omega
            have hlt' : ¬ (t : Int) < (t : Int) := by omega
            have HZE := Lib.hid (show zs = [a.1, a.2] ++ l.flatMap endsP by rw [HZS.out, List.take_of_length_le (by have := HN1.out; omega)])
            go_wp2_with fail
            go_loopw [7, 9] (fun o i wr => ∃ (t : Nat) (zs : List Int), t ≤ nm ∧ i = .int .i64 (t : Nat) ∧ zs = [a.1, a.2] ++ l.flatMap endsP ++ (m.take t).flatMap endsP ∧ OE EI w4 zs o wr) (fun _ i _ => nm - (intOf i).toNat)
            case atStart => exact ⟨0, zs, Nat.zero_le _, rfl, by rw [HZE.out]; simp, HO.out⟩
            case round =>
              obtain ⟨t2, zs2, ht2, rfl, hzs2, hO2⟩ := hrel
              have HZ2 := Lib.hid hzs2
              have HP := Lib.hid hO2
              clear hzs2 hO2 HO
              have HLEN2 := Lib.hid (show zs2.length ≤ 802 by
                rw [HZ2.out]
                have h1 := endsP_len (m.take t2)
                have h2 := endsP_len l
                have := HN1.out
                rw [List.length_take] at h1
                rw [List.length_append, List.length_append]
                simp only [List.length_cons, List.length_nil]
                omega)
              by_cases hlt2 : t2 < nm
              · have hlt2' : (t2 : Int) < (nm : Int) := by omega
                obtain ⟨p, hx⟩ : ∃ p, m[t2]? = some p := ⟨_, List.getElem?_eq_getElem (by have := HN2.out; omega)⟩
                obtain ⟨g, off, rfl, hX⟩ := (HB.out.below HW4.out).cells3 hx
                have NX := Lib.hid (show zs2 ++ [p.f, p.t] = [a.1, a.2] ++ l.flatMap endsP ++ (m.take (t2 + 1)).flatMap endsP by rw [endsP_next hx, ← List.append_assoc, ← HZ2.out])
                have HOD := Lib.hid (HP.out.below ((bl wr).drew))
                have MK := Lib.hid (show ∀ w', Below w4.heap.size w4 w' → (Below w4.heap.size w4 w' ∧ Cells3 w' g (off + t2 * 3) p) from fun w' h => ⟨h, hX.below h⟩)
                clear hx hX
                go_upto_region 13 with fail
                first
                  | (go_region_held3 (fun w' => Below w4.heap.size w4 w' ∧ Cells3 w' g (off + t2 * 3) p)
                      (first | exact MK.out _ HOD.out.bel | exact MK.out _ (HOD.out.bel.alloc HOD.out.bel.size _) | exact MK.out _ HN4.out.bel | fail)
                      (first
                        | (refine step_appE (E := EI) (xs := [p.f, p.t]) rfl (.tmp 58) (.tmp 71) rfl rfl rfl (World.ownsRow.alloc HOD.out.own _) rfl rfl (by have hrow := rowI_two wr.drew p.f p.t; first | exact hrow | (simp at hrow ⊢; exact hrow)) (fun h => by cases h) (by have := HLEN2.out; simp; omega) (by have := HOD.out.bel.size; simp at this ⊢; omega) ?_; intro v' w6 hown6 hg6 _; have HN4 := Lib.hid ((HOD.out.below ((bl wr.drew).alloc (Nat.le_refl _) _)).grown hg6 hown6))
                        | fail))
                  | fail
                go_wp2_with fail
                exact ⟨⟨t2 + 1, zs2 ++ [p.f, p.t], by omega, by go_num, NX.out, HN4.out⟩, by simp [intOf] <;> omega⟩
              · obtain rfl : t2 = nm := by omega
                have hlt2' : ¬ (t2 : Int) < (t2 : Int) := by omega
                have HZE2 := Lib.hid (show zs2 = endsS a l m by rw [HZ2.out, List.take_of_length_le (by have := HN2.out; omega)]; rfl)
                obtain ⟨A5, c5, hv5, hr5, _⟩ := HP.out.list
                subst hv5
                have CRI := Lib.hid (Co.rise_any A5 c5 zs2 wr (rowI_ints hr5) (by have := HLEN2.out; omega))
                obtain ⟨ts, hts⟩ : ∃ ts, Co.riseL zs2 = ts := ⟨_, rfl⟩
                rw [hts] at CRI
                have HST := Lib.hid (show Steps ts (spliceV a l m) from steps_splice HRA.out HTL.out HTM.out (by rw [← hts]; exact Co.riseL_pw _) (fun y => by rw [← hts, Co.mem_riseL, HZE2.out]))
                have HTS := Lib.hid (show ts.length ≤ 802 by rw [← hts]; have := Co.riseL_length zs2; have := HLEN2.out; omega)
                have HPOS := Lib.hid (show 1 ≤ ts.length by
                  have : a.1 ∈ ts := by rw [← hts, Co.mem_riseL, HZE2.out]; simp [endsS]
                  exact List.length_pos_of_mem this)
                clear hr5 hts
                obtain ⟨nz, hnz⟩ : ∃ nz, zs2.length = nz := ⟨_, rfl⟩
                rw [hnz] at CRI ⊢
                clear hnz
                have HW6 := Lib.hid (chain HW4.out HP.out.bel)
                have HSB6 := Lib.hid (HS4.out.below HP.out.bel)
                go_wp2_with (go_at_call 41; (with_reducible refine CRI.out.mono ?_); rintro e w5 ⟨v5, rfl, hown5, hb5⟩; have HW5 := Lib.hid (chain HW6.out hb5); have HS5 := Lib.hid (HSB6.out.below hb5); obtain ⟨A6, c6, rfl, hI6⟩ := Co.own_ints hown5; have HI := Lib.hid hI6; clear hown5 hI6 hb5)
                obtain ⟨n2, hn2⟩ : ∃ n2, ts.length = n2 := ⟨_, rfl⟩
                have HN3 := Lib.hid hn2
                rw [hn2] at HTS HPOS ⊢
                have h802 := HTS.out
                have hpos := HPOS.out
                have HPFL := Lib.hid (show ∀ p ∈ l, PF w5 p from fun p hp => (HFL.out p hp).below HW5.out)
                have HPFM := Lib.hid (show ∀ p ∈ m, PF w5 p from fun p hp => (HFM.out p hp).below HW5.out)
                clear hn2
                go_loopw [10, 11] (fun o i wq => ∃ (k : Nat) (L : List Pc), k + 1 ≤ n2 ∧ i = .int .i64 (k : Nat) ∧ MadeT ts (spliceV a l m) k L ∧ OutP w5 L o wq) (fun _ i _ => n2 - (intOf i).toNat)
                case atStart => exact ⟨0, [], hpos, rfl, MadeT.start HST.out, OutP.nil w5⟩
                case round =>
                  obtain ⟨wq, hwqe⟩ : ∃ wq, wq = wr := ⟨_, rfl⟩
                  subst hwqe
                  obtain ⟨k, L, hk, rfl, hM, hOq⟩ := hrel
                  have HM := Lib.hid hM
                  have HOQ := Lib.hid hOq
                  clear hM hOq
                  obtain ⟨m2, hm2⟩ : ∃ m2, k + 1 = m2 := ⟨_, rfl⟩
                  have HMM := Lib.hid hm2
                  have hk1 : IntKind.i64.wrap ((k : Int) + 1) = (m2 : Int) := by rw [IntWalk.i64_in _ (by omega)]; omega
                  by_cases hlt3 : k + 1 < n2
                  · have hlt3' : (m2 : Int) < (n2 : Int) := by omega
                    have hlt3n : m2 < n2 := by omega
                    obtain ⟨e1, he1⟩ : ∃ e, ts[k]? = some e := ⟨_, List.getElem?_eq_getElem (by have := HN3.out; omega)⟩
                    obtain ⟨e2, he2⟩ : ∃ e, ts[k + 1]? = some e := ⟨_, List.getElem?_eq_getElem (by have := HN3.out; omega)⟩
                    obtain ⟨gi, oi, rfl, hc1⟩ := HI.out k e1 he1
                    obtain ⟨gi', oi', he, hc2⟩ := HI.out (k + 1) e2 he2
                    injection he with he
                    injection he with q1 q2 _
                    subst q1 q2
                    have HC1 := Lib.hid hc1
                    have HC2 := Lib.hid (show w5.cell? ⟨gi, oi + m2, none⟩ = some (.int .i64 e2) by rw [← hm2]; exact hc2)
                    have HE1 := Lib.hid he1
                    have HE2 := Lib.hid he2
                    have HFW := Lib.hid (made_few HM.out he1 HSF.out)
                    have HLL := Lib.hid HM.out.len
                    have hkn : (k : Int) < (n2 : Int) := by omega
                    have hkn2 : k < n2 := by omega
                    have HWQ := Lib.hid (chain HW5.out HOQ.out.bel)
                    have HK1 := Lib.hid hlt3
                    have k1c := keepc HOQ.out.bel hc1
                    have CA1 := Lib.hid (CAL.out wq (chain HW5.out HOQ.out.bel) e1)
                    have CH := Lib.hid (fun w => dhas01_any a.1 a.2 e1 w)
                    rw [hasS_P] at CH
                    have HSV := Lib.hid (show spliceV a l m e1 = if inP a.1 a.2 e1 = true then fsP m e1 else fsP l e1 from rfl)
                    have MK := Lib.hid (show ∀ w', Below w5.heap.size w5 w' → (Below w5.heap.size w5 w' ∧ w'.cell? ⟨gi, oi + k, none⟩ = some (.int .i64 e1) ∧ w'.cell? ⟨gi, oi + m2, none⟩ = some (.int .i64 e2) ∧ BoxS w' w.heap.size a.1 a.2) from fun w' h => ⟨h, keepc h HC1.out, keepc h HC2.out, HS5.out.below h⟩)
                    generalize inP a.1 a.2 e1 = hb at *
                    obtain ⟨sl, hsl⟩ : ∃ sl, firstF l e1 = sl := ⟨_, rfl⟩
                    obtain ⟨isl, hisl⟩ : ∃ isl, (fsP l e1).isSome = isl := ⟨_, rfl⟩
                    rw [hsl, hisl] at CA1
                    have HSL := Lib.hid hsl
                    have HISL := Lib.hid hisl
                    clear hc1 hc2 he1 he2 hm2 hlt3 hsl hisl
                    go_upto_region 20 with (go_at_call 17; (with_reducible refine CA1.out.mono ?_); rintro e w6 ⟨A7, c7, rfl, had7, hb6⟩; have HAD := Lib.hid had7; have HO6 := Lib.hid (HOQ.out.below hb6); clear had7 hb6 k1c)
                    first
                      | (go_region_held3 (fun w' => Below w5.heap.size w5 w' ∧ w'.cell? ⟨gi, oi + k, none⟩ = some (.int .i64 e1) ∧ w'.cell? ⟨gi, oi + m2, none⟩ = some (.int .i64 e2) ∧ BoxS w' w.heap.size a.1 a.2)
                          (first | exact MK.out _ (HO6.out.below ((bl w6).drew)).bel | exact MK.out _ hb1 | fail)
                          (first | (go_at_call 30; (with_reducible refine (CH.out _).mono ?_); (rintro e w1 ⟨rfl, hb0⟩); (have HO7 := Lib.hid ((HO6.out.below ((bl w6).drew)).below hb0)); (have hb1 := HO7.out.bel); clear hb0) | fail))
                      | fail
                    cases hb with
                    | true =>
                      obtain ⟨sm, hsm⟩ : ∃ sm, firstF m e1 = sm := ⟨_, rfl⟩
                      obtain ⟨ism, hism⟩ : ∃ ism, (fsP m e1).isSome = ism := ⟨_, rfl⟩
                      have CA2 := Lib.hid (CAM.out w1 (chain HW5.out hb1) e1)
                      rw [hsm, hism] at CA2
                      have HSM := Lib.hid hsm
                      have HISM := Lib.hid hism
                      obtain ⟨_, k1c, _, _⟩ := MK.out _ hb1
                      clear hsm hism
                      cases ism with
                      | false =>
                        have NM := Lib.hid (HM.out.skip HST.out HE1.out HE2.out (by rw [HSV.out, if_pos rfl]; exact first_none HISM.out))
                        go_wp2_with (go_at_call 17; (with_reducible refine CA2.out.mono ?_); rintro e w8 ⟨A9, c9, rfl, _, hb8⟩; have HO8 := Lib.hid (HO7.out.below hb8); clear hb8 k1c)
                        exact ⟨⟨k + 1, L, by have := HK1.out; omega, by have := HMM.out; go_num, NM.out, HO8.out⟩, by have := HMM.out; simp [intOf] <;> omega⟩
                      | true =>
                        have NM := Lib.hid (fun A c => HM.out.next HST.out (p := ⟨e1, e2, A, c, sm⟩) HE1.out HE2.out (by rw [HSV.out, if_pos rfl, first_some HISM.out, HSM.out]))
                        have HAF := Lib.hid (show sm.length ≤ 1000000 from HSF.out e1 _ (by rw [HSV.out, if_pos rfl, first_some HISM.out, HSM.out]))
                        go_upto_region 23 with (go_at_call 17; (with_reducible refine CA2.out.mono ?_); rintro e w8 ⟨A9, c9, rfl, had9, hb8⟩; have HO8 := Lib.hid ((HO7.out.below hb8).below ((bl w8).drew)); have HKP := Lib.hid (show KP w8.drew _ ⟨e1, e2, A9, c9, sm⟩ from HO8.out.old (by have := AtD.pf had9 HPFM.out e1 e2; rwa [HSM.out] at this)); clear hb8 k1c had9)
                        first
                          | (go_region_held3 (fun w' => Below w5.heap.size w5 w' ∧ w'.cell? ⟨gi, oi + k, none⟩ = some (.int .i64 e1) ∧ w'.cell? ⟨gi, oi + m2, none⟩ = some (.int .i64 e2) ∧ BoxS w' w.heap.size a.1 a.2)
                              (first | exact MK.out _ HO8.out.bel | exact MK.out _ hb9 | fail)
                              (first
                                | (go_at_call 42; (with_reducible refine (dtput_any HO8.out HKP.out (by have := HLL.out; omega) (fun q hq => by have := HFW.out q hq; omega) (by have := HAF.out; show sm.length ≤ _; omega)).mono ?_); (rintro e w9 ⟨v9, rfl, hO9⟩); (have HO9 := Lib.hid hO9); (have hb9 := HO9.out.bel); clear hO9)
                                | fail))
                          | fail
                        go_wp2_with fail
                        exact ⟨⟨k + 1, _, by have := HK1.out; omega, by have := HMM.out; go_num, NM.out _ _, HO9.out⟩, by have := HMM.out; simp [intOf] <;> omega⟩
                    | false =>
                      cases isl with
                      | false =>
                        have NM := Lib.hid (HM.out.skip HST.out HE1.out HE2.out (by rw [HSV.out, if_neg (by simp)]; exact first_none HISL.out))
                        go_wp2_with fail
                        exact ⟨⟨k + 1, L, by have := HK1.out; omega, by have := HMM.out; go_num, NM.out, HO7.out⟩, by have := HMM.out; simp [intOf] <;> omega⟩
                      | true =>
                        have NM := Lib.hid (fun A c => HM.out.next HST.out (p := ⟨e1, e2, A, c, sl⟩) HE1.out HE2.out (by rw [HSV.out, if_neg (by simp), first_some HISL.out, HSL.out]))
                        have HAF := Lib.hid (show sl.length ≤ 1000000 from HSF.out e1 _ (by rw [HSV.out, if_neg (by simp), first_some HISL.out, HSL.out]))
                        have HO8 := Lib.hid (HO7.out.below ((bl w1).drew))
                        have HKP := Lib.hid (show KP w1.drew _ ⟨e1, e2, A7, c7, sl⟩ from HO8.out.old (by have := AtD.pf HAD.out HPFL.out e1 e2; rwa [HSL.out] at this))
                        go_upto_region 23 with fail
                        first
                          | (go_region_held3 (fun w' => Below w5.heap.size w5 w' ∧ w'.cell? ⟨gi, oi + k, none⟩ = some (.int .i64 e1) ∧ w'.cell? ⟨gi, oi + m2, none⟩ = some (.int .i64 e2) ∧ BoxS w' w.heap.size a.1 a.2)
                              (first | exact MK.out _ HO8.out.bel | exact MK.out _ hb9 | fail)
                              (first
                                | (go_at_call 42; (with_reducible refine (dtput_any HO8.out HKP.out (by have := HLL.out; omega) (fun q hq => by have := HFW.out q hq; omega) (by have := HAF.out; show sl.length ≤ _; omega)).mono ?_); (rintro e w9 ⟨v9, rfl, hO9⟩); (have HO9 := Lib.hid hO9); (have hb9 := HO9.out.bel); clear hO9)
                                | fail))
                          | fail
                        go_wp2_with fail
                        exact ⟨⟨k + 1, _, by have := HK1.out; omega, by have := HMM.out; go_num, NM.out _ _, HO9.out⟩, by have := HMM.out; simp [intOf] <;> omega⟩
                  · have hlt3' : ¬ (m2 : Int) < (n2 : Int) := by omega
                    obtain ⟨htl, hfs⟩ := HM.out.stop HST.out (by have := HN3.out; omega)
                    have HT := Lib.hid (show HasTL wq u10 (spliceG a l m) from ⟨L, HOQ.out.pcs, htl, fun x => (hfs x).trans (HG.out x), by have := HM.out.len; omega⟩)
                    have HWZ := Lib.hid (chain HW5.out HOQ.out.bel)
                    clear htl hfs
                    go_wp2_with fail
                    go_ret
                    exact ⟨_, rfl, HT.out, HWZ.out⟩

end Go.Proofs.YtaoobliajgcdmaaGreat

/-
  TimelineTurns and TimelineClips give back true.
-/
namespace Go.Proofs.YtaoobliajgcdmaaGreat
open Go.RowKit

theorem HasTL.below {w w' : World} {u : Value} {g : Int → Option (List Fd)} (h : HasTL w u g) (hb : Below w.heap.size w w') : HasTL w' u g := by
  obtain ⟨R, hR⟩ := h
  exact ⟨R, hR.below hb⟩
/-- Two lists that are the timelines of one thing are the same, by the document and by the program. -/
theorem dsame_tl (w : World) (x y : Value) (g : Int → Option (List Fd)) (n : Nat) (hn : n ≤ 1000000) (hg : ∀ t s, g t = some s → s.length ≤ n) (hx : HasTL w x g) (hy : HasTL w y g) : Ret 12 #[x, y] w (.bool true) := by
  obtain ⟨R, hR⟩ := hx
  obtain ⟨Q, hQ⟩ := hy
  have hf := hR.few hg
  have hq := hQ.few hg
  have := dtsame_any w x y R Q hR.pcs hQ.pcs (by have := hR.len; omega) (fun p hp => by have := hf p hp; omega) (fun p hp => by have := hq p hp; omega)
  rwa [timel_same hR hQ] at this
theorem psame_tl (w : World) (x y : Value) (g : Int → Option (List Fd)) (n : Nat) (hn : n ≤ 1000000) (hg : ∀ t s, g t = some s → s.length ≤ n) (hx : HasTL w x g) (hy : HasTL w y g) : Ret 23 #[x, y] w (.bool true) := by
  obtain ⟨R, hR⟩ := hx
  obtain ⟨Q, hQ⟩ := hy
  have hf := hR.few hg
  have hq := hQ.few hg
  have := ptsame_any w x y R Q hR.pcs hQ.pcs (by have := hR.len; omega) (fun p hp => by have := hf p hp; omega) (fun p hp => by have := hq p hp; omega)
  rwa [timel_same hR hQ] at this

set_option maxHeartbeats 4000000 in
set_option maxRecDepth 100000 in
theorem turns11_walk (u u' : Value) (l m : List Pc) (a : Int × Int) (w : World) (hl : PcsL w u l) (hm : PcsL w u' m) (hn : l.length ≤ 9223372036854775807) (hnm : m.length ≤ 9223372036854775807) : Ret 5 #[u, u', .agg #[.int .i64 a.1, .int .i64 a.2]] w (.bool true) := by
  have CAL := Lib.hid alive11_any
  have CF := Lib.hid (fun w' (h : Below w.heap.size w w') => dtfew_any w' u l 60 (hl.below h).1 hn)
  have CG := Lib.hid (fun w' (h : Below w.heap.size w w') => dtfew_any w' u' m 60 (hm.below h).1 hnm)
  have HB1 := Lib.hid (show Below w.heap.size w (w.alloc (ocS a.1 a.2)) from (bl w).alloc (Nat.le_refl _) _)
  have HS1 := Lib.hid (boxS_new w a.1 a.2)
  cases hf : fewP l 60 with
  | false =>
    rw [hf] at CF
    clear hf hl hm hn hnm CG
    go_enter Tryz.func5, Tryz.ntmps5
    go_wp2_with (first
      | (go_at_call 15; (with_reducible refine (CF.out _ HB1.out).mono ?_); rintro e w1 ⟨rfl, hw1⟩; obtain rfl := hw1.symm)
      | (go_at_call 10; (with_reducible refine (CAL.out _).mono ?_); rintro e w2 ⟨rfl, hb2⟩))
    go_ret
    exact ⟨rfl, chain HB1.out hb2⟩
  | true =>
    rw [hf] at CF
    cases hg : fewP m 60 with
    | false =>
      rw [hg] at CG
      clear hf hg hl hm hn hnm
      go_enter Tryz.func5, Tryz.ntmps5
      go_wp2_with (first
        | (go_at_call 15; (with_reducible refine (CF.out _ HB1.out).mono ?_); rintro e w1 ⟨rfl, hw1⟩; obtain rfl := hw1.symm)
        | (go_at_call 15; (with_reducible refine (CG.out _ HB1.out).mono ?_); rintro e w1 ⟨rfl, hw1⟩; obtain rfl := hw1.symm)
        | (go_at_call 10; (with_reducible refine (CAL.out _).mono ?_); rintro e w2 ⟨rfl, hb2⟩))
      go_ret
      exact ⟨rfl, chain HB1.out hb2⟩
    | true =>
      rw [hg] at CG
      obtain ⟨h1, h2⟩ := few_pieces hf
      obtain ⟨k1, k2⟩ := few_pieces hg
      have CP1 := Lib.hid (fun w' (h : Below w.heap.size w w') => ptclip_any w' a u l (hl.below h) (by omega) (fun p hp => by have := h2 p hp; omega))
      have CD1 := Lib.hid (fun w' (h : Below w.heap.size w w') => dtclip_any w' a u l (hl.below h) (by omega) (fun p hp => by have := h2 p hp; omega))
      have CP2 := Lib.hid (fun w' (h : Below w.heap.size w w') => ptsplice_any w' a u u' l m (hl.below h) (hm.below h) (by omega) (by omega) (fun p hp => by have := h2 p hp; omega) (fun p hp => by have := k2 p hp; omega))
      have CD2 := Lib.hid (fun w' (h : Below w.heap.size w w') => dtsplice_any w' a u u' l m (hl.below h) (hm.below h) (by omega) (by omega) (fun p hp => by have := h2 p hp; omega) (fun p hp => by have := k2 p hp; omega))
      have CS1 := Lib.hid (fun w' x y => dsame_tl w' x y (clipG a l) 20 (by omega) (clipG_few h2))
      have CS2 := Lib.hid (fun w' x y => dsame_tl w' x y (spliceG a l m) 20 (by omega) (spliceG_few h2 k2))
      have MK := Lib.hid (show ∀ w', Below (w.alloc (ocS a.1 a.2)).heap.size (w.alloc (ocS a.1 a.2)) w' → (Below (w.alloc (ocS a.1 a.2)).heap.size (w.alloc (ocS a.1 a.2)) w' ∧ BoxS w' w.heap.size a.1 a.2) from fun w' h => ⟨h, HS1.out.below h⟩)
      generalize clipG a l = g1 at *
      generalize spliceG a l m = g2 at *
      clear hf hg hl hm hn hnm h1 h2 k1 k2
      go_enter Tryz.func5, Tryz.ntmps5
      go_upto_region 3 with (first
        | (go_at_call 15; (with_reducible refine (CF.out _ HB1.out).mono ?_); rintro e w1 ⟨rfl, hw1⟩; obtain rfl := hw1.symm)
        | (go_at_call 15; (with_reducible refine (CG.out _ HB1.out).mono ?_); rintro e w1 ⟨rfl, hw1⟩; obtain rfl := hw1.symm))
      first
        | (go_region_held3 (fun w' => Below (w.alloc (ocS a.1 a.2)).heap.size (w.alloc (ocS a.1 a.2)) w' ∧ BoxS w' w.heap.size a.1 a.2)
            (first | exact MK.out _ ((bl (w.alloc (ocS a.1 a.2))).drew) | exact MK.out _ hb8 | exact MK.out _ hb7 | exact MK.out _ hb6 | exact MK.out _ hb5 | exact MK.out _ hb4 | exact MK.out _ hb3 | exact MK.out _ hb2 | fail)
            (first
              | (go_at_call 24; (with_reducible refine (CP1.out _ (chain HB1.out (by go_split_ands; assumption))).mono ?_); (rintro e w2 ⟨x2, rfl, hx2, hb0⟩); (have hb2 := chain (by go_split_ands; assumption) hb0); (have HX2 := Lib.hid hx2); clear hb0 hx2)
              | (go_at_call 25; (with_reducible refine (CD1.out _ (chain HB1.out hb2)).mono ?_); (rintro e w3 ⟨x3, rfl, hx3, hb0⟩); (have hb3 := chain hb2 hb0); (have HX3 := Lib.hid hx3); (have HY3 := Lib.hid (HX2.out.below hb0)); clear hb0 hx3)
              | (go_at_call 12; (with_reducible refine (CS1.out _ _ _ HY3.out HX3.out).mono ?_); (rintro e w4 ⟨rfl, hb0⟩); (have hb4 := chain hb3 hb0); clear hb0)
              | (go_at_call 26; (with_reducible refine (CP2.out _ (chain HB1.out hb4)).mono ?_); (rintro e w5 ⟨x5, rfl, hx5, hb0⟩); (have hb5 := chain hb4 hb0); (have HX5 := Lib.hid hx5); clear hb0 hx5)
              | (go_at_call 27; (with_reducible refine (CD2.out _ (chain HB1.out hb5)).mono ?_); (rintro e w6 ⟨x6, rfl, hx6, hb0⟩); (have hb6 := chain hb5 hb0); (have HX6 := Lib.hid hx6); (have HY6 := Lib.hid (HX5.out.below hb0)); clear hb0 hx6)
              | (go_at_call 12; (with_reducible refine (CS2.out _ _ _ HY6.out HX6.out).mono ?_); (rintro e w7 ⟨rfl, hb0⟩); (have hb7 := chain hb6 hb0); clear hb0)
              | (go_at_call 10; (with_reducible refine (CAL.out _).mono ?_); (rintro e w8 ⟨rfl, hb0⟩); (have hb8 := chain hb7 hb0); clear hb0)
              | fail))
        | fail
      go_wp2_with fail
      go_ret
      exact ⟨rfl, chain HB1.out hb8⟩

abbrev metX (a b : Int × Int) : Int × Int := (Co.meetF a.1 a.2 b.1 b.2, Co.meetT a.1 a.2 b.1 b.2)
/-- Clip of what Make told, and Splice of that again. -/
theorem clip_tl_of (w : World) (a b : Int × Int) (l : List Vr) (hf : fewV l) (_h60 : l.length ≤ 60) (y : Value) (hy : HasTL w y (makeV a l)) : Calls Tryz.prog 24 #[.agg #[.int .i64 b.1, .int .i64 b.2], y] w fun e w' => ∃ x, e = .returned x ∧ HasTL w' x (makeV (metX a b) l) ∧ Below w.heap.size w w' := by
  obtain ⟨R, hR⟩ := hy
  have hfew := hR.few (makeV_few hf)
  refine (ptclip_any w b y R hR.pcs hR.len (fun p hp => by have := hfew p hp; omega)).mono ?_
  rintro e w' ⟨x, he, ⟨Q, hQ⟩, hb⟩
  refine ⟨x, he, ⟨Q, hQ.mono fun t => ?_⟩, hb⟩
  rw [clipG, (rightT_iff R).2 hR.tl, if_pos rfl]
  exact clip_make a b l hR.fs t
theorem splice_tl_of (w : World) (a b : Int × Int) (l : List Vr) (hf : fewV l) (h60 : l.length ≤ 60) (y z : Value) (hy : HasTL w y (makeV a l)) (hz : HasTL w z (makeV (metX a b) l)) : Calls Tryz.prog 26 #[y, .agg #[.int .i64 b.1, .int .i64 b.2], z] w fun e w' => ∃ x, e = .returned x ∧ HasTL w' x (makeV a l) ∧ Below w.heap.size w w' := by
  obtain ⟨R, hR⟩ := hy
  obtain ⟨C, hC⟩ := hz
  have hfR := hR.few (makeV_few hf)
  have hfC := hC.few (makeV_few hf)
  have lR := make_len hR.tl hR.fs
  have lC := make_len hC.tl hC.fs
  refine (ptsplice_any w b y z R C hR.pcs hC.pcs (by omega) (by omega) (fun p hp => by have := hfR p hp; omega) (fun p hp => by have := hfC p hp; omega)).mono ?_
  rintro e w' ⟨x, he, ⟨Q, hQ⟩, hb⟩
  refine ⟨x, he, ⟨Q, hQ.mono fun t => ?_⟩, hb⟩
  rw [spliceG, (rightT_iff R).2 hR.tl, (rightT_iff C).2 hC.tl]
  simp only [Bool.and_self, if_true]
  cases hrb : rightP b.1 b.2 with
  | false => rw [if_neg (by simp)]; exact hR.fs t
  | true =>
    rw [if_pos rfl, ← hR.fs t, ← splice_back hrb t, spliceV, spliceV, hC.fs t, clip_make a b l hR.fs t]

set_option maxHeartbeats 4000000 in
set_option maxRecDepth 100000 in
theorem clips11_walk (a b : Int × Int) (u : Value) (l : List Vr) (w : World) (hl : VersL w u l) (hok : ∀ v ∈ l, okF v.fs) (hn : l.length ≤ 9223372036854775807) : Ret 8 #[.agg #[.int .i64 a.1, .int .i64 a.2], .agg #[.int .i64 b.1, .int .i64 b.2], u] w (.bool true) := by
  have CAL := Lib.hid alive11_any
  have CF := Lib.hid (fun w' (h : Below w.heap.size w w') => dfew_any w' u l 60 (hl.below h).1 hn)
  have HB2 := Lib.hid (show Below w.heap.size w ((w.alloc (ocS a.1 a.2)).alloc (ocS b.1 b.2)) from ((bl w).alloc (Nat.le_refl _) _).alloc (by simp) _)
  have HS1 := Lib.hid (show BoxS ((w.alloc (ocS a.1 a.2)).alloc (ocS b.1 b.2)) w.heap.size a.1 a.2 from (boxS_new w a.1 a.2).below ((bl _).alloc (Nat.le_refl _) _))
  have HS2 := Lib.hid (show BoxS ((w.alloc (ocS a.1 a.2)).alloc (ocS b.1 b.2)) (w.heap.size + 1) b.1 b.2 by
    have h := boxS_new (w.alloc (ocS a.1 a.2)) b.1 b.2
    rwa [show (w.alloc (ocS a.1 a.2)).heap.size = w.heap.size + 1 by simp] at h)
  cases hf : fewB l 60 with
  | false =>
    rw [hf] at CF
    clear hf hl hok hn
    go_enter Tryz.func8, Tryz.ntmps8
    go_wp2_with (first
      | (go_at_call 9; (with_reducible refine (CF.out _ HB2.out).mono ?_); rintro e w1 ⟨rfl, hw1⟩; obtain rfl := hw1.symm)
      | (go_at_call 10; (with_reducible refine (CAL.out _).mono ?_); rintro e w2 ⟨rfl, hb2⟩))
    go_ret
    exact ⟨rfl, chain HB2.out hb2⟩
  | true =>
    obtain ⟨hfew, h60⟩ := few60 hf
    rw [hf] at CF
    have CP := Lib.hid (fun w' (h : Below w.heap.size w w') => ptmake_any w' a u l (hl.below h) hfew hok)
    have CX := Lib.hid (fun w' (h : Below w.heap.size w w') => ptmake_any w' (metX a b) u l (hl.below h) hfew hok)
    have CM := Lib.hid (fun w => Co.meet_any a.1 a.2 b.1 b.2 w)
    have CC := Lib.hid (fun w' y => clip_tl_of w' a b l hfew h60 y)
    have CSP := Lib.hid (fun w' y z => splice_tl_of w' a b l hfew h60 y z)
    have CS1 := Lib.hid (fun w' x y => psame_tl w' x y (makeV (metX a b) l) 20000 (by omega) (makeV_few hfew))
    have CS2 := Lib.hid (fun w' x y => psame_tl w' x y (makeV a l) 20000 (by omega) (makeV_few hfew))
    simp only [metX] at CX CC CSP CS1
    generalize Co.meetF a.1 a.2 b.1 b.2 = mf at *
    generalize Co.meetT a.1 a.2 b.1 b.2 = mt at *
    generalize Co.meetB a.1 a.2 b.1 b.2 = mb at *
    generalize hg1 : makeV (mf, mt) l = g1 at *
    generalize hg2 : makeV a l = g2 at *
    clear hf hl hok hn hfew h60 hg1 hg2
    go_enter Tryz.func8, Tryz.ntmps8
    go_upto_region 4 with (first
      | (go_at_call 9; (with_reducible refine (CF.out _ HB2.out).mono ?_); rintro e w1 ⟨rfl, hw1⟩; obtain rfl := hw1.symm)
      | (go_at_call 32; (with_reducible refine (CM.out _).mono ?_); rintro e w2 ⟨rfl, hb2⟩; have HB3 := Lib.hid hb2; clear hb2))
    have HX3 := Lib.hid (boxS_new w2 mf mt)
    have HC3 := Lib.hid (chain HB2.out HB3.out)
    refine abstract_worldW (fun W => Below w.heap.size w W ∧ BoxS W w.heap.size a.1 a.2 ∧ BoxS W (w.heap.size + 1) b.1 b.2 ∧ BoxS W w2.heap.size mf mt) ⟨HC3.out.alloc HC3.out.size _, (HS1.out.below HB3.out).below ((bl _).alloc (Nat.le_refl _) _), (HS2.out.below HB3.out).below ((bl _).alloc (Nat.le_refl _) _), HX3.out⟩ ?_
    rintro W ⟨hW, ⟨p0, p1⟩, hq, hx⟩
    have HW := Lib.hid hW
    have HQ := Lib.hid hq
    have HXX := Lib.hid hx
    clear hW hq hx
    go_upto_region 5 with (go_at_call 11; (with_reducible refine (CP.out _ HW.out).mono ?_); rintro e w3 ⟨x3, rfl, hx3, hb3⟩; have HT3 := Lib.hid hx3; have HBW := Lib.hid hb3; have HC4 := Lib.hid (chain HW.out hb3); clear hx3 hb3)
    have MK := Lib.hid (show ∀ w', Below w3.heap.size w3 w' → (Below w3.heap.size w3 w' ∧ BoxS w' (w.heap.size + 1) b.1 b.2 ∧ BoxS w' w2.heap.size mf mt) from fun w' h => ⟨h, (HQ.out.below HBW.out).below h, (HXX.out.below HBW.out).below h⟩)
    clear p0 p1
    first
      | (go_region_held3 (fun w' => Below w3.heap.size w3 w' ∧ BoxS w' (w.heap.size + 1) b.1 b.2 ∧ BoxS w' w2.heap.size mf mt)
          (first | exact MK.out _ ((bl w3).drew) | exact MK.out _ hb10 | exact MK.out _ hb9 | exact MK.out _ hb8 | exact MK.out _ hb7 | exact MK.out _ hb6 | exact MK.out _ hb5 | exact MK.out _ hb4 | fail)
          (first
            | (go_at_call 24; (with_reducible refine (CC.out _ _ (HT3.out.below ((bl w3).drew))).mono ?_); (rintro e w4 ⟨x4, rfl, hx4, hb0⟩); (have hb4 := chain ((bl w3).drew) hb0); (have HT4 := Lib.hid hx4); clear hb0 hx4)
            | (go_at_call 11; (with_reducible refine (CX.out _ (chain HC4.out hb4)).mono ?_); (rintro e w5 ⟨x5, rfl, hx5, hb0⟩); (have hb5 := chain hb4 hb0); (have HT5 := Lib.hid hx5); (have HY5 := Lib.hid (HT4.out.below hb0)); clear hb0 hx5)
            | (go_at_call 23; (with_reducible refine (CS1.out _ _ _ HY5.out HT5.out).mono ?_); (rintro e w6 ⟨rfl, hb0⟩); (have hb6 := chain hb5 hb0); clear hb0)
            | (go_at_call 24; (with_reducible refine (CC.out _ _ (HT3.out.below hb6)).mono ?_); (rintro e w7 ⟨x7, rfl, hx7, hb0⟩); (have hb7 := chain hb6 hb0); (have HT7 := Lib.hid hx7); clear hb0 hx7)
            | (go_at_call 26; (with_reducible refine (CSP.out _ _ _ (HT3.out.below hb7) HT7.out).mono ?_); (rintro e w8 ⟨x8, rfl, hx8, hb0⟩); (have hb8 := chain hb7 hb0); (have HT8 := Lib.hid hx8); clear hb0 hx8)
            | (go_at_call 23; (with_reducible refine (CS2.out _ _ _ HT8.out (HT3.out.below hb8)).mono ?_); (rintro e w9 ⟨rfl, hb0⟩); (have hb9 := chain hb8 hb0); clear hb0)
            | (go_at_call 10; (with_reducible refine (CAL.out _).mono ?_); (rintro e w10 ⟨rfl, hb0⟩); (have hb10 := chain hb9 hb0); clear hb0)
            | fail))
      | fail
    go_wp2_with fail
    go_ret
    exact ⟨rfl, chain HC4.out hb10⟩

end Go.Proofs.YtaoobliajgcdmaaGreat
