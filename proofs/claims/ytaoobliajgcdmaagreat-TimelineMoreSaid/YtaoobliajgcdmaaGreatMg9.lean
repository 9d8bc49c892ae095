/-
  Texts joined into one: what the program's and the document's calls give back, piece by piece.
-/
import Derived.Test.YtaoobliajgcdmaaGreatMg1
import Derived.Test.YtaoobliajgcdmaaGreatMg2
import Derived.Test.YtaoobliajgcdmaaGreatMg3
import Derived.Test.YtaoobliajgcdmaaGreatMg4
import Derived.Test.YtaoobliajgcdmaaGreatMg5
import Derived.Test.YtaoobliajgcdmaaGreatMg6
import Derived.Test.YtaoobliajgcdmaaGreatMg7
import Derived.Test.YtaoobliajgcdmaaGreatMg8
import Derived.Test.YtaoobliajgcdmaaGreatProg
import Derived.Test.YtaoobliajgcdmaaGreatRows
import Derived.BigQuiet
import Derived.ChangeAlike
import Derived.ChangeKeysEq
import Derived.Deep.AppendLies
import Derived.Deep.CutBlock
import Derived.Deep.CutRange
import Derived.Deep.Light
import Derived.Deep.LoopGhost
import Derived.Deep.QuietTactic
import Derived.Deep.RegionHeld3
import Derived.Deep.RegionLaw
import Derived.Deep.Upon
import Derived.Handy
import Derived.IntWalk
import Derived.Laws.BytesArg
import Derived.Laws.OwnMore
import Derived.Laws.Strings
import Derived.Laws.StructEq
import Derived.Lib.Bytealg
import Derived.Lib.Hide
import Derived.Lib.OwnBridge
import Derived.Lib.QuietBelow
import Derived.Lib.SmallJoins
import Derived.LoopIn
import Derived.LoopNIn
import Derived.Maps.AppendAt
import Derived.Maps.OwnSet
import Derived.Maps.RangeWalk
import Derived.OneCell
import Derived.OwnWalk
import Derived.OwnWalkIn
import Derived.ProofKit
import Derived.RangeFuncBound
import Derived.RangeFuncBox
import Derived.RangeFuncCalls
import Derived.RangeFuncLeaves
import Derived.RangeFuncNested
import Derived.RangeFuncOwn
import Derived.RegionTactic
import Derived.Shelf.Abstract
import Derived.Shelf.RegionOpen
import Derived.Shelf.SlSortCmp.KitK
import Derived.Shelf.SlSortCmp.NoneTotal
import Derived.Sort.KeysCollected
import Derived.Sort.OwnSortedInts
import Derived.Sort.WalkB12
import Derived.Sort.WalkB2
import Derived.StillTailTactics
import Derived.TacticsInMore
import Derived.WalkArith
import Derived.WalkKit
import Derived.WalkLawsBesides
import Derived.WalkSpells

/-
  TimelineAts gives back true.
-/
namespace Go.Proofs.YtaoobliajgcdmaaGreat
open Go.RowKit

theorem at_tl (w : World) (y : Value) (g : Int → Option (List Fd)) (n : Nat) (hn : n ≤ 1000000) (hg : ∀ t s, g t = some s → s.length ≤ n) (x : Int) (hy : HasTL w y g) : Calls Tryz.prog 16 #[y, .int .i64 x] w fun e w' => ∃ z, e = .returned (.tuple #[z, .bool (g x).isSome]) ∧ ListF w' z ((g x).getD []) ∧ Below w.heap.size w w' := by
  obtain ⟨R, hR⟩ := hy
  have hf := hR.few hg
  refine (ptat_any w y R x hR.pcs hR.len (fun p hp => by have := hf p hp; omega)).mono ?_
  rintro e w' ⟨z, he, hz, hb⟩
  rw [hR.fs x] at he
  unfold firstF at hz
  rw [hR.fs x] at hz
  exact ⟨z, he, hz, hb⟩

set_option maxHeartbeats 4000000 in
set_option maxRecDepth 100000 in
theorem ats11_walk (a : Int × Int) (u : Value) (l : List Vr) (x : Int) (w : World) (hl : VersL w u l) (hok : ∀ v ∈ l, okF v.fs) (hn : l.length ≤ 9223372036854775807) : Ret 6 #[.agg #[.int .i64 a.1, .int .i64 a.2], u, .int .i64 x] w (.bool true) := by
  have CAL := Lib.hid alive11_any
  have CF := Lib.hid (fun w' (h : Below w.heap.size w w') => dfew_any w' u l 60 (hl.below h).1 hn)
  have HB1 := Lib.hid (show Below w.heap.size w (w.alloc (ocS a.1 a.2)) from (bl w).alloc (Nat.le_refl _) _)
  have HS1 := Lib.hid (boxS_new w a.1 a.2)
  cases hf : fewB l 60 with
  | false =>
    rw [hf] at CF
    clear hf hl hok hn
    go_enter Tryz.func6, Tryz.ntmps6
    go_wp2_with (first
      | (go_at_call 9; (with_reducible refine (CF.out _ HB1.out).mono ?_); rintro e w1 ⟨rfl, hw1⟩; obtain rfl := hw1.symm)
      | (go_at_call 10; (with_reducible refine (CAL.out _).mono ?_); rintro e w2 ⟨rfl, hb2⟩))
    go_ret
    exact ⟨rfl, chain HB1.out hb2⟩
  | true =>
    obtain ⟨hfew, h60⟩ := few60 hf
    rw [hf] at CF
    have CP := Lib.hid (fun w' (h : Below w.heap.size w w') => ptmake_any w' a u l (hl.below h) hfew hok)
    have CA := Lib.hid (fun w' y => at_tl w' y (makeV a l) 20000 (by omega) (makeV_few hfew) x)
    have CD := Lib.hid (fun w' (h : Below w.heap.size w w') => dat_any w' x u l (hl.below h) hfew)
    have CR := Lib.hid (fun w => dright01_any a.1 a.2 w)
    have CH := Lib.hid (fun w => dhas01_any a.1 a.2 x w)
    rw [rightS_P] at CR
    rw [hasS_P] at CH
    have HMV := Lib.hid (show makeV a l x = if (rightP a.1 a.2 && inP a.1 a.2 x && l.any fun v => coversB v x) = true then some (atL x l) else none from rfl)
    have HSZ := Lib.hid (show ∀ s, makeV a l x = some s → s.length ≤ 20000 from fun s hs => makeV_few hfew x s hs)
    obtain ⟨⟨A, c, rfl, hA, hc, hnc⟩, _⟩ := hl
    have HA := Lib.hid hA
    obtain ⟨n, hnm⟩ : ∃ n, l.length = n := ⟨_, rfl⟩
    rw [hnm] at CF CP CD hc h60 ⊢
    have HN := Lib.hid hnm
    generalize rightP a.1 a.2 = r at *
    generalize inP a.1 a.2 x = h at *
    generalize makeV a l = G at *
    generalize hO : G x = O at *
    clear hf hok hn hfew hA hc hnc hnm hO
    go_enter Tryz.func6, Tryz.ntmps6
    go_wp2_with (first
      | (go_at_call 9; (with_reducible refine (CF.out _ HB1.out).mono ?_); rintro e w1 ⟨rfl, hw1⟩; obtain rfl := hw1.symm)
      | (go_at_call 11; (with_reducible refine (CP.out _ HB1.out).mono ?_); rintro e w2 ⟨x2, rfl, hx2, hb2⟩; have HX2 := Lib.hid hx2; have HC2 := Lib.hid (chain HB1.out hb2); have HS2 := Lib.hid (HS1.out.below hb2); clear hx2 hb2)
      | (go_at_call 16; (with_reducible refine (CA.out _ _ HX2.out).mono ?_); rintro e w3 ⟨z3, rfl, hz3, hb3⟩; have HZ3 := Lib.hid hz3; have HC3 := Lib.hid (chain HC2.out hb3); have HS3 := Lib.hid (HS2.out.below hb3); clear hz3 hb3))
    go_loopw [9, 25] (fun an i wr => ∃ (k : Nat) (b : Bool), k ≤ n ∧ i = .int .i64 (k : Nat) ∧ an = .bool b ∧ b = ((l.take k).any fun v => coversB v x) ∧ Below w3.heap.size w3 wr) (fun _ i _ => n - (intOf i).toNat)
    case atStart => exact ⟨0, false, Nat.zero_le _, rfl, rfl, rfl, bl w3⟩
    case round =>
      obtain ⟨k, b, hk, rfl, rfl, hb, hP⟩ := hrel
      have HBB := Lib.hid hb
      have HP := Lib.hid hP
      clear hb hP
      by_cases hlt : k < n
      · have hlt' : (k : Int) < (n : Int) := by omega
        obtain ⟨v, hx⟩ : ∃ v, l[k]? = some v := ⟨_, List.getElem?_eq_getElem (by have := HN.out; omega)⟩
        obtain ⟨g, off, rfl, hX⟩ := (HA.out.below (chain HC3.out HP.out)).cells7 hx
        have HNX := Lib.hid (show ((l.take (k + 1)).any fun v => coversB v x) = (b || coversB v x) by rw [List.take_add_one, hx, Option.toList_some, List.any_append, HBB.out]; simp)
        have CC := Lib.hid (fun w => dcovers_any v x w)
        obtain ⟨z0, z1, z2, z3', z4, z5, z6⟩ := hX
        clear hx
        cases b with
        | true =>
          have NX := Lib.hid (show true = ((l.take (k + 1)).any fun v => coversB v x) by rw [HNX.out]; rfl)
          go_wp2_with fail
          exact ⟨⟨k + 1, true, by omega, by go_num, rfl, NX.out, HP.out⟩, by simp [intOf] <;> omega⟩
        | false =>
          have NX := Lib.hid (show coversB v x = ((l.take (k + 1)).any fun v => coversB v x) by rw [HNX.out]; rfl)
          generalize coversB v x = cb at *
          go_wp2_with (go_at_call 28; (with_reducible refine (CC.out _).mono ?_); rintro e w4 ⟨rfl, hb4⟩)
          exact ⟨⟨k + 1, cb, by omega, by go_num, rfl, NX.out, chain HP.out hb4⟩, by simp [intOf] <;> omega⟩
      · obtain rfl : k = n := by omega
        have hlt' : ¬ (k : Int) < (k : Int) := by omega
        have HAN := Lib.hid (show O = if (r && h && b) = true then some (atL x l) else none by rw [HMV.out, HBB.out, List.take_of_length_le (by have := HN.out; omega)])
        have HZ4 := Lib.hid (HZ3.out.below HP.out)
        have HC4 := Lib.hid (chain HC3.out HP.out)
        obtain ⟨p0, p1⟩ := HS3.out.below HP.out
        have HS4 := Lib.hid (HS3.out.below HP.out)
        by_cases hall : (r && h && b) = true
        · have HO1 := Lib.hid (show O = some (atL x l) by rw [HAN.out, if_pos hall])
          rw [Bool.and_eq_true, Bool.and_eq_true] at hall
          obtain ⟨⟨rfl, rfl⟩, rfl⟩ := hall
          have hs20 := HSZ.out _ HO1.out
          have HZ5 := Lib.hid (show ListF wr z3 (atL x l) by have := HZ4.out; rw [HO1.out] at this; exact this)
          have his : O.isSome = true := by rw [HO1.out]; rfl
          rw [his]
          have CS := Lib.hid (fun w' y z (hy : ListF w' y (atL x l)) (hz : ListF w' z (atL x l)) => show Ret 19 #[y, z] w' (.bool true) by
            have := dsamel_any w' y z _ _ hy hz (by omega) (by omega)
            rwa [sameF_self] at this)
          clear his hs20
          go_wp2_with (first
            | (go_at_call 29; (with_reducible refine (CR.out _).mono ?_); rintro e w5 ⟨rfl, hb5⟩; have HB5 := Lib.hid hb5; obtain ⟨q0, q1⟩ := HS4.out.below hb5; clear hb5)
            | (go_at_call 30; (with_reducible refine (CH.out _).mono ?_); rintro e w6 ⟨rfl, hb6⟩; have HB6 := Lib.hid (chain HB5.out hb6); clear hb6)
            | (go_at_call 31; (with_reducible refine (CD.out _ (chain HC4.out HB6.out)).mono ?_); rintro e w7 ⟨x7, rfl, hx7, hb7⟩; have HX7 := Lib.hid hx7; have HB7 := Lib.hid (chain HB6.out hb7); clear hb7 hx7)
            | (go_at_call 19; (with_reducible refine (CS.out _ _ _ (HZ5.out.below HB7.out) HX7.out).mono ?_); rintro e w8 ⟨rfl, hb8⟩; have HB8 := Lib.hid (chain HB7.out hb8); clear hb8)
            | (go_at_call 10; (with_reducible refine (CAL.out _).mono ?_); rintro e w9 ⟨rfl, hb9⟩; have HB9 := Lib.hid (chain HB8.out hb9); clear hb9))
          go_ret
          exact ⟨rfl, chain HC4.out HB9.out⟩
        · have HO1 := Lib.hid (show O = none by rw [HAN.out, if_neg hall])
          have his : O.isSome = false := by rw [HO1.out]; rfl
          rw [his]
          have hz5 : ListF wr z3 [] := by have := HZ4.out; rw [HO1.out] at this; exact this
          obtain ⟨A3, c3, rfl, _⟩ := hz5
          simp only [List.length_nil]
          cases b with
          | false =>
            clear hall his
            go_wp2_with (go_at_call 10; (with_reducible refine (CAL.out _).mono ?_); rintro e w9 ⟨rfl, hb9⟩; have HB9 := Lib.hid hb9; clear hb9)
            go_ret
            exact ⟨rfl, chain HC4.out HB9.out⟩
          | true =>
            cases r with
            | false =>
              clear hall his
              go_wp2_with (first
                | (go_at_call 29; (with_reducible refine (CR.out _).mono ?_); rintro e w5 ⟨rfl, hb5⟩; have HB5 := Lib.hid hb5; clear hb5)
                | (go_at_call 10; (with_reducible refine (CAL.out _).mono ?_); rintro e w9 ⟨rfl, hb9⟩; have HB9 := Lib.hid (chain HB5.out hb9); clear hb9))
              go_ret
              exact ⟨rfl, chain HC4.out HB9.out⟩
            | true =>
              cases h with
              | true => exact absurd rfl hall
              | false =>
                clear hall his
                go_wp2_with (first
                  | (go_at_call 29; (with_reducible refine (CR.out _).mono ?_); rintro e w5 ⟨rfl, hb5⟩; have HB5 := Lib.hid hb5; obtain ⟨q0, q1⟩ := HS4.out.below hb5; clear hb5)
                  | (go_at_call 30; (with_reducible refine (CH.out _).mono ?_); rintro e w6 ⟨rfl, hb6⟩; have HB6 := Lib.hid (chain HB5.out hb6); clear hb6)
                  | (go_at_call 10; (with_reducible refine (CAL.out _).mono ?_); rintro e w9 ⟨rfl, hb9⟩; have HB9 := Lib.hid (chain HB6.out hb9); clear hb9))
                go_ret
                exact ⟨rfl, chain HC4.out HB9.out⟩

end Go.Proofs.YtaoobliajgcdmaaGreat
