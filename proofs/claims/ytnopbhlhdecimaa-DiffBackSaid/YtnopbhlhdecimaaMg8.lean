/-
  Texts joined into one: what the program's and the document's calls give back, piece by piece.
-/
import Derived.Test.YtnopbhlhdecimaaMg1
import Derived.Test.YtnopbhlhdecimaaMg2
import Derived.Test.YtnopbhlhdecimaaMg3
import Derived.Test.YtnopbhlhdecimaaMg4
import Derived.Test.YtnopbhlhdecimaaMg5
import Derived.Test.YtnopbhlhdecimaaMg6
import Derived.Test.YtnopbhlhdecimaaMg7
import Derived.Test.YtnopbhlhdecimaaProg
import Derived.Test.YtnopbhlhdecimaaRows
import Derived.BigQuiet
import Derived.ChangeAlike
import Derived.ChangeKeysEq
import Derived.Deep.AppendLies
import Derived.Deep.CutBlock
import Derived.Deep.CutRange
import Derived.Deep.Light
import Derived.Deep.LoopGhost
import Derived.Deep.QuietTactic
import Derived.Deep.RegionHeld3
import Derived.Deep.RegionLaw
import Derived.Handy
import Derived.IntWalk
import Derived.Laws.BytesArg
import Derived.Laws.OwnMore
import Derived.Laws.Strings
import Derived.Laws.StructEq
import Derived.Lib.Bytealg
import Derived.Lib.Hide
import Derived.Lib.QuietBelow
import Derived.Lib.SmallJoins
import Derived.LoopIn
import Derived.LoopNIn
import Derived.Maps.AppendAt
import Derived.Maps.RangeWalk
import Derived.OneCell
import Derived.OrdersIn
import Derived.OwnWalk
import Derived.OwnWalkIn
import Derived.ProofKit
import Derived.RangeFuncBox
import Derived.RangeFuncLeaves
import Derived.RangeFuncNested
import Derived.RangeFuncOwn
import Derived.RegionTactic
import Derived.Shelf.Abstract
import Derived.Shelf.RegionOpen
import Derived.Shelf.SlSortCmp.KitK
import Derived.Shelf.SlSortCmp.NoneTotal
import Derived.Sort.KeysCollected
import Derived.Sort.WalkB12
import Derived.Sort.WalkB2
import Derived.StillTailTactics
import Derived.TacticsInMore
import Derived.WalkArith
import Derived.WalkKit
import Derived.WalkLawsBesides
import Derived.WalkSpells

/-
  DiffBack, DiffWrong and DiffApplies give back true.
-/
namespace Go.Proofs.Ytnopbhlhdecimaa
open Go.RowKit

theorem len_of_none {w : World} {x : Value} {g : Int → Option (List Fd)} (h : HasTL w x g) (hg : ∀ t, g t = none) : ∃ A c, x = .slice A 0 c := by
  obtain ⟨R, hR⟩ := h
  cases R with
  | nil =>
    obtain ⟨A, c, hx, _⟩ := hR.pcs.1
    exact ⟨A, c, hx⟩
  | cons p l =>
    have h1 := fs_mem hR.tl p (by simp)
    rw [hR.fs, hg] at h1
    cases h1
theorem applyG_few {a : List Pc} {l : List Ch} {n : Nat} (ha : ∀ p ∈ a, p.fs.length ≤ n) (hl : ∀ c ∈ l, c.os.length ≤ n ∧ c.ns.length ≤ n) : ∀ x s, applyG a l x = some s → s.length ≤ n := fun x s h => by
  unfold applyG at h
  split at h
  · exact appV_few ha hl x s h
  · cases h
theorem dsame_tl {w : World} {x y : Value} {g : Int → Option (List Fd)} (hx : HasTL w x g) (hy : HasTL w y g) (hg : ∀ t s, g t = some s → s.length ≤ 20) : Ret 18 #[x, y] w (.bool true) := by
  obtain ⟨R, hR⟩ := hx
  obtain ⟨Q, hQ⟩ := hy
  have h1 := hR.few hg
  have h2 := hQ.few hg
  have := dtsame_any w x y R Q hR.pcs hQ.pcs (by have := hR.len; omega) (fun p hp => by have := h1 p hp; omega) (fun p hp => by have := h2 p hp; omega)
  rwa [timel_same hR hQ] at this
theorem applyG_nil {b : List Pc} (h : rightT b = true) : applyE b [] = 0 ∧ ∀ x, applyG b [] x = fsP b x := by
  have h0 : applyE b [] = 0 := by
    unfold applyE
    rw [if_pos h]
    rfl
  refine ⟨h0, fun x => ?_⟩
  unfold applyG
  rw [if_pos h0]
  rfl
theorem len_zero (n : Nat) : ((n : Int) == 0) = decide (n = 0) := by
  rw [Bool.eq_iff_iff, beq_iff_eq, decide_eq_true_eq]
  omega
/-- What the program's Of tells, and how long it is. -/
theorem isD_len {w : World} {ua ub : Value} {a b : List Pc} (ha : PcsL w ua a) (hb : PcsL w ub b) (hna : a.length ≤ 40) (hnb : b.length ≤ 40) (hfa : ∀ p ∈ a, p.fs.length ≤ 20) (hfb : ∀ p ∈ b, p.fs.length ≤ 20) : Calls Try.prog 9 #[ua, ub] w fun e w' => ∃ A n c, e = .returned (.slice A n c) ∧ n ≤ 400 ∧ ((n : Int) == 0) = (if (rightT a && rightT b) = true then sameP a b else true) ∧ IsD ED12 w' (.slice A n c) a b ∧ Below w.heap.size w w' := by
  refine (pdof_any w ua ub a b ha hb hna hnb hfa hfb).mono ?_
  rintro e w' ⟨x, rfl, ⟨L, h1, h2, h3⟩, h4⟩
  obtain ⟨A, c, rfl, _⟩ := h1.1
  refine ⟨A, L.length, c, rfl, h3, ?_, ⟨L, h1, h2, h3⟩, h4⟩
  rw [len_zero]
  split
  · rename_i hr
    exact diff_none_iff h2 hr
  · rename_i hr
    rw [diff_nil h2 (by simpa using hr)]
    rfl

set_option maxHeartbeats 8000000 in
set_option maxRecDepth 100000 in
theorem back12_walk (ua ub : Value) (a b : List Pc) (w : World) (ha : PcsL w ua a) (hb : PcsL w ub b) (hn : a.length ≤ 9223372036854775807) (hnb : b.length ≤ 9223372036854775807) : Ret 5 #[ua, ub] w (.bool true) := by
  have CAL := Lib.hid alive12_any
  have CF := Lib.hid (fun w' (h : Below w.heap.size w w') => dtfew_any w' ua a 40 (ha.below h).1 hn)
  have CG := Lib.hid (fun w' (h : Below w.heap.size w w') => dtfew_any w' ub b 40 (hb.below h).1 hnb)
  cases hf : fewP a 40 with
  | false =>
    rw [hf] at CF
    clear hf ha hb hn hnb CG
    go_enter Try.func5, Try.ntmps5
    go_wp2_with (first
      | (go_at_call 7; (with_reducible refine (CF.out _ (bl w)).mono ?_); rintro e w1 ⟨rfl, hw1⟩; obtain rfl := hw1.symm)
      | (go_at_call 8; (with_reducible refine (CAL.out _).mono ?_); rintro e w2 ⟨rfl, hb2⟩))
    go_ret
    exact ⟨rfl, hb2⟩
  | true =>
    rw [hf] at CF
    cases hg : fewP b 40 with
    | false =>
      rw [hg] at CG
      clear hf hg ha hb hn hnb
      go_enter Try.func5, Try.ntmps5
      go_wp2_with (first
        | (go_at_call 7; (with_reducible refine (CF.out _ (bl w)).mono ?_); rintro e w1 ⟨rfl, hw1⟩; obtain rfl := hw1.symm)
        | (go_at_call 7; (with_reducible refine (CG.out _ (bl w)).mono ?_); rintro e w1 ⟨rfl, hw1⟩; obtain rfl := hw1.symm)
        | (go_at_call 8; (with_reducible refine (CAL.out _).mono ?_); rintro e w2 ⟨rfl, hb2⟩))
      go_ret
      exact ⟨rfl, hb2⟩
    | true =>
      rw [hg] at CG
      obtain ⟨h1, h2⟩ := few_pieces hf
      obtain ⟨k1, k2⟩ := few_pieces hg
      have CP := Lib.hid (fun w' (h : Below w.heap.size w w') => isD_len (ha.below h) (hb.below h) (by omega) (by omega) h2 k2)
      have CRA := Lib.hid (fun w' (h : Below w.heap.size w w') => dtright_any w' ua a (ha.below h) (by omega) (fun p hp => by have := h2 p hp; omega))
      have CRB := Lib.hid (fun w' (h : Below w.heap.size w w') => dtright_any w' ub b (hb.below h) (by omega) (fun p hp => by have := k2 p hp; omega))
      by_cases hr : (rightT a && rightT b) = true
      · simp only [if_pos hr] at CP
        have hr2 := hr
        rw [Bool.and_eq_true] at hr2
        obtain ⟨r1, r2⟩ := hr2
        have hr' : (rightT b && rightT a) = true := by rw [r1, r2]; rfl
        have CA := Lib.hid (fun w' x (h : Below w.heap.size w w') (hx : IsD ED12 w' x a b) => isD_apply hx (ha.below h) hr (by omega) h2 k2)
        have CB := Lib.hid (fun w' x (h : Below w.heap.size w w') (hx : IsD ED12 w' x b a) => isD_apply hx (hb.below h) hr' (by omega) k2 h2)
        have CK := Lib.hid (fun w' x (hx : IsD ED12 w' x a b) => isD_backp hx h2 k2)
        have CSB := Lib.hid (fun w' x (h : Below w.heap.size w w') (hx : HasTL w' x (fsP b)) => same_fs hx (hb.below h) ((rightT_iff b).1 r2) (by omega) k2)
        have CSA := Lib.hid (fun w' x (h : Below w.heap.size w w') (hx : HasTL w' x (fsP a)) => same_fs hx (ha.below h) ((rightT_iff a).1 r1) (by omega) h2)
        have CSS := Lib.hid (fun w' (h : Below w.heap.size w w') => dtsame_any w' ua ub a b (ha.below h) (hb.below h) (by omega) (fun p hp => by have := h2 p hp; omega) (fun p hp => by have := k2 p hp; omega))
        have KT := Lib.hid (show ∀ (g : Int → Option (List Fd)) w' w'' x, HasTL w' x g → Below w'.heap.size w' w'' → HasTL w'' x g from fun g w' w'' x ⟨R, hR⟩ h => ⟨R, hR.below h⟩)
        rw [r1] at CRA
        rw [r2] at CRB
        generalize sameP a b = sm at *
        clear hf hg ha hb hn hnb h1 h2 k1 k2 hr hr' r1 r2
        go_enter Try.func5, Try.ntmps5
        go_wp2_with (first
          | (go_at_call 7; (with_reducible refine (CF.out _ (bl w)).mono ?_); rintro e w1 ⟨rfl, hw1⟩; obtain rfl := hw1.symm)
          | (go_at_call 7; (with_reducible refine (CG.out _ (bl w)).mono ?_); rintro e w1 ⟨rfl, hw1⟩; obtain rfl := hw1.symm)
          | (go_at_call 9; (with_reducible refine (CP.out _ (bl w)).mono ?_); rintro e w2 ⟨A2, n2, c2, rfl, hn2, hz2, hx2, hb2⟩; have HX2 := Lib.hid hx2; have HC2 := Lib.hid hb2; clear hx2 hb2)
          | (go_at_call 19; (with_reducible refine (CRA.out _ HC2.out).mono ?_); rintro e w3 ⟨rfl, hb3⟩; have HX3 := Lib.hid (HX2.out.below hb3); have HC3 := Lib.hid (chain HC2.out hb3); clear hb3)
          | (go_at_call 19; (with_reducible refine (CRB.out _ HC3.out).mono ?_); rintro e w4 ⟨rfl, hb4⟩; have HX4 := Lib.hid (HX3.out.below hb4); have HC4 := Lib.hid (chain HC3.out hb4); clear hb4)
          | (go_at_call 16; (with_reducible refine (CA.out _ _ HC4.out HX4.out).mono ?_); rintro e w5 ⟨x5, rfl, hx5, hb5⟩; have HY5 := Lib.hid hx5; have HX5 := Lib.hid (HX4.out.below hb5); have HC5 := Lib.hid (chain HC4.out hb5); clear hx5 hb5)
          | (go_at_call 13; (with_reducible refine (CK.out _ _ HX5.out).mono ?_); rintro e w6 ⟨x6, rfl, hx6, hb6⟩; have HX6 := Lib.hid hx6; have HY6 := Lib.hid (KT.out _ _ _ _ HY5.out hb6); have HC6 := Lib.hid (chain HC5.out hb6); clear hx6 hb6)
          | (go_at_call 16; (with_reducible refine (CB.out _ _ HC6.out HX6.out).mono ?_); rintro e w7 ⟨x7, rfl, hx7, hb7⟩; have HZ7 := Lib.hid hx7; have HY7 := Lib.hid (KT.out _ _ _ _ HY6.out hb7); have HC7 := Lib.hid (chain HC6.out hb7); clear hx7 hb7)
          | (go_at_call 18; (with_reducible refine (CSB.out _ _ HC7.out HY7.out).mono ?_); rintro e w8 ⟨rfl, hb8⟩; have HZ8 := Lib.hid (KT.out _ _ _ _ HZ7.out hb8); have HC8 := Lib.hid (chain HC7.out hb8); clear hb8)
          | (go_at_call 18; (with_reducible refine (CSA.out _ _ HC8.out HZ8.out).mono ?_); rintro e w9 ⟨rfl, hb9⟩; have HC9 := Lib.hid (chain HC8.out hb9); clear hb9)
          | (go_at_call 18; (with_reducible refine (CSS.out _ HC9.out).mono ?_); rintro e w10 ⟨rfl, hb10⟩; have HC10 := Lib.hid (chain HC9.out hb10); clear hb10)
          | (go_at_call 8; (with_reducible refine (CAL.out _).mono ?_); rintro e w11 ⟨rfl, hb11⟩; have HC11 := Lib.hid (chain HC10.out hb11); clear hb11))
        go_ret
        exact ⟨rfl, HC11.out⟩
      · simp only [if_neg hr] at CP
        clear hf hg ha hb hn hnb h1 h2 k1 k2
        have hcase : rightT a = false ∨ (rightT a = true ∧ rightT b = false) := by
          cases h1 : rightT a with
          | false => exact .inl rfl
          | true =>
            cases h2 : rightT b with
            | false => exact .inr ⟨rfl, rfl⟩
            | true => rw [h1, h2] at hr; exact absurd rfl hr
        clear hr
        rcases hcase with r1 | ⟨r1, r2⟩
        · rw [r1] at CRA
          clear r1
          go_enter Try.func5, Try.ntmps5
          go_wp2_with (first
            | (go_at_call 7; (with_reducible refine (CF.out _ (bl w)).mono ?_); rintro e w1 ⟨rfl, hw1⟩; obtain rfl := hw1.symm)
            | (go_at_call 7; (with_reducible refine (CG.out _ (bl w)).mono ?_); rintro e w1 ⟨rfl, hw1⟩; obtain rfl := hw1.symm)
            | (go_at_call 9; (with_reducible refine (CP.out _ (bl w)).mono ?_); rintro e w2 ⟨A2, n2, c2, rfl, hn2, hz2, hx2, hb2⟩; have HC2 := Lib.hid hb2; clear hx2 hb2)
            | (go_at_call 19; (with_reducible refine (CRA.out _ HC2.out).mono ?_); rintro e w3 ⟨rfl, hb3⟩; have HC3 := Lib.hid (chain HC2.out hb3); clear hb3)
            | (go_at_call 8; (with_reducible refine (CAL.out _).mono ?_); rintro e w11 ⟨rfl, hb11⟩; have HC11 := Lib.hid (chain HC3.out hb11); clear hb11))
          go_ret
          exact ⟨rfl, HC11.out⟩
        · rw [r1] at CRA
          rw [r2] at CRB
          clear r1 r2
          go_enter Try.func5, Try.ntmps5
          go_wp2_with (first
            | (go_at_call 7; (with_reducible refine (CF.out _ (bl w)).mono ?_); rintro e w1 ⟨rfl, hw1⟩; obtain rfl := hw1.symm)
            | (go_at_call 7; (with_reducible refine (CG.out _ (bl w)).mono ?_); rintro e w1 ⟨rfl, hw1⟩; obtain rfl := hw1.symm)
            | (go_at_call 9; (with_reducible refine (CP.out _ (bl w)).mono ?_); rintro e w2 ⟨A2, n2, c2, rfl, hn2, hz2, hx2, hb2⟩; have HC2 := Lib.hid hb2; clear hx2 hb2)
            | (go_at_call 19; (with_reducible refine (CRA.out _ HC2.out).mono ?_); rintro e w3 ⟨rfl, hb3⟩; have HC3 := Lib.hid (chain HC2.out hb3); clear hb3)
            | (go_at_call 19; (with_reducible refine (CRB.out _ HC3.out).mono ?_); rintro e w4 ⟨rfl, hb4⟩; have HC4 := Lib.hid (chain HC3.out hb4); clear hb4)
            | (go_at_call 8; (with_reducible refine (CAL.out _).mono ?_); rintro e w11 ⟨rfl, hb11⟩; have HC11 := Lib.hid (chain HC4.out hb11); clear hb11))
          go_ret
          exact ⟨rfl, HC11.out⟩

end Go.Proofs.Ytnopbhlhdecimaa

/-
  DiffWrong and DiffApplies give back true.
-/
namespace Go.Proofs.Ytnopbhlhdecimaa
open Go.RowKit

set_option maxHeartbeats 8000000 in
set_option maxRecDepth 100000 in
theorem wrong12_walk (ua ub : Value) (a b : List Pc) (w : World) (ha : PcsL w ua a) (hb : PcsL w ub b) (hn : a.length ≤ 9223372036854775807) (hnb : b.length ≤ 9223372036854775807) : Ret 6 #[ua, ub] w (.bool true) := by
  have CAL := Lib.hid alive12_any
  have CF := Lib.hid (fun w' (h : Below w.heap.size w w') => dtfew_any w' ua a 40 (ha.below h).1 hn)
  have CG := Lib.hid (fun w' (h : Below w.heap.size w w') => dtfew_any w' ub b 40 (hb.below h).1 hnb)
  cases hf : fewP a 40 with
  | false =>
    rw [hf] at CF
    clear hf ha hb hn hnb CG
    go_enter Try.func6, Try.ntmps6
    go_wp2_with (first
      | (go_at_call 7; (with_reducible refine (CF.out _ (bl w)).mono ?_); rintro e w1 ⟨rfl, hw1⟩; obtain rfl := hw1.symm)
      | (go_at_call 8; (with_reducible refine (CAL.out _).mono ?_); rintro e w2 ⟨rfl, hb2⟩))
    go_ret
    exact ⟨rfl, hb2⟩
  | true =>
    rw [hf] at CF
    cases hg : fewP b 40 with
    | false =>
      rw [hg] at CG
      clear hf hg ha hb hn hnb
      go_enter Try.func6, Try.ntmps6
      go_wp2_with (first
        | (go_at_call 7; (with_reducible refine (CF.out _ (bl w)).mono ?_); rintro e w1 ⟨rfl, hw1⟩; obtain rfl := hw1.symm)
        | (go_at_call 7; (with_reducible refine (CG.out _ (bl w)).mono ?_); rintro e w1 ⟨rfl, hw1⟩; obtain rfl := hw1.symm)
        | (go_at_call 8; (with_reducible refine (CAL.out _).mono ?_); rintro e w2 ⟨rfl, hb2⟩))
      go_ret
      exact ⟨rfl, hb2⟩
    | true =>
      rw [hg] at CG
      obtain ⟨h1, h2⟩ := few_pieces hf
      obtain ⟨k1, k2⟩ := few_pieces hg
      have CRA := Lib.hid (fun w' (h : Below w.heap.size w w') => dtright_any w' ua a (ha.below h) (by omega) (fun p hp => by have := h2 p hp; omega))
      have CRB := Lib.hid (fun w' (h : Below w.heap.size w w') => dtright_any w' ub b (hb.below h) (by omega) (fun p hp => by have := k2 p hp; omega))
      cases r1 : rightT a with
      | false =>
        rw [r1] at CRA
        clear hf hg ha hb hn hnb h1 h2 k1 k2 r1 CRB
        go_enter Try.func6, Try.ntmps6
        go_wp2_with (first
          | (go_at_call 7; (with_reducible refine (CF.out _ (bl w)).mono ?_); rintro e w1 ⟨rfl, hw1⟩; obtain rfl := hw1.symm)
          | (go_at_call 7; (with_reducible refine (CG.out _ (bl w)).mono ?_); rintro e w1 ⟨rfl, hw1⟩; obtain rfl := hw1.symm)
          | (go_at_call 19; (with_reducible refine (CRA.out _ (bl w)).mono ?_); rintro e w3 ⟨rfl, hb3⟩; have HC3 := Lib.hid hb3; clear hb3)
          | (go_at_call 8; (with_reducible refine (CAL.out _).mono ?_); rintro e w4 ⟨rfl, hb4⟩; have HC4 := Lib.hid (chain HC3.out hb4); clear hb4))
        go_ret
        exact ⟨rfl, HC4.out⟩
      | true =>
        rw [r1] at CRA
        cases r2 : rightT b with
        | false =>
          rw [r2] at CRB
          clear hf hg ha hb hn hnb h1 h2 k1 k2 r1 r2
          go_enter Try.func6, Try.ntmps6
          go_wp2_with (first
            | (go_at_call 7; (with_reducible refine (CF.out _ (bl w)).mono ?_); rintro e w1 ⟨rfl, hw1⟩; obtain rfl := hw1.symm)
            | (go_at_call 7; (with_reducible refine (CG.out _ (bl w)).mono ?_); rintro e w1 ⟨rfl, hw1⟩; obtain rfl := hw1.symm)
            | (go_at_call 19; (with_reducible refine (CRA.out _ (bl w)).mono ?_); rintro e w3 ⟨rfl, hb3⟩; have HC3 := Lib.hid hb3; clear hb3)
            | (go_at_call 19; (with_reducible refine (CRB.out _ HC3.out).mono ?_); rintro e w5 ⟨rfl, hb5⟩; have HC5 := Lib.hid (chain HC3.out hb5); clear hb5)
            | (go_at_call 8; (with_reducible refine (CAL.out _).mono ?_); rintro e w4 ⟨rfl, hb4⟩; have HC4 := Lib.hid (chain HC5.out hb4); clear hb4))
          go_ret
          exact ⟨rfl, HC4.out⟩
        | true =>
          rw [r2] at CRB
          have hr : (rightT a && rightT b) = true := by rw [r1, r2]; rfl
          have CP := Lib.hid (fun w' (h : Below w.heap.size w w') => pdof_any w' ua ub a b (ha.below h) (hb.below h) (by omega) (by omega) h2 k2)
          have CSB := Lib.hid (fun w' x (h : Below w.heap.size w w') (hx : HasTL w' x (fsP b)) => same_fs hx (hb.below h) ((rightT_iff b).1 r2) (by omega) k2)
          have CA := Lib.hid (fun w' x L (h : Below w.heap.size w w') (hL : ChsL ED12 w' x L) (hD : DiffL a b L) (hl : L.length ≤ 400) => pdapply_any w' ub x b L (hb.below h) hL (by omega) hl k2 (diffL_few hD h2 k2))
          have HN0 := Lib.hid (applyG_nil r2)
          have HAG := Lib.hid (fun c l (h : DiffL a b (c :: l)) => diff_again h hr)
          clear hf hg ha hb hn hnb h1 h2 k1 k2 r1 r2 hr
          go_enter Try.func6, Try.ntmps6
          go_upto_region 4 with (first
            | (go_at_call 7; (with_reducible refine (CF.out _ (bl w)).mono ?_); rintro e w1 ⟨rfl, hw1⟩; obtain rfl := hw1.symm)
            | (go_at_call 7; (with_reducible refine (CG.out _ (bl w)).mono ?_); rintro e w1 ⟨rfl, hw1⟩; obtain rfl := hw1.symm)
            | (go_at_call 19; (with_reducible refine (CRA.out _ (bl w)).mono ?_); rintro e w3 ⟨rfl, hb3⟩; have HC3 := Lib.hid hb3; clear hb3)
            | (go_at_call 19; (with_reducible refine (CRB.out _ HC3.out).mono ?_); rintro e w5 ⟨rfl, hb5⟩; have HC5 := Lib.hid (chain HC3.out hb5); clear hb5)
            | (go_at_call 9; (with_reducible refine (CP.out _ HC5.out).mono ?_); rintro e w6 ⟨x6, rfl, ⟨L, hL6, hD6, hl6⟩, hb6⟩; have HL6 := Lib.hid hL6; have HD6 := Lib.hid hD6; have HLE := Lib.hid hl6; have HC6 := Lib.hid (chain HC5.out hb6); obtain ⟨A6, c6, hx6, _⟩ := hL6.1; clear hL6 hD6 hl6 hb6))
          cases L with
          | nil =>
            simp only [List.length_nil] at hx6
            subst hx6
            have CA6 := Lib.hid (CA.out _ _ _ HC6.out HL6.out HD6.out HLE.out)
            obtain ⟨e0, hg0⟩ := HN0.out
            rw [e0] at CA6
            have HG0 := Lib.hid hg0
            clear hg0 e0
            go_wp2_with (first
              | (go_at_call 16; (with_reducible refine CA6.out.mono ?_); rintro e w7 ⟨x7, rfl, ⟨R, hR⟩, hb7⟩; have HX7 := Lib.hid (show HasTL w7 x7 (fsP b) from ⟨R, hR.mono HG0.out⟩); have HC7 := Lib.hid (chain HC6.out hb7); clear hR hb7)
              | (go_at_call 18; (with_reducible refine (CSB.out _ _ HC7.out HX7.out).mono ?_); rintro e w8 ⟨rfl, hb8⟩; have HC8 := Lib.hid (chain HC7.out hb8); clear hb8)
              | (go_at_call 8; (with_reducible refine (CAL.out _).mono ?_); rintro e w9 ⟨rfl, hb9⟩; have HC9 := Lib.hid (chain HC8.out hb9); clear hb9))
            go_ret
            exact ⟨rfl, HC9.out⟩
          | cons c l =>
            subst hx6
            obtain ⟨n6, hn6⟩ : ∃ n6, (c :: l).length = n6 := ⟨_, rfl⟩
            rw [hn6] at HL6 ⊢
            have hz6 : ((n6 : Int) == 0) = false := by
              rw [List.length_cons] at hn6
              rw [len_zero, decide_eq_false]
              omega
            have CA6 := Lib.hid (CA.out _ _ _ HC6.out HL6.out HD6.out HLE.out)
            have he := HAG.out c l HD6.out
            rw [he] at CA6
            have HZ := Lib.hid (show ∀ t, applyG b (c :: l) t = none from fun t => by
              unfold applyG
              rw [if_neg (by rw [he]; decide)])
            clear he hn6
            go_wp2_with (first
              | (go_at_call 16; (with_reducible refine CA6.out.mono ?_); rintro e w7 ⟨x7, rfl, hx7, hb7⟩; obtain ⟨A7, c7, hx7e⟩ := len_of_none hx7 HZ.out; subst hx7e; have HC7 := Lib.hid (chain HC6.out hb7); clear hx7 hb7)
              | (go_at_call 8; (with_reducible refine (CAL.out _).mono ?_); rintro e w9 ⟨rfl, hb9⟩; have HC9 := Lib.hid (chain HC7.out hb9); clear hb9))
            go_ret
            exact ⟨rfl, HC9.out⟩

set_option maxHeartbeats 8000000 in
set_option maxRecDepth 100000 in
theorem applies12_walk (ua ul : Value) (a : List Pc) (l : List Ch) (w : World) (ha : PcsL w ua a) (hl : ChsL ED12 w ul l) (hn : a.length ≤ 9223372036854775807) (hnl : l.length ≤ 9223372036854775807) : Ret 4 #[ua, ul] w (.bool true) := by
  have CAL := Lib.hid alive12_any
  have CF := Lib.hid (fun w' (h : Below w.heap.size w w') => dtfew_any w' ua a 40 (ha.below h).1 hn)
  have HLL := Lib.hid hl
  have HAA := Lib.hid ha
  obtain ⟨A, c, hul, _⟩ := hl.1
  obtain ⟨n, hnm⟩ : ∃ n, l.length = n := ⟨_, rfl⟩
  have HN := Lib.hid hnm
  rw [hnm] at hul hnl
  subst hul
  clear hnm ha hl hn
  by_cases h40 : (40 : Int) < (n : Int)
  · go_enter Try.func4, Try.ntmps4
    go_wp2_with (go_at_call 8; (with_reducible refine (CAL.out _).mono ?_); rintro e w2 ⟨rfl, hb2⟩)
    go_ret
    exact ⟨rfl, hb2⟩
  · cases hf : fewP a 40 with
    | false =>
      rw [hf] at CF
      clear hf
      go_enter Try.func4, Try.ntmps4
      go_wp2_with (first
        | (go_at_call 7; (with_reducible refine (CF.out _ (bl w)).mono ?_); rintro e w1 ⟨rfl, hw1⟩; obtain rfl := hw1.symm)
        | (go_at_call 8; (with_reducible refine (CAL.out _).mono ?_); rintro e w2 ⟨rfl, hb2⟩))
      go_ret
      exact ⟨rfl, hb2⟩
    | true =>
      rw [hf] at CF
      obtain ⟨h1, h2⟩ := few_pieces hf
      have hna : a.length ≤ 40 := by omega
      have hn40 : l.length ≤ 40 := by have := HN.out; omega
      have CO := Lib.hid (show ∀ w', Below w.heap.size w w' → Calls Try.prog 11 #[.slice A n c] w' fun e w'' => ∃ x, e = .returned x ∧ ChsL ER12 w'' x l ∧ Below w'.heap.size w' w'' from fun w' h => (own12_any w' _ l (HLL.out.below h) (by omega)).mono fun e w'' ⟨x, he, ho⟩ => ⟨x, he, own_chs ho (HLL.out.below h).2 rfl, ho.bel⟩)
      have CG := Lib.hid (fun w' x (h : ChsL ER12 w' x l) => dfew12_any w' x l 40 h.1 (by omega))
      cases hg : fewC l 40 with
      | false =>
        rw [hg] at CG
        clear hf hg h1 h2 hna hn40
        go_enter Try.func4, Try.ntmps4
        go_wp2_with (first
          | (go_at_call 7; (with_reducible refine (CF.out _ (bl w)).mono ?_); rintro e w1 ⟨rfl, hw1⟩; obtain rfl := hw1.symm)
          | (go_at_call 11; (with_reducible refine (CO.out _ (bl w)).mono ?_); rintro e w2 ⟨x2, rfl, hx2, hb2⟩; have HX2 := Lib.hid hx2; have HC2 := Lib.hid hb2; clear hx2 hb2)
          | (go_at_call 15; (with_reducible refine (CG.out _ _ HX2.out).mono ?_); rintro e w3 ⟨rfl, hw3⟩; obtain rfl := hw3.symm)
          | (go_at_call 8; (with_reducible refine (CAL.out _).mono ?_); rintro e w4 ⟨rfl, hb4⟩; have HC4 := Lib.hid (chain HC2.out hb4); clear hb4))
        go_ret
        exact ⟨rfl, HC4.out⟩
      | true =>
        rw [hg] at CG
        obtain ⟨k1, k2⟩ := few_changes hg
        have CP := Lib.hid (fun w' (h : Below w.heap.size w w') => pdapply_any w' ua _ a l (HAA.out.below h) (HLL.out.below h) hna (by omega) h2 k2)
        have CD := Lib.hid (fun w' x (h : Below w.heap.size w w') (hx : ChsL ER12 w' x l) => dapply12_any w' ua x a l (HAA.out.below h) hx hna hn40 h2 k2)
        have CS := Lib.hid (fun w' x y (hx : HasTL w' x (applyG a l)) (hy : HasTL w' y (applyG a l)) => dsame_tl hx hy (applyG_few h2 k2))
        have KT := Lib.hid (show ∀ w' w'' x, HasTL w' x (applyG a l) → Below w'.heap.size w' w'' → HasTL w'' x (applyG a l) from fun w' w'' x ⟨R, hR⟩ h => ⟨R, hR.below h⟩)
        generalize ((applyE a l : Nat) : Int) = z at *
        clear hf hg h1 h2 hna hn40 k1 k2
        go_enter Try.func4, Try.ntmps4
        go_wp2_with (first
          | (go_at_call 7; (with_reducible refine (CF.out _ (bl w)).mono ?_); rintro e w1 ⟨rfl, hw1⟩; obtain rfl := hw1.symm)
          | (go_at_call 11; (with_reducible refine (CO.out _ (bl w)).mono ?_); rintro e w2 ⟨x2, rfl, hx2, hb2⟩; have HX2 := Lib.hid hx2; have HC2 := Lib.hid hb2; clear hx2 hb2)
          | (go_at_call 15; (with_reducible refine (CG.out _ _ HX2.out).mono ?_); rintro e w3 ⟨rfl, hw3⟩; obtain rfl := hw3.symm)
          | (go_at_call 16; (with_reducible refine (CP.out _ HC2.out).mono ?_); rintro e w4 ⟨x4, rfl, hx4, hb4⟩; have HX4 := Lib.hid hx4; have HC4 := Lib.hid (chain HC2.out hb4); clear hx4 hb4)
          | (go_at_call 11; (with_reducible refine (CO.out _ HC4.out).mono ?_); rintro e w5 ⟨x5, rfl, hx5, hb5⟩; have HX5 := Lib.hid hx5; have HY5 := Lib.hid (KT.out _ _ _ HX4.out hb5); have HC5 := Lib.hid (chain HC4.out hb5); clear hx5 hb5)
          | (go_at_call 17; (with_reducible refine (CD.out _ _ HC5.out HX5.out).mono ?_); rintro e w6 ⟨x6, rfl, hx6, hb6⟩; have HX6 := Lib.hid hx6; have HY6 := Lib.hid (KT.out _ _ _ HY5.out hb6); have HC6 := Lib.hid (chain HC5.out hb6); clear hx6 hb6)
          | (go_at_call 18; (with_reducible refine (CS.out _ _ _ HY6.out HX6.out).mono ?_); rintro e w7 ⟨rfl, hb7⟩; have HC7 := Lib.hid (chain HC6.out hb7); clear hb7)
          | (go_at_call 8; (with_reducible refine (CAL.out _).mono ?_); rintro e w8 ⟨rfl, hb8⟩; have HC8 := Lib.hid (chain HC7.out hb8); clear hb8))
        go_ret
        exact ⟨rfl, HC8.out⟩

end Go.Proofs.Ytnopbhlhdecimaa
