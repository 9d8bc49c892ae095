/-
  Texts joined into one: what the program's and the document's calls give back, piece by piece.
-/
import Derived.Test.YtnopbhlhdecimaaMg1
import Derived.Test.YtnopbhlhdecimaaMg2
import Derived.Test.YtnopbhlhdecimaaMg3
import Derived.Test.YtnopbhlhdecimaaMg4
import Derived.Test.YtnopbhlhdecimaaMg5
import Derived.Test.YtnopbhlhdecimaaMg6
import Derived.Test.YtnopbhlhdecimaaProg
import Derived.Test.YtnopbhlhdecimaaRows
import Derived.BigQuiet
import Derived.ChangeAlike
import Derived.ChangeKeysEq
import Derived.Deep.AppendLies
import Derived.Deep.CutBlock
import Derived.Deep.CutRange
import Derived.Deep.Light
import Derived.Deep.LoopGhost
import Derived.Deep.QuietTactic
import Derived.Deep.RegionHeld3
import Derived.Deep.RegionLaw
import Derived.Handy
import Derived.IntWalk
import Derived.Laws.BytesArg
import Derived.Laws.OwnMore
import Derived.Laws.Strings
import Derived.Laws.StructEq
import Derived.Lib.Bytealg
import Derived.Lib.Hide
import Derived.Lib.QuietBelow
import Derived.Lib.SmallJoins
import Derived.LoopIn
import Derived.LoopNIn
import Derived.Maps.AppendAt
import Derived.Maps.RangeWalk
import Derived.OneCell
import Derived.OrdersIn
import Derived.OwnWalk
import Derived.OwnWalkIn
import Derived.ProofKit
import Derived.RangeFuncBox
import Derived.RangeFuncLeaves
import Derived.RangeFuncNested
import Derived.RangeFuncOwn
import Derived.RegionTactic
import Derived.Shelf.Abstract
import Derived.Shelf.RegionOpen
import Derived.Shelf.SlSortCmp.KitK
import Derived.Shelf.SlSortCmp.NoneTotal
import Derived.Sort.KeysCollected
import Derived.Sort.WalkB12
import Derived.Sort.WalkB2
import Derived.StillTailTactics
import Derived.TacticsInMore
import Derived.WalkArith
import Derived.WalkKit
import Derived.WalkLawsBesides
import Derived.WalkSpells
import Derived.Test.YtnopbhlhdecimaaChecked
import Derived.ChangeMaps5
import Derived.Deep.SlicePairs
import Derived.OpenShut
import Derived.SizedLaws

/-
  The chapter's example of changes.
-/
namespace Go.Proofs.Ytnopbhlhdecimaa
open Go.RowKit

abbrev oneF : List Fd := [⟨⟨#[97]⟩, 1⟩]
abbrev ocG (v : Int) : Obj := .cells #[.string ⟨#[97]⟩, .int .i64 v] 47
theorem fields_oneQ (w : World) : Fields (w.alloc (ocG 1)) (some ⟨w.heap.size, 0, none⟩) oneF := fun i f hf => by
  rcases i with _ | i
  · obtain rfl : (⟨⟨#[97]⟩, 1⟩ : Fd) = f := by simpa using hf
    exact ⟨w.heap.size, 0, rfl, by simp [go_sem], by simp [go_sem]⟩
  · simp at hf
abbrev pQ (t : Int) (A : Option Addr) : Pc := ⟨0, t, A, 1, oneF⟩
abbrev cQ (A : Option Addr) : Ch := ⟨2, 4, true, false, A, 1, oneF, none, 0, []⟩
theorem fsQ_one (t x : Int) (A : Option Addr) (h : 0 < t) (h2 : t ≤ 1099511627776) : fsP [pQ t A] x = if 0 ≤ x ∧ x < t then some oneF else none := by
  unfold fsP
  rw [valP, valP]
  by_cases hx : 0 ≤ x ∧ x < t
  · rw [if_pos hx, if_pos ((hasP_iff _ _).2 ⟨⟨by show (-1099511627776 : Int) ≤ 0; omega, h2, h⟩, hx.1, hx.2⟩)]; rfl
  · rw [if_neg hx, if_neg (fun k => hx (by have := (hasP_iff _ _).1 k; exact ⟨this.2.1, this.2.2⟩))]; rfl
theorem ex_right (t : Int) (A : Option Addr) (h : 0 < t) (h2 : t ≤ 1099511627776) : rightT [pQ t A] = true := (rightP_iff _ _).2 ⟨by show (-1099511627776 : Int) ≤ 0; omega, h, h2⟩
theorem ex_diff (A B C : Option Addr) : DiffL [pQ 4 A] [pQ 2 B] [cQ C] := by
  have hr : (rightT [pQ 4 A] && rightT [pQ 2 B]) = true := by rw [ex_right 4 A (by omega) (by omega), ex_right 2 B (by omega) (by omega)]; rfl
  refine ⟨(rightP_iff _ _).2 ⟨by show (-1099511627776 : Int) ≤ 2; omega, by show (2 : Int) < 4; omega, by show (4 : Int) ≤ 1099511627776; omega⟩, fun x => ?_⟩
  have e : fsPg (pgs [cQ C]) x = if 2 ≤ x ∧ x < 4 then some (vC (cQ C)) else none := by
    unfold fsPg pgs
    rw [List.map_cons, List.map_nil, valPg, valPg]
    by_cases hx : 2 ≤ x ∧ x < 4
    · rw [if_pos hx, if_pos]
      · rfl
      · simp [hasPg, rightP, inP]; omega
    · rw [if_neg hx, if_neg]
      · rfl
      · simp [hasPg, rightP, inP]; omega
  rw [e, diffV, if_pos hr, fsQ_one 4 x A (by omega) (by omega), fsQ_one 2 x B (by omega) (by omega)]
  have key : ∀ (u v : Option (List Fd)) (r : Option VC), (2 ≤ x ∧ x < 4 → r = some (vC (cQ C))) → (¬ (2 ≤ x ∧ x < 4) → r = none) → (0 ≤ x ∧ x < 4 → u = some oneF) → (¬ (0 ≤ x ∧ x < 4) → u = none) → (0 ≤ x ∧ x < 2 → v = some oneF) → (¬ (0 ≤ x ∧ x < 2) → v = none) → r = diffO u v := fun u v r h1 h2 h3 h4 h5 h6 => by
    by_cases h0 : 0 ≤ x ∧ x < 4
    · by_cases h7 : x < 2
      · rw [h2 (by omega), h3 h0, h5 (by omega), diffO, if_pos rfl]
      · rw [h1 (by omega), h3 h0, h6 (by omega), diffO, if_neg (by simp)]
        rfl
    · rw [h2 (by omega), h4 h0, h6 (by omega), diffO, if_pos rfl]
  exact key _ _ _ (fun h => if_pos h) (fun h => if_neg h) (fun h => if_pos h) (fun h => if_neg h) (fun h => if_pos h) (fun h => if_neg h)
theorem ex_pcsQ (w1 : World) (t : Int) (A : Option Addr) (hF : Fields w1 A oneF) (hA : A ≠ none) : PcsL (w1.alloc (.cells #[.int .i64 0, .int .i64 t, .slice A 1 1] 45)) (.slice (some ⟨w1.heap.size, 0, none⟩) 1 1) [pQ t A] := by
  refine ⟨listE_new (E := EP) w1 [pQ t A] 45, fun v hv => ?_⟩
  obtain rfl := List.mem_singleton.1 hv
  exact ⟨hF.below ((bl _).alloc (Nat.le_refl _) _), Nat.le_refl _, fun h => absurd h hA⟩
abbrev exW1 (w : World) : World := w.alloc (ocG 1)
abbrev exAq (w : World) : Option Addr := some ⟨w.heap.size, 0, none⟩
abbrev exW2 (w : World) : World := (exW1 w).alloc (.cells #[.int .i64 0, .int .i64 4, .slice (exAq w) 1 1] 45)
abbrev exW3 (w : World) : World := (exW2 w).alloc (.cells #[.int .i64 0, .int .i64 2, .slice (exAq w) 1 1] 45)

set_option maxHeartbeats 4000000 in
set_option maxRecDepth 100000 in
theorem alive12_any (w : World) : Ret 8 #[] w (.bool true) := by
  have hF1 := fields_oneQ w
  have hF2 : Fields (exW2 w) (exAq w) oneF := hF1.below ((bl _).alloc (Nat.le_refl _) _)
  have hF3 : Fields (exW3 w) (exAq w) oneF := hF2.below ((bl _).alloc (Nat.le_refl _) _)
  have ha : PcsL (exW3 w) (.slice (some ⟨w.heap.size + 1, 0, none⟩) 1 1) [pQ 4 (exAq w)] := by
    have h := (ex_pcsQ (exW1 w) 4 (exAq w) hF1 (by simp)).below ((bl _).alloc (Nat.le_refl _) (.cells #[.int .i64 0, .int .i64 2, .slice (exAq w) 1 1] 45))
    rwa [show (exW1 w).heap.size = w.heap.size + 1 by simp] at h
  have hb : PcsL (exW3 w) (.slice (some ⟨w.heap.size + 1 + 1, 0, none⟩) 1 1) [pQ 2 (exAq w)] := by
    have h := ex_pcsQ (exW2 w) 2 (exAq w) hF2 (by simp)
    rwa [show (exW2 w).heap.size = w.heap.size + 1 + 1 by simp] at h
  have f1 : ∀ (t : Int) (A : Option Addr), ∀ p ∈ [pQ t A], p.fs.length ≤ 20 := fun t A p hp => by
    obtain rfl := List.mem_singleton.1 hp
    show (1 : Nat) ≤ 20; omega
  have CP := Lib.hid (pdof_any (exW3 w) _ _ _ _ ha hb (by simp) (by simp) (f1 _ _) (f1 _ _))
  have HB := Lib.hid (show Below w.heap.size w (exW3 w) from (((bl w).alloc (Nat.le_refl _) _).alloc (by simp) _).alloc (by simp; omega) _)
  have HF3 := Lib.hid hF3
  have CS := Lib.hid (show ∀ (w1 : World) (x : Value), Below (exW3 w).heap.size (exW3 w) w1 → IsD ER12 w1 x [pQ 4 (exAq w)] [pQ 2 (exAq w)] → Ret 10 #[x, .slice (some ⟨w1.heap.size, 0, none⟩) 1 1] (w1.alloc (.cells #[.int .i64 2, .int .i64 4, .bool true, .bool false, .slice (exAq w) 1 1, .slice none 0 0] 49)) (.bool true) from fun w1 x hb h => by
    refine isD_same (h.below ((bl _).alloc (Nat.le_refl _) _)) ⟨[cQ (exAq w)], ⟨listE_new (E := ER12) w1 [cQ (exAq w)] 49, fun c hc => ?_⟩, ex_diff _ _ _, by simp⟩ (fun p hp => by have := f1 _ _ p hp; omega) (fun p hp => by have := f1 _ _ p hp; omega)
    obtain rfl := List.mem_singleton.1 hc
    exact ⟨⟨(hF3.below hb).below ((bl _).alloc (Nat.le_refl _) _), Nat.le_refl _, fun h => by cases h⟩, ⟨Fields.nil _ _, Nat.le_refl _, fun _ => rfl⟩⟩)
  clear ha hb hF1 hF2 hF3
  go_enter Try.func8, Try.ntmps8
  go_wp2_with (first
    | (go_at_call 9; (with_reducible refine CP.out.mono ?_); rintro e w2 ⟨x, rfl, hx, hb2⟩; have CO := Lib.hid (isD_own hx); have HB2 := Lib.hid hb2; clear hx hb2)
    | (go_at_call 11; (with_reducible refine CO.out.mono ?_); rintro e w3 ⟨y, rfl, hy, hb3⟩; have HB3 := Lib.hid (chain HB2.out hb3); have HY := Lib.hid hy; clear hb3 hy)
    | (go_at_call 10; (with_reducible refine (CS.out _ _ HB3.out HY.out).mono ?_); rintro e w4 ⟨rfl, hb4⟩))
  go_ret
  exact ⟨rfl, (chain HB.out HB3.out).trans ((((bl w3).alloc (Nat.le_refl _) _).trans (hb4.mono (by simp))).mono (chain HB.out HB3.out).size)⟩

end Go.Proofs.Ytnopbhlhdecimaa

/-
  The document's Few, Spans and Known of pieces.
-/
namespace Go.Proofs.Ytnopbhlhdecimaa
open Go.RowKit

/-- Are there at most so many pieces, of at most 20 fields? -/
def fewP (l : List Pc) (m : Int) : Bool := decide ((l.length : Int) ≤ m) && l.all fun v => decide (v.fs.length ≤ 20)
set_option maxHeartbeats 2000000 in
theorem dtfew_any (w : World) (u : Value) (l : List Pc) (m : Int) (hl : ListE EP w u l) (hn : l.length ≤ 9223372036854775807) : Same 7 #[u, .int .i64 m] w (.bool (fewP l m)) := by
  obtain ⟨A, c, rfl, hA, hc, hnc⟩ := hl
  have HA := Lib.hid hA
  obtain ⟨n, hnm⟩ : ∃ n, l.length = n := ⟨_, rfl⟩
  have HFB := Lib.hid (show fewP l m = (decide ((n : Int) ≤ m) && l.all fun v => decide (v.fs.length ≤ 20)) by rw [← hnm]; rfl)
  rw [hnm] at hn ⊢
  have HN := Lib.hid hnm
  clear hA hc hnc hnm
  generalize fewP l m = R at *
  by_cases hm : m < (n : Int)
  · have HE := Lib.hid (show R = false by rw [HFB.out, decide_eq_false (by omega)]; rfl)
    go_enter Try.func7, Try.ntmps7
    go_wp2_with fail
    go_ret
    exact ⟨ret_bool HE.out.symm, rfl⟩
  · have HE := Lib.hid (show R = l.all fun v => decide (v.fs.length ≤ 20) by rw [HFB.out, decide_eq_true (by omega)]; rfl)
    go_enter Try.func7, Try.ntmps7
    go_wp2_with fail
    go_loopw [5] (fun i wr => ∃ k : Nat, k ≤ n ∧ i = .int .i64 k ∧ R = (l.drop k).all (fun v => decide (v.fs.length ≤ 20)) ∧ wr = w) (fun i _ => n - (intOf i).toNat)
    case atStart => exact ⟨0, Nat.zero_le _, rfl, HE.out, rfl⟩
    case round =>
      obtain ⟨k, hk, rfl, hg, hwr⟩ := hrel
      obtain rfl := hwr.symm
      by_cases hlt : k < n
      · have hlt' : (k : Int) < (n : Int) := by omega
        obtain ⟨v, hx⟩ : ∃ v, l[k]? = some v := ⟨_, List.getElem?_eq_getElem (by have := HN.out; omega)⟩
        obtain ⟨g, off, rfl, hX⟩ := HA.out.cells3 hx
        have z5 := hX.2.2
        rw [drop_consL hx, List.all_cons] at hg
        clear hX hx
        by_cases h20 : 20 < v.fs.length
        · have h20' : (20 : Int) < (v.fs.length : Int) := by omega
          have NX := Lib.hid (show R = false by rw [hg, decide_eq_false (by omega)]; rfl)
          clear hg
          generalize v.fs.length = q at *
          go_wp2_with fail
          go_ret
          exact ⟨ret_bool NX.out.symm, rfl⟩
        · have h20' : ¬ (20 : Int) < (v.fs.length : Int) := by omega
          have NX := Lib.hid (show R = (l.drop (k + 1)).all (fun v => decide (v.fs.length ≤ 20)) by rw [hg, decide_eq_true (by omega)]; rfl)
          clear hg
          generalize v.fs.length = q at *
          go_wp2_with fail
          exact ⟨⟨k + 1, by omega, by go_num, NX.out, trivial⟩, by simp [intOf] <;> omega⟩
      · obtain rfl : k = n := by omega
        have hlt' : ¬ (k : Int) < (k : Int) := by omega
        rw [List.drop_of_length_le (by have := HN.out; omega)] at hg
        have NX := Lib.hid (show R = true from hg)
        clear hg
        go_wp2_with fail
        go_ret
        exact ⟨ret_bool NX.out.symm, rfl⟩

theorem few_pieces {l : List Pc} {m : Int} (h : fewP l m = true) : (l.length : Int) ≤ m ∧ ∀ p ∈ l, p.fs.length ≤ 20 := by
  unfold fewP at h
  rw [Bool.and_eq_true, decide_eq_true_eq, List.all_eq_true] at h
  exact ⟨h.1, fun p hp => by have := h.2 p hp; rwa [decide_eq_true_eq] at this⟩

end Go.Proofs.Ytnopbhlhdecimaa

/-
  DiffOf gives back true.
-/
namespace Go.Proofs.Ytnopbhlhdecimaa
open Go.RowKit

theorem isD_backp {w : World} {x : Value} {a b : List Pc} (h : IsD ED12 w x a b) (ha : ∀ p ∈ a, p.fs.length ≤ 20) (hb : ∀ p ∈ b, p.fs.length ≤ 20) : Calls Try.prog 13 #[x] w fun e w' => ∃ y, e = .returned y ∧ IsD ED12 w' y b a ∧ Below w.heap.size w w' := by
  obtain ⟨L, h1, h2, h3⟩ := h
  refine (pdback_any w x L h1 (by omega) (diffL_few h2 ha hb)).mono ?_
  rintro e w' ⟨y, m, rfl, k1, k2, k3⟩
  refine ⟨y, rfl, ⟨m, k1, diffL_pgs (diff_back h2) k2, ?_⟩, k3⟩
  have := congrArg List.length k2
  unfold pgs at this
  rw [List.length_map, List.length_map, List.length_map] at this
  omega
/-- What the program's Of tells, applied. -/
theorem isD_apply {w : World} {u x : Value} {a b : List Pc} (h : IsD ED12 w x a b) (hu : PcsL w u a) (hr : (rightT a && rightT b) = true) (hna : a.length ≤ 40) (ha : ∀ p ∈ a, p.fs.length ≤ 20) (hb : ∀ p ∈ b, p.fs.length ≤ 20) : Calls Try.prog 16 #[u, x] w fun e w' => ∃ y, e = .returned (.tuple #[y, .int .i64 0]) ∧ HasTL w' y (fsP b) ∧ Below w.heap.size w w' := by
  obtain ⟨L, h1, h2, h3⟩ := h
  have hd := diff_applied h2 hr
  refine (pdapply_any w u x a L hu h1 hna h3 ha (diffL_few h2 ha hb)).mono ?_
  rintro e w' ⟨y, rfl, ⟨R, hR⟩, hb'⟩
  exact ⟨y, by rw [hd.1]; rfl, ⟨R, hR.mono hd.2⟩, hb'⟩
theorem same_fs {w : World} {x u : Value} {b : List Pc} (hx : HasTL w x (fsP b)) (hu : PcsL w u b) (ht : TL b) (_hn : b.length ≤ 1000) (hf : ∀ p ∈ b, p.fs.length ≤ 20) : Ret 18 #[x, u] w (.bool true) := by
  obtain ⟨R, hR⟩ := hx
  have hq := hR.few (fun t s hs => fs_small hf hs)
  have := dtsame_any w x u R b hR.pcs hu (by have := hR.len; omega) (fun p hp => by have := hq p hp; omega) (fun p hp => by have := hf p hp; omega)
  rwa [tl_same hR.tl ht hR.fs] at this

set_option maxHeartbeats 8000000 in
set_option maxRecDepth 100000 in
theorem of12_walk (ua ub : Value) (a b : List Pc) (w : World) (ha : PcsL w ua a) (hb : PcsL w ub b) (hn : a.length ≤ 9223372036854775807) (hnb : b.length ≤ 9223372036854775807) : Ret 3 #[ua, ub] w (.bool true) := by
  have CAL := Lib.hid alive12_any
  have CF := Lib.hid (fun w' (h : Below w.heap.size w w') => dtfew_any w' ua a 40 (ha.below h).1 hn)
  have CG := Lib.hid (fun w' (h : Below w.heap.size w w') => dtfew_any w' ub b 40 (hb.below h).1 hnb)
  cases hf : fewP a 40 with
  | false =>
    rw [hf] at CF
    clear hf ha hb hn hnb CG
    go_enter Try.func3, Try.ntmps3
    go_wp2_with (first
      | (go_at_call 7; (with_reducible refine (CF.out _ (bl w)).mono ?_); rintro e w1 ⟨rfl, hw1⟩; obtain rfl := hw1.symm)
      | (go_at_call 8; (with_reducible refine (CAL.out _).mono ?_); rintro e w2 ⟨rfl, hb2⟩))
    go_ret
    exact ⟨rfl, hb2⟩
  | true =>
    rw [hf] at CF
    cases hg : fewP b 40 with
    | false =>
      rw [hg] at CG
      clear hf hg ha hb hn hnb
      go_enter Try.func3, Try.ntmps3
      go_wp2_with (first
        | (go_at_call 7; (with_reducible refine (CF.out _ (bl w)).mono ?_); rintro e w1 ⟨rfl, hw1⟩; obtain rfl := hw1.symm)
        | (go_at_call 7; (with_reducible refine (CG.out _ (bl w)).mono ?_); rintro e w1 ⟨rfl, hw1⟩; obtain rfl := hw1.symm)
        | (go_at_call 8; (with_reducible refine (CAL.out _).mono ?_); rintro e w2 ⟨rfl, hb2⟩))
      go_ret
      exact ⟨rfl, hb2⟩
    | true =>
      rw [hg] at CG
      obtain ⟨h1, h2⟩ := few_pieces hf
      obtain ⟨k1, k2⟩ := few_pieces hg
      have CP := Lib.hid (fun w' (h : Below w.heap.size w w') => pdof_any w' ua ub a b (ha.below h) (hb.below h) (by omega) (by omega) h2 k2)
      have CQ := Lib.hid (fun w' (h : Below w.heap.size w w') => pdof_any w' ub ua b a (hb.below h) (ha.below h) (by omega) (by omega) k2 h2)
      have CD := Lib.hid (fun w' (h : Below w.heap.size w w') => isD_of w' ua ub a b (ha.below h) (hb.below h) (by omega) (by omega) (fun p hp => by have := h2 p hp; omega) (fun p hp => by have := k2 p hp; omega))
      have CS := Lib.hid (fun w' x y (hx : IsD ER12 w' x a b) (hy : IsD ER12 w' y a b) => isD_same hx hy (fun p hp => by have := h2 p hp; omega) (fun p hp => by have := k2 p hp; omega))
      have CT := Lib.hid (fun w' x y (hx : IsD ER12 w' x b a) (hy : IsD ER12 w' y b a) => isD_same hx hy (fun p hp => by have := k2 p hp; omega) (fun p hp => by have := h2 p hp; omega))
      have CB := Lib.hid (fun w' x (hx : IsD ED12 w' x a b) => isD_backp hx h2 k2)
      clear hf hg ha hb hn hnb h1 h2 k1 k2
      go_enter Try.func3, Try.ntmps3
      go_wp2_with (first
        | (go_at_call 7; (with_reducible refine (CF.out _ (bl w)).mono ?_); rintro e w1 ⟨rfl, hw1⟩; obtain rfl := hw1.symm)
        | (go_at_call 7; (with_reducible refine (CG.out _ (bl w)).mono ?_); rintro e w1 ⟨rfl, hw1⟩; obtain rfl := hw1.symm)
        | (go_at_call 9; (with_reducible refine (CP.out _ (bl w)).mono ?_); rintro e w2 ⟨x2, rfl, hx2, hb2⟩; have HX2 := Lib.hid hx2; have HC2 := Lib.hid hb2; clear hx2 hb2)
        | (go_at_call 11; (with_reducible refine (isD_own HX2.out).mono ?_); rintro e w3 ⟨x3, rfl, hx3, hb3⟩; have HX3 := Lib.hid hx3; have HX2a := Lib.hid (HX2.out.below hb3); have HC3 := Lib.hid (chain HC2.out hb3); clear hx3 hb3)
        | (go_at_call 12; (with_reducible refine (CD.out _ HC3.out).mono ?_); rintro e w4 ⟨x4, rfl, hx4, hb4⟩; have HX4 := Lib.hid hx4; have HX3a := Lib.hid (HX3.out.below hb4); have HX2b := Lib.hid (HX2a.out.below hb4); have HC4 := Lib.hid (chain HC3.out hb4); clear hx4 hb4)
        | (go_at_call 10; (with_reducible refine (CS.out _ _ _ HX3a.out HX4.out).mono ?_); rintro e w5 ⟨rfl, hb5⟩; have HX2c := Lib.hid (HX2b.out.below hb5); have HC5 := Lib.hid (chain HC4.out hb5); clear hb5)
        | (go_at_call 13; (with_reducible refine (CB.out _ _ HX2c.out).mono ?_); rintro e w6 ⟨x6, rfl, hx6, hb6⟩; have HX6 := Lib.hid hx6; have HC6 := Lib.hid (chain HC5.out hb6); clear hx6 hb6)
        | (go_at_call 11; (with_reducible refine (isD_own HX6.out).mono ?_); rintro e w7 ⟨x7, rfl, hx7, hb7⟩; have HX7 := Lib.hid hx7; have HC7 := Lib.hid (chain HC6.out hb7); clear hx7 hb7)
        | (go_at_call 12; (with_reducible refine (CD.out _ HC7.out).mono ?_); rintro e w8 ⟨x8, rfl, hx8, hb8⟩; have HX8 := Lib.hid hx8; have HX7a := Lib.hid (HX7.out.below hb8); have HC8 := Lib.hid (chain HC7.out hb8); clear hx8 hb8)
        | (go_at_call 14; (with_reducible refine (isD_back HX8.out).mono ?_); rintro e w9 ⟨x9, rfl, hx9, hb9⟩; have HX9 := Lib.hid hx9; have HX7b := Lib.hid (HX7a.out.below hb9); have HC9 := Lib.hid (chain HC8.out hb9); clear hx9 hb9)
        | (go_at_call 10; (with_reducible refine (CT.out _ _ _ HX7b.out HX9.out).mono ?_); rintro e w10 ⟨rfl, hb10⟩; have HC10 := Lib.hid (chain HC9.out hb10); clear hb10)
        | (go_at_call 9; (with_reducible refine (CQ.out _ HC10.out).mono ?_); rintro e w11 ⟨x11, rfl, hx11, hb11⟩; have HX11 := Lib.hid hx11; have HC11 := Lib.hid (chain HC10.out hb11); clear hx11 hb11)
        | (go_at_call 11; (with_reducible refine (isD_own HX11.out).mono ?_); rintro e w12 ⟨x12, rfl, hx12, hb12⟩; have HX12 := Lib.hid hx12; have HC12 := Lib.hid (chain HC11.out hb12); clear hx12 hb12)
        | (go_at_call 12; (with_reducible refine (CD.out _ HC12.out).mono ?_); rintro e w13 ⟨x13, rfl, hx13, hb13⟩; have HX13 := Lib.hid hx13; have HX12a := Lib.hid (HX12.out.below hb13); have HC13 := Lib.hid (chain HC12.out hb13); clear hx13 hb13)
        | (go_at_call 14; (with_reducible refine (isD_back HX13.out).mono ?_); rintro e w14 ⟨x14, rfl, hx14, hb14⟩; have HX14 := Lib.hid hx14; have HX12b := Lib.hid (HX12a.out.below hb14); have HC14 := Lib.hid (chain HC13.out hb14); clear hx14 hb14)
        | (go_at_call 10; (with_reducible refine (CT.out _ _ _ HX12b.out HX14.out).mono ?_); rintro e w15 ⟨rfl, hb15⟩; have HC15 := Lib.hid (chain HC14.out hb15); clear hb15)
        | (go_at_call 8; (with_reducible refine (CAL.out _).mono ?_); rintro e w16 ⟨rfl, hb16⟩; have HC16 := Lib.hid (chain HC15.out hb16); clear hb16))
      go_ret
      exact ⟨rfl, HC16.out⟩

end Go.Proofs.Ytnopbhlhdecimaa

/-
  An argument that is a list of fields, or a list of lists of fields.
-/
namespace Go.Proofs.Ytnopbhlhdecimaa
open Go.ChangeShapes Go.WideShapes Go.ChangeAt Go.RowKit Go.Joins Go.ChangeMaps Go.Deep

theorem Try.own : ownKnob Try.prog.godebug = none := by kernel_rfl
theorem Try.laidOut : laidOutB Try.prog = true := by kernel_rfl
theorem Try.cellsField : Try.prog.cellsOf 47 = 2 := by kernel_rfl
theorem Try.cells3i : Try.prog.cellsOf 3 = 1 := by kernel_rfl
theorem Try.cells3s : Try.prog.cellsOf 9 = 1 := by kernel_rfl
theorem Try.cells3l : Try.prog.cellsOf 43 = 1 := by kernel_rfl

instance : Inhabited Fd := ⟨⟨⟨#[]⟩, 0⟩⟩
theorem plain_of_cell {w : World} {a : Addr} {v : Value} (h : w.cell? (a.add 0) = some v) : a = ⟨a.block, a.off, none⟩ := by
  obtain ⟨b, off, spot⟩ := a
  have hs : spot = none := by simpa [Addr.add] using World.cell?_spot h
  subst hs
  rfl
/-- Fields that may be. -/
def wellF (l : List Fd) : Prop := ∀ f ∈ l, (-9223372036854775808 ≤ f.v ∧ f.v ≤ 9223372036854775807) ∧ f.n.size ≤ 9223372036854775807
theorem int_of_wf {n : Int} (h : (Lit.int .i64 n).wf = true) : -9223372036854775808 ≤ n ∧ n ≤ 9223372036854775807 := by
  have h1 : IntKind.i64.min = -9223372036854775808 := rfl
  have h2 : IntKind.i64.max = 9223372036854775807 := rfl
  simp only [Lit.wf, Bool.and_eq_true, decide_eq_true_eq] at h
  omega
section
variable {H : Type} {enc : TypeId × Value → H} {W : World} {r : Reach} {base : Nat}

set_option maxRecDepth 100000 in
theorem fields_of {fuel : Nat} {v : Value} {x : DataW H × List MemPlace} (hf : DataW.trod enc Try.prog W 0 (fun _ => true) true fuel 43 [v] = some x) :
    ∃ l, ListF W v l ∧ wellF l ∧ l.length ≤ 9223372036854775807 := by
  rcases open_slice Try.underlying43 hf with ⟨hcs, _⟩ | ⟨a, len', cap', m, n, D, Pl, hcs, _, hl, hmx, hm, _, hx⟩
  · obtain rfl : v = .slice none 0 0 := by simpa using hcs
    exact ⟨[], ⟨none, 0, rfl, Fields.nil _ _, Nat.le_refl _, fun _ => rfl⟩, fun f hf => by simp at hf, by simp⟩
  · obtain rfl : v = .slice (some a) len' cap' := by simpa using hcs
    simp only [if_true] at hm
    subst hm
    have each : ∀ i, i < len' → ∃ q : Fd, W.cell? (a.add (i * 2)) = some (.string q.n) ∧ W.cell? (a.add (i * 2 + 1)) = some (.int .i64 q.v) ∧ (-9223372036854775808 ≤ q.v ∧ q.v ≤ 9223372036854775807) ∧ q.n.size ≤ 9223372036854775807 := by
      intro i hi
      obtain ⟨cs', h1, h2⟩ := hx i (by omega)
      rw [Try.cellsField] at h1
      obtain ⟨_, hlen, hcell⟩ := World.cells?_some h1
      obtain ⟨xs, k, hk, hxy, _, hxl, hf⟩ := DataW.trod_struct Try.underlying47 h2
      match xs, hxl, cs', hlen with
      | [y0, y1], _, [v0, v1], _ =>
        have g0 := hf 0 _ rfl
        have g1 := hf 1 _ rfl
        simp [Try.cells3i, Try.cells3s] at g0 g1
        obtain ⟨s, e0, _, hz⟩ := DataW.trod_string Try.underlying9 g0
        obtain ⟨x, e1, _, hw⟩ := DataW.trod_int Try.underlying3 g1
        simp at e0 e1
        subst e0 e1
        have f0 := hcell 0 (by omega)
        have f1 := hcell 1 (by omega)
        rw [add_add] at f0 f1
        exact ⟨⟨s, x⟩, by simpa using f0, by simpa using f1, int_of_wf hw, by unfold maxLen at hz; omega⟩
    obtain ⟨q, hq⟩ := choose_lt each
    refine ⟨(List.range len').map q, ⟨some a, m, by simp, fun i x hxx => ?_, by simpa using hl, by simp⟩, fun x hxx => ?_, by simp; unfold maxLen at hmx; omega⟩
    · have hi : i < len' := by
        rcases Nat.lt_or_ge i len' with hlt | hge
        · exact hlt
        · rw [List.getElem?_eq_none (by simpa using hge)] at hxx
          cases hxx
      obtain rfl : q i = x := by
        rw [List.getElem?_map, List.getElem?_range hi] at hxx
        simpa using hxx
      obtain ⟨z0, _⟩ := hq 0 (by omega)
      have ha := plain_of_cell (by simpa using z0)
      obtain ⟨c0, c1, _⟩ := hq i hi
      rw [ha, Go.WideShapes.add_plain] at c0 c1
      exact ⟨a.block, a.off, by rw [← ha], c0, by rw [Nat.add_assoc]; exact c1⟩
    · obtain ⟨i, hi, rfl⟩ := List.mem_map.1 hxx
      exact (hq i (List.mem_range.1 hi)).2.2

set_option maxRecDepth 100000 in
theorem arg_fields {v : Value} {d : DataW H} {p : List MemPlace} (hv : Value.okWide Try.prog W r base 43 v) (h : DataW.Trod enc Try.prog W 0 (fun _ => true) true 43 v d p) :
    ∃ l, ListF W v l ∧ wellF l ∧ l.length ≤ 9223372036854775807 := by
  obtain ⟨A, len, cap, rfl⟩ := okWide_slice Try.underlying43 hv
  obtain ⟨fuel, hf⟩ := h
  exact fields_of (by simpa [Value.cells] using hf)

end

end Go.Proofs.Ytnopbhlhdecimaa

/-
  An argument that is a list of versions.
-/
namespace Go.Proofs.Ytnopbhlhdecimaa
open Go.ChangeShapes Go.WideShapes Go.ChangeAt Go.RowKit Go.Joins Go.ChangeMaps Go.Deep

theorem Try.cellsSpan : Try.prog.cellsOf 42 = 2 := by kernel_rfl
theorem Try.cells3b : Try.prog.cellsOf 4 = 1 := by kernel_rfl
instance : Inhabited Vr := ⟨⟨0, 0, ⟨#[]⟩, 0, 0, none, 0, [], false⟩⟩

section
variable {H : Type} {enc : TypeId × Value → H} {W : World} {r : Reach} {base : Nat}

end

end Go.Proofs.Ytnopbhlhdecimaa

/-
  Arguments that are lists of pieces, spans by value; how long a list of versions may be.
-/
namespace Go.Proofs.Ytnopbhlhdecimaa
open Go.ChangeShapes Go.WideShapes Go.ChangeAt Go.RowKit Go.Joins Go.ChangeMaps Go.Deep

instance inhabitedPc : Inhabited Pc := ⟨⟨0, 0, none, 0, []⟩⟩
theorem Try.cellsPiece : Try.prog.cellsOf 45 = 3 := by kernel_rfl

section
variable {H : Type} {enc : TypeId × Value → H} {W : World} {r : Reach} {base : Nat}

set_option maxRecDepth 100000 in
theorem arg_span {v : Value} {d : DataW H} {p : List MemPlace} (hv : Value.okWide Try.prog W r base 42 v) (h : DataW.Trod enc Try.prog W 0 (fun _ => true) true 42 v d p) :
    ∃ a : Int × Int, v = .agg #[.int .i64 a.1, .int .i64 a.2] := by
  obtain ⟨cs, rfl, hs⟩ := okWide_struct Try.underlying42 hv
  rw [Try.cellsSpan] at hs
  obtain ⟨fuel, hf⟩ := h
  obtain ⟨xs, k, hk, hxy, _, hxl, hf⟩ := DataW.trod_struct Try.underlying42 hf
  obtain ⟨x0, x1, rfl⟩ := array2 hs
  match xs, hxl with
  | [y0, y1], _ =>
    have g0 := hf 0 _ rfl
    have g1 := hf 1 _ rfl
    simp [Try.cells3i] at g0 g1
    obtain ⟨x, e0, _, _⟩ := DataW.trod_int Try.underlying3 g0
    obtain ⟨y, e1, _, _⟩ := DataW.trod_int Try.underlying3 g1
    simp [Value.cells] at e0 e1
    subst e0 e1
    exact ⟨(x, y), rfl⟩

set_option maxRecDepth 100000 in
theorem arg_pieces {v : Value} {d : DataW H} {p : List MemPlace} (hv : Value.okWide Try.prog W r base 22 v) (h : DataW.Trod enc Try.prog W 0 (fun _ => true) true 22 v d p) :
    ∃ l, PcsL W v l ∧ l.length ≤ 9223372036854775807 := by
  obtain ⟨A, len, cap, rfl⟩ := okWide_slice Try.underlying22 hv
  obtain ⟨fuel, hf⟩ := h
  rcases open_slice Try.underlying22 hf with ⟨hcs, _⟩ | ⟨a, len', cap', m, n, D, Pl, hcs, _, hl, hmx, hm, _, hx⟩
  · simp [Value.cells] at hcs
    obtain ⟨rfl, rfl, rfl⟩ := hcs
    exact ⟨[], PcsL.nil _, by simp⟩
  · simp [Value.cells] at hcs
    obtain ⟨rfl, rfl, rfl⟩ := hcs
    simp only [if_true] at hm
    subst hm
    have each : ∀ i, i < len → ∃ q : Pc, (∀ j u, (cellsPc q)[j]? = some u → W.cell? (a.add (i * 3 + j)) = some u) ∧ PF W q := by
      intro i hi
      obtain ⟨cs', h1, h2⟩ := hx i (by omega)
      rw [Try.cellsPiece] at h1
      obtain ⟨_, hlen, hcell⟩ := World.cells?_some h1
      obtain ⟨xs, k, hk, hxy, _, hxl, hf⟩ := DataW.trod_struct Try.underlying45 h2
      match xs, hxl, cs', hlen with
      | [y0, y1], _, [v0, v1, v2], _ =>
        have g0 := hf 0 _ rfl
        have g1 := hf 1 _ rfl
        simp [Try.cells3l, Try.cellsSpan] at g0 g1
        obtain ⟨xs3, k3, hk3, hxy3, _, hxl3, hf3⟩ := DataW.trod_struct Try.underlying42 g0
        obtain ⟨l4, hl4, hw4, _⟩ := fields_of g1
        match xs3, hxl3 with
        | [z0, z1], _ =>
          have s0 := hf3 0 _ rfl
          have s1 := hf3 1 _ rfl
          simp [Try.cells3i] at s0 s1
          obtain ⟨x3, e3, _, _⟩ := DataW.trod_int Try.underlying3 s0
          obtain ⟨x4, e4, _, _⟩ := DataW.trod_int Try.underlying3 s1
          simp at e3 e4
          subst e3 e4
          obtain ⟨B, c, rfl, hB, hc, hnc⟩ := hl4
          refine ⟨⟨x3, x4, B, c, l4⟩, fun j u hu => ?_, ⟨hB, hc, hnc⟩⟩
          have hj : j < 3 := by
            rcases Nat.lt_or_ge j 3 with h' | h'
            · exact h'
            · rw [List.getElem?_eq_none (by simpa using h')] at hu; cases hu
          have f0 := hcell j hj
          rw [add_add] at f0
          have hh : ([Value.int .i64 x3, .int .i64 x4, .slice B l4.length c] : List Value)[j]? = some u := hu
          rw [hh] at f0
          exact f0
    obtain ⟨q, hq⟩ := choose_lt each
    refine ⟨(List.range len).map q, ⟨⟨some a, m, by simp, fun i x hxx => ?_, by simpa using hl, by simp⟩, fun x hxx => ?_⟩, by simp; unfold maxLen at hmx; omega⟩
    · have hi : i < len := by
        rcases Nat.lt_or_ge i len with hlt | hge
        · exact hlt
        · rw [List.getElem?_eq_none (by simpa using hge)] at hxx
          cases hxx
      obtain rfl : q i = x := by
        rw [List.getElem?_map, List.getElem?_range hi] at hxx
        simpa using hxx
      have z0 := (hq 0 (by omega)).1 0 _ rfl
      have ha := plain_of_cell (by simpa using z0)
      refine ⟨a.block, a.off, by rw [← ha], fun j u hu => ?_⟩
      have c0 := (hq i hi).1 j u hu
      rw [ha, Go.WideShapes.add_plain] at c0
      have e3 : EP.sz = 3 := rfl
      rw [e3, Nat.add_assoc]
      exact c0
    · obtain ⟨i, hi, rfl⟩ := List.mem_map.1 hxx
      exact (hq i (List.mem_range.1 hi)).2

end

end Go.Proofs.Ytnopbhlhdecimaa

/-
  Arguments that are lists of changes.
-/
namespace Go.Proofs.Ytnopbhlhdecimaa
open Go.ChangeShapes Go.WideShapes Go.ChangeAt Go.RowKit Go.Joins Go.ChangeMaps Go.Deep

instance inhabitedCh : Inhabited Ch := ⟨⟨0, 0, false, false, none, 0, [], none, 0, []⟩⟩
theorem Try.cellsChange12 : Try.prog.cellsOf 60 = 6 := by kernel_rfl

section
variable {H : Type} {enc : TypeId × Value → H} {W : World} {r : Reach} {base : Nat}

set_option maxRecDepth 100000 in
theorem arg_changes {v : Value} {d : DataW H} {p : List MemPlace} (hv : Value.okWide Try.prog W r base 25 v) (h : DataW.Trod enc Try.prog W 0 (fun _ => true) true 25 v d p) :
    ∃ l, ChsL ED12 W v l ∧ l.length ≤ 9223372036854775807 := by
  obtain ⟨A, len, cap, rfl⟩ := okWide_slice Try.underlying25 hv
  obtain ⟨fuel, hf⟩ := h
  rcases open_slice Try.underlying25 hf with ⟨hcs, _⟩ | ⟨a, len', cap', m, n, D, Pl, hcs, _, hl, hmx, hm, _, hx⟩
  · simp [Value.cells] at hcs
    obtain ⟨rfl, rfl, rfl⟩ := hcs
    exact ⟨[], ⟨ListE.nil _, fun c hc => by simp at hc⟩, by simp⟩
  · simp [Value.cells] at hcs
    obtain ⟨rfl, rfl, rfl⟩ := hcs
    simp only [if_true] at hm
    subst hm
    have each : ∀ i, i < len → ∃ q : Ch, (∀ j u, (cellsCh q)[j]? = some u → W.cell? (a.add (i * 6 + j)) = some u) ∧ CF W q := by
      intro i hi
      obtain ⟨cs', h1, h2⟩ := hx i (by omega)
      rw [Try.cellsChange12] at h1
      obtain ⟨_, hlen, hcell⟩ := World.cells?_some h1
      obtain ⟨xs, k, hk, hxy, _, hxl, hf⟩ := DataW.trod_struct Try.underlying60 h2
      match xs, hxl, cs', hlen with
      | [y0, y1, y2, y3, y4], _, [v0, v1, v2, v3, v4, v5], _ =>
        have g0 := hf 0 _ rfl
        have g1 := hf 1 _ rfl
        have g2 := hf 2 _ rfl
        have g3 := hf 3 _ rfl
        have g4 := hf 4 _ rfl
        simp [Try.cells3b, Try.cells3l, Try.cellsSpan] at g0 g1 g2 g3 g4
        obtain ⟨xs3, k3, hk3, hxy3, _, hxl3, hf3⟩ := DataW.trod_struct Try.underlying42 g0
        obtain ⟨x1, e1, _⟩ := DataW.trod_bool Try.underlying4 g1
        obtain ⟨x2, e2, _⟩ := DataW.trod_bool Try.underlying4 g2
        obtain ⟨l5, hl5, _, _⟩ := fields_of g3
        obtain ⟨l6, hl6, _, _⟩ := fields_of g4
        match xs3, hxl3 with
        | [z0, z1], _ =>
          have s0 := hf3 0 _ rfl
          have s1 := hf3 1 _ rfl
          simp [Try.cells3i] at s0 s1
          obtain ⟨x3, e3, _, _⟩ := DataW.trod_int Try.underlying3 s0
          obtain ⟨x4, e4, _, _⟩ := DataW.trod_int Try.underlying3 s1
          simp at e1 e2 e3 e4
          subst e1 e2 e3 e4
          obtain ⟨B, c, rfl, hB, hc, hnc⟩ := hl5
          obtain ⟨B', c', rfl, hB', hc', hnc'⟩ := hl6
          refine ⟨⟨x3, x4, x1, x2, B, c, l5, B', c', l6⟩, fun j u hu => ?_, ⟨⟨hB, hc, hnc⟩, ⟨hB', hc', hnc'⟩⟩⟩
          have hj : j < 6 := by
            rcases Nat.lt_or_ge j 6 with h' | h'
            · exact h'
            · rw [List.getElem?_eq_none (by simpa using h')] at hu; cases hu
          have f0 := hcell j hj
          rw [add_add] at f0
          have hh : ([Value.int .i64 x3, .int .i64 x4, .bool x1, .bool x2, .slice B l5.length c, .slice B' l6.length c'] : List Value)[j]? = some u := hu
          rw [hh] at f0
          exact f0
    obtain ⟨q, hq⟩ := choose_lt each
    refine ⟨(List.range len).map q, ⟨⟨some a, m, by simp, fun i x hxx => ?_, by simpa using hl, by simp⟩, fun x hxx => ?_⟩, by simp; unfold maxLen at hmx; omega⟩
    · have hi : i < len := by
        rcases Nat.lt_or_ge i len with hlt | hge
        · exact hlt
        · rw [List.getElem?_eq_none (by simpa using hge)] at hxx
          cases hxx
      obtain rfl : q i = x := by
        rw [List.getElem?_map, List.getElem?_range hi] at hxx
        simpa using hxx
      have z0 := (hq 0 (by omega)).1 0 _ rfl
      have ha := plain_of_cell (by simpa using z0)
      refine ⟨a.block, a.off, by rw [← ha], fun j u hu => ?_⟩
      have c0 := (hq i hi).1 j u hu
      rw [ha, Go.WideShapes.add_plain] at c0
      have e3 : ED12.sz = 6 := rfl
      rw [e3, Nat.add_assoc]
      exact c0
    · obtain ⟨i, hi, rfl⟩ := List.mem_map.1 hxx
      exact (hq i (List.mem_range.1 hi)).2

end

end Go.Proofs.Ytnopbhlhdecimaa
