/-
  Texts joined into one: what the program's and the document's calls give back, piece by piece.
-/
import Derived.Test.YtpeifijcpemjeaaMg1
import Derived.Test.YtpeifijcpemjeaaMg2
import Derived.Test.YtpeifijcpemjeaaMg3
import Derived.Test.YtpeifijcpemjeaaMg4
import Derived.Test.YtpeifijcpemjeaaMg5
import Derived.Test.YtpeifijcpemjeaaRows
import Derived.BigQuiet
import Derived.ChangeAlike
import Derived.ChangeKeysEq
import Derived.Deep.AppendLies
import Derived.Deep.CutBlock
import Derived.Deep.CutRange
import Derived.Deep.Light
import Derived.Deep.OwnRows
import Derived.Deep.QuietTactic
import Derived.Deep.RegionHeld3
import Derived.Deep.RegionLaw
import Derived.Handy
import Derived.IntWalk
import Derived.Laws.BytesArg
import Derived.Laws.Externs
import Derived.Laws.IdiomCopy
import Derived.Laws.MakeOwn
import Derived.Laws.OwnMore
import Derived.Laws.Strings
import Derived.Laws.StructEq
import Derived.Lib.AppendStr
import Derived.Lib.Builder
import Derived.Lib.Hide
import Derived.Lib.QuietBelow
import Derived.Lib.SmallJoins
import Derived.Lib.UnsafeStr
import Derived.Maps.AppendAt
import Derived.OneCell
import Derived.OwnWalk
import Derived.ProofKit
import Derived.RangeFuncOwn
import Derived.RegionTactic
import Derived.StillTailTactics
import Derived.WalkArith
import Derived.WalkKit
import Derived.WalkLawsBesides
import Derived.WalkSpells

/-
  Of a chain's rows just one stands at a stamp; what is not in Changed is valid at both stamps, or at neither: plain facts.
-/
namespace Go.Proofs.Ytpeifijcpemjeaa

/-- Of rising stamps those that are not above a come first. -/
theorem stand_one : ∀ (f : Vr) (l : List Vr) (a : Int), Rising (f :: l) → f.st ≤ a → ∃ m v, (f :: l)[m]? = some v ∧ ∀ (i : Nat) (u : Vr), (f :: l)[i]? = some u → (u.st ≤ a ↔ i ≤ m)
  | f, [], a, _, h => ⟨0, f, rfl, fun i u hu => by
    cases i with
    | zero => simp at hu; subst hu; simp [h]
    | succ i => simp at hu⟩
  | f, g :: l, a, hr, h => by
    obtain ⟨h1, h2⟩ := List.pairwise_cons.1 hr
    by_cases hg : g.st ≤ a
    · obtain ⟨m, v, hv, hm⟩ := stand_one g l a h2 hg
      refine ⟨m + 1, v, by rw [List.getElem?_cons_succ]; exact hv, fun i u hu => ?_⟩
      cases i with
      | zero => simp at hu; subst hu; simp [h]
      | succ i =>
        rw [List.getElem?_cons_succ] at hu
        rw [hm i u hu]; omega
    · refine ⟨0, f, rfl, fun i u hu => ?_⟩
      cases i with
      | zero => simp at hu; subst hu; simp [h]
      | succ i =>
        rw [List.getElem?_cons_succ] at hu
        have hmem := List.mem_of_getElem? hu
        have hge : g.st ≤ u.st := by
          rcases List.mem_cons.1 hmem with rfl | hm
          · exact Int.le_refl _
          · exact Int.le_of_lt ((List.pairwise_cons.1 h2).1 u hm)
        constructor
        · intro hu2; omega
        · intro hi; omega
theorem rising_lt {l : List Vr} (h : Rising l) {i j : Nat} {u v : Vr} (hi : l[i]? = some u) (hj : l[j]? = some v) (hij : i < j) : u.st < v.st := by
  obtain ⟨h1, rfl⟩ := List.getElem?_eq_some_iff.1 hi
  obtain ⟨h2, rfl⟩ := List.getElem?_eq_some_iff.1 hj
  exact List.pairwise_iff_getElem.1 h i j h1 h2 hij
/-- The place of the version that is there. -/
structure Stands (l : List Vr) (a : Int) (m : Nat) (v : Vr) : Prop where
  get : l[m]? = some v
  le : ∀ (i : Nat) (u : Vr), l[i]? = some u → (u.st ≤ a ↔ i ≤ m)
  at_ : atC a l = some v
theorem stands_of {l : List Vr} {f : Vr} {r : List Vr} (hl : l = f :: r) (hr : Rising l) {a : Int} (ha : f.st ≤ a) : ∃ m v, Stands l a m v := by
  subst hl
  obtain ⟨m, v, hv, hm⟩ := stand_one f r a hr ha
  refine ⟨m, v, hv, hm, ?_⟩
  have h1 : atC a ((f :: r).take (m + 1)) = some v := by
    rw [atC_next a hv, stepA, if_pos]
    refine ⟨(hm m v hv).2 (Nat.le_refl _), fun u hu => ?_⟩
    have hmem := (atC_mem hu).1
    obtain ⟨i, hi⟩ := List.mem_iff_getElem?.1 hmem
    rw [List.getElem?_take] at hi
    split at hi
    · rename_i him
      exact Int.le_of_lt (rising_lt hr hi hv him)
    · cases hi
  cases hx : (f :: r)[m + 1]? with
  | none =>
    rw [List.take_of_length_le (by have := List.getElem?_eq_none_iff.1 hx; exact this)] at h1
    exact h1
  | some u =>
    rw [← atC_ahead hr hx (by have := (hm (m + 1) u hx); omega)]
    exact h1
/-- Which row stands at a. -/
theorem stands_row {l : List Vr} {a : Int} {m : Nat} {v : Vr} (h : Stands l a m v) (ha : a < 4611686018427387904) {k : Nat} {u : Vr} (hk : l[k]? = some u) : (u.st ≤ a ∧ a < (rowAt l k u).un) ↔ k = m := by
  have h1 := h.le k u hk
  have hm := (List.getElem?_eq_some_iff.1 h.get).1
  have hkl := (List.getElem?_eq_some_iff.1 hk).1
  unfold rowAt
  cases hx : l[k + 1]? with
  | none =>
    have := List.getElem?_eq_none_iff.1 hx
    constructor
    · intro ⟨a1, a2⟩; have := h1.1 a1; omega
    · intro e; exact ⟨h1.2 (by omega), ha⟩
  | some w =>
    have h2 := h.le (k + 1) w hx
    constructor
    · intro ⟨a1, a2⟩
      have := h1.1 a1
      have a2 : a < w.st := a2
      have : ¬ w.st ≤ a := by omega
      have : ¬ k + 1 ≤ m := fun e => this (h2.2 e)
      omega
    · intro e
      have : ¬ w.st ≤ a := fun e2 => by have := h2.1 e2; omega
      exact ⟨h1.2 (by omega), by show a < w.st; omega⟩

/-- What is not in Changed is valid at both stamps, or at neither. -/
theorem one_end {l : List Vr} (hr : Rising l) {a b : Int} {m m' : Nat} {v w : Vr} (hv : Stands l a m v) (hw : Stands l b m' w) (t : Int) {L : List (Int × Int)} (hL : Co.CovOf L (Co.Mem (chgC a b l))) : Co.memB L t = true ∨ coversB v t = coversB w t := by
  by_cases hs : v.st = w.st
  · right
    have : m = m' := by
      rcases Nat.lt_trichotomy m m' with h | h | h
      · have := rising_lt hr hv.get hw.get h; omega
      · exact h
      · have := rising_lt hr hw.get hv.get h; omega
    subst this
    have := hv.get.symm.trans hw.get
    rw [Option.some.inj this]
  · have hc : chgC a b l = spansO (some v) ++ spansO (some w) := by
      rw [chgC, hv.at_, hw.at_, likeC, decide_eq_false hs]; rfl
    by_cases hm : Co.memB L t = true
    · exact .inl hm
    · right
      have hn : ¬ Co.Mem (chgC a b l) t := fun h => hm ((Co.memB_iff L t).2 ((hL.2 t).2 h))
      rw [hc] at hn
      have no : ∀ u : Vr, (u = v ∨ u = w) → coversB u t = false := fun u hu => by
        rw [coversB_eq]
        cases hg : u.gone with
        | true => rfl
        | false =>
          cases hx : (rightS u.sf u.se && hasS u.sf u.se t) with
          | false => simp only [Bool.not_false, Bool.true_and]; exact hx
          | true =>
            exfalso
            refine hn ⟨(u.sf, u.se), ?_, ?_⟩
            · rw [List.mem_append]
              rcases hu with rfl | rfl
              · left; rw [spansO, hg]; simp
              · right; rw [spansO, hg]; simp
            · unfold hasS at hx
              simp only [Bool.and_eq_true, decide_eq_true_eq] at hx
              exact ⟨by have := hx.1; unfold rightS at this; simp only [Bool.and_eq_true, decide_eq_true_eq] at this; simp only [Co.rightB, decide_eq_true_eq]; omega, hx.2.1, hx.2.2⟩
      rw [no v (.inl rfl), no w (.inr rfl)]

end Go.Proofs.Ytpeifijcpemjeaa

/-
  ChainOne gives back true for any versions, stamps and time.
-/
namespace Go.Proofs.Ytpeifijcpemjeaa
open Go.RowKit

set_option maxHeartbeats 4000000 in
set_option maxRecDepth 100000 in
theorem one_walk (u : Value) (l : List Vr) (a b t : Int) (w : World) (hl : VersL w u l) (hok : ∀ v ∈ l, okF v.fs) (hn : l.length ≤ 9223372036854775807) (hz : ∀ v ∈ l, v.ent.size ≤ 9223372036854775807) : Ret 6 #[u, .agg #[.int .i64 a, .int .i64 b], .int .i64 t] w (.bool true) := by
  have CAL := Lib.hid alive10_any
  obtain ⟨W, hW⟩ : ∃ W, (w.alloc (.cells #[.int .i64 a, .int .i64 b] 49)).drew = W := ⟨_, rfl⟩
  have HW := Lib.hid hW
  have HBW := Lib.hid (show Below w.heap.size w W by rw [← hW]; exact ((bl w).alloc (Nat.le_refl _) _).drew)
  have CF := Lib.hid (fun w' (h : Below w.heap.size w w') => dfew_any w' u l 100 (hl.below h).1 hn)
  clear hW
  cases hf : fewB l 100 with
  | false =>
    rw [hf] at CF
    have CF0 := Lib.hid (CF.out W HBW.out)
    clear CF hf hl hok hn hz
    go_enter Try.func6, Try.ntmps6
    go_wp2_with fail
    go_region
    rw [HW.out]
    go_wp2_with (first
      | (go_at_call 8; (with_reducible refine CF0.out.mono ?_); rintro e w1 ⟨rfl, hw1⟩; obtain rfl := hw1.symm)
      | (go_at_call 9; (with_reducible refine (CAL.out _).mono ?_); rintro e w2 ⟨rfl, hb⟩))
    go_ret
    exact ⟨rfl, chain HBW.out hb⟩
  | true =>
    have hfew := few_of hf (by decide)
    rw [hf] at CF
    have CF0 := Lib.hid (CF.out W HBW.out)
    have h1 : l.length ≤ 1000 := by have := hfew.1; omega
    have h2 : ∀ v ∈ l, v.fs.length ≤ 1000 := fun v hv => by have := hfew.2 v hv; omega
    have CR := Lib.hid (fun w' (h : Below w.heap.size w w') => prowsc_any w' u l (hl.below h) hok h1 h2 hz)
    have CC := Lib.hid (fun w' (h : Below w.heap.size w w') => pchkc_any w' u l (hl.below h) hok h1 h2 hz)
    by_cases h0 : chkL l = 0
    · obtain ⟨hr, _, f, r, hlf, hst⟩ := chk_rising h0
      have hlen : l.length = (rowsL l).length := by unfold rowsL; rw [if_pos h0, rowsV_length]
      have hR : rowsL l = rowsV l := by unfold rowsL; rw [if_pos h0]
      have hl0 : l[0]? = some f := by rw [hlf]; rfl
      have hl00 := hl
      obtain ⟨⟨A, c, rfl, hA, hc, hnc⟩, hVF⟩ := hl00
      obtain ⟨g, off, rfl, hcell⟩ := hA.cells7 hl0
      have hpos : (0 : Int) < (l.length : Int) := by rw [hlf]; simp only [List.length_cons]; omega
      rw [Nat.zero_mul, Nat.add_zero] at hcell
      have HF := Lib.hid hcell
      rw [h0] at CR
      by_cases ha : a < f.id
      · clear CF hf hl hok hn hz hfew h1 h2 h0 hr hcell hlen hlf hl0 hst hR hVF hnc hc hA
        go_enter Try.func6, Try.ntmps6
        go_wp2_with fail
        go_region
        rw [HW.out]
        go_wp2_with (first
          | (go_at_call 8; (with_reducible refine CF0.out.mono ?_); rintro e w1 ⟨rfl, hw1⟩; obtain rfl := hw1.symm)
          | (go_at_call 10; (with_reducible refine (CR.out _ HBW.out).mono ?_); rintro e w2 ⟨u2, Q2, rfl, hl2, ht2, hb2⟩; have hc2 := chain HBW.out hb2; obtain ⟨⟨A2, c2, rfl, hA2, _⟩, _⟩ := hl2; (have hq2 := ht2.length); rw [hq2] at *; obtain ⟨z0, z1, z2, z3, z4, z5, z6⟩ := HF.out.below hc2)
          | (go_at_call 9; (with_reducible refine (CAL.out _).mono ?_); rintro e w4 ⟨rfl, hb⟩; have hc4 := chain hc2 hb))
        go_ret
        exact ⟨rfl, hc4⟩
      have had : decide (a < f.id) = false := decide_eq_false ha
      by_cases hba : b < a
      · clear CF hf hl hok hn hz hfew h1 h2 h0 hr hcell hlen hlf hl0 hst hR hVF hnc hc hA
        go_enter Try.func6, Try.ntmps6
        go_wp2_with fail
        go_region
        rw [HW.out]
        go_wp2_with (first
          | (go_at_call 8; (with_reducible refine CF0.out.mono ?_); rintro e w1 ⟨rfl, hw1⟩; obtain rfl := hw1.symm)
          | (go_at_call 10; (with_reducible refine (CR.out _ HBW.out).mono ?_); rintro e w2 ⟨u2, Q2, rfl, hl2, ht2, hb2⟩; have hc2 := chain HBW.out hb2; obtain ⟨⟨A2, c2, rfl, hA2, _⟩, _⟩ := hl2; (have hq2 := ht2.length); rw [hq2] at *; obtain ⟨z0, z1, z2, z3, z4, z5, z6⟩ := HF.out.below hc2)
          | (go_at_call 9; (with_reducible refine (CAL.out _).mono ?_); rintro e w4 ⟨rfl, hb⟩; have hc4 := chain hc2 hb))
        go_ret
        exact ⟨rfl, hc4⟩
      have hbad : decide (b < a) = false := decide_eq_false hba
      by_cases hbf : 4611686018427387904 ≤ b
      · clear CF hf hl hok hn hz hfew h1 h2 h0 hr hcell hlen hlf hl0 hst hR hVF hnc hc hA
        go_enter Try.func6, Try.ntmps6
        go_wp2_with fail
        go_region
        rw [HW.out]
        go_wp2_with (first
          | (go_at_call 8; (with_reducible refine CF0.out.mono ?_); rintro e w1 ⟨rfl, hw1⟩; obtain rfl := hw1.symm)
          | (go_at_call 10; (with_reducible refine (CR.out _ HBW.out).mono ?_); rintro e w2 ⟨u2, Q2, rfl, hl2, ht2, hb2⟩; have hc2 := chain HBW.out hb2; obtain ⟨⟨A2, c2, rfl, hA2, _⟩, _⟩ := hl2; (have hq2 := ht2.length); rw [hq2] at *; obtain ⟨z0, z1, z2, z3, z4, z5, z6⟩ := HF.out.below hc2)
          | (go_at_call 9; (with_reducible refine (CAL.out _).mono ?_); rintro e w4 ⟨rfl, hb⟩; have hc4 := chain hc2 hb))
        go_ret
        exact ⟨rfl, hc4⟩
      have hbfd : decide (4611686018427387904 ≤ b) = false := decide_eq_false hbf
      obtain ⟨m, v, hS⟩ := stands_of (a := a) hlf hr (by omega)
      obtain ⟨m', v', hS'⟩ := stands_of (a := b) hlf hr (by omega)
      have hmn : m < l.length := (List.getElem?_eq_some_iff.1 hS.get).1
      have CA := Lib.hid (fun w' (h : Below w.heap.size w w') => show Calls Try.prog 15 #[.int .i64 a, .slice (some ⟨g, off, none⟩) l.length c] w' fun e w'' => ∃ A c, e = .returned (.tuple #[vv (twin v A c), .bool true]) ∧ VF w'' (twin v A c) ∧ Below w'.heap.size w' w'' by
        have := patc_any w' a _ l (hl.below h) h1 h2
        rw [hS.at_] at this; exact this)
      have CB := Lib.hid (fun w' (h : Below w.heap.size w w') => show Calls Try.prog 15 #[.int .i64 b, .slice (some ⟨g, off, none⟩) l.length c] w' fun e w'' => ∃ A c, e = .returned (.tuple #[vv (twin v' A c), .bool true]) ∧ VF w'' (twin v' A c) ∧ Below w'.heap.size w' w'' by
        have := patc_any w' b _ l (hl.below h) h1 h2
        rw [hS'.at_] at this; exact this)
      have hvl := List.mem_of_getElem? hS.get
      have CO := Lib.hid (fun w' A c B d (h : VF w' (twin v A c)) (k : VF w' (twin v B d)) => show Ret 17 #[vv (twin v A c), vv (twin v B d)] w' (.bool true) by
        have := done_v (twin v A c) (twin v B d) w' h k (by show v.fs.length ≤ _; have := h2 v hvl; omega) (by show v.fs.length ≤ _; have := h2 v hvl; omega)
        rwa [twin_sameV] at this)
      have HST := Lib.hid (fun (k : Nat) (x : Vr) (hx : l[k]? = some x) => stands_row hS (by omega) hx)
      have HSG := Lib.hid hS.get
      have CCH := Lib.hid (fun w' (h : Below w.heap.size w w') => pchgc_any w' a b _ l (hl.below h) h1)
      have HEND := Lib.hid (fun (L : List (Int × Int)) => one_end (L := L) hr hS hS' t)
      obtain ⟨n, hnn⟩ : ∃ n, l.length = n := ⟨_, rfl⟩
      have HNN := Lib.hid hnn
      have hn1 : n ≤ 1000 := by omega
      have hmn' : m < n := by omega
      rw [hnn] at hpos
      have HLEN := Lib.hid hlen
      have HRR := Lib.hid hR
      clear CF hf hl hok hn hz hfew h1 h2 h0 hr hcell hlen hS hS' hvl hmn hA hc hnc hVF hlf hl0 hst hR
      rw [hnn] at CF0 CR CC CA CB CCH ⊢
      have CR := Lib.hid (show ∀ w', Below w.heap.size w w' → Calls Try.prog 10 #[.slice (some ⟨g, off, none⟩) n c] w' fun e w'' => ∃ A2 c2 Q, e = .returned (.tuple #[.slice A2 n c2, .int .i64 0]) ∧ RowE ER w'' A2 Q ∧ (∀ r ∈ Q, VF w'' r.v) ∧ TwinR Q (rowsL l) ∧ Below w'.heap.size w' w'' from fun w' h => (CR.out w' h).mono fun e w'' ⟨x, Q, he, ⟨⟨A2, c2, hx, hr2, _⟩, hvq⟩, htw, hb⟩ => ⟨A2, c2, Q, by rw [he, hx, htw.length, ← HLEN.out, HNN.out]; rfl, hr2, hvq, htw, hb⟩)
      clear hnn
      go_enter Try.func6, Try.ntmps6
      go_wp2_with fail
      go_region
      rw [HW.out]
      go_upto_region 11 with (first
        | (go_at_call 8; (with_reducible refine CF0.out.mono ?_); rintro e w1 ⟨rfl, hw1⟩; obtain rfl := hw1.symm)
        | (go_at_call 10; (with_reducible refine (CR.out _ HBW.out).mono ?_); rintro e w2 ⟨A2, c2, Q2, rfl, hA2, hvq2, htw2, hb2⟩; have HTW := Lib.hid htw2; clear htw2; have hc2 := chain HBW.out hb2; obtain ⟨z0, z1, z2, z3, z4, z5, z6⟩ := HF.out.below hc2)
        | (go_at_call 15; (with_reducible refine (CA.out _ hc2).mono ?_); rintro e w3 ⟨A3, c3, rfl, hv3, hb3⟩; have hc3 := chain hc2 hb3; have hd3 := hc3.alloc hc3.size (ocV (twin v A3 c3))))
      refine abstract_worldW (fun W => Below w.heap.size w W ∧ BoxV W w3.heap.size (twin v A3 c3) ∧ RowE ER W A2 Q2 ∧ (∀ r ∈ Q2, VF W r.v) ∧ VF W (twin v A3 c3)) ⟨hd3, boxV_new w3 (twin v A3 c3), (hA2.below hb3).below ((bl w3).alloc (Nat.le_refl _) _), fun r hr => ((hvq2 r hr).below hb3).below ((bl w3).alloc (Nat.le_refl _) _), hv3.below ((bl w3).alloc (Nat.le_refl _) _)⟩ ?_
      rintro W3 ⟨hd4, hX4, hA4, hvq4, hv4⟩
      have HVQ := Lib.hid hvq4
      have HV4 := Lib.hid hv4
      clear hvq4 hv4 hvq2 hv3
      have HD4 := Lib.hid hd4
      have HX4 := Lib.hid hX4
      have HA4 := Lib.hid hA4
      clear hd3 hd4 hX4 hA4 hA2
      go_wp2_with fail
      go_loopw [11, 69] (fun ct i wr => ∃ k : Nat, k ≤ n ∧ i = .int .i64 k ∧ ((m < k ∧ ct = .int .i64 1) ∨ (¬ m < k ∧ ct = .int .i64 0)) ∧ Below W3.heap.size W3 wr) (fun _ i _ => n - (intOf i).toNat)
      case atStart => exact ⟨0, Nat.zero_le _, rfl, .inr ⟨by omega, rfl⟩, bl W3⟩
      case round =>
        obtain ⟨k, hk, rfl, hct, hB⟩ := hrel
        have HB := Lib.hid hB
        clear hB
        by_cases hlt : k < n
        · have hlt' : (k : Int) < (n : Int) := by omega
          obtain ⟨x, hx⟩ : ∃ x, l[k]? = some x := ⟨_, List.getElem?_eq_getElem (by have := HNN.out; omega)⟩
          have hrow : (rowsL l)[k]? = some (rowAt l k x) := by rw [HRR.out, rowsV_get l k x hx]; rfl
          obtain ⟨Ak, ck, hrow2⟩ := HTW.out.get k _ hrow
          have HVK := Lib.hid ((HVQ.out _ (List.mem_of_getElem? hrow2)).below HB.out)
          obtain ⟨g3, o3, rfl, hY⟩ := (HA4.out.below HB.out).cells8 hrow2
          have hst := HST.out k x hx
          have HXX := Lib.hid hx
          obtain ⟨un, hun⟩ : ∃ un, (rowAt l k x).un = un := ⟨_, rfl⟩
          rw [hun] at hst
          have hY2 : Cells8 wr g3 (o3 + k * 8) ⟨twin x Ak ck, un⟩ := by rw [← hun]; exact hY
          clear hY
          obtain ⟨y0, y1, y2, y3, y4, y5, y6, y7⟩ := hY2
          clear hx hrow hun hrow2
          have HXB := Lib.hid ((HX4.out.below HB.out).below ((bl wr).alloc (Nat.le_refl _) (ocR ⟨twin x Ak ck, un⟩)))
          by_cases s1 : x.st ≤ a
          · by_cases s2 : a < un
            · obtain rfl := hst.1 ⟨s1, s2⟩
              have hxv : x = v := Option.some.inj (HXX.out.symm.trans HSG.out)
              subst hxv
              obtain ⟨q0, q1, q2, q3, q4, q5, q6⟩ := HXB.out
              rcases hct with ⟨hc1, _⟩ | ⟨_, rfl⟩
              · exact absurd hc1 (by omega)
              have HV5 := Lib.hid ((HV4.out.below HB.out).below ((bl wr).alloc (Nat.le_refl _) (ocR ⟨twin x Ak ck, un⟩)))
              have HV6 := Lib.hid (show VF (wr.alloc (ocR ⟨twin x Ak ck, un⟩)) (twin x Ak ck) from HVK.out.below ((bl wr).alloc (Nat.le_refl _) (ocR ⟨twin x Ak ck, un⟩)))
              clear hst
              go_wp2_with (go_at_call 17; first | ((with_reducible refine (CO.out _ _ _ _ _ HV5.out HV6.out).mono ?_); rintro e w5 ⟨rfl, hb5⟩) | ((with_reducible refine (CO.out _ _ _ _ _ HV6.out HV5.out).mono ?_); rintro e w5 ⟨rfl, hb5⟩))
              exact ⟨⟨k + 1, by omega, by go_num, .inl ⟨by omega, rfl⟩, HB.out.trans ((((bl wr).alloc (Nat.le_refl _) _).trans (hb5.mono (by simp))).mono HB.out.size)⟩, by simp [intOf] <;> omega⟩
            · have s2' : decide (a < un) = false := decide_eq_false s2
              have hkm : k ≠ m := fun e => s2 (hst.2 e).2
              clear hst
              rcases hct with ⟨hc1, rfl⟩ | ⟨hc1, rfl⟩
              · have HK := Lib.hid (show m < k + 1 by omega)
                clear hkm hc1
                go_wp2_with fail
                exact ⟨⟨k + 1, by omega, by go_num, .inl ⟨HK.out, rfl⟩, HB.out.alloc HB.out.size _⟩, by simp [intOf] <;> omega⟩
              · have HK := Lib.hid (show ¬ m < k + 1 by omega)
                clear hkm hc1
                go_wp2_with fail
                exact ⟨⟨k + 1, by omega, by go_num, .inr ⟨HK.out, rfl⟩, HB.out.alloc HB.out.size _⟩, by simp [intOf] <;> omega⟩
          · have s1' : decide (x.st ≤ a) = false := decide_eq_false s1
            have hkm : k ≠ m := fun e => s1 (hst.2 e).1
            clear hst
            rcases hct with ⟨hc1, rfl⟩ | ⟨hc1, rfl⟩
            · have HK := Lib.hid (show m < k + 1 by omega)
              clear hkm hc1
              go_wp2_with fail
              exact ⟨⟨k + 1, by omega, by go_num, .inl ⟨HK.out, rfl⟩, HB.out.alloc HB.out.size _⟩, by simp [intOf] <;> omega⟩
            · have HK := Lib.hid (show ¬ m < k + 1 by omega)
              clear hkm hc1
              go_wp2_with fail
              exact ⟨⟨k + 1, by omega, by go_num, .inr ⟨HK.out, rfl⟩, HB.out.alloc HB.out.size _⟩, by simp [intOf] <;> omega⟩
        · obtain rfl : k = n := by omega
          have hlt' : ¬ (k : Int) < (k : Int) := by omega
          rcases hct with ⟨_, rfl⟩ | ⟨hc1, _⟩
          · have HC := Lib.hid (chain HD4.out HB.out)
            have HXB := Lib.hid (HX4.out.below HB.out)
            go_upto_region 22 with (go_at_call 15; (with_reducible refine (CB.out _ HC.out).mono ?_); rintro e w5 ⟨A5, c5, rfl, hv5, hb5⟩; have hc5 := chain HC.out hb5; have hd5 := hc5.alloc hc5.size (ocV (twin v' A5 c5)); have hx5 := (HXB.out.below hb5).below ((bl w5).alloc (Nat.le_refl _) (ocV (twin v' A5 c5))))
            refine abstract_worldW (fun W => Below w.heap.size w W ∧ BoxV W w3.heap.size (twin v A3 c3) ∧ BoxV W w5.heap.size (twin v' A5 c5)) ⟨hd5, hx5, boxV_new w5 (twin v' A5 c5)⟩ ?_
            rintro WZ ⟨hd6, hXa, hXb⟩
            have HD6 := Lib.hid hd6
            have MK := Lib.hid (show ∀ w', Below WZ.heap.size WZ w' → (Below WZ.heap.size WZ w' ∧ BoxV w' w3.heap.size (twin v A3 c3) ∧ BoxV w' w5.heap.size (twin v' A5 c5)) from fun w' h => ⟨h, hXa.below h, hXb.below h⟩)
            obtain ⟨L, hL⟩ : ∃ L, covL (chgC a b l) = L := ⟨_, rfl⟩
            rw [hL] at CCH
            have CV1 := Lib.hid (fun w => show Ret 22 #[vv (twin v A3 c3), .int .i64 t] w (.bool (coversB v t)) from dcovers_any (twin v A3 c3) t w)
            have CV2 := Lib.hid (fun w => show Ret 22 #[vv (twin v' A5 c5), .int .i64 t] w (.bool (coversB v' t)) from dcovers_any (twin v' A5 c5) t w)
            clear hd5 hx5 hd6 hXa hXb hL hv5
            cases hh : Co.memB L t with
            | false =>
              have HH := Lib.hid hh
              have CH := Lib.hid (fun w' x (h : ListE ESp w' x L) (hz : L.length ≤ 2) => show Ret 21 #[x, .int .i64 t] w' (.bool false) by
                have := phass_any w' x L t h (by omega)
                rwa [hh] at this)
              clear hh
              go_region_held3 (fun w' => Below WZ.heap.size WZ w' ∧ BoxV w' w3.heap.size (twin v A3 c3) ∧ BoxV w' w5.heap.size (twin v' A5 c5))
                (first | exact MK.out _ ((bl WZ).drew) | exact MK.out _ hb10 | exact MK.out _ hb9 | exact MK.out _ hb8 | exact MK.out _ hb7 | exact MK.out _ hb6 | fail)
                (first
                  | (go_at_call 18; (with_reducible refine (CCH.out _ (chain HD6.out (by go_split_ands; assumption))).mono ?_); (rintro e w6 ⟨x6, rfl, hl6, hcov, hz6, hb0⟩); (have hb6 := chain (by go_split_ands; assumption) hb0); (have HCV := Lib.hid ((HEND.out L hcov).resolve_left (by rw [HH.out]; simp))); clear hb0 hcov)
                  | (go_at_call 21; (with_reducible refine (CH.out _ _ hl6 hz6).mono ?_); (rintro e w7 ⟨rfl, hb0⟩); (have hb7 := chain hb6 hb0); clear hb0)
                  | (go_at_call 22; (with_reducible refine (CV1.out _).mono ?_); (rintro e w8 ⟨rfl, hb0⟩); (rw [HCV.out]); (have hb8 := chain hb7 hb0); clear hb0)
                  | (go_at_call 22; (with_reducible refine (CV2.out _).mono ?_); (rintro e w9 ⟨rfl, hb0⟩); (have hb9 := chain hb8 hb0); clear hb0)
                  | (go_at_call 9; (with_reducible refine (CAL.out _).mono ?_); (rintro e w10 ⟨rfl, hb0⟩); (have hb10 := chain hb9 hb0); clear hb0)
                  | fail)
              go_wp2_with fail
              go_ret
              exact ⟨rfl, chain HD6.out hb10⟩
            | true =>
              have CH := Lib.hid (fun w' x (h : ListE ESp w' x L) (hz : L.length ≤ 2) => show Ret 21 #[x, .int .i64 t] w' (.bool true) by
                have := phass_any w' x L t h (by omega)
                rwa [hh] at this)
              clear hh
              refine wp_region_held_drew (S := fun w' => Below WZ.heap.size WZ w' ∧ BoxV w' w3.heap.size (twin v A3 c3) ∧ BoxV w' w5.heap.size (twin v' A5 c5)) (by kernel_rfl) (MK.out _ ((bl WZ).drew)) (fun hHeld => ?_)
              refine wpAnyH_take (i := 0) (oi := _) (v := ?_) (by simp only [List.getElem?_toArray, List.getElem?_cons_zero]; rfl) (by kernel_rfl) (by kernel_rfl) (by kernel_rfl) (by exact fun _ _ _ h => h) (Or.inl ⟨by rfl, ?_⟩) (by assumption) ?_
              rotate_left 1
              · (intro w hSw; (try dsimp only at hSw); go_simp; try (with_reducible rfl))
              simp only [Act.put, List.setIfInBounds_toArray, List.set_cons_zero, List.set_cons_succ]
              refine wpAnyH_take (i := 1) (oi := _) (v := ?_) (by simp only [List.getElem?_toArray, List.getElem?_cons_succ, List.getElem?_cons_zero]; rfl) (by kernel_rfl) (by kernel_rfl) (by kernel_rfl) (by exact fun _ _ _ h => h) (Or.inl ⟨by rfl, ?_⟩) (by assumption) ?_
              rotate_left 1
              · (intro w hSw; (try dsimp only at hSw); go_simp; try (with_reducible rfl))
              simp only [Act.put, List.setIfInBounds_toArray, List.set_cons_zero, List.set_cons_succ]
              refine wpAnyH_take (i := 2) (oi := _) (v := ?_) (by simp only [List.getElem?_toArray, List.getElem?_cons_succ, List.getElem?_cons_zero]; rfl) (by kernel_rfl) (by kernel_rfl) (by kernel_rfl) (by exact fun _ _ _ h => h) (Or.inl ⟨by rfl, ?_⟩) (by assumption) ?_
              rotate_left 1
              · (intro w hSw; (try dsimp only at hSw); go_simp; try (with_reducible rfl))
              simp only [Act.put, List.setIfInBounds_toArray, List.set_cons_zero, List.set_cons_succ]
              refine wpAnyH_take (i := 4) (oi := _) (v := ?_) (by simp only [List.getElem?_toArray, List.getElem?_cons_succ, List.getElem?_cons_zero]; rfl) (by kernel_rfl) (by kernel_rfl) (by kernel_rfl) (by exact fun _ _ _ h => h) (Or.inl ⟨by rfl, ?_⟩) (by assumption) ?_
              rotate_left 1
              · (intro w hSw; (try dsimp only at hSw); go_simp; try (with_reducible rfl))
              simp only [Act.put, List.setIfInBounds_toArray, List.set_cons_zero, List.set_cons_succ]
              refine wpAnyH_ready (rs := [3]) (by kernel_rfl) (by simp) ?_
              refine AllReadyH.cons (o := _) (by simp only [List.getElem?_toArray, List.getElem?_cons_succ, List.getElem?_cons_zero]; rfl) (fun K hK => ?_) AllReadyH.nil
              go_simp
              go_at_call 18
              refine (CCH.out _ (chain HD6.out hHeld.1)).mono ?_
              rintro e w6 ⟨x6, rfl, hl6, hcov, hz6, hb0⟩
              have hb6 := chain hHeld.1 hb0
              try dsimp only
              refine hK.out _ _ (MK.out _ hb6) (fun hHeld => ?_)
              clear hK K
              try simp only [Act.put, List.setIfInBounds_toArray, List.set_cons_zero, List.set_cons_succ]
              refine wpAnyH_ready (rs := [5]) (by kernel_rfl) (by simp) ?_
              refine AllReadyH.cons (o := _) (by simp only [List.getElem?_toArray, List.getElem?_cons_succ, List.getElem?_cons_zero]; rfl) (fun K hK => ?_) AllReadyH.nil
              go_simp
              go_at_call 21
              refine (CH.out _ _ hl6 hz6).mono ?_
              rintro e w7 ⟨rfl, hb1⟩
              have hb7 := chain hb6 hb1
              try dsimp only
              refine hK.out _ _ (MK.out _ hb7) (fun hHeld => ?_)
              clear hK K
              try simp only [Act.put, List.setIfInBounds_toArray, List.set_cons_zero, List.set_cons_succ]
              refine wpAnyH_take (i := 6) (oi := _) (v := ?_) (by simp only [List.getElem?_toArray, List.getElem?_cons_succ, List.getElem?_cons_zero]; rfl) (by kernel_rfl) (by kernel_rfl) (by kernel_rfl) (by exact fun _ _ _ h => h) (Or.inl ⟨by rfl, ?_⟩) (by assumption) ?_
              rotate_left 1
              · (intro w hSw; (try dsimp only at hSw); go_simp; try (with_reducible rfl))
              simp only [Act.put, List.setIfInBounds_toArray, List.set_cons_zero, List.set_cons_succ]
              refine wpAnyH_take (i := 7) (oi := _) (v := undef) (by simp only [List.getElem?_toArray, List.getElem?_cons_succ, List.getElem?_cons_zero]; rfl) (by kernel_rfl) (by kernel_rfl) (by kernel_rfl) (by exact fun _ _ _ h => h) (Or.inr ⟨by rfl, rfl⟩) (by assumption) ?_
              simp only [Act.put, List.setIfInBounds_toArray, List.set_cons_zero, List.set_cons_succ]
              refine wpAnyH_take (i := 8) (oi := _) (v := undef) (by simp only [List.getElem?_toArray, List.getElem?_cons_succ, List.getElem?_cons_zero]; rfl) (by kernel_rfl) (by kernel_rfl) (by kernel_rfl) (by exact fun _ _ _ h => h) (Or.inr ⟨by rfl, rfl⟩) (by assumption) ?_
              simp only [Act.put, List.setIfInBounds_toArray, List.set_cons_zero, List.set_cons_succ]
              refine wpAnyH_take (i := 10) (oi := _) (v := undef) (by simp only [List.getElem?_toArray, List.getElem?_cons_succ, List.getElem?_cons_zero]; rfl) (by kernel_rfl) (by kernel_rfl) (by kernel_rfl) (by exact fun _ _ _ h => h) (Or.inr ⟨by rfl, rfl⟩) (by assumption) ?_
              simp only [Act.put, List.setIfInBounds_toArray, List.set_cons_zero, List.set_cons_succ]
              refine wpAnyH_take (i := 11) (oi := _) (v := undef) (by simp only [List.getElem?_toArray, List.getElem?_cons_succ, List.getElem?_cons_zero]; rfl) (by kernel_rfl) (by kernel_rfl) (by kernel_rfl) (by exact fun _ _ _ h => h) (Or.inr ⟨by rfl, rfl⟩) (by assumption) ?_
              simp only [Act.put, List.setIfInBounds_toArray, List.set_cons_zero, List.set_cons_succ]
              refine wpAnyH_ready (rs := [9]) (by kernel_rfl) (by simp) ?_
              refine AllReadyH.cons (o := _) (by simp only [List.getElem?_toArray, List.getElem?_cons_succ, List.getElem?_cons_zero]; rfl) (fun K hK => ?_) AllReadyH.nil
              go_simp
              try dsimp only
              refine hK.out _ _ (hHeld) (fun hHeld => ?_)
              clear hK K
              try simp only [Act.put, List.setIfInBounds_toArray, List.set_cons_zero, List.set_cons_succ]
              refine wpAnyH_ready (rs := [12]) (by kernel_rfl) (by simp) ?_
              refine AllReadyH.cons (o := _) (by simp only [List.getElem?_toArray, List.getElem?_cons_succ, List.getElem?_cons_zero]; rfl) (fun K hK => ?_) AllReadyH.nil
              go_simp
              try dsimp only
              refine hK.out _ _ (hHeld) (fun hHeld => ?_)
              clear hK K
              try simp only [Act.put, List.setIfInBounds_toArray, List.set_cons_zero, List.set_cons_succ]
              refine wpAnyH_take (i := 13) (oi := _) (v := undef) (by simp only [List.getElem?_toArray, List.getElem?_cons_succ, List.getElem?_cons_zero]; rfl) (by kernel_rfl) (by kernel_rfl) (by kernel_rfl) (by exact fun _ _ _ h => h) (Or.inr ⟨by rfl, rfl⟩) (by assumption) ?_
              simp only [Act.put, List.setIfInBounds_toArray, List.set_cons_zero, List.set_cons_succ]
              refine wpAnyH_take (i := 14) (oi := _) (v := ?_) (by simp only [List.getElem?_toArray, List.getElem?_cons_succ, List.getElem?_cons_zero]; rfl) (by kernel_rfl) (by kernel_rfl) (by kernel_rfl) (by exact fun _ _ _ h => h) (Or.inl ⟨by rfl, ?_⟩) (by assumption) ?_
              rotate_left 1
              · (intro w hSw; (try dsimp only at hSw); go_simp; try (with_reducible rfl))
              simp only [Act.put, List.setIfInBounds_toArray, List.set_cons_zero, List.set_cons_succ]
              refine wpAnyH_take (i := 15) (oi := _) (v := ?_) (by simp only [List.getElem?_toArray, List.getElem?_cons_succ, List.getElem?_cons_zero]; rfl) (by kernel_rfl) (by kernel_rfl) (by kernel_rfl) (by exact fun _ _ _ h => h) (Or.inl ⟨by rfl, ?_⟩) (by assumption) ?_
              rotate_left 1
              · (intro w hSw; (try dsimp only at hSw); go_simp; try (with_reducible rfl))
              simp only [Act.put, List.setIfInBounds_toArray, List.set_cons_zero, List.set_cons_succ]
              refine wpAnyH_ready (rs := [16]) (by kernel_rfl) (by simp) ?_
              refine AllReadyH.cons (o := _) (by simp only [List.getElem?_toArray, List.getElem?_cons_succ, List.getElem?_cons_zero]; rfl) (fun K hK => ?_) AllReadyH.nil
              go_simp
              go_at_call 9
              refine (CAL.out _).mono ?_
              rintro e w8 ⟨rfl, hb2⟩
              have hb8 := chain hb7 hb2
              try dsimp only
              refine hK.out _ _ (MK.out _ hb8) (fun hHeld => ?_)
              clear hK K
              try simp only [Act.put, List.setIfInBounds_toArray, List.set_cons_zero, List.set_cons_succ]
              refine wpAnyH_take (i := 17) (oi := _) (v := ?_) (by simp only [List.getElem?_toArray, List.getElem?_cons_succ, List.getElem?_cons_zero]; rfl) (by kernel_rfl) (by kernel_rfl) (by kernel_rfl) (by exact fun _ _ _ h => h) (Or.inl ⟨by rfl, ?_⟩) (by assumption) ?_
              rotate_left 1
              · (intro w hSw; (try dsimp only at hSw); go_simp; try (with_reducible rfl))
              simp only [Act.put, List.setIfInBounds_toArray, List.set_cons_zero, List.set_cons_succ]
              refine wpAnyH_ready (rs := [18]) (by kernel_rfl) (by simp) ?_
              refine AllReadyH.cons (o := _) (by simp only [List.getElem?_toArray, List.getElem?_cons_succ, List.getElem?_cons_zero]; rfl) (fun K hK => ?_) AllReadyH.nil
              go_simp
              try dsimp only
              refine hK.out _ _ (hHeld) (fun hHeld => ?_)
              clear hK K
              try simp only [Act.put, List.setIfInBounds_toArray, List.set_cons_zero, List.set_cons_succ]
              refine wpAnyH_done (by kernel_rfl) ?_ _
              go_wp2_with fail
              go_ret
              exact ⟨rfl, chain HD6.out hHeld.1⟩
          · exact absurd hmn' hc1
    · have hR : rowsL l = [] := by unfold rowsL; rw [if_neg h0]
      rw [hR] at CR
      have h0' : ¬ ((chkL l : Nat) : Int) = 0 := by omega
      generalize chkL l = z at *
      clear CF hf hl hok hn hz hfew h1 h2 h0 hR
      go_enter Try.func6, Try.ntmps6
      go_wp2_with fail
      go_region
      rw [HW.out]
      go_wp2_with (first
        | (go_at_call 8; (with_reducible refine CF0.out.mono ?_); rintro e w1 ⟨rfl, hw1⟩; obtain rfl := hw1.symm)
        | (go_at_call 10; (with_reducible refine (CR.out _ HBW.out).mono ?_); rintro e w2 ⟨u2, Q2, rfl, hl2, ht2, hb2⟩; have hc2 := chain HBW.out hb2; obtain ⟨⟨A2, c2, rfl, _⟩, _⟩ := hl2; (have hq2 : Q2.length = 0 := ht2.length); rw [hq2])
        | (go_at_call 12; (with_reducible refine (CC.out _ hc2).mono ?_); rintro e w3 ⟨rfl, hb3⟩; have hc3 := chain hc2 hb3)
        | (go_at_call 9; (with_reducible refine (CAL.out _).mono ?_); rintro e w4 ⟨rfl, hb⟩; have hc4 := chain hc3 hb))
      go_ret
      exact ⟨rfl, hc4⟩

end Go.Proofs.Ytpeifijcpemjeaa
