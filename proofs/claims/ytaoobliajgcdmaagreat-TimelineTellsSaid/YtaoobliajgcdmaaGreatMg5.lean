/-
  Texts joined into one: what the program's and the document's calls give back, piece by piece.
-/
import Derived.Test.YtaoobliajgcdmaaGreatMg1
import Derived.Test.YtaoobliajgcdmaaGreatMg2
import Derived.Test.YtaoobliajgcdmaaGreatMg3
import Derived.Test.YtaoobliajgcdmaaGreatMg4
import Derived.Test.YtaoobliajgcdmaaGreatProg
import Derived.Test.YtaoobliajgcdmaaGreatRows
import Derived.BigQuiet
import Derived.ChangeAlike
import Derived.ChangeKeysEq
import Derived.Deep.AppendLies
import Derived.Deep.CutBlock
import Derived.Deep.CutRange
import Derived.Deep.Light
import Derived.Deep.LoopGhost
import Derived.Deep.QuietTactic
import Derived.Deep.RegionHeld3
import Derived.Deep.RegionLaw
import Derived.Handy
import Derived.Laws.BytesArg
import Derived.Laws.OwnMore
import Derived.Laws.Strings
import Derived.Laws.StructEq
import Derived.Lib.Bytealg
import Derived.Lib.Hide
import Derived.Maps.AppendAt
import Derived.Maps.RangeWalk
import Derived.OneCell
import Derived.OwnWalk
import Derived.RegionTactic
import Derived.Shelf.SlSortCmp.KitK
import Derived.Shelf.SlSortCmp.NoneTotal
import Derived.Sort.KeysCollected
import Derived.Sort.WalkB12
import Derived.Sort.WalkB2
import Derived.StillTailTactics
import Derived.WalkArith
import Derived.WalkKit
import Derived.WalkLawsBesides
import Derived.WalkSpells
import Derived.Deep.Upon
import Derived.Lib.OwnBridge
import Derived.Sort.OwnSortedInts
import Derived.Lib.SmallJoins
import Derived.LoopIn
import Derived.LoopNIn
import Derived.OwnWalkIn
import Derived.ProofKit
import Derived.RangeFuncBound
import Derived.RangeFuncBox
import Derived.RangeFuncCalls
import Derived.RangeFuncLeaves
import Derived.RangeFuncNested
import Derived.RangeFuncOwn
import Derived.Shelf.Abstract
import Derived.Shelf.RegionOpen
import Derived.TacticsInMore

/-
  Plain facts on turns: places that come and go, what counts at a time, which of those that count set a field last.
-/
namespace Go.Proofs.YtaoobliajgcdmaaGreat

/-- A place comes, or goes. -/
def togL : List Nat → Nat → List Nat
  | [], p => [p]
  | c :: l, p => if c < p then c :: togL l p else if c = p then l else p :: c :: l
abbrev Up (l : List Nat) : Prop := l.Pairwise (· < ·)
theorem togL_mem : ∀ (l : List Nat) (p q : Nat), Up l → (q ∈ togL l p ↔ (q ∈ l ∧ q ≠ p) ∨ (q = p ∧ p ∉ l))
  | [], p, q, _ => by simp [togL]
  | c :: l, p, q, h => by
    have h' := List.pairwise_cons.1 h
    have ih := togL_mem l p q h'.2
    rw [togL]
    split
    · rename_i hc
      rw [List.mem_cons, ih, List.mem_cons, List.mem_cons]
      constructor
      · rintro (rfl | ⟨h1, h2⟩ | ⟨rfl, h2⟩)
        · exact .inl ⟨.inl rfl, by omega⟩
        · exact .inl ⟨.inr h1, h2⟩
        · exact .inr ⟨rfl, fun e => e.elim (by omega) h2⟩
      · rintro (⟨rfl | h1, h2⟩ | ⟨rfl, h2⟩)
        · exact .inl rfl
        · exact .inr (.inl ⟨h1, h2⟩)
        · exact .inr (.inr ⟨rfl, fun e => h2 (.inr e)⟩)
    · rename_i hc
      split
      · rename_i he
        subst he
        constructor
        · intro hq
          have := h'.1 q hq
          exact .inl ⟨List.mem_cons_of_mem _ hq, by omega⟩
        · rintro (⟨h1, h2⟩ | ⟨rfl, h2⟩)
          · rcases List.mem_cons.1 h1 with h1 | h1
            · exact absurd h1 h2
            · exact h1
          · exact absurd List.mem_cons_self h2
      · rename_i he
        have hp : p ∉ c :: l := fun e => by
          rcases List.mem_cons.1 e with e | e
          · omega
          · have := h'.1 p e; omega
        rw [List.mem_cons]
        constructor
        · rintro (rfl | h1)
          · exact .inr ⟨rfl, hp⟩
          · exact .inl ⟨h1, fun e => hp (e ▸ h1)⟩
        · rintro (⟨h1, _⟩ | ⟨rfl, _⟩)
          · exact .inr h1
          · exact .inl rfl
theorem togL_up : ∀ (l : List Nat) (p : Nat), Up l → Up (togL l p)
  | [], p, _ => by simp [togL]
  | c :: l, p, h => by
    have h' := List.pairwise_cons.1 h
    rw [togL]
    split
    · rename_i hc
      refine List.pairwise_cons.2 ⟨fun q hq => ?_, togL_up l p h'.2⟩
      rcases (togL_mem l p q h'.2).1 hq with ⟨h1, _⟩ | ⟨rfl, _⟩
      · exact h'.1 q h1
      · exact hc
    · split
      · exact h'.2
      · refine List.pairwise_cons.2 ⟨fun q hq => ?_, h⟩
        rcases List.mem_cons.1 hq with rfl | hq
        · omega
        · have := h'.1 q hq; omega
theorem togL_length : ∀ (l : List Nat) (p : Nat), (togL l p).length ≤ l.length + 1
  | [], p => by simp [togL]
  | c :: l, p => by
    have := togL_length l p
    rw [togL]
    split
    · simp only [List.length_cons]; omega
    · split
      · simp only [List.length_cons]; omega
      · simp only [List.length_cons]; omega
/-- The place is there, or it is not. -/
theorem togL_out : ∀ (l : List Nat) (p k : Nat), (∀ j c, j < k → l[j]? = some c → c < p) → l[k]? = some p → togL l p = l.take k ++ l.drop (k + 1)
  | [], p, k, _, h => by simp at h
  | c :: l, p, 0, _, h => by
    obtain rfl : c = p := by simpa using h
    simp [togL]
  | c :: l, p, k + 1, h1, h => by
    have := h1 0 c (by omega) rfl
    rw [togL, if_pos this, togL_out l p k (fun j d hj hd => h1 (j + 1) d (by omega) (by simpa using hd)) (by simpa using h)]
    rfl
theorem togL_in : ∀ (l : List Nat) (p k : Nat), k ≤ l.length → (∀ j c, j < k → l[j]? = some c → c < p) → (∀ c, l[k]? = some c → p < c) → togL l p = l.take k ++ p :: l.drop k
  | [], p, k, hk, _, _ => by
    obtain rfl : k = 0 := by simpa using hk
    rfl
  | c :: l, p, 0, _, _, h => by
    have := h c rfl
    rw [togL, if_neg (by omega), if_neg (by omega)]
    rfl
  | c :: l, p, k + 1, hk, h1, h => by
    have := h1 0 c (by omega) rfl
    rw [togL, if_pos this, togL_in l p k (by simpa using hk) (fun j d hj hd => h1 (j + 1) d (by omega) (by simpa using hd)) (fun d hd => h d (by simpa using hd))]
    rfl
/-- Places that came and went. -/
def tgs (ps : List Nat) : List Nat := ps.foldl togL []
theorem tgs_snoc (ps : List Nat) (p : Nat) : tgs (ps ++ [p]) = togL (tgs ps) p := by unfold tgs; rw [List.foldl_append]; rfl
theorem tgs_fold : ∀ (ps l : List Nat), Up l → Up (ps.foldl togL l) ∧ ∀ q, q ∈ ps.foldl togL l ↔ ((if q ∈ l then 1 else 0) + ps.count q) % 2 = 1
  | [], l, h => ⟨h, fun q => by
    show q ∈ l ↔ _
    rw [List.count_nil]
    by_cases hq : q ∈ l
    · rw [if_pos hq]; exact ⟨fun _ => rfl, fun _ => hq⟩
    · rw [if_neg hq]; exact ⟨fun h => absurd h hq, fun h => by cases h⟩⟩
  | p :: ps, l, h => by
    obtain ⟨h1, h2⟩ := tgs_fold ps (togL l p) (togL_up l p h)
    refine ⟨h1, fun q => ?_⟩
    rw [List.foldl_cons, h2 q, List.count_cons]
    have hm := togL_mem l p q h
    by_cases he : q = p
    · subst he
      rw [beq_self_eq_true, if_pos rfl]
      by_cases hq : q ∈ l
      · rw [if_pos hq, if_neg (fun hh => (hm.1 hh).elim (fun k => k.2 rfl) (fun k => k.2 hq))]
        omega
      · rw [if_neg hq, if_pos (hm.2 (.inr ⟨rfl, hq⟩))]
        omega
    · have hpq : ¬ ((p == q) = true) := by
        rw [beq_iff_eq]
        exact fun e => he e.symm
      rw [if_neg hpq]
      by_cases hq : q ∈ l
      · rw [if_pos hq, if_pos (hm.2 (.inl ⟨hq, he⟩))]
        omega
      · rw [if_neg hq, if_neg (fun hh => (hm.1 hh).elim (fun k => hq k.1) (fun k => he k.1))]
        omega
theorem tgs_up (ps : List Nat) : Up (tgs ps) := (tgs_fold ps [] List.Pairwise.nil).1
theorem tgs_mem (ps : List Nat) (q : Nat) : q ∈ tgs ps ↔ ps.count q % 2 = 1 := by
  have := (tgs_fold ps [] List.Pairwise.nil).2 q
  rw [if_neg (by simp), Nat.zero_add] at this
  exact this
theorem up_ext : ∀ {a b : List Nat}, Up a → Up b → (∀ q, q ∈ a ↔ q ∈ b) → a = b
  | [], [], _, _, _ => rfl
  | [], y :: b, _, _, h => by have := (h y).2 (by simp); simp at this
  | x :: a, [], _, _, h => by have := (h x).1 (by simp); simp at this
  | x :: a, y :: b, ha, hb, h => by
    have ha' := List.pairwise_cons.1 ha
    have hb' := List.pairwise_cons.1 hb
    have e : x = y := by
      have h1 := (h x).1 (by simp)
      have h2 := (h y).2 (by simp)
      rcases List.mem_cons.1 h1 with h1 | h1
      · exact h1
      · rcases List.mem_cons.1 h2 with h2 | h2
        · exact h2.symm
        · have := ha'.1 y h2; have := hb'.1 x h1; omega
    subst e
    rw [up_ext ha'.2 hb'.2 (fun q => ?_)]
    have := h q
    rw [List.mem_cons, List.mem_cons] at this
    constructor
    · intro hq
      rcases this.1 (.inr hq) with e | e
      · have := ha'.1 q hq; omega
      · exact e
    · intro hq
      rcases this.2 (.inr hq) with e | e
      · have := hb'.1 q hq; omega
      · exact e
theorem up_lt_length : ∀ {a : List Nat} {n : Nat}, Up a → (∀ q ∈ a, q < n) → a.length ≤ n
  | a, n, h, hn => by
    have hs : ∀ (l : List Nat) (m : Nat), Up l → (∀ q ∈ l, m ≤ q ∧ q < n) → l.length + m ≤ n ∨ l = [] := by
      intro l
      induction l with
      | nil => intro m _ _; exact .inr rfl
      | cons c l ih =>
        intro m h h2
        have h' := List.pairwise_cons.1 h
        have hc := h2 c (by simp)
        rcases ih (c + 1) h'.2 (fun q hq => ⟨h'.1 q hq, (h2 q (List.mem_cons_of_mem _ hq)).2⟩) with e | e
        · left; rw [List.length_cons]; omega
        · left; rw [e]; simp; omega
    rcases hs a 0 h (fun q hq => ⟨Nat.zero_le _, hn q hq⟩) with e | e
    · omega
    · rw [e]; simp

/-- The turns of versions, from place n on, within a span. -/
def trnL (a : Int × Int) : Nat → List Vr → List (Int × Nat)
  | _, [] => []
  | n, v :: l => (endsV a v).map (fun t => (t, n)) ++ trnL a (n + 1) l
theorem trnL_snoc (a : Int × Int) : ∀ (l : List Vr) (n : Nat) (v : Vr), trnL a n (l ++ [v]) = trnL a n l ++ (endsV a v).map (fun t => (t, n + l.length))
  | [], n, v => by simp [trnL]
  | x :: l, n, v => by
    rw [List.cons_append, trnL, trnL_snoc a l (n + 1) v, trnL, List.append_assoc, List.length_cons, show n + 1 + l.length = n + (l.length + 1) by omega]
theorem trnL_length (a : Int × Int) : ∀ (l : List Vr) (n : Nat), (trnL a n l).length ≤ 2 * l.length
  | [], n => by simp [trnL]
  | x :: l, n => by
    have := trnL_length a l (n + 1)
    have := endsV_length a x
    rw [trnL, List.length_append, List.length_map, List.length_cons]; omega
theorem trnL_mem (a : Int × Int) : ∀ (l : List Vr) (n : Nat) (t : Int × Nat), t ∈ trnL a n l → ∃ v, n ≤ t.2 ∧ l[t.2 - n]? = some v ∧ t.1 ∈ endsV a v
  | [], n, t, h => by simp [trnL] at h
  | x :: l, n, t, h => by
    rw [trnL] at h
    rcases List.mem_append.1 h with h | h
    · obtain ⟨y, hy, rfl⟩ := List.mem_map.1 h
      exact ⟨x, Nat.le_refl _, by simp, hy⟩
    · obtain ⟨v, h1, h2, h3⟩ := trnL_mem a l (n + 1) t h
      refine ⟨v, by omega, ?_, h3⟩
      rw [show t.2 - n = (t.2 - (n + 1)) + 1 by omega, List.getElem?_cons_succ]
      exact h2
theorem map_count (l : List Int) (n i : Nat) : ((l.map (fun t => ((t, n) : Int × Nat))).map Prod.snd).count i = if i = n then l.length else 0 := by
  induction l with
  | nil => simp
  | cons x l ih =>
    rw [List.map_cons, List.map_cons, List.count_cons, ih]
    by_cases h : i = n
    · rw [if_pos h, if_pos h, if_pos (by simpa using h.symm), List.length_cons]
    · rw [if_neg h, if_neg h, if_neg (by simpa using fun e : n = i => h e.symm)]
theorem map_filter_le (l : List Int) (n : Nat) (x : Int) : (l.map (fun t => ((t, n) : Int × Nat))).filter (fun t => decide (t.1 ≤ x)) = (l.filter (fun t => decide (t ≤ x))).map (fun t => (t, n)) := by
  rw [List.filter_map]; rfl
/-- How often a place has turned up to a time. -/
theorem trn_count (a : Int × Int) (x : Int) : ∀ (l : List Vr) (n i : Nat), (((trnL a n l).filter (fun t => decide (t.1 ≤ x))).map Prod.snd).count i = if n ≤ i then (match l[i - n]? with | some v => ((endsV a v).filter (fun t => decide (t ≤ x))).length | none => 0) else 0
  | [], n, i => by
    simp [trnL]
  | v :: l, n, i => by
    have ih := trn_count a x l (n + 1) i
    rw [trnL, List.filter_append, List.map_append, List.count_append, ih, map_filter_le, map_count]
    by_cases h1 : n ≤ i
    · by_cases h2 : i = n
      · subst h2
        rw [if_pos rfl, if_neg (by omega), if_pos h1, Nat.sub_self]
        simp
      · rw [if_neg h2, if_pos (by omega), if_pos h1, show i - n = (i - (n + 1)) + 1 by omega, List.getElem?_cons_succ, Nat.zero_add]
    · rw [if_neg (by omega), if_neg (by omega), if_neg h1]
theorem ends_odd {a : Int × Int} {v : Vr} {x : Int} (ha : rightP a.1 a.2 = true) (h1 : a.1 ≤ x) (h2 : x < a.2) : ((endsV a v).filter (fun t => decide (t ≤ x))).length % 2 = 1 ↔ coversB v x = true := by
  unfold endsV
  by_cases hm : Co.meetB a.1 a.2 v.sf v.se = true
  · have hh := (meetB_iff _ _ _ _).1 hm
    have ra := (rightP_iff _ _).1 hh.1.1
    have rv := (rightP_iff _ _).1 hh.1.2
    cases hg : v.gone with
    | true =>
      simp only [hm, Bool.not_true, Bool.and_false]
      refine ⟨fun h => by simp at h, fun h => by rw [covers_iff, hg] at h; cases h.1⟩
    | false =>
      simp only [hm, Bool.not_false, Bool.and_true, if_true, Co.meetF, Co.meetT]
      rw [covers_iff, hg]
      by_cases c1 : max a.1 v.sf ≤ x
      · by_cases c2 : min a.2 v.se ≤ x
        · rw [List.filter_cons_of_pos (by simpa using c1), List.filter_cons_of_pos (by simpa using c2), List.filter_nil]
          refine ⟨fun h => by simp at h, fun h => by omega⟩
        · rw [List.filter_cons_of_pos (by simpa using c1), List.filter_cons_of_neg (by simpa using c2), List.filter_nil]
          refine ⟨fun _ => ⟨rfl, hh.1.2, by omega, by omega⟩, fun _ => rfl⟩
      · rw [List.filter_cons_of_neg (by simpa using c1), List.filter_cons_of_neg (by have := hh.2; simp; omega), List.filter_nil]
        refine ⟨fun h => by simp at h, fun h => by omega⟩
  · have hm : Co.meetB a.1 a.2 v.sf v.se = false := by simpa using hm
    simp only [hm, Bool.false_and]
    refine ⟨fun h => by simp at h, fun h => ?_⟩
    rw [covers_iff] at h
    rw [(meetB_iff _ _ _ _).2 ⟨⟨ha, h.2.1⟩, by omega⟩] at hm
    cases hm

/-- The turns in their order. -/
structure Trn (a : Int × Int) (L : List Vr) (T : List (Int × Nat)) : Prop where
  perm : T.Perm (trnL a 0 L)
  up : T.Pairwise (fun x y => x.1 ≤ y.1)
theorem trn_split {T : List (Int × Nat)} {k : Nat} {x : Int} (h1 : ∀ t ∈ T.take k, t.1 ≤ x) (h2 : ∀ t ∈ T.drop k, x < t.1) : T.take k = T.filter (fun t => decide (t.1 ≤ x)) := by
  have e := List.take_append_drop k T
  rw [show T.filter (fun t => decide (t.1 ≤ x)) = (T.take k ++ T.drop k).filter (fun t => decide (t.1 ≤ x)) by rw [e], List.filter_append, List.filter_eq_self.2 (fun t ht => by simpa using h1 t ht), List.filter_eq_nil_iff.2 (fun t ht => by have := h2 t ht; simpa using this), List.append_nil]
/-- Which places count at a time: those that turned once. -/
theorem Trn.counts {a : Int × Int} {L : List Vr} {T : List (Int × Nat)} (h : Trn a L T) {k : Nat} {x : Int} (ha : rightP a.1 a.2 = true) (hx1 : a.1 ≤ x) (hx2 : x < a.2) (h1 : ∀ t ∈ T.take k, t.1 ≤ x) (h2 : ∀ t ∈ T.drop k, x < t.1) (i : Nat) :
    i ∈ tgs ((T.take k).map Prod.snd) ↔ ∃ v, L[i]? = some v ∧ coversB v x = true := by
  have hc : ((T.take k).map Prod.snd).count i = (((trnL a 0 L).filter (fun t => decide (t.1 ≤ x))).map Prod.snd).count i := by
    rw [trn_split h1 h2]
    exact ((h.perm.filter _).map _).count_eq i
  rw [tgs_mem, hc, trn_count, if_pos (Nat.zero_le _), Nat.sub_zero]
  cases hv : L[i]? with
  | none =>
    simp only
    refine ⟨fun h => (by cases h), fun h => ?_⟩
    obtain ⟨v, h, _⟩ := h
    cases h
  | some v =>
    simp only
    rw [ends_odd ha hx1 hx2]
    exact ⟨fun h => ⟨v, rfl, h⟩, fun ⟨u, h, k⟩ => by cases h; exact k⟩
theorem Trn.mem {a : Int × Int} {L : List Vr} {T : List (Int × Nat)} (h : Trn a L T) {t : Int × Nat} (ht : t ∈ T) : rightP a.1 a.2 = true ∧ a.1 ≤ t.1 ∧ t.1 ≤ a.2 ∧ t.2 < L.length := by
  obtain ⟨v, _, h2, h3⟩ := trnL_mem a L 0 t (h.perm.mem_iff.1 ht)
  have hl := (List.getElem?_eq_some_iff.1 h2).1
  unfold endsV at h3
  split at h3
  · rename_i hh
    rw [Bool.and_eq_true] at hh
    have hm := (meetB_iff _ _ _ _).1 hh.1
    have ra := (rightP_iff _ _).1 hm.1.1
    have rv := (rightP_iff _ _).1 hm.1.2
    have := hm.2
    simp only [Co.meetF, Co.meetT, hh.1, if_true, List.mem_cons, List.not_mem_nil, or_false] at h3
    exact ⟨hm.1.1, by omega, by omega, by omega⟩
  · simp at h3
theorem Trn.none {a : Int × Int} {L : List Vr} {T : List (Int × Nat)} (h : Trn a L T) (hT : T = []) {x : Int} (ha : rightP a.1 a.2 = true) (hx1 : a.1 ≤ x) (hx2 : x < a.2) {v : Vr} (hv : v ∈ L) : coversB v x = false := by
  obtain ⟨i, hi⟩ := List.mem_iff_getElem?.1 hv
  have := h.counts (k := 0) ha hx1 hx2 (by simp) (by simp [hT]) i
  cases hc : coversB v x with
  | false => rfl
  | true =>
    have := this.2 ⟨v, hi, hc⟩
    simp [tgs] at this

end Go.Proofs.YtaoobliajgcdmaaGreat

/-
  The program's turned: a place comes to rising places of the call's own, or goes from them.
-/
namespace Go.Proofs.YtaoobliajgcdmaaGreat
open Go.RowKit Go.Sort Go.Shelf

abbrev TI : TypeId := 3
def zsN (l : List Nat) : List Int := l.map fun i : Nat => (i : Int)
theorem zsN_length (l : List Nat) : (zsN l).length = l.length := by simp [zsN]
theorem zsN_append (l m : List Nat) : zsN (l ++ m) = zsN l ++ zsN m := by simp [zsN]
theorem zsN_take (l : List Nat) (k : Nat) : zsN (l.take k) = (zsN l).take k := by simp [zsN]
theorem zsN_drop (l : List Nat) (k : Nat) : zsN (l.drop k) = (zsN l).drop k := by simp [zsN]
/-- Rising places in a list of the call's own. -/
abbrev ownN (w : World) (base : Nat) (v : Value) (l : List Nat) : Prop := w.ownsRow base TI 1 v l.length ((zsN l).map (Value.int .i64))
theorem ownN_nil (w : World) (base : Nat) : ownN w base (.slice none 0 0) [] := World.ownsRow_nil _ _ _ _
theorem ownN_kept {w w' : World} {base : Nat} {v : Value} {l : List Nat} {row : Option Nat} (h : ownN w base v l) (hg : w.grownBy w' row) (hne : v.ownBlock = none ∨ v.ownBlock ≠ row) : ownN w' base v l := h.kept hg hne
theorem grown_none {w w' : World} (hb : Below w.heap.size w w') (row : Option Nat) : w.grownBy w' row := ⟨hb.os, hb.tape, hb.output, hb.size, fun k hk _ => hb.block k hk⟩
theorem ownN_below {w w' : World} {base : Nat} {v : Value} {l : List Nat} (h : ownN w base v l) (hb : Below w.heap.size w w') : ownN w' base v l := h.kept (row := none) (grown_none hb none) (by cases v.ownBlock <;> simp)
/-- What is left behind a change of a list of the call's own. -/
def OwnPost (base : Nat) (l : List Nat) (v : Value) (w : World) (e : Ending) (w' : World) : Prop :=
  ∃ v', e = .returned v' ∧ ownN w' base v' l ∧ w.grownBy w' v.ownBlock ∧ (v'.ownBlock = v.ownBlock ∨ ∃ g, v'.ownBlock = some g ∧ w.heap.size ≤ g)

/-! ### Cells put into a block -/
def putA : Array Value → Nat → List Value → Array Value
  | c, _, [] => c
  | c, o, v :: vs => putA (c.setIfInBounds o v) (o + 1) vs
theorem putA_size : ∀ (vs : List Value) (c : Array Value) (o : Nat), (putA c o vs).size = c.size
  | [], _, _ => rfl
  | v :: vs, c, o => by rw [putA, putA_size vs]; simp
theorem putA_get : ∀ (vs : List Value) (c : Array Value) (o k : Nat), k < c.size → (putA c o vs)[k]? = if o ≤ k ∧ k < o + vs.length then vs[k - o]? else c[k]?
  | [], c, o, k, hk => by rw [putA, if_neg (by rw [List.length_nil]; omega)]
  | v :: vs, c, o, k, hk => by
    rw [putA, putA_get vs _ _ _ (by simpa using hk), Array.getElem?_setIfInBounds]
    by_cases h1 : o + 1 ≤ k ∧ k < o + 1 + vs.length
    · rw [if_pos h1, if_pos (by simp; omega), show k - o = (k - (o + 1)) + 1 by omega, List.getElem?_cons_succ]
    · rw [if_neg h1]
      by_cases h2 : o = k
      · subst h2
        rw [if_pos rfl, if_pos hk, if_pos ⟨Nat.le_refl _, by simp⟩, Nat.sub_self]; rfl
      · rw [if_neg h2, if_neg (by simp; omega)]
theorem heap_set1 {w : World} {g o : Nat} {c : Array Value} {t : TypeId} (h : w.heap[g]? = some (.cells c t (0, 0))) (u : Value) : (w.setCell ⟨g, o, none⟩ u).heap[g]? = some (.cells (c.setIfInBounds o u) t (0, 0)) := by
  have hlt := lt_of_block h
  have h' : w.heap[g] = .cells c t (0, 0) := by simpa [Array.getElem?_eq_getElem hlt] using h
  show (w.heap.modify g _)[g]? = _
  rw [Array.getElem?_eq_getElem (by simpa using hlt), Array.getElem_modify_self, h']
  rfl
theorem heap_setN {g : Nat} {t : TypeId} : ∀ (vs : List Value) (o : Nat) (w : World) (c : Array Value) (_ : w.heap[g]? = some (.cells c t (0, 0))), (w.setCells g o vs).heap[g]? = some (.cells (putA c o vs) t (0, 0))
  | [], _, _, _, h => h
  | v :: vs, o, _, _, h => heap_setN vs (o + 1) _ _ (heap_set1 h v)
theorem grown_setN (g : Nat) (vs : List Value) (o : Nat) (w : World) : w.grownBy (w.setCells g o vs) (some g) := by
  induction vs generalizing o w with
  | nil => exact World.grownBy.refl _ _
  | cons v vs ih =>
    have h1 : w.grownBy (w.setCell ⟨g, o, none⟩ v) (some g) := ⟨rfl, rfl, rfl, by simp [World.setCell], fun k _ hn => Below.heap_setCell w ⟨g, o, none⟩ v k (fun e => hn (by simp [e]))⟩
    have h2 := ih (o + 1) (w.setCell ⟨g, o, none⟩ v)
    exact ⟨h2.os.trans h1.os, h2.tape.trans h1.tape, h2.output.trans h1.output, Nat.le_trans h1.size h2.size, fun k hk hn => (h2.block k (Nat.lt_of_lt_of_le hk h1.size) hn).trans (h1.block k hk hn)⟩
theorem grown_trans {a b c : World} {row : Option Nat} (h : a.grownBy b row) (k : b.grownBy c row) : a.grownBy c row := ⟨k.os.trans h.os, k.tape.trans h.tape, k.output.trans h.output, Nat.le_trans h.size k.size, fun i hi hn => (k.block i (Nat.lt_of_lt_of_le hi h.size) hn).trans (h.block i hi hn)⟩
theorem grown_drew_alloc (w : World) (o : Obj) (row : Option Nat) : w.grownBy (w.drew.alloc o) row := grown_none (((bl w).drew).alloc (by simp) o) row
/-- A change of a block that was not there is none of what was. -/
theorem grown_new {a b c : World} {row : Option Nat} {g : Nat} (h : a.grownBy b row) (k : b.grownBy c (some g)) (hg : a.heap.size ≤ g) : a.grownBy c row := ⟨k.os.trans h.os, k.tape.trans h.tape, k.output.trans h.output, Nat.le_trans h.size k.size, fun i hi hn => (k.block i (Nat.lt_of_lt_of_le hi h.size) (fun e => by injection e with e; omega)).trans (h.block i hi hn)⟩
theorem own_block {w : World} {base g cap m : Nat} {A : Array Value} {l : List Nat} (hb : base ≤ g) (hh : w.heap[g]? = some (.cells A TI (0, 0))) (hl : l.length = m) (hm : m ≤ cap) (hc : cap ≤ maxLen) (hs : A.size = cap) (hg : ∀ j i : Nat, l[j]? = some i → A[j]? = some (Value.int .i64 (i : Int))) : ownN w base (.slice (some ⟨g, 0, none⟩) m cap) l := by
  refine ⟨by simp [zsN_length], .inr ⟨g, cap, A, by rw [hl], hb, hh, by omega, hc, by omega, ?_⟩⟩
  apply List.ext_getElem?
  intro j
  rw [Nat.mul_one]
  by_cases hj : j < l.length
  · rw [List.getElem?_take_of_lt hj, Array.getElem?_toList, hg j _ (List.getElem?_eq_getElem hj)]
    simp [zsN, List.getElem?_eq_getElem hj]
  · rw [List.getElem?_take_eq_none (by omega), List.getElem?_eq_none (by simp [zsN_length]; omega)]
theorem own_open {w : World} {base : Nat} {v : Value} {l : List Nat} (h : ownN w base v l) : (v = .slice none 0 0 ∧ l = []) ∨ ∃ g cap A, v = .slice (some ⟨g, 0, none⟩) l.length cap ∧ base ≤ g ∧ g < w.heap.size ∧ w.heap[g]? = some (.cells A TI (0, 0)) ∧ l.length ≤ cap ∧ cap ≤ maxLen ∧ A.size = cap ∧ ∀ j i : Nat, l[j]? = some i → A[j]? = some (Value.int .i64 (i : Int)) := by
  rcases h.2 with ⟨hv, h0⟩ | ⟨g, cap, A, hv, hb, hg, hn, hc, hs, ht⟩
  · exact .inl ⟨hv, List.eq_nil_of_length_eq_zero h0⟩
  · refine .inr ⟨g, cap, A, hv, hb, lt_of_block hg, hg, hn, hc, by omega, fun j i hi => ?_⟩
    have hj := (List.getElem?_eq_some_iff.1 hi).1
    rw [Nat.mul_one] at ht
    have h1 : (A.toList.take l.length)[j]? = ((zsN l).map (Value.int .i64))[j]? := by rw [ht]
    rw [List.getElem?_take_of_lt hj, Array.getElem?_toList] at h1
    rw [h1]
    simp [zsN, hi]

set_option maxHeartbeats 1000000 in
/-- slices.Insert of one place. -/
theorem pinsert_any {w : World} {base : Nat} {v : Value} {l : List Nat} {p i : Nat} (h : ownN w base v l) (hbase : base ≤ w.heap.size) (hi : i ≤ l.length) (hn : l.length ≤ 100000) :
    Calls Tryz.prog 86 #[v, .int .i64 i, .slice (some ⟨w.heap.size, 0, none⟩) 1 1] (w.alloc (.cells #[.int .i64 p] TI)) (OwnPost base (l.take i ++ p :: l.drop i) v w) := by
  have hal : w.grownBy (w.alloc (.cells #[.int .i64 p] TI)) v.ownBlock := World.grownBy_alloc w _ _
  have hvs : ∀ (j : Nat) (u : Value), ([Value.int .i64 (p : Int)] : List Value)[j]? = some u → (w.alloc (.cells #[.int .i64 p] TI)).cell? ⟨w.heap.size, 0 + j, none⟩ = some u := fun j u hu => by
    cases j with
    | zero => obtain rfl : _ = u := by simpa using hu
              simp [go_sem]
    | succ j => simp at hu
  have h1v : ∀ u ∈ ([Value.int .i64 (p : Int)] : List Value), u.oneCell' = true := by simp [Value.oneCell']
  have hlen : (l.take i ++ p :: l.drop i).length = l.length + 1 := by simp; omega
  have hsz : (w.alloc (.cells #[.int .i64 p] TI)).heap.size = w.heap.size + 1 := by simp
  have hnew : w.heap.size ≤ (w.alloc (.cells #[.int .i64 p] TI)).heap.size := by rw [hsz]; omega
  have hnb : (w.alloc (.cells #[.int .i64 p] TI)).heap[w.heap.size]? = some (.cells #[.int .i64 p] TI (0, 0)) := heap_alloc_new w _
  have hz : ∀ n, (Builtin.zeroCells (Value.int .i64 0).cells n).size = n := fun n => by rw [size_zeroCells]; simp [Value.cells]
  rcases own_open h with ⟨rfl, rfl⟩ | ⟨g, cap, A, rfl, hbg, hgw, hg, hlc, hcm, hs, hget⟩
  · obtain rfl : i = 0 := by simpa using hi
    refine (Any2.slices_Insert_int_end_grow Tryz.laysInsertI none 0 0 w.heap.size 0 1 1 [] [.int .i64 p] (w.alloc (.cells #[.int .i64 p] TI)) (by omega) (by omega) (by omega) (by omega) rfl rfl (fun _ => rfl) (fun a ha => by cases ha) hvs h1v).mono ?_
    rintro e w' ⟨rfl, rfl⟩
    have hge := grownCap_ge (w.alloc (.cells #[.int .i64 p] TI)) (0 + 1) 0 (Tryz.laysInsertI_ren.t 3)
    have hle := grownCap_le_maxLen (w.alloc (.cells #[.int .i64 p] TI)) (0 + 1) 0 (Tryz.laysInsertI_ren.t 3) (by unfold maxLen; omega)
    refine ⟨_, rfl, own_block (by rw [hsz]; omega) (heap_alloc_new _ _) (by simp) hge hle ?_ ?_, grown_trans hal (grown_drew_alloc _ _ _), .inr ⟨_, rfl, hnew⟩⟩
    · simp only [Array.size_append, hz, List.nil_append, List.size_toArray, List.length_singleton]
      omega
    · intro j q hq
      cases j with
      | zero =>
        obtain rfl : p = q := by simpa using hq
        rw [Array.getElem?_append_left (by simp)]
        rfl
      | succ j => simp at hq
  · have hcell : ∀ (j : Nat) (u : Value), ((zsN l).map (Value.int .i64))[j]? = some u → w.cell? ⟨g, 0 + j, none⟩ = some u := fun j u hu => by
      obtain ⟨q, hq, rfl⟩ : ∃ q, l[j]? = some q ∧ Value.int .i64 (q : Int) = u := by
        rw [List.getElem?_map, zsN, List.getElem?_map] at hu
        cases hl : l[j]? with
        | none => rw [hl] at hu; cases hu
        | some q => rw [hl] at hu; exact ⟨q, rfl, by simpa using hu⟩
      simp only [World.cell?, hg, Nat.zero_add]
      exact hget j q hq
    have hg1 : (w.alloc (.cells #[.int .i64 p] TI)).heap[g]? = some (.cells A TI (0, 0)) := (Below.heap_alloc w _ g hgw).trans hg
    have hcell1 : ∀ (j : Nat) (u : Value), ((zsN l).map (Value.int .i64))[j]? = some u → (w.alloc (.cells #[.int .i64 p] TI)).cell? ⟨g, 0 + j, none⟩ = some u := fun j u hu => (World.cell?_of_block (a := ⟨g, 0 + j, none⟩) (hg1.trans hg.symm)).trans (hcell j u hu)
    have h1c : ∀ u ∈ (zsN l).map (Value.int .i64), u.oneCell' = true := fun u hu => by
      obtain ⟨z, _, rfl⟩ := List.mem_map.1 hu
      rfl
    have hzl : ((zsN l).map (Value.int .i64)).length = l.length := by simp [zsN_length]
    have hgetz : ∀ j : Nat, ((zsN l).map (Value.int .i64))[j]? = (l[j]?).map fun q : Nat => Value.int .i64 (q : Int) := fun j => by
      unfold zsN
      rw [List.getElem?_map, List.getElem?_map]
      cases l[j]? <;> rfl
    have hres : ∀ j q : Nat, (l.take i ++ p :: l.drop i)[j]? = some q → (j < i ∧ l[j]? = some q) ∨ (j = i ∧ p = q) ∨ (i < j ∧ l[j - 1]? = some q) := fun j q hq => by
      rcases Nat.lt_or_ge j i with hji | hji
      · rw [List.getElem?_append_left (by simp; omega), List.getElem?_take_of_lt hji] at hq
        exact .inl ⟨hji, hq⟩
      · rw [List.getElem?_append_right (by simp; omega), List.length_take, Nat.min_eq_left hi] at hq
        rcases Nat.eq_or_lt_of_le hji with rfl | hlt
        · rw [Nat.sub_self] at hq
          exact .inr (.inl ⟨rfl, by simpa using hq⟩)
        · rw [show j - i = (j - i - 1) + 1 by omega, List.getElem?_cons_succ, List.getElem?_drop, show i + (j - i - 1) = j - 1 by omega] at hq
          exact .inr (.inr ⟨hlt, hq⟩)
    rcases Nat.lt_or_ge i l.length with hil | hil
    · rcases Nat.lt_or_ge l.length cap with hroom | hroom
      · -- there is room, and places stand behind
        refine (Any2.slices_Insert_int_shift Tryz.laysInsertI g 0 l.length cap i w.heap.size 0 1 1 ((zsN l).map (Value.int .i64)) [.int .i64 p] (w.alloc (.cells #[.int .i64 p] TI)) hil (by omega) (by omega) (by unfold maxLen at hcm; omega) (by omega) hzl rfl hcell1 (fun j hj => ?_) (fun j hj => ?_) hvs h1c h1v TI TI 1 cap ?_ ?_ (by omega) ?_ ?_).mono ?_
        · simp only [World.cell?, hg1, Nat.zero_add]
          simp [show j < A.size by omega]
        · simp [World.frozen?, hg1]
        · simp only [World.shape?, hnb]; rfl
        · simp [World.shape?, hg1, hs]
        · simp only [World.frozen?, hnb]; rfl
        · simp only [World.frozen?, hnb]; rfl
        rintro e w' ⟨rfl, rfl⟩
        have hb1 := heap_setN (((zsN l).map (Value.int .i64)).drop i) (0 + (i + 1)) _ _ (show (w.alloc (.cells #[.int .i64 p] TI)).drew.heap[g]? = _ from hg1)
        have hb2 := heap_setN [.int .i64 p] (0 + i) _ _ hb1
        refine ⟨_, rfl, own_block hbg hb2 hlen (by omega) hcm (by rw [putA_size, putA_size]; exact hs) (fun j q hq => ?_), grown_trans (grown_trans (grown_trans hal (grown_none ((bl _).drew) _)) (grown_setN g _ _ _)) (grown_setN g _ _ _), .inl rfl⟩
        have hjl : j < l.length + 1 := by have := (List.getElem?_eq_some_iff.1 hq).1; omega
        rw [putA_get _ _ _ _ (by rw [putA_size]; omega), putA_get _ _ _ _ (by omega)]
        rcases hres j q hq with ⟨hji, hq⟩ | ⟨rfl, rfl⟩ | ⟨hji, hq⟩
        · rw [if_neg (by simp; omega), if_neg (by simp; omega)]
          exact hget j q hq
        · rw [if_pos (by simp)]
          simp
        · rw [if_neg (by simp; omega), if_pos (by simp [zsN_length]; omega), List.getElem?_drop, show i + (j - (0 + (i + 1))) = j - 1 by omega, hgetz, hq]
          rfl
      · -- no room, and places stand behind
        refine (Any2.slices_Insert_int_grow Tryz.laysInsertI g 0 l.length cap i w.heap.size 0 1 1 ((zsN l).map (Value.int .i64)) [.int .i64 p] (w.alloc (.cells #[.int .i64 p] TI)) hil (by omega) hlc (by omega) (by omega) hzl rfl hcell1 hvs h1c h1v).mono ?_
        rintro e w' ⟨rfl, rfl⟩
        have hge := grownCap_ge (w.alloc (.cells #[.int .i64 p] TI)) (l.length + 1) cap (Tryz.laysInsertI_ren.t 3)
        have hle := grownCap_le_maxLen (w.alloc (.cells #[.int .i64 p] TI)) (l.length + 1) cap (Tryz.laysInsertI_ren.t 3) (by unfold maxLen; omega)
        generalize grownCap (w.alloc (.cells #[.int .i64 p] TI)) (l.length + 1) cap (Tryz.laysInsertI_ren.t 3) = G at *
        obtain ⟨C, hC⟩ : ∃ C, (((zsN l).map (Value.int .i64)).take i).toArray ++ Builtin.zeroCells (Value.int .i64 0).cells (l.length + 1 - i) ++ Builtin.zeroCells (Value.int .i64 0).cells (G - (l.length + 1)) = C := ⟨_, rfl⟩
        have hCs : C.size = G := by
          rw [← hC]
          simp only [Array.size_append, hz, List.size_toArray, List.length_take, hzl]
          omega
        rw [hC]
        have hb0 := heap_alloc_new (w.alloc (.cells #[.int .i64 p] TI)) (.cells C TI)
        have hb1 := heap_setN [.int .i64 p] i _ _ (show ((w.alloc (.cells #[.int .i64 p] TI)).alloc (.cells C TI)).drew.heap[(w.alloc (.cells #[.int .i64 p] TI)).heap.size]? = _ from hb0)
        have hb2 := heap_setN (((zsN l).map (Value.int .i64)).drop i) (i + 1) _ _ (show ((((w.alloc (.cells #[.int .i64 p] TI)).alloc (.cells C TI)).drew.setCells (w.alloc (.cells #[.int .i64 p] TI)).heap.size i [.int .i64 p]).drew).heap[(w.alloc (.cells #[.int .i64 p] TI)).heap.size]? = _ from hb1)
        refine ⟨_, rfl, own_block (by rw [hsz]; omega) hb2 hlen hge hle (by rw [putA_size, putA_size]; exact hCs) (fun j q hq => ?_), ?_, .inr ⟨_, rfl, hnew⟩⟩
        · have hjl : j < l.length + 1 := by have := (List.getElem?_eq_some_iff.1 hq).1; omega
          rw [putA_get _ _ _ _ (by rw [putA_size]; omega), putA_get _ _ _ _ (by omega)]
          rcases hres j q hq with ⟨hji, hq⟩ | ⟨rfl, rfl⟩ | ⟨hji, hq⟩
          · rw [if_neg (by simp; omega), if_neg (by simp; omega), ← hC, Array.getElem?_append_left (by simp [hz, zsN_length]; omega), Array.getElem?_append_left (by simp [zsN_length]; omega), List.getElem?_toArray, List.getElem?_take_of_lt hji, hgetz, hq]
            rfl
          · rw [if_neg (by simp; omega), if_pos (by simp)]
            simp
          · rw [if_pos (by simp [zsN_length]; omega), List.getElem?_drop, show i + (j - (i + 1)) = j - 1 by omega, hgetz, hq]
            rfl
        · have g1 : w.grownBy ((w.alloc (.cells #[.int .i64 p] TI)).alloc (.cells C TI)) (Value.slice (some ⟨g, 0, none⟩) l.length cap).ownBlock := grown_trans hal (World.grownBy_alloc _ _ _)
          have g2 := grown_trans g1 (grown_none ((bl ((w.alloc (.cells #[.int .i64 p] TI)).alloc (.cells C TI))).drew) _)
          have g3 := grown_new g2 (grown_setN _ [.int .i64 p] i _) hnew
          have g4 := grown_trans g3 (grown_none ((bl (((w.alloc (.cells #[.int .i64 p] TI)).alloc (.cells C TI)).drew.setCells (w.alloc (.cells #[.int .i64 p] TI)).heap.size i [.int .i64 p])).drew) _)
          exact grown_new g4 (grown_setN _ _ (i + 1) _) hnew
    · obtain rfl : i = l.length := by omega
      have hmem : ∀ j q : Nat, (l.take l.length ++ p :: l.drop l.length)[j]? = some q → (j < l.length ∧ l[j]? = some q) ∨ (j = l.length ∧ p = q) := fun j q hq => by
        rcases hres j q hq with h | h | ⟨h, k⟩
        · exact .inl h
        · exact .inr h
        · have := (List.getElem?_eq_some_iff.1 k).1; omega
      rcases Nat.lt_or_ge l.length cap with hroom | hroom
      · refine (Any2.slices_Insert_int_end_room Tryz.laysInsertI g 0 l.length cap w.heap.size 0 1 1 [.int .i64 p] (w.alloc (.cells #[.int .i64 p] TI)) (by omega) (by omega) (by unfold maxLen at hcm; omega) rfl (fun j hj => ?_) (fun j hj => ?_) hvs h1v).mono ?_
        · simp only [World.cell?, hg1, Nat.zero_add]
          simp [show l.length + j < A.size by omega]
        · simp [World.frozen?, hg1]
        rintro e w' ⟨rfl, rfl⟩
        have hb1 := heap_setN [.int .i64 p] (0 + l.length) _ _ hg1
        refine ⟨_, rfl, own_block hbg hb1 hlen (by omega) hcm (by rw [putA_size]; exact hs) (fun j q hq => ?_), grown_trans hal (grown_setN g _ _ _), .inl rfl⟩
        have hjl : j < l.length + 1 := by have := (List.getElem?_eq_some_iff.1 hq).1; omega
        rw [putA_get _ _ _ _ (by omega)]
        rcases hmem j q hq with ⟨hji, hq⟩ | ⟨rfl, rfl⟩
        · rw [if_neg (by simp; omega)]
          exact hget j q hq
        · rw [if_pos (by simp)]
          simp
      · refine (Any2.slices_Insert_int_end_grow Tryz.laysInsertI (some ⟨g, 0, none⟩) l.length cap w.heap.size 0 1 1 ((zsN l).map (Value.int .i64)) [.int .i64 p] (w.alloc (.cells #[.int .i64 p] TI)) (by omega) hlc (by omega) (by omega) hzl rfl (fun h => by cases h) (fun a ha j u hu => by cases ha; have := hcell1 j u hu; rw [Go.WideShapes.add_plain]; exact this) hvs h1v).mono ?_
        rintro e w' ⟨rfl, rfl⟩
        have hge := grownCap_ge (w.alloc (.cells #[.int .i64 p] TI)) (l.length + 1) cap (Tryz.laysInsertI_ren.t 3)
        have hle := grownCap_le_maxLen (w.alloc (.cells #[.int .i64 p] TI)) (l.length + 1) cap (Tryz.laysInsertI_ren.t 3) (by unfold maxLen; omega)
        refine ⟨_, rfl, own_block (by rw [hsz]; omega) (heap_alloc_new _ _) hlen hge hle ?_ (fun j q hq => ?_), grown_trans hal (grown_drew_alloc _ _ _), .inr ⟨_, rfl, hnew⟩⟩
        · simp only [Array.size_append, hz, List.size_toArray, List.length_append, List.length_singleton, hzl]
          omega
        · rw [Array.getElem?_append_left (by have := (List.getElem?_eq_some_iff.1 hq).1; simp [zsN_length]; omega), List.getElem?_toArray]
          rcases hmem j q hq with ⟨hji, hq⟩ | ⟨rfl, rfl⟩
          · rw [List.getElem?_append_left (by rw [hzl]; omega), hgetz, hq]
            rfl
          · rw [List.getElem?_append_right (by rw [hzl]; omega), hzl, Nat.sub_self]
            rfl

/-! ### The place of a number among rising ones -/
theorem up_count : ∀ {l : List Nat} {p : Nat}, Up l → (∀ j c : Nat, l[j]? = some c → (j < l.countP (fun c => decide (c < p)) ↔ c < p)) ∧ l.countP (fun c => decide (c < p)) ≤ l.length
  | [], p, _ => ⟨fun j c h => by simp at h, by simp⟩
  | x :: l, p, h => by
    have h' := List.pairwise_cons.1 h
    obtain ⟨h1, h2⟩ := up_count (p := p) h'.2
    refine ⟨fun j c hc => ?_, List.countP_le_length⟩
    rw [List.countP_cons]
    by_cases hx : x < p
    · rw [if_pos (by simpa using hx)]
      cases j with
      | zero =>
        obtain rfl : x = c := by simpa using hc
        exact ⟨fun _ => hx, fun _ => by omega⟩
      | succ j =>
        rw [List.getElem?_cons_succ] at hc
        have := h1 j c hc
        omega
    · have h0 : l.countP (fun c => decide (c < p)) = 0 := List.countP_eq_zero.2 fun c hc => by
        have := h'.1 c hc
        simp; omega
      rw [if_neg (by simpa using hx), h0]
      have hcm := List.mem_of_getElem? hc
      refine ⟨fun hh => by omega, fun hh => ?_⟩
      rcases List.mem_cons.1 hcm with rfl | hcm
      · omega
      · have := h'.1 c hcm; omega
theorem zsN_count (l : List Nat) (p : Nat) : (zsN l).countP (fun z => decide (z < (p : Int))) = l.countP (fun c => decide (c < p)) := by
  unfold zsN
  rw [List.countP_map]
  congr 1
  funext c
  simp
theorem zsN_contains (l : List Nat) (p : Nat) : (zsN l).contains (p : Int) = decide (p ∈ l) := by
  rw [Bool.eq_iff_iff, List.contains_iff_mem, decide_eq_true_eq]
  unfold zsN
  rw [List.mem_map]
  constructor
  · rintro ⟨q, hq, e⟩
    obtain rfl : q = p := by omega
    exact hq
  · intro h
    exact ⟨p, h, rfl⟩
/-- The place where a number stands, or would stand. -/
def plc (l : List Nat) (p : Nat) : Nat := l.countP (fun c => decide (c < p))
theorem tog_plc_in {l : List Nat} {p : Nat} (h : Up l) (hp : p ∉ l) : togL l p = l.take (plc l p) ++ p :: l.drop (plc l p) := by
  obtain ⟨h1, h2⟩ := up_count (p := p) h
  refine togL_in l p _ h2 (fun j c hj hc => (h1 j c hc).1 hj) (fun c hc => ?_)
  have h3 := h1 _ c hc
  have hne : c ≠ p := fun e => hp (e ▸ List.mem_of_getElem? hc)
  unfold plc at hc
  rcases Nat.lt_or_ge c p with hcp | hcp
  · have := h3.2 hcp
    unfold plc at this
    omega
  · omega
theorem tog_plc_out {l : List Nat} {p : Nat} (h : Up l) (hp : p ∈ l) : togL l p = l.take (plc l p) ++ l.drop (plc l p + 1) ∧ plc l p < l.length := by
  obtain ⟨h1, h2⟩ := up_count (p := p) h
  obtain ⟨j, hj⟩ := List.mem_iff_getElem?.1 hp
  have hjl := (List.getElem?_eq_some_iff.1 hj).1
  have h3 := h1 j p hj
  have hle : plc l p ≤ j := by unfold plc; omega
  have hlt : plc l p < l.length := by omega
  have hq : l[plc l p]? = some p := by
    obtain ⟨c, hc⟩ : ∃ c, l[plc l p]? = some c := ⟨_, List.getElem?_eq_getElem hlt⟩
    have h4 := h1 _ c hc
    unfold plc at h4
    have hcp : p ≤ c := by omega
    rcases Nat.eq_or_lt_of_le hle with e | hl
    · rw [e]; exact hj
    · exfalso
      obtain ⟨k1, rfl⟩ := List.getElem?_eq_some_iff.1 hc
      obtain ⟨k2, hk2⟩ := List.getElem?_eq_some_iff.1 hj
      have := List.pairwise_iff_getElem.1 h _ _ k1 k2 hl
      omega
  exact ⟨togL_out l p _ (fun j c hj hc => (h1 j c hc).1 hj) hq, hlt⟩

theorem search_any {w : World} {base : Nat} {v : Value} {l : List Nat} {p : Nat} (h : ownN w base v l) (hup : Up l) (hn : l.length ≤ 100000) :
    Calls Tryz.prog 84 #[v, .int .i64 p] w fun e w' => e = .returned (.tuple #[.int .i64 (plc l p), .bool (decide (p ∈ l))]) ∧ ∃ q, w' = w.drewN q := by
  rcases own_open h with ⟨rfl, rfl⟩ | ⟨g, cap, A, rfl, hbg, hgw, hg, hlc, hcm, hs, hget⟩
  · refine (Tryz.slices_BinarySearch_int_empty none 0 p w).mono ?_
    rintro e w' ⟨rfl, rfl⟩
    exact ⟨by simp [plc], 0, rfl⟩
  · refine (Tryz.slices_BinarySearch_int g 0 l.length cap (zsN l) p w (by rw [zsN_length]; exact Nat.le_refl _) (by omega) (fun j hj => ?_) ?_).mono ?_
    · rw [zsN_length] at hj
      simp only [World.cell?, hg, Nat.zero_add]
      rw [if_neg (by simp), hget j _ (List.getElem?_eq_getElem hj)]
      simp [zsN, List.getD, List.getElem?_eq_getElem hj]
    · rw [List.take_of_length_le (by rw [zsN_length]; exact Nat.le_refl _)]
      unfold zsN
      rw [List.pairwise_map]
      exact hup.imp fun h => by omega
    rintro e w' ⟨rfl, q, rfl⟩
    rw [List.take_of_length_le (by rw [zsN_length]; exact Nat.le_refl _), zsN_count, zsN_contains]
    exact ⟨rfl, q, rfl⟩
theorem delete_any {w : World} {base : Nat} {v : Value} {l : List Nat} {i : Nat} (h : ownN w base v l) (hi : i < l.length) (hn : l.length ≤ 100000) :
    Calls Tryz.prog 85 #[v, .int .i64 i, .int .i64 (i + 1 : Nat)] w (OwnPost base (l.take i ++ l.drop (i + 1)) v w) := by
  obtain ⟨g, cap, rfl, hb, hlt, hc, hcm, _, hH⟩ := Lib.holds_of_ownsRow h (fun e => by
    rcases h.2 with ⟨_, h0⟩ | ⟨g, cap, A, hv, _⟩
    · omega
    · rw [hv] at e; cases e)
  have key := Tryz.slices_Delete_int g 0 cap i (i + 1) (zsN l) w hH (by rw [zsN_length]; exact hc) (by unfold maxLen at hcm; omega) (by omega) (by rw [zsN_length]; omega)
  rw [zsN_length] at key
  refine key.mono ?_
  rintro e w' ⟨rfl, q, rfl⟩
  have hle : l.length - (i + 1 - i) = (l.take i ++ l.drop (i + 1)).length := by simp; omega
  have hy : ((zsN l).take i ++ (zsN l).drop (i + 1) ++ List.replicate (i + 1 - i) (0 : Int)).length = l.length := by simp [zsN_length]; omega
  have ho := Lib.ownsRow_putRow (q := q) (k := l.length - (i + 1 - i)) h hy (by omega)
  have e1 : ((zsN l).take i ++ (zsN l).drop (i + 1) ++ List.replicate (i + 1 - i) (0 : Int)).take (l.length - (i + 1 - i)) = zsN (l.take i ++ l.drop (i + 1)) := by
    rw [List.take_append_of_le_length (by simp [zsN_length]; omega), List.take_of_length_le (by simp [zsN_length]; omega), zsN_append, zsN_take, zsN_drop]
  rw [e1, hle] at ho
  refine ⟨_, rfl, by rw [hle]; exact ho, ⟨rfl, rfl, rfl, by simp [putRow, mapBlock, Sort.ahead], fun k hk hne => ?_⟩, .inl rfl⟩
  have : g ≠ k := fun e => hne (by rw [← e]; rfl)
  simp [putRow, mapBlock, Sort.ahead, Array.getElem?_modify, this]

set_option linter.unusedVariables false in
set_option maxHeartbeats 1000000 in
theorem pturned_any {w : World} {base : Nat} {v : Value} {l : List Nat} {p : Nat} (h : ownN w base v l) (hbase : base ≤ w.heap.size) (hup : Up l) (hn : l.length ≤ 10000) (hp : p ≤ 1000000) :
    Calls Tryz.prog 67 #[v, .int .i64 p] w (OwnPost base (togL l p) v w) := by
  have HH := Lib.hid h
  have HBASE := Lib.hid hbase
  have CS := Lib.hid (search_any (p := p) h hup (by omega))
  have hk := (up_count (p := p) hup).2
  have hv : v = .slice none 0 0 ∨ ∃ g cap, v = .slice (some ⟨g, 0, none⟩) l.length cap := by
    rcases own_open h with ⟨h1, _⟩ | ⟨g, cap, _, h1, _⟩
    · exact .inl h1
    · exact .inr ⟨g, cap, h1⟩
  by_cases hm : p ∈ l
  · obtain ⟨e1, e2⟩ := tog_plc_out hup hm
    have hm' : decide (p ∈ l) = true := decide_eq_true hm
    rw [hm'] at CS
    have HE := Lib.hid e1
    obtain ⟨k, hkk⟩ : ∃ k, plc l p = k := ⟨_, rfl⟩
    rw [hkk] at CS e2 HE
    have CD := Lib.hid (show ∀ q, Calls Tryz.prog 85 #[v, .int .i64 (k : Nat), .int .i64 ((k : Int) + 1)] (w.drewN q) (OwnPost base (l.take k ++ l.drop (k + 1)) v (w.drewN q)) from fun q => by
      have := delete_any (w := w.drewN q) (i := k) (ownN_below h (belowN (bl w) q)) e2 (by omega)
      rwa [show ((k + 1 : Nat) : Int) = (k : Int) + 1 by omega] at this)
    have hw1 : IntKind.i64.wrap ((k : Int) + 1) = ((k + 1 : Nat) : Int) := by rw [IntWalk.i64_in _ (by omega)]; omega
    have hkn : k ≤ 10000 := by omega
    have key : Calls Tryz.prog 67 #[v, .int .i64 p] w fun e w' => ∃ q, OwnPost base (l.take k ++ l.drop (k + 1)) v (w.drewN q) e w' := by
      clear h hup hm hm' e1 hkk hk hv hbase hn hp e2
      go_enter Tryz.func67, Tryz.ntmps67
      go_wp2_with (first
        | (go_at_call 84; (with_reducible refine CS.out.mono ?_); rintro e w1 ⟨rfl, q, rfl⟩)
        | (go_at_call 85; (with_reducible refine (CD.out q).mono ?_); rintro e w2 ⟨v', rfl, hpost⟩; have HPOST := Lib.hid hpost; clear hpost))
      go_ret
      exact ⟨q, _, rfl, HPOST.out⟩
    refine key.mono ?_
    rintro e w' ⟨q, v', rfl, ho, hg, hl⟩
    rw [HE.out]
    exact ⟨v', rfl, ho, grown_trans (grown_none (belowN (bl w) q) _) hg, hl⟩
  · have e1 := tog_plc_in hup hm
    have hm' : decide (p ∈ l) = false := decide_eq_false hm
    rw [hm'] at CS
    have HE := Lib.hid e1
    obtain ⟨k, hkk⟩ : ∃ k, plc l p = k := ⟨_, rfl⟩
    have hk' : plc l p ≤ l.length := hk
    have CD := Lib.hid (show ∀ q, Calls Tryz.prog 86 #[v, .int .i64 (k : Nat), .slice (some ⟨w.heap.size, 0, none⟩) 1 1] ((w.drewN q).alloc (.cells #[.int .i64 p] TI)) (OwnPost base (l.take k ++ p :: l.drop k) v (w.drewN q)) from fun q => by
      rw [← hkk]
      exact pinsert_any (w := w.drewN q) (ownN_below h (belowN (bl w) q)) hbase hk' (by omega))
    rw [hkk] at CS HE
    have key : Calls Tryz.prog 67 #[v, .int .i64 p] w fun e w' => ∃ q, OwnPost base (l.take k ++ p :: l.drop k) v (w.drewN q) e w' := by
      clear h hup hm hm' e1 hkk hk hk' hv hbase hn hp
      go_enter Tryz.func67, Tryz.ntmps67
      go_wp2_with (first
        | (go_at_call 84; (with_reducible refine CS.out.mono ?_); rintro e w1 ⟨rfl, q, rfl⟩)
        | (go_at_call 86; (with_reducible refine (CD.out q).mono ?_); rintro e w2 ⟨v', rfl, hpost⟩; have HPOST := Lib.hid hpost; clear hpost))
      go_ret
      exact ⟨q, _, rfl, HPOST.out⟩
    refine key.mono ?_
    rintro e w' ⟨q, v', rfl, ho, hg, hl⟩
    rw [HE.out]
    exact ⟨v', rfl, ho, grown_trans (grown_none (belowN (bl w) q) _) hg, hl⟩

end Go.Proofs.YtaoobliajgcdmaaGreat

/-
  The program's turns: the times at which versions begin to count, or end to, by their times.
-/
namespace Go.Proofs.YtaoobliajgcdmaaGreat
open Go.RowKit Go.Sort Go.Shelf
open Co (flat Spans CovOf Mem bord It KpS Sorted2 enc2 cfT swoT)

attribute [local go_sem] Oper.semAt_some

abbrev TTu : TypeId := 74
abbrev TTs : TypeId := 71
theorem Tryz.infoTurnT : (Tryz.prog.info? TTu).map (fun i => (i.zero, i.size, i.bytes)) = some (some (.agg #[.int .i64 0, .int .i64 0]), 2, 16) := by kernel_rfl
set_option maxHeartbeats 1000000 in
theorem cmpTT_any (x y : Int × Int) (W : World) : Calls Tryz.prog 61 #[.agg #[.int .i64 x.1, .int .i64 x.2], .agg #[.int .i64 y.1, .int .i64 y.2]] W fun e w' => e = .returned (.int .i64 (cfT x y)) ∧ ∃ q os', w' = grow (W.drewN q) os' := by
  have hcon := fun W' => Tryz.cmp_Compare_int x.1 y.1 W'
  unfold cfT
  generalize Lib.compareInt x.1 y.1 = r at hcon ⊢
  go_enter Tryz.func61, Tryz.ntmps61
  go_wp2_with (go_at_call 62; refine (hcon _).mono ?_; rintro e w' ⟨rfl, rfl⟩)
  go_ret
  exact ⟨rfl, 0, _, by rw [alloc_eq_grow, alloc_eq_grow, grow_grow]; rfl⟩
theorem sort_turnsT {base : Nat} {v : Value} {l : List (Int × Int)} (w : World) (hown : w.ownsRow base TTu 2 v l.length (flat l)) (hl : l.length < 4611686018427387904) (hb0 : base ≤ w.heap.size) :
    Calls Tryz.prog 60 #[v, .func (.func 61) #[] #[]] w (Sorted2 (ltOf cfT) base v l w) := by
  rcases hown.2 with ⟨rfl, h0⟩ | ⟨g, cap, cur, rfl, hbase, hb, hn, hcap, hcs, ht⟩
  · obtain rfl := List.eq_nil_of_length_eq_zero h0
    refine (AnyF.slices_SortFunc_none Tryz.sortTurnT none 0 _ w).mono ?_
    rintro e w' ⟨rfl, rfl⟩
    exact Co.sorted_none hb0
  · have hlt : g < w.heap.size := (Array.getElem?_eq_some_iff.1 hb).1
    have hH := Co.holds_own hb ht
    have hcon := AnyQ.slices_SortFunc Tryz.sortTurnT 2 Tryz.isAgg74 Tryz.sizeOf74 enc2 (fun _ => rfl) Co.enc_one cfT swoT 61 #[] g 0 cap l.toArray w (enters_of Tryz.func61 (by kernel_rfl) rfl) (fun _ _ _ _ x y => cmpTT_any x y _) hH hlt (by simpa using hl)
    change Calls Tryz.prog 60 _ _ _ at hcon
    simp only [List.size_toArray] at hcon
    refine hcon.mono ?_
    rintro e w' ⟨rfl, d', n, os, hp, hs, rfl⟩
    exact Co.sorted_of hb hH hlt hbase (by simpa using hp) (by simpa using hs)

/-- The ends of one right span's cover. -/
theorem bord_one {m : List (Int × Int)} {f t : Int} (h : CovOf m (Mem [(f, t)])) (hr : rightP f t = true) : bord m = [f, t] := by
  have hb : Co.rightB f t = true := by rw [rightB_P]; exact hr
  have hm : m = [(f, t)] := Co.cov_ext m [(f, t)] h.1 ⟨by simpa using hb, by simp⟩ h.2
  rw [hm]
  simp [bord]

theorem borders_one (W : World) (k : Nat) (hk : W.heap.size = k) (f t : Int) (hr : rightP f t = true) : Calls Tryz.prog 59 #[.slice (some ⟨k, 0, none⟩) 1 1] (W.alloc (ocS f t)) fun e w' => ∃ B v m, e = .returned (.func (.func 78) #[] #[.pointer (some ⟨B, 0, none⟩)]) ∧ It B (W.alloc (ocS f t)).heap.size v m w' ∧ bord m = [f, t] ∧ m.length ≤ 1 ∧ Go.RowKit.Below (W.alloc (ocS f t)).heap.size (W.alloc (ocS f t)) w' := by
  subst hk
  have hsp : Spans (W.alloc (ocS f t)) (some ⟨W.heap.size, 0, none⟩) [(f, t)] := fun i p hp => by
    cases i with
    | zero =>
      obtain rfl : (f, t) = p := by simpa using hp
      have := boxS_new W f t
      exact ⟨W.heap.size, 0, rfl, by first | exact this.1 | simp, by first | exact this.2 | simp⟩
    | succ i => simp at hp
  refine (Co.borders_any (W.alloc (ocS f t)) (some ⟨W.heap.size, 0, none⟩) 1 [(f, t)] hsp (by simp)).mono ?_
  rintro e w' ⟨B, v, m, rfl, h1, h2, h3, h4⟩
  exact ⟨B, v, m, rfl, h1, bord_one h2 hr, by simpa using h3, h4⟩
/-- Deferred calls, of which there are none, at the end. -/
theorem leaves_all {F : Fence} {n : Nat} {P : Program} {fn : Func} {tmps : Array Value} {R : Ending → World → Prop} (X : World → Prop)
    (base : Nat) (hX : ∀ w D, base ≤ D → X w → w.heap[D]? = some (.deferred (some [])) → X (w.putObj D (.deferred none))) (hend : ∀ w', X w' → LeavesIn F n P fn tmps R [] .returning w') :
    ∀ (ds : List Nat) (w : World), ds.Nodup → (∀ D ∈ ds, base ≤ D ∧ w.heap[D]? = some (.deferred (some []))) → X w → LeavesInM F n P fn tmps R (ds.map fun D => { target := .collected D, args := #[] }) .returning w
  | [], w, _, _, hx => hend w hx
  | D :: ds, w, hd, h, hx => by
    have hd' := List.nodup_cons.1 hd
    obtain ⟨hDb, hD⟩ := h D (by simp)
    refine ⟨by simp, .inl ⟨D, _, rfl, run_takeDeferred hD, ?_⟩⟩
    refine leaves_all X base hX hend ds _ hd'.2 (fun D' hD' => ⟨(h D' (List.mem_cons_of_mem _ hD')).1, ?_⟩) (hX w D hDb hx hD)
    have hne : D' ≠ D := fun e => hd'.1 (e ▸ hD')
    exact (World.putObj_heap_other hne).trans (h D' (List.mem_cons_of_mem _ hD')).2

/-- The turns of versions as pairs. -/
def trnZ (a : Int × Int) (l : List Vr) : List (Int × Int) := (trnL a 0 l).map fun t : Int × Nat => (t.1, (t.2 : Int))
theorem trnZ_next {a : Int × Int} {L : List Vr} {k : Nat} {v : Vr} (h : L[k]? = some v) : trnZ a (L.take (k + 1)) = Co.tnL (trnZ a (L.take k)) (k : Int) (endsV a v) := by
  have hk : (L.take k).length = k := by have := (List.getElem?_eq_some_iff.1 h).1; rw [List.length_take]; omega
  unfold trnZ Co.tnL
  rw [List.take_add_one, h, Option.toList_some, trnL_snoc, List.map_append, List.map_map, hk, Nat.zero_add]
  rfl
theorem trnZ_length (a : Int × Int) (l : List Vr) : (trnZ a l).length ≤ 2 * l.length := by unfold trnZ; rw [List.length_map]; exact trnL_length a l 0
theorem turn_back {a : Int × Int} {L : List Vr} {s : List (Int × Int)} (hp : s.Perm (trnZ a L)) (hs : ∀ (i j : Nat) p q, i < j → s[i]? = some p → s[j]? = some q → ltOf cfT q p = false) :
    ∃ T : List (Int × Nat), s = T.map (fun t => (t.1, (t.2 : Int))) ∧ Trn a L T := by
  have hnn : ∀ p ∈ s, 0 ≤ p.2 := fun p hpm => by
    have := hp.mem_iff.1 hpm
    unfold trnZ at this
    obtain ⟨t, _, rfl⟩ := List.mem_map.1 this
    show (0 : Int) ≤ (t.2 : Int)
    omega
  refine ⟨s.map fun p => (p.1, p.2.toNat), ?_, ?_, ?_⟩
  · rw [List.map_map]
    refine ((List.map_congr_left (g := id) fun p hpm => ?_).trans (List.map_id _)).symm
    have := hnn p hpm
    simp only [Function.comp, id]
    rw [Int.toNat_of_nonneg this]
  · have h1 := hp.map fun p : Int × Int => (p.1, p.2.toNat)
    unfold trnZ at h1
    rw [List.map_map] at h1
    refine h1.trans ?_
    rw [show ((fun p : Int × Int => (p.1, p.2.toNat)) ∘ fun t : Int × Nat => (t.1, (t.2 : Int))) = id from by funext t; simp, List.map_id]
  · refine List.pairwise_map.2 ?_
    rw [List.pairwise_iff_getElem]
    intro i j hi hj hij
    have := hs i j _ _ hij (List.getElem?_eq_getElem hi) (List.getElem?_eq_getElem hj)
    rw [Co.ltT] at this
    simp at this
    exact this
/-- Between two rounds. -/
structure TuI (w : World) (af at' : Int) (T : List (Int × Int)) (ds : List Nat) (W : World) : Prop where
  row : ∃ v, Boxed W (w.heap.size + 1) TTs v ∧ W.ownsRow w.heap.size TTu 2 v T.length (flat T) ∧ True
  bel : Below w.heap.size w W
  sp : W.heap[w.heap.size]? = some (.cells #[.int .i64 af, .int .i64 at'] 23 (0, 0))
  dfs : ∀ D ∈ ds, w.heap.size ≤ D ∧ W.heap[D]? = some (.deferred (some []))
  nod : ds.Nodup
theorem TuI.below {w wr W : World} {af at' : Int} {T : List (Int × Int)} {ds : List Nat} (h : TuI w af at' T ds wr) (hb : Go.RowKit.Below wr.heap.size wr W) : TuI w af at' T ds W := by
  obtain ⟨v, hv, hrow, _⟩ := h.row
  exact ⟨⟨v, (hb.block _ hv.lt).trans hv, Co.own_below hrow hb, trivial⟩, chain h.bel hb, (hb.block _ (Array.getElem?_eq_some_iff.1 h.sp).1).trans h.sp, fun D hD => ⟨(h.dfs D hD).1, (hb.block _ (Array.getElem?_eq_some_iff.1 (h.dfs D hD).2).1).trans (h.dfs D hD).2⟩, h.nod⟩
/-- What lies still while a version's turns are put down. -/
def StU (w : World) (P : Nat) (k : Nat) (af at' : Int) (ds : List Nat) (W : World) : Prop :=
  W.heap[P]? = some (.cells #[.int .i64 (k : Int)] TI (0, 0)) ∧ W.heap[w.heap.size]? = some (.cells #[.int .i64 af, .int .i64 at'] 23 (0, 0)) ∧ ∀ D ∈ ds, w.heap.size ≤ D ∧ W.heap[D]? = some (.deferred (some []))
theorem stU_own {w : World} {P k : Nat} {af at' : Int} {ds : List Nat} {B : Nat} (hP : P < B) (hw : w.heap.size < B) (hd : ∀ D ∈ ds, D < B) : OwnFrom B (fun (_ : List Int) W => StU w P k af at' ds W) := fun _ A C row hs hg hr => by
  have key : ∀ c o, c < B → A.heap[c]? = some o → C.heap[c]? = some o := fun c o hc ho => (hg.block c (Array.getElem?_eq_some_iff.1 ho).1 (fun e => by have := (hr c e.symm).1; omega)).trans ho
  exact ⟨key _ _ hP hs.1, key _ _ hw hs.2.1, fun D hD => ⟨(hs.2.2 D hD).1, key _ _ (hd D hD) (hs.2.2 D hD).2⟩⟩
theorem kept_app {W w9 : World} {tmp : Obj} {v v' : Value} {n₀ B k : Nat} {xs : List Value} (hrow : W.ownsRow n₀ TTu 2 v k xs) (hg : (W.alloc tmp).grownBy w9 v.ownBlock) {c : Nat} {o : Obj} (hc : W.heap[c]? = some o) (ho : ∀ cur, o ≠ .cells cur TTu (0, 0)) (hcB : c ≠ B) : (w9.setCell ⟨B, 0, none⟩ v').heap[c]? = some o := by
  have hlt := (Array.getElem?_eq_some_iff.1 hc).1
  rw [Go.RowKit.Below.heap_setCell w9 ⟨B, 0, none⟩ v' c hcB, hg.block c (by simp; omega) (fun e => ?_), Go.RowKit.Below.heap_alloc W tmp c hlt]
  · exact hc
  · rcases hrow.2 with ⟨rfl, _⟩ | ⟨g, cap, cur, rfl, _, hh, _⟩
    · cases e
    · cases e
      rw [hh] at hc
      injection hc with hc
      exact ho cur hc.symm

set_option maxRecDepth 100000 in
set_option maxHeartbeats 8000000 in
theorem pturns_any (w : World) (a : Int × Int) (u : Value) (L : List Vr) (hl : VersL w u L) (hn : L.length ≤ 10000) :
    Calls Tryz.prog 35 #[.agg #[.int .i64 a.1, .int .i64 a.2], u] w fun e w' => ∃ A c T, e = .returned (.slice A T.length c) ∧ Spans w' A (T.map fun t : Int × Nat => (t.1, (t.2 : Int))) ∧ Trn a L T ∧ Below w.heap.size w w' := by
  obtain ⟨i0, hi, hz0, hz1, hz2⟩ := info_parts Tryz.infoTurnT
  obtain ⟨⟨A, c, rfl, hA, hc, hnc⟩, hVF⟩ := hl
  have HA := Lib.hid hA
  have HVF := Lib.hid hVF
  obtain ⟨n, hnm⟩ : ∃ n, L.length = n := ⟨_, rfl⟩
  rw [hnm] at hn hc ⊢
  have HN := Lib.hid hnm
  obtain ⟨af, at', rfl⟩ : ∃ af at', a = (af, at') := ⟨a.1, a.2, rfl⟩
  clear hA hc hnc hVF hnm
  refine (callsIn_wide (n := 4)).1 ?_
  refine callsIn_of_wp_marks Tryz.func35 rfl trivial ?_ rfl
  simp only [Tryz.ntmps35, List.size_toArray, List.length_cons, List.length_nil, Nat.reduceAdd, Nat.reduceSub, Array.replicate_succ, Array.replicate_zero, List.push_toArray, List.append_toArray, List.nil_append, List.cons_append]
  gi_wp2
  refine wpIn_loop (fun a' W => ∃ (u6 u7 u8 u9 u10 u14 u15 u16 u17 u18 u19 u20 u21 u22 u23 u24 u25 u26 u27 u28 u29 u30 u31 u32 u33 u34 u35 u36 u37 u38 u39 u40 u41 : Value) (k : Nat) (ds : List Nat), (k ≤ n ∧ TuI w af at' (trnZ (af, at') (L.take k)) ds W) ∧ a' = { tmps := #[.agg #[.int .i64 af, .int .i64 at'], .slice A n c, .pointer (some ⟨w.heap.size, 0, none⟩), undef, .slice none 0 0, .pointer (some ⟨w.heap.size + 1, 0, none⟩), u6, u7, u8, u9, u10, .slice A n c, .int .i64 n, .int .i64 (k : Nat), u14, u15, u16, u17, u18, u19, u20, u21, u22, u23, u24, u25, u26, u27, u28, u29, u30, u31, u32, u33, u34, u35, u36, u37, u38, u39, u40, u41, undef, undef, undef], defers := ds.map fun D => { target := .collected D, args := #[] } }) (fun a' _ => n - (intOf (a'.tmps.getD 13 undef)).toNat) ?_ ?_
  · refine ⟨_, _, _, _, _, _, _, _, _, _, _, _, _, _, _, _, _, _, _, _, _, _, _, _, _, _, _, _, _, _, _, _, _, 0, [], ⟨Nat.zero_le _, ?_⟩, rfl⟩
    have hb1 : Below w.heap.size w (w.alloc (ocS af at')) := (bl w).alloc (Nat.le_refl _) _
    refine ⟨⟨.slice none 0 0, ?_, ?_, trivial⟩, hb1.alloc hb1.size _, ?_, by simp, List.nodup_nil⟩
    · have h := Boxed.new (w.alloc (ocS af at')) TTs (.slice none 0 0)
      rw [show (w.alloc (ocS af at')).heap.size = w.heap.size + 1 by simp] at h
      exact h
    · exact World.ownsRow_nil _ _ _ _
    · exact (Go.RowKit.Below.heap_alloc (w.alloc (ocS af at')) _ w.heap.size (by simp)).trans (heap_alloc_new w _)
  · rintro _ wr ⟨u6, u7, u8, u9, u10, u14, u15, u16, u17, u18, u19, u20, u21, u22, u23, u24, u25, u26, u27, u28, u29, u30, u31, u32, u33, u34, u35, u36, u37, u38, u39, u40, u41, k, ds, ⟨hk, hI⟩, rfl⟩
    have HI := Lib.hid hI
    clear hI
    by_cases hlt : k < n
    · have hlt' : (k : Int) < (n : Int) := by omega
      obtain ⟨v, hx⟩ : ∃ v, L[k]? = some v := ⟨_, List.getElem?_eq_getElem (by have := HN.out; omega)⟩
      obtain ⟨g, off, rfl, hX⟩ := (HA.out.below HI.out.bel).cells7 hx
      have hb1 : Go.RowKit.Below wr.heap.size wr (wr.alloc (.cells #[.int .i64 (k : Int)] TI)) := (bl wr).alloc (Nat.le_refl _) _
      have hb2 : Go.RowKit.Below wr.heap.size wr ((wr.alloc (.cells #[.int .i64 (k : Int)] TI)).alloc (ocV v)) := hb1.alloc hb1.size _
      have hsw := (Array.getElem?_eq_some_iff.1 HI.out.sp).1
      have e2 := (hb2.block _ hsw).trans HI.out.sp
      have y0 : ((wr.alloc (.cells #[.int .i64 (k : Int)] TI)).alloc (ocV v)).cell? ⟨w.heap.size, 0, none⟩ = some (.int .i64 af) := by simp only [World.cell?, e2]; rfl
      have y1 : ((wr.alloc (.cells #[.int .i64 (k : Int)] TI)).alloc (ocV v)).cell? ⟨w.heap.size, 1, none⟩ = some (.int .i64 at') := by simp only [World.cell?, e2]; rfl
      have HB2 := Lib.hid hb2
      have CM := Lib.hid (fun w => Co.meet_any af at' v.sf v.se w)
      have hstep := trnZ_next (a := (af, at')) hx
      have hends : endsV (af, at') v = if (Co.meetB af at' v.sf v.se && !v.gone) = true then [Co.meetF af at' v.sf v.se, Co.meetT af at' v.sf v.se] else [] := rfl
      have hright : Co.meetB af at' v.sf v.se = true → rightP (Co.meetF af at' v.sf v.se) (Co.meetT af at' v.sf v.se) = true := fun h => by
        have hh := (meetB_iff _ _ _ _).1 h
        have ra := (rightP_iff _ _).1 hh.1.1
        have rv := (rightP_iff _ _).1 hh.1.2
        rw [rightP_iff, Co.meetF, Co.meetT, h]
        simp only [if_true]
        omega
      have HX := Lib.hid hX
      have HST := Lib.hid hstep
      have HEN := Lib.hid hends
      have HRI := Lib.hid hright
      have HB7 := Lib.hid (show ∀ W, Go.RowKit.Below ((wr.alloc (.cells #[.int .i64 (k : Int)] TI)).alloc (ocV v)).heap.size ((wr.alloc (.cells #[.int .i64 (k : Int)] TI)).alloc (ocV v)) W → W.heap[wr.heap.size]? = some (.cells #[.int .i64 (k : Int)] TI (0, 0)) ∧ W.cell? ⟨wr.heap.size + 1, 6, none⟩ = some (.bool v.gone) from fun W h => by
        refine ⟨(h.block _ (by simp; omega)).trans ((Go.RowKit.Below.heap_alloc (wr.alloc (.cells #[.int .i64 (k : Int)] TI)) _ wr.heap.size (by simp)).trans (heap_alloc_new wr _)), keepc h (by simp [go_sem])⟩)
      obtain ⟨z0, z1, z2, z3, z4, z5, z6⟩ := hX
      clear hx hb1 hb2 hsw e2 hstep hends hright
      generalize Co.meetF af at' v.sf v.se = mf at *
      generalize Co.meetT af at' v.sf v.se = mt at *
      generalize Co.meetB af at' v.sf v.se = mb at *
      obtain ⟨gn, hgn⟩ : ∃ gn, v.gone = gn := ⟨_, rfl⟩
      have HGN := Lib.hid hgn
      rw [hgn] at HEN
      clear hgn
      by_cases hgo : (mb && !gn) = true
      · obtain ⟨rfl, rfl⟩ : mb = true ∧ gn = false := by
          rw [Bool.and_eq_true, Bool.not_eq_true'] at hgo
          exact hgo
        have CB := Lib.hid (fun W k hk => borders_one W k hk mf mt (HRI.out rfl))
        gi_wp2_with (first
          | (refine ⟨trivial, ?_⟩; gi_at_call 32; refine (callsIn_wide.2 (CM.out _)).mono ?_; rintro e w6 ⟨rfl, hb6⟩; obtain ⟨_, k6⟩ := HB7.out w6 hb6; obtain ⟨_, k7⟩ := HB7.out _ (hb6.alloc hb6.size (ocS mf mt)); rw [HGN.out] at k6 k7; have HB6 := Lib.hid hb6; have HZ6 := Lib.hid (show (w6.alloc (ocS mf mt)).heap.size = w6.heap.size + 1 by simp); clear hb6)
          | (refine ⟨trivial, ?_⟩; gi_at_call 59; refine (callsIn_wide.2 (CB.out _ _ HZ6.out)).mono ?_; rintro e w8 ⟨B1, v1, m1, rfl, hI1, hm1, hl1, hb8⟩))
        have HTI := Lib.hid (HI.out.below (chain HB2.out (chain HB6.out (chain ((bl w6).alloc (Nat.le_refl _) (ocS mf mt)) (chain ((bl _).alloc (Nat.le_refl _) (ocS mf mt)) hb8)))))
        have HP6 := Lib.hid (show w8.heap[wr.heap.size]? = some (.cells #[.int .i64 (k : Int)] TI (0, 0)) from (HB7.out w8 (chain HB6.out (chain ((bl w6).alloc (Nat.le_refl _) (ocS mf mt)) (chain ((bl _).alloc (Nat.le_refl _) (ocS mf mt)) hb8)))).1)
        have hP6 := (Array.getElem?_eq_some_iff.1 HP6.out).1
        have hW6 := (Array.getElem?_eq_some_iff.1 HTI.out.sp).1
        have hDlt : ∀ D ∈ ds, D < w8.heap.size := fun D hD => (Array.getElem?_eq_some_iff.1 (HTI.out.dfs D hD).2).1
        have HDL := Lib.hid hDlt
        have hs8 := HTI.out.bel.size
        obtain ⟨T0, hT0⟩ : ∃ T0, trnZ (af, at') (L.take k) = T0 := ⟨_, rfl⟩
        have HT0 := Lib.hid hT0
        have hT0n : T0.length ≤ 20000 := by
          have h1 := trnZ_length (af, at') (L.take k)
          rw [hT0, List.length_take] at h1
          omega
        have hrow0 := HTI.out.row
        rw [hT0] at hrow0
        have HSTT := Lib.hid (show Co.tnL T0 (k : Int) [mf, mt] = trnZ (af, at') (L.take (k + 1)) by
          have h1 := HST.out
          rw [HEN.out, hT0] at h1
          exact h1.symm)
        clear hT0 HB6 HZ6 k6 k7 hb8
        refine wpIn_rangeFunc_ownF rfl (by omega) (gf := 78) (lb := #[.pointer (some ⟨B1, 0, none⟩)]) rfl trivial (enters_of Tryz.func78 (by kernel_rfl) rfl)
          (Co.borders_stops Fence.wide _ trivial rfl (by omega) B1 _ v1 m1 (by omega) _ hI1) (fun h k => h.trans k) (fun W l o o' _ h hc _ => KpS.putObj h hc o') (Go.RowKit.Below.refl _ _) (fun _ => rfl)
          (fun pre W => ((∃ v, Boxed W (w.heap.size + 1) TTs v ∧ W.ownsRow w.heap.size TTu 2 v (Co.tnL T0 (k : Int) pre).length (flat (Co.tnL T0 (k : Int) pre)) ∧ True) ∧ Go.RowKit.Below w.heap.size w W) ∧ StU w wr.heap.size k af at' ds W) (fun _ _ _ => False)
          (OwnFrom.and (OwnFrom.and (Own.from (holdsRow_own w.heap.size (w.heap.size + 1) TTs TTu 2 (fun pre : List Int => (Co.tnL T0 (k : Int) pre).length) (fun pre => flat (Co.tnL T0 (k : Int) pre)) (fun _ _ => True)) _) (ownFrom_below (Nat.le_refl _) hs8)) (stU_own hP6 hW6 hDlt)) (fun _ _ _ _ _ hs _ _ => hs)
          ⟨⟨by simpa [Co.tnL] using hrow0, HTI.out.bel⟩, HP6.out, HTI.out.sp, HTI.out.dfs⟩
          (fun x => { tmps := #[Value.agg #[Value.int .i64 af, Value.int .i64 at'], Value.slice (some ⟨g, off, none⟩) n c, Value.pointer (some ⟨w.heap.size, 0, none⟩), undef, Value.slice none 0 0, Value.pointer (some ⟨w.heap.size + 1, 0, none⟩), Value.pointer (some ⟨wr.heap.size, 0, none⟩), Value.pointer (some ⟨wr.heap.size + 1, 0, none⟩), Value.pointer (some ⟨w6.heap.size, 0, none⟩), Value.bool true, Value.int .i64 x, Value.slice (some ⟨g, off, none⟩) n c, Value.int .i64 n, Value.int .i64 k, Value.bool true, Value.int .i64 k, Value.pointer (some ⟨g, off + k * 7, none⟩), Value.agg #[Value.int .i64 v.id, Value.int .i64 v.st, Value.string v.ent, Value.int .i64 v.sf, Value.int .i64 v.se, Value.slice v.fa v.fs.length v.fc, Value.bool v.gone], Value.tuple #[Co.sp mf mt, Value.bool true], Value.agg #[Value.int .i64 af, Value.int .i64 at'], Value.pointer (some ⟨wr.heap.size + 1, 3, none⟩), Value.agg #[Value.int .i64 v.sf, Value.int .i64 v.se], Value.tuple #[Co.sp mf mt, Value.bool true], Co.sp mf mt, Value.bool true, Value.pointer (some ⟨wr.heap.size + 1, 6, none⟩), Value.bool false, Value.bool false, Value.bool true, Value.bool false, Value.bool false, Value.agg #[Value.int .i64 mf, Value.int .i64 mt], Value.slice (some ⟨w6.heap.size + 1, 0, none⟩) 1 1, Value.func (.func 78) #[] #[.pointer (some ⟨B1, 0, none⟩)], Value.int .i64 x, u35, u36, u37, u38, u39, u40, u41, undef, undef, undef], defers := [] }) ?assign ?body ?done ?stop
        case assign =>
          intro l x W K hK
          gi_wp2
          exact hK
        case body =>
          rintro l pre x W ⟨⟨⟨v9, hv, hrow, _⟩, hB⟩, hst⟩ hlen
          rw [hm1] at hlen
          have hvc := hv.cell
          have c6 : W.cell? ⟨wr.heap.size, 0, none⟩ = some (.int .i64 (k : Int)) := by simp [World.cell?, hst.1]
          have hle : (Co.tnL T0 (k : Int) pre).length + 1 ≤ 1000000 := by rw [Co.tnL_length]; simp at hlen; omega
          obtain ⟨z, hz⟩ : ∃ z, (Co.tnL T0 (k : Int) pre).length = z := ⟨_, rfl⟩
          rw [hz] at hrow hle
          have HZ := Lib.hid hz
          have HSTW := Lib.hid hst
          clear hz hst
          gi_wp2_with (gi_at_builtin; refine wpListIn_append_own _ rfl _ _ TTs rfl w.heap.size TTu i0 (.agg #[.int .i64 0, .int .i64 0]) 2 16 Tryz.underlying71 hi hz0 hz1 hz2 rfl (by decide) _ _ _ rfl (hrow.alloc _) ⟨W.heap.size, 0, none⟩ 1 1 [.int .i64 x, .int .i64 (k : Int)] rfl rfl (Co.news_two W x (k : Int) _) (by simp [Value.oneCell']) (by unfold maxLen; omega) (by omega) (by have := hB.size; simp; omega) ?_; intro v' w9 hown' hgrow _; obtain ⟨g', cap', rfl⟩ := ownsRow_succ hown'; have hkp := KpS.appended (v' := .slice (some ⟨g', 0, none⟩) (z + 1) cap') (t := TTs) (e := TTu) (by decide) (by decide) (by decide) (by decide) hrow hgrow (hv.appended (by decide) hrow hB.size (Nat.le_succ _) hown' hgrow).1; have hst9 := Lib.hid (show StU w wr.heap.size k af at' ds (w9.setCell ⟨w.heap.size + 1, 0, none⟩ (.slice (some ⟨g', 0, none⟩) (z + 1) cap')) from ⟨kept_app hrow hgrow HSTW.out.1 (fun _ e => by injection e with _ e _; revert e; decide) (fun e => by have h1 := HSTW.out.1; rw [e] at h1; have h2 := hv; unfold Boxed at h2; rw [h2] at h1; injection h1 with h1; injection h1 with _ h1 _; revert h1; decide), kept_app hrow hgrow HSTW.out.2.1 (fun _ e => by injection e with _ e _; revert e; decide) (by omega), fun D hD => ⟨(HSTW.out.2.2 D hD).1, kept_app hrow hgrow (HSTW.out.2.2 D hD).2 (fun _ e => by cases e) (fun e => by have h1 := (HSTW.out.2.2 D hD).2; rw [e] at h1; have h2 := hv; unfold Boxed at h2; rw [h2] at h1; cases h1)⟩⟩); obtain ⟨hv1, hv2, hr2, hk2, hb2⟩ := hv.appended (by decide) hrow hB.size (Nat.le_succ _) hown' hgrow; have hc1 := hv1.cell; have hf1 := hv1.frozen)
          exact ⟨hk2, hkp, ⟨⟨_, hv2, by rw [Co.tnL_snoc, Co.flat_snoc, List.length_append, HZ.out]; exact hr2, trivial⟩, hB.trans hb2⟩, hst9.out⟩
        case stop =>
          rintro D c pre W _ _ h _
          exact h.elim
        case done =>
          rintro D xs W hD rfl ⟨⟨hrow, hB⟩, hst⟩ hK
          rw [hm1, HSTT.out] at hrow
          have HNEW := Lib.hid (show TuI w af at' (trnZ (af, at') (L.take (k + 1))) (D :: ds) W from ⟨hrow, hB, hst.2.1, fun D' hD' => by
            rcases List.mem_cons.1 hD' with rfl | hD'
            · exact ⟨by omega, hK⟩
            · exact hst.2.2 D' hD', List.nodup_cons.2 ⟨fun hm => by have := HDL.out D hm; omega, HI.out.nod⟩⟩)
          clear hrow hB hst hK
          gi_wp2
          exact ⟨⟨_, _, _, _, _, _, _, _, _, _, _, _, _, _, _, _, _, _, _, _, _, _, _, _, _, _, _, _, _, _, _, _, _, k + 1, D :: ds, ⟨by omega, HNEW.out⟩, rfl⟩, by simp [intOf] <;> omega⟩
      · have hgo' : (mb && !gn) = false := by simpa using hgo
        have HNX := Lib.hid (show trnZ (af, at') (L.take (k + 1)) = trnZ (af, at') (L.take k) by
          have h1 := HST.out
          rw [HEN.out, hgo'] at h1
          rw [h1]
          simp [Co.tnL])
        have hcases : gn = true ∨ (gn = false ∧ mb = false) := by cases gn <;> cases mb <;> simp_all
        clear hgo hgo' HRI
        rcases hcases with rfl | ⟨rfl, rfl⟩
        all_goals
          gi_wp2_with (refine ⟨trivial, ?_⟩; gi_at_call 32; refine (callsIn_wide.2 (CM.out _)).mono ?_; rintro e w6 ⟨rfl, hb6⟩; obtain ⟨_, k6⟩ := HB7.out w6 hb6; obtain ⟨_, k7⟩ := HB7.out _ (hb6.alloc hb6.size (ocS mf mt)); rw [HGN.out] at k6 k7; have HB6 := Lib.hid hb6; clear hb6)
          have HNEW := Lib.hid (show TuI w af at' (trnZ (af, at') (L.take (k + 1))) ds (w6.alloc (ocS mf mt)) by
            rw [HNX.out]
            exact HI.out.below (chain HB2.out (chain HB6.out ((bl w6).alloc (Nat.le_refl _) _))))
          exact ⟨⟨_, _, _, _, _, _, _, _, _, _, _, _, _, _, _, _, _, _, _, _, _, _, _, _, _, _, _, _, _, _, _, _, _, k + 1, ds, ⟨by omega, HNEW.out⟩, rfl⟩, by simp [intOf] <;> omega⟩
    · obtain rfl : k = n := by omega
      have hlt' : ¬ (k : Int) < (k : Int) := by omega
      obtain ⟨v, hv, hrow, _⟩ := HI.out.row
      have x0 := hv.cell
      have hT : (trnZ (af, at') (L.take k)) = trnZ (af, at') L := by rw [List.take_of_length_le (by have := HN.out; omega)]
      rw [hT] at hrow
      have hlen : (trnZ (af, at') L).length ≤ 20000 := by have h1 := trnZ_length (af, at') L; have := HN.out; omega
      have hns : some w.heap.size ≠ v.ownBlock := fun e => by
        have h1 := HI.out.sp
        rcases hrow.2 with ⟨rfl, _⟩ | ⟨g, cap, cur, rfl, _, hh, _⟩
        · simp [Value.ownBlock] at e
        · have e : w.heap.size = g := by simpa [Value.ownBlock] using e
          rw [← e, h1] at hh
          injection hh with hh
          injection hh with _ hh _
          revert hh; decide
      have hrow1 := Co.own_raise hrow hns
      have hrow2 := Co.own_raise hrow1 (hv.not_row (by decide) hrow)
      have hsz : w.heap.size + 1 + 1 ≤ wr.heap.size := hv.lt
      have CS := Lib.hid (sort_turnsT wr hrow2 (by omega) hsz)
      have HB := Lib.hid HI.out.bel
      have HV := Lib.hid hv
      have HDF := Lib.hid HI.out.dfs
      have HND := Lib.hid HI.out.nod
      obtain ⟨T0, hT0⟩ : ∃ T0, trnZ (af, at') L = T0 := ⟨_, rfl⟩
      have HT0 := Lib.hid hT0
      rw [hT0] at CS
      clear hv hrow hrow1 hrow2 hT hlen hns hsz hT0 HI
      gi_wp2_with (refine ⟨trivial, ?_⟩; gi_at_call 60; refine (callsIn_wide.2 CS.out).mono ?_; rintro e w4 ⟨rfl, A4, c4, s, hv4, hpm, hs, hsp, hb4, hnc⟩; subst hv4; have hvc4 := (hb4.cell (p := ⟨w.heap.size + 1, 0, none⟩) (Nat.lt_succ_self _)).trans HV.out.cell)
      refine leaves_all (fun W => Spans W A4 s ∧ Go.RowKit.Below w.heap.size w W) w.heap.size ?_ ?_ ds w4 HND.out (fun D hD => ⟨(HDF.out D hD).1, hnc _ _ (HDF.out D hD).2 rfl⟩) ⟨hsp, HB.out.trans (hb4.mono (by omega))⟩
      · rintro W D hDb ⟨h1, h2⟩ hD
        exact ⟨h1.putObj hD rfl _, h2.trans (belowK_b (w := w) (Nat.le_refl _) W D _ _ hDb hD rfl rfl)⟩
      · rintro W ⟨h1, h2⟩
        rw [← HT0.out] at hpm
        obtain ⟨T, hT1, hT2⟩ := turn_back hpm hs
        refine ⟨_, results_tmp rfl _ _ _, A4, c4, T, ?_, by rw [← hT1]; exact h1, hT2, h2⟩
        have e1 : T.length = T0.length := by
          have h3 := congrArg List.length hT1
          rw [List.length_map] at h3
          rw [← h3, hpm.length_eq, HT0.out]
        rw [e1]
        rfl

end Go.Proofs.YtaoobliajgcdmaaGreat

/-
  The document's put: a piece behind a timeline of the call's own.
-/
namespace Go.Proofs.YtaoobliajgcdmaaGreat
open Go.RowKit

theorem own_at {w : World} {base : Nat} {v : Value} {L : List Pc} (h : ownE EP w base v L) (hL : L ≠ []) : ∃ g c, v = .slice (some ⟨g, 0, none⟩) L.length c := by
  rcases h.2 with ⟨_, h0⟩ | ⟨g, cap, cur, hv, _⟩
  · exact absurd (List.eq_nil_of_length_eq_zero h0) hL
  · exact ⟨g, cap, hv⟩
theorem putP_none (p : Pc) : putP [] p = [] ++ [p] := rfl
theorem putP_app {m : List Pc} {q p : Pc} (h : ¬ (q.t = p.f ∧ sameF q.fs p.fs = true)) : putP (m ++ [q]) p = (m ++ [q]) ++ [p] := by
  unfold putP
  rw [show (m ++ [q]).getLast? = some q by simp]
  simp only
  rw [if_neg h]
theorem putP_join {m : List Pc} {q p : Pc} (h : q.t = p.f ∧ sameF q.fs p.fs = true) : putP (m ++ [q]) p = m ++ [{ q with t := p.t }] := by
  unfold putP
  rw [show (m ++ [q]).getLast? = some q by simp, List.dropLast_concat]
  simp only
  rw [if_pos h]

set_option maxHeartbeats 4000000 in
set_option maxRecDepth 100000 in
theorem dput_nil {W w : World} {v : Value} {p : Pc} (h : OutP W [] v w) (hp : KP w v.ownBlock p) : Calls Tryz.prog 42 #[v, pv p] w fun e w' => ∃ v', e = .returned v' ∧ OutP W [p] v' w' := by
  obtain ⟨A, c, hv, _⟩ := h.pcs.1
  have hb1 : Below w.heap.size w (w.alloc (ocP p)) := (bl w).alloc (Nat.le_refl _) _
  have hm1 : IntKind.i64.wrap ((0 : Int) - 1) = -1 := by decide
  have HP := Lib.hid hp
  have HH := Lib.hid h
  have HB1 := Lib.hid hb1
  simp only [List.length_nil] at hv
  subst hv
  clear h hp hb1
  go_enter Tryz.func42, Tryz.ntmps42
  go_wp2_with fail
  go_quiet (fail)
  refine abstract_then (fun w' => Below w.heap.size w w' ∧ BoxP w' w.heap.size p) ⟨belowN HB1.out _, ((boxP_new w p).below (belowN (bl _) _))⟩ ?_
  rintro w1 ⟨hb1, ⟨b0, b1, b2⟩⟩
  have HB1 := Lib.hid hb1
  clear hb1
  go_wp2_with (first
    | (at_builtin; refine wpList_appP rfl (.tmp 42) (.tmp 44) rfl rfl (World.ownsRow.alloc (HH.out.below HB1.out).own _) (xs := [p]) rfl rfl (by have hrow := rowE_one (E := EP) w1 p #[.int .i64 p.f, .int .i64 p.t, .slice p.fa p.fs.length p.fc] rfl 62; first | exact hrow | (simp at hrow ⊢; exact hrow)) (fun h => by cases h) (by simp) (by have := (HH.out.below HB1.out).bel.size; simp; omega) ?_; intro v' w3 hown3 hg3 ho3; have HN3 := Lib.hid (((HH.out.below HB1.out).below ((bl w1).alloc (Nat.le_refl _) _)).app ((HP.out.below HB1.out).below ((bl w1).alloc (Nat.le_refl _) _)) hg3 hown3 ho3); clear hown3 hg3 ho3)
    | go_in)
  go_ret
  exact ⟨_, rfl, HN3.out⟩

set_option maxHeartbeats 4000000 in
set_option maxRecDepth 100000 in
theorem dput_more {W w : World} {g c : Nat} {m : List Pc} {q p : Pc} (h : OutP W (m ++ [q]) (.slice (some ⟨g, 0, none⟩) (m.length + 1) c) w) (hp : KP w (some g) p) (hn : m.length ≤ 100000) (hqs : q.fs.length ≤ 9223372036854775807) (hps : p.fs.length ≤ 9223372036854775807) : Calls Tryz.prog 42 #[.slice (some ⟨g, 0, none⟩) (m.length + 1) c, pv p] w fun e w' => ∃ v', e = .returned v' ∧ OutP W (putP (m ++ [q]) p) v' w' := by
  have HH := Lib.hid h
  have HP := Lib.hid hp
  have HX := Lib.hid (show Cells3 w g (m.length * 3) q by
    obtain ⟨A2, c2, e2, hr, _⟩ := h.pcs.1
    injection e2 with e2 _ _
    rw [← e2] at hr
    have hx : (m ++ [q])[m.length]? = some q := by simp
    have k0 := hr.at hx (j := 0) rfl
    have k1 := hr.at hx (j := 1) rfl
    have k2 := hr.at hx (j := 2) rfl
    rw [Nat.zero_add] at k0 k1 k2
    exact ⟨k0, k1, k2⟩)
  have HFZ := Lib.hid (show ∀ w', Below w.heap.size w w' → w'.frozen? ⟨g, m.length * 3 + 1, none⟩ = false from fun w' hb => by
    have e := ownE_below h.own hb
    unfold ownE at e
    rw [show (m ++ [q]).length = m.length + 1 by simp] at e
    exact World.ownsRow.frozenAt e _)
  have HSET := Lib.hid (fun w' (hb : Below w.heap.size w w') (n : Nat) (hn : n = m.length + 1) (x : Int) => (show OutP W (m ++ [{ q with t := x }]) (.slice (some ⟨g, 0, none⟩) n c) (w'.setCell ⟨g, m.length * 3 + 1, none⟩ (.int .i64 x)) by
    subst hn
    exact (h.below hb).setLast rfl x))
  have CO := Lib.hid (fun w' (hb : Below w.heap.size w w') => dsamel_any w' (.slice q.fa q.fs.length q.fc) (.slice p.fa p.fs.length p.fc) q.fs p.fs ((h.kp q (by simp)).1.below hb).list ((hp.1.below hb).list) hqs hps)
  have HB1 := Lib.hid (show Below w.heap.size w (w.alloc (ocP p)) from (bl w).alloc (Nat.le_refl _) _)
  have MK := Lib.hid (show ∀ w', Below (w.alloc (ocP p)).heap.size (w.alloc (ocP p)) w' → (Below (w.alloc (ocP p)).heap.size (w.alloc (ocP p)) w' ∧ Cells3 w' g (m.length * 3) q ∧ BoxP w' w.heap.size p) from fun w' hb => ⟨hb, (HX.out.below HB1.out).below hb, (boxP_new w p).below hb⟩)
  have HN := Lib.hid hn
  have NA := Lib.hid (putP_app (m := m) (q := q) (p := p))
  have NJ := Lib.hid (putP_join (m := m) (q := q) (p := p))
  obtain ⟨n, hn1⟩ : ∃ n, m.length + 1 = n := ⟨_, rfl⟩
  obtain ⟨j, hj⟩ : ∃ j, m.length = j := ⟨_, rfl⟩
  have hsub : IntKind.i64.wrap ((n : Int) - 1) = (j : Int) := by rw [IntWalk.i64_in _ (by omega)]; omega
  have hjn : (j : Int) < (n : Int) := by omega
  have hjn2 : j < n := by omega
  have hj0 : (0 : Int) ≤ (j : Int) := by omega
  have HNJ := Lib.hid (show n = j + 1 by omega)
  rw [hn1] at HH ⊢
  rw [hj] at HX HFZ HSET MK
  clear h hp hn hqs hps hn1 hj
  by_cases h1 : q.t = p.f
  · have h1' : (q.t == p.f) = true := by simpa using h1
    have H1 := Lib.hid h1
    clear h1
    generalize hs : sameF q.fs p.fs = s at *
    have HS := Lib.hid hs
    clear hs
    cases s with
    | true =>
      have NX := Lib.hid (NJ.out ⟨H1.out, rfl⟩)
      clear NA NJ
      go_enter Tryz.func42, Tryz.ntmps42
      go_wp2_with fail
      first
        | (go_region_held3 (fun w' => Below (w.alloc (ocP p)).heap.size (w.alloc (ocP p)) w' ∧ Cells3 w' g (j * 3) q ∧ BoxP w' w.heap.size p)
            (first | exact MK.out _ ((bl (w.alloc (ocP p))).drew) | exact MK.out _ hb1 | fail)
            (first | (go_at_call 19; (refine (CO.out _ (chain HB1.out (by go_split_ands; assumption))).mono ?_); (rintro e w1 ⟨rfl, hb0⟩); (have hb1 := chain (by go_split_ands; assumption) hb0); clear hb0) | fail))
        | fail
      have HB2 := Lib.hid (chain HB1.out hb1)
      obtain ⟨_, ⟨z0, z1, z2⟩, ⟨b0, b1, b2⟩⟩ := MK.out _ hb1
      have f1 := HFZ.out _ HB2.out
      go_wp2_with fail
      go_ret
      exact ⟨_, rfl, by rw [NX.out]; exact HSET.out _ HB2.out n HNJ.out p.t⟩
    | false =>
      have NX := Lib.hid (NA.out (fun hh => by cases hh.2))
      clear NA NJ
      go_enter Tryz.func42, Tryz.ntmps42
      go_wp2_with fail
      first
        | (go_region_held3 (fun w' => Below (w.alloc (ocP p)).heap.size (w.alloc (ocP p)) w' ∧ Cells3 w' g (j * 3) q ∧ BoxP w' w.heap.size p)
            (first | exact MK.out _ ((bl (w.alloc (ocP p))).drew) | exact MK.out _ hb1 | fail)
            (first | (go_at_call 19; (refine (CO.out _ (chain HB1.out (by go_split_ands; assumption))).mono ?_); (rintro e w1 ⟨rfl, hb0⟩); (have hb1 := chain (by go_split_ands; assumption) hb0); clear hb0) | fail))
        | fail
      have HB2 := Lib.hid (chain HB1.out hb1)
      obtain ⟨_, ⟨z0, z1, z2⟩, ⟨b0, b1, b2⟩⟩ := MK.out _ hb1
      obtain ⟨W1, hW1⟩ : ∃ W1, w1 = W1 := ⟨_, rfl⟩
      subst hW1
      go_wp2_with (first
        | (at_builtin; refine wpList_appP rfl (.tmp 42) (.tmp 44) rfl rfl (World.ownsRow.alloc (HH.out.below HB2.out).own _) (xs := [p]) rfl rfl (by have hrow := rowE_one (E := EP) w1 p #[.int .i64 p.f, .int .i64 p.t, .slice p.fa p.fs.length p.fc] rfl 62; first | exact hrow | (simp at hrow ⊢; exact hrow)) (fun h => by cases h) (by simp; have := HN.out; omega) (by have := (HH.out.below HB2.out).bel.size; simp; omega) ?_; intro v' w3 hown3 hg3 ho3; have HN3 := Lib.hid (((HH.out.below HB2.out).below ((bl w1).alloc (Nat.le_refl _) _)).app ((HP.out.below HB2.out).below ((bl w1).alloc (Nat.le_refl _) _)) hg3 hown3 ho3); clear hown3 hg3 ho3)
        | go_in)
      go_ret
      exact ⟨_, rfl, by rw [NX.out]; exact HN3.out⟩
  · have h1' : (q.t == p.f) = false := by simpa using h1
    have NX := Lib.hid (NA.out (fun hh => h1 hh.1))
    clear NA NJ
    obtain ⟨z0, z1, z2⟩ := HX.out.below HB1.out
    go_enter Tryz.func42, Tryz.ntmps42
    go_wp2_with fail
    go_quiet (fail)
    refine abstract_then (fun w' => Below w.heap.size w w' ∧ BoxP w' w.heap.size p) ⟨belowN HB1.out _, ((boxP_new w p).below (belowN (bl _) _))⟩ ?_
    rintro w1 ⟨hb2, ⟨b0, b1, b2⟩⟩
    have HB2 := Lib.hid hb2
    clear hb2 z0 z1 z2
    go_wp2_with (first
      | (at_builtin; refine wpList_appP rfl (.tmp 42) (.tmp 44) rfl rfl (World.ownsRow.alloc (HH.out.below HB2.out).own _) (xs := [p]) rfl rfl (by have hrow := rowE_one (E := EP) w1 p #[.int .i64 p.f, .int .i64 p.t, .slice p.fa p.fs.length p.fc] rfl 62; first | exact hrow | (simp at hrow ⊢; exact hrow)) (fun h => by cases h) (by simp; have := HN.out; omega) (by have := (HH.out.below HB2.out).bel.size; simp; omega) ?_; intro v' w3 hown3 hg3 ho3; have HN3 := Lib.hid (((HH.out.below HB2.out).below ((bl w1).alloc (Nat.le_refl _) _)).app ((HP.out.below HB2.out).below ((bl w1).alloc (Nat.le_refl _) _)) hg3 hown3 ho3); clear hown3 hg3 ho3)
      | go_in)
    go_ret
    exact ⟨_, rfl, by rw [NX.out]; exact HN3.out⟩

theorem dtput_any {W w : World} {v : Value} {L : List Pc} {p : Pc} (h : OutP W L v w) (hp : KP w v.ownBlock p) (hn : L.length ≤ 100000) (hL : ∀ q ∈ L, q.fs.length ≤ 9223372036854775807) (hps : p.fs.length ≤ 9223372036854775807) : Calls Tryz.prog 42 #[v, pv p] w fun e w' => ∃ v', e = .returned v' ∧ OutP W (putP L p) v' w' := by
  rcases List.eq_nil_or_concat L with rfl | ⟨m, q, rfl⟩
  · exact dput_nil h hp
  · rw [List.concat_eq_append] at *
    obtain ⟨g, c, rfl⟩ := own_at h.own (by simp)
    rw [show (m ++ [q]).length = m.length + 1 by simp] at *
    exact dput_more h hp (by omega) (hL q (by simp)) hps

end Go.Proofs.YtaoobliajgcdmaaGreat

/-
  The program's Get and Same.
-/
namespace Go.Proofs.YtaoobliajgcdmaaGreat
open Go.RowKit

set_option linter.unusedVariables false in
set_option maxHeartbeats 2000000 in
theorem equal_any (w : World) (A B : Option Addr) (c d : Nat) (a b : List Fd) (ha : Fields w A a) (hb : Fields w B b) (hn : a.length ≤ 9223372036854775807) (hm : b.length ≤ 9223372036854775807) :
    Ret 71 #[.slice A a.length c, .slice B b.length d] w (.bool (sameF a b)) := by
  by_cases hnm : a.length ≠ b.length
  · have HS := Lib.hid (sameF_len a b hnm)
    have hne : ((a.length : Int) != (b.length : Int)) = true := by rw [bne_iff_ne]; omega
    clear ha hb
    generalize a.length = n at *
    generalize b.length = m at *
    go_enter Tryz.func71, Tryz.ntmps71
    go_wp2_with fail
    go_ret
    exact ⟨ret_bool HS.out.symm, bl w⟩
  · obtain ⟨n, hn1⟩ : ∃ n, a.length = n := ⟨_, rfl⟩
    have hn2 : b.length = n := by omega
    obtain ⟨t, ht⟩ : ∃ t, sameF a b = t := ⟨_, rfl⟩
    have HT := Lib.hid ht
    rw [hn1] at hn ⊢
    rw [hn2, ht]
    have HA := Lib.hid ha
    have HB := Lib.hid hb
    have HN1 := Lib.hid hn1
    have HN2 := Lib.hid hn2
    clear ha hb hn1 hn2 hnm hm ht
    have hng := Tryz.noGuardField
    go_enter Tryz.func71, Tryz.ntmps71
    go_wp2_with fail
    go_loopw [13] (fun i wr => ∃ k : Nat, k ≤ n ∧ i = .int .i64 k ∧ t = sameF (a.drop k) (b.drop k) ∧ Below w.heap.size w wr) (fun i _ => n - (intOf i).toNat)
    case atStart => exact ⟨0, Nat.zero_le _, rfl, HT.out.symm, bl w⟩
    case round =>
      obtain ⟨k, hk, rfl, hg, hW⟩ := hrel
      have HW := Lib.hid hW
      clear hW
      by_cases hlt : k < n
      · have hlt' : (k : Int) < (n : Int) := by omega
        obtain ⟨f, hf⟩ : ∃ f, a[k]? = some f := ⟨_, List.getElem?_eq_getElem (by have := HN1.out; omega)⟩
        obtain ⟨g, hgg⟩ : ∃ g, b[k]? = some g := ⟨_, List.getElem?_eq_getElem (by have := HN2.out; omega)⟩
        obtain ⟨g1, off, rfl, c0, c1⟩ := (HA.out.below HW.out) k f hf
        obtain ⟨g2, off', rfl, d0, d1⟩ := (HB.out.below HW.out) k g hgg
        rw [drop_consF hf, drop_consF hgg, sameF] at hg
        have hq := run_neq_field f g
        by_cases h : f.n.toList = g.n.toList ∧ f.v = g.v
        · rw [decide_eq_true h] at hq hg
          have HG := Lib.hid (show t = sameF (a.drop (k + 1)) (b.drop (k + 1)) by rw [hg, Bool.true_and])
          have hq : ∀ w, (binOp .neq 60 (fv f) (fv g)).run Tryz.prog w = .ok (.bool false) w := hq
          clear hg hf hgg h
          go_wp2_with fail
          go_quiet (fail)
          go_wp2_with fail
          exact ⟨⟨k + 1, by omega, by go_num, HG.out, belowN HW.out _⟩, by simp [intOf] <;> omega⟩
        · rw [decide_eq_false h] at hq hg
          have HG := Lib.hid (show t = false by rw [hg, Bool.false_and])
          have hq : ∀ w, (binOp .neq 60 (fv f) (fv g)).run Tryz.prog w = .ok (.bool true) w := hq
          clear hg hf hgg h
          go_wp2_with fail
          go_quiet (fail)
          go_wp2_with fail
          go_ret
          exact ⟨ret_bool HG.out.symm, belowN HW.out _⟩
      · obtain rfl : k = n := by omega
        have hlt' : ¬ (k : Int) < (k : Int) := by omega
        rw [List.drop_of_length_le (by have := HN1.out; omega), List.drop_of_length_le (by have := HN2.out; omega)] at hg
        have HG := Lib.hid (show t = true from hg)
        clear hg
        go_wp2_with fail
        go_ret
        exact ⟨ret_bool HG.out.symm, HW.out⟩
set_option maxHeartbeats 1000000 in
theorem psame_any (w : World) (v u : Value) (a b : List Fd) (ha : ListF w v a) (hb : ListF w u b) (hn : a.length ≤ 9223372036854775807) (hm : b.length ≤ 9223372036854775807) : Ret 52 #[v, u] w (.bool (sameF a b)) := by
  obtain ⟨A, c, rfl, hA, _, _⟩ := ha
  obtain ⟨B, d, rfl, hB, _, _⟩ := hb
  have CE := Lib.hid (equal_any w A B c d a b hA hB hn hm)
  generalize sameF a b = t at *
  generalize a.length = n at *
  generalize b.length = m at *
  clear hA hB
  go_enter Tryz.func52, Tryz.ntmps52
  go_wp2_with (go_at_call 71; with_reducible refine CE.out.mono ?_; rintro e w1 ⟨rfl, hb1⟩)
  go_ret
  exact ⟨rfl, hb1⟩

end Go.Proofs.YtaoobliajgcdmaaGreat

/-
  Is a span right, by the program?
-/
namespace Go.Proofs.YtaoobliajgcdmaaGreat
open Go.RowKit

set_option maxHeartbeats 1000000 in
theorem pspan_right (f t : Int) (w : World) : Ret 43 #[.agg #[.int .i64 f, .int .i64 t]] w (.bool (rightS f t)) := by
  by_cases h1 : -1099511627776 ≤ f
  · by_cases h3 : f < t
    · by_cases h2 : t ≤ 1099511627776
      · have HE := Lib.hid (show rightS f t = true by simp [rightS, h1, h2, h3])
        go_enter Tryz.func43, Tryz.ntmps43
        go_wp2_with fail
        go_ret
        exact ⟨ret_bool HE.out.symm, by (repeat (first | exact (bl w) | refine belowN ?_ _ | refine Below.alloc ?_ (by have hsz := Below.size (bl w); first | omega | (simp; done) | (simp; omega) | (simp at hsz ⊢; omega)) _))⟩
      · have HE := Lib.hid (show rightS f t = false by simp [rightS, h2])
        go_enter Tryz.func43, Tryz.ntmps43
        go_wp2_with fail
        go_ret
        exact ⟨ret_bool HE.out.symm, by (repeat (first | exact (bl w) | refine belowN ?_ _ | refine Below.alloc ?_ (by have hsz := Below.size (bl w); first | omega | (simp; done) | (simp; omega) | (simp at hsz ⊢; omega)) _))⟩
    · have HE := Lib.hid (show rightS f t = false by simp [rightS, h3])
      go_enter Tryz.func43, Tryz.ntmps43
      go_wp2_with fail
      go_ret
      exact ⟨ret_bool HE.out.symm, by (repeat (first | exact (bl w) | refine belowN ?_ _ | refine Below.alloc ?_ (by have hsz := Below.size (bl w); first | omega | (simp; done) | (simp; omega) | (simp at hsz ⊢; omega)) _))⟩
  · have HE := Lib.hid (show rightS f t = false by simp [rightS, h1])
    go_enter Tryz.func43, Tryz.ntmps43
    go_wp2_with fail
    go_ret
    exact ⟨ret_bool HE.out.symm, by (repeat (first | exact (bl w) | refine belowN ?_ _ | refine Below.alloc ?_ (by have hsz := Below.size (bl w); first | omega | (simp; done) | (simp; omega) | (simp at hsz ⊢; omega)) _))⟩
set_option maxHeartbeats 1000000 in
theorem phas_any (f t x : Int) (w : World) : Ret 45 #[.agg #[.int .i64 f, .int .i64 t], .int .i64 x] w (.bool (hasS f t x)) := by
  by_cases h1 : f ≤ x
  · by_cases h2 : x < t
    · have HE := Lib.hid (show hasS f t x = true by simp [hasS, h1, h2])
      go_enter Tryz.func45, Tryz.ntmps45
      go_wp2_with fail
      go_ret
      exact ⟨ret_bool HE.out.symm, by (repeat (first | exact (bl w) | refine belowN ?_ _ | refine Below.alloc ?_ (by have hsz := Below.size (bl w); first | omega | (simp; done) | (simp; omega) | (simp at hsz ⊢; omega)) _))⟩
    · have HE := Lib.hid (show hasS f t x = false by simp [hasS, h2])
      go_enter Tryz.func45, Tryz.ntmps45
      go_wp2_with fail
      go_ret
      exact ⟨ret_bool HE.out.symm, by (repeat (first | exact (bl w) | refine belowN ?_ _ | refine Below.alloc ?_ (by have hsz := Below.size (bl w); first | omega | (simp; done) | (simp; omega) | (simp at hsz ⊢; omega)) _))⟩
  · have HE := Lib.hid (show hasS f t x = false by simp [hasS, h1])
    go_enter Tryz.func45, Tryz.ntmps45
    go_wp2_with fail
    go_ret
    exact ⟨ret_bool HE.out.symm, by (repeat (first | exact (bl w) | refine belowN ?_ _ | refine Below.alloc ?_ (by have hsz := Below.size (bl w); first | omega | (simp; done) | (simp; omega) | (simp at hsz ⊢; omega)) _))⟩

end Go.Proofs.YtaoobliajgcdmaaGreat

/-
  The program's goesOn, Right, At of pieces.
-/
namespace Go.Proofs.YtaoobliajgcdmaaGreat
open Go.RowKit

/-- Does a piece go on with another one's fields, where that ends? -/
def goesB (p q : Pc) : Bool := decide (p.t = q.f) && sameF p.fs q.fs
theorem goesB_link {p q : Pc} (h : p.t ≤ q.f) : linkB p q = !goesB p q := by
  unfold linkB goesB
  rw [decide_eq_true h, Bool.true_and]
  by_cases e : p.t = q.f
  · rw [decide_eq_true e, decide_eq_false (fun k => k e)]; simp
  · rw [decide_eq_false e, decide_eq_true e]; simp

set_option maxHeartbeats 4000000 in
set_option maxRecDepth 10000 in
theorem goeson_any (w : World) (p q : Pc) (hp : PF w p) (hq : PF w q) (hpl : p.fs.length ≤ 1000000) (hql : q.fs.length ≤ 1000000) : Ret 44 #[pv p, pv q] w (.bool (goesB p q)) := by
  have hb1 : Below w.heap.size w (w.alloc (ocP p)) := (bl w).alloc (Nat.le_refl _) _
  have hb2 : Below w.heap.size w ((w.alloc (ocP p)).alloc (ocP q)) := hb1.alloc hb1.size _
  have CO := Lib.hid (fun w' (h : Below w.heap.size w w') => psame_any w' (.slice p.fa p.fs.length p.fc) (.slice q.fa q.fs.length q.fc) p.fs q.fs (hp.below h).list (hq.below h).list (by omega) (by omega))
  have HB2 := Lib.hid hb2
  clear hb1 hb2 hp hq hpl hql
  by_cases h : p.t = q.f
  · have h' : (p.t == q.f) = true := by simpa using h
    have HE := Lib.hid (show goesB p q = sameF p.fs q.fs by unfold goesB; rw [decide_eq_true h, Bool.true_and])
    rw [HE.out]
    clear h
    generalize sameF p.fs q.fs = s at *
    go_enter Tryz.func44, Tryz.ntmps44
    go_wp2_with (go_at_call 52; (with_reducible refine (CO.out _ HB2.out).mono ?_); rintro e w2 ⟨rfl, hb2⟩)
    go_ret
    exact ⟨rfl, chain HB2.out hb2⟩
  · have h' : (p.t == q.f) = false := by simpa using h
    have HE := Lib.hid (show goesB p q = false by unfold goesB; rw [decide_eq_false h, Bool.false_and])
    rw [HE.out]
    clear h
    go_enter Tryz.func44, Tryz.ntmps44
    go_wp2_with fail
    go_ret
    exact ⟨rfl, HB2.out⟩

set_option maxHeartbeats 4000000 in
set_option maxRecDepth 10000 in
theorem ptright_any (w : World) (u : Value) (l : List Pc) (hl : PcsL w u l) (hn : l.length ≤ 1000) (hfs : ∀ p ∈ l, p.fs.length ≤ 1000000) : Ret 14 #[u] w (.bool (rightT l)) := by
  obtain ⟨⟨A, c, rfl, hA, hc, hnc⟩, hPF⟩ := hl
  have HA := Lib.hid hA
  have HPF := Lib.hid hPF
  have HFS := Lib.hid hfs
  have HEND := Lib.hid (goT_end l)
  obtain ⟨n, hnm⟩ : ∃ n, l.length = n := ⟨_, rfl⟩
  obtain ⟨R, hR⟩ : ∃ R, rightT l = R := ⟨_, rfl⟩
  rw [hnm] at hn hc HEND ⊢
  rw [hR]
  have HN := Lib.hid hnm
  have HR := Lib.hid (show R = goT l 0 from hR.symm)
  clear hA hc hnc hPF hnm hR hfs
  go_enter Tryz.func14, Tryz.ntmps14
  go_wp2_with fail
  go_loopw [7] (fun i wr => ∃ k : Nat, k ≤ n ∧ i = .int .i64 k ∧ R = goT l k ∧ Below w.heap.size w wr) (fun i _ => n - (intOf i).toNat)
  case atStart => exact ⟨0, Nat.zero_le _, rfl, HR.out, bl w⟩
  case round =>
    obtain ⟨k, hk, rfl, hg, hW⟩ := hrel
    have HGK := Lib.hid hg
    have HW := Lib.hid hW
    clear hW hg
    by_cases hlt : k < n
    · have hlt' : (k : Int) < (n : Int) := by omega
      obtain ⟨q, hx⟩ : ∃ q, l[k]? = some q := ⟨_, List.getElem?_eq_getElem (by have := HN.out; omega)⟩
      obtain ⟨g, off, rfl, hX⟩ := (HA.out.below HW.out).cells3 hx
      have HV := Lib.hid hx
      have HX := Lib.hid hX
      have CR := Lib.hid (fun w => pspan_right q.f q.t w)
      have HBX := Lib.hid (show ∀ w', Below (wr.alloc (ocP q)).heap.size (wr.alloc (ocP q)) w' → BoxP w' wr.heap.size q from fun w' h => (boxP_new wr q).below h)
      have HB1 := Lib.hid (show Below wr.heap.size wr (wr.alloc (ocP q)) from (bl wr).alloc (Nat.le_refl _) _)
      obtain ⟨z0, z1, z2⟩ := hX
      clear hx
      rw [rightS_P] at CR
      cases hr : rightP q.f q.t with
      | false =>
        rw [hr] at CR
        have NX := Lib.hid (show R = false by
          rw [HGK.out]
          rcases Nat.eq_zero_or_pos k with rfl | hk0
          · rw [goT_zero HV.out, hr]; rfl
          · obtain ⟨j, rfl⟩ : ∃ j, k = j + 1 := ⟨k - 1, by omega⟩
            obtain ⟨p, hp⟩ : ∃ p, l[j]? = some p := ⟨_, List.getElem?_eq_getElem (by have := HN.out; omega)⟩
            rw [goT_succ hp HV.out, hr]; rfl)
        clear hr
        go_wp2_with (go_at_call 43; (with_reducible refine (CR.out _).mono ?_); rintro e w2 ⟨rfl, hb2⟩)
        go_ret
        exact ⟨ret_bool NX.out.symm, chain (chain HW.out HB1.out) hb2⟩
      | true =>
        rw [hr] at CR
        have HRT := Lib.hid hr
        clear hr
        rcases Nat.eq_zero_or_pos k with hk0 | hk0
        · subst hk0
          have hX0 := HX.out
          rw [Nat.zero_mul, Nat.add_zero] at hX0
          clear z0 z1 z2
          have HX0 := Lib.hid hX0
          obtain ⟨z0, z1, z2⟩ := hX0
          have NX := Lib.hid (show R = goT l 1 by rw [HGK.out, goT_zero HV.out, HRT.out]; rfl)
          go_wp2_with (go_at_call 43; (with_reducible refine (CR.out _).mono ?_); rintro e w2 ⟨rfl, hb2⟩)
          go_quiet (fail)
          go_wp2_with fail
          exact ⟨⟨1, by omega, by go_num, NX.out, belowN (chain (chain HW.out HB1.out) hb2) _⟩, by simp [intOf] <;> omega⟩
        · obtain ⟨j, hkj⟩ : ∃ j, k = j + 1 := ⟨k - 1, by omega⟩
          obtain ⟨p, hp⟩ : ∃ p, l[j]? = some p := ⟨_, List.getElem?_eq_getElem (by have := HN.out; omega)⟩
          obtain ⟨g', off', he, hP⟩ := (HA.out.below HW.out).cells3 hp
          injection he with he
          injection he with e1 e2 _
          subst e1 e2
          have HP := Lib.hid hp
          have HPP := Lib.hid hP
          have HG1 := Lib.hid (show R = (linkB p q && goT l (k + 1)) by
            have hV := HV.out
            rw [HGK.out, hkj]
            rw [hkj] at hV
            rw [goT_succ hp hV, HRT.out, Bool.true_and])
          have hkz : (0 : Int) < (k : Int) := by omega
          have hkz2 : 0 < k := hk0
          have hsub : IntKind.i64.wrap ((k : Int) - 1) = (j : Int) := by rw [IntWalk.i64_in _ (by omega)]; omega
          have hjn : (j : Int) < (n : Int) := by omega
          have hjn2 : j < n := by omega
          clear hp hP hkj
          by_cases h1 : q.f < p.t
          · have h1' : decide (q.f < p.t) = true := decide_eq_true h1
            have NX := Lib.hid (show R = false by
              have : linkB p q = false := by unfold linkB; rw [decide_eq_false (by omega), Bool.false_and]
              rw [HG1.out, this, Bool.false_and])
            go_wp2_with (go_at_call 43; (with_reducible refine (CR.out _).mono ?_); rintro e w2 ⟨rfl, hb2⟩; obtain ⟨x0, x1, x2⟩ := HBX.out _ hb2; obtain ⟨y0, y1, y2⟩ := (HPP.out.below HB1.out).below hb2)
            go_quiet (fail)
            go_wp2_with fail
            go_ret
            exact ⟨ret_bool NX.out.symm, belowN (chain (chain HW.out HB1.out) hb2) _⟩
          · have h1' : decide (q.f < p.t) = false := decide_eq_false h1
            have hsp : p.fs.length ≤ 1000000 := HFS.out p (List.mem_of_getElem? HP.out)
            have hsq : q.fs.length ≤ 1000000 := HFS.out q (List.mem_of_getElem? HV.out)
            have CO := Lib.hid (fun w' (h : Below wr.heap.size wr w') => goeson_any w' p q ((HPF.out p (List.mem_of_getElem? HP.out)).below (chain HW.out h)) ((HPF.out q (List.mem_of_getElem? HV.out)).below (chain HW.out h)) hsp hsq)
            have HL := Lib.hid (goesB_link (p := p) (q := q) (by omega))
            clear hsp hsq
            generalize goesB p q = s at *
            cases s with
            | true =>
              have NX := Lib.hid (show R = false by rw [HG1.out, HL.out]; rfl)
              go_wp2_with (go_at_call 43; (with_reducible refine (CR.out _).mono ?_); rintro e w2 ⟨rfl, hb2⟩; have HB2 := Lib.hid hb2; have MK := Lib.hid (show ∀ w', Below w2.heap.size w2 w' → (Below w2.heap.size w2 w' ∧ BoxP w' wr.heap.size q ∧ Cells3 w' g (off + j * 3) p) from fun w' h => ⟨h, HBX.out _ (chain hb2 h), (HPP.out.below HB1.out).below (chain hb2 h)⟩); clear hb2)
              first
                | (go_region_held3 (fun w' => Below w2.heap.size w2 w' ∧ BoxP w' wr.heap.size q ∧ Cells3 w' g (off + j * 3) p)
                    (first | exact MK.out _ ((bl w2).drew) | exact MK.out _ hb1 | fail)
                    (first | (go_at_call 44; (refine (CO.out _ (chain (chain HB1.out HB2.out) (by go_split_ands; assumption))).mono ?_); (rintro e w1 ⟨rfl, hb0⟩); (have hb1 := chain (by go_split_ands; assumption) hb0); clear hb0) | fail))
                | fail
              go_wp2_with fail
              go_ret
              exact ⟨ret_bool NX.out.symm, chain (chain (chain HW.out HB1.out) HB2.out) hb1⟩
            | false =>
              have NX := Lib.hid (show R = goT l (k + 1) by rw [HG1.out, HL.out]; rfl)
              go_wp2_with (go_at_call 43; (with_reducible refine (CR.out _).mono ?_); rintro e w2 ⟨rfl, hb2⟩; have HB2 := Lib.hid hb2; have MK := Lib.hid (show ∀ w', Below w2.heap.size w2 w' → (Below w2.heap.size w2 w' ∧ BoxP w' wr.heap.size q ∧ Cells3 w' g (off + j * 3) p) from fun w' h => ⟨h, HBX.out _ (chain hb2 h), (HPP.out.below HB1.out).below (chain hb2 h)⟩); clear hb2)
              first
                | (go_region_held3 (fun w' => Below w2.heap.size w2 w' ∧ BoxP w' wr.heap.size q ∧ Cells3 w' g (off + j * 3) p)
                    (first | exact MK.out _ ((bl w2).drew) | exact MK.out _ hb1 | fail)
                    (first | (go_at_call 44; (refine (CO.out _ (chain (chain HB1.out HB2.out) (by go_split_ands; assumption))).mono ?_); (rintro e w1 ⟨rfl, hb0⟩); (have hb1 := chain (by go_split_ands; assumption) hb0); clear hb0) | fail))
                | fail
              go_wp2_with fail
              exact ⟨⟨k + 1, by omega, by go_num, NX.out, chain (chain (chain HW.out HB1.out) HB2.out) hb1⟩, by simp [intOf] <;> omega⟩
    · obtain rfl : k = n := by omega
      have hlt' : ¬ (k : Int) < (k : Int) := by omega
      have NX := Lib.hid (show R = true by rw [HGK.out, HEND.out])
      go_wp2_with fail
      go_ret
      exact ⟨ret_bool NX.out.symm, HW.out⟩

set_option maxHeartbeats 4000000 in
set_option maxRecDepth 10000 in
theorem ptat_any (w : World) (u : Value) (l : List Pc) (x : Int) (hl : PcsL w u l) (hn : l.length ≤ 1000) (hfs : ∀ p ∈ l, p.fs.length ≤ 1000000) : Calls Tryz.prog 16 #[u, .int .i64 x] w fun e w' => ∃ y, e = .returned (.tuple #[y, .bool (fsP l x).isSome]) ∧ ListF w' y (firstF l x) ∧ Below w.heap.size w w' := by
  obtain ⟨⟨A, c, rfl, hA, hc, hnc⟩, hPF⟩ := hl
  have HA := Lib.hid hA
  have HPF := Lib.hid hPF
  have HFS := Lib.hid hfs
  obtain ⟨n, hnm⟩ : ∃ n, l.length = n := ⟨_, rfl⟩
  rw [hnm] at hn hc ⊢
  have HN := Lib.hid hnm
  clear hA hc hnc hPF hnm hfs
  go_enter Tryz.func16, Tryz.ntmps16
  go_wp2_with fail
  go_loopw [10] (fun i wr => ∃ k : Nat, k ≤ n ∧ i = .int .i64 k ∧ valP l x = valP (l.drop k) x ∧ Below w.heap.size w wr) (fun i _ => n - (intOf i).toNat)
  case atStart => exact ⟨0, Nat.zero_le _, rfl, rfl, bl w⟩
  case round =>
    obtain ⟨k, hk, rfl, hg, hW⟩ := hrel
    have HG := Lib.hid hg
    have HW := Lib.hid hW
    clear hg hW
    by_cases hlt : k < n
    · have hlt' : (k : Int) < (n : Int) := by omega
      obtain ⟨p, hx⟩ : ∃ p, l[k]? = some p := ⟨_, List.getElem?_eq_getElem (by have := HN.out; omega)⟩
      obtain ⟨g, off, rfl, hX⟩ := (HA.out.below HW.out).cells3 hx
      have HV := Lib.hid hx
      have CR := Lib.hid (fun w => pspan_right p.f p.t w)
      have CH := Lib.hid (fun w => phas_any p.f p.t x w)
      have HBX := Lib.hid (show ∀ w', Below (wr.alloc (ocP p)).heap.size (wr.alloc (ocP p)) w' → BoxP w' wr.heap.size p from fun w' h => (boxP_new wr p).below h)
      have HB1 := Lib.hid (show Below wr.heap.size wr (wr.alloc (ocP p)) from (bl wr).alloc (Nat.le_refl _) _)
      have CC := Lib.hid (fun w' (h : Below wr.heap.size wr w') => cloneF_any w' p.fa p.fc p.fs ((HPF.out p (List.mem_of_getElem? hx)).below (chain HW.out h)).1 (HPF.out p (List.mem_of_getElem? hx)).2.2 (HFS.out p (List.mem_of_getElem? hx)))
      obtain ⟨z0, z1, z2⟩ := hX
      rw [rightS_P] at CR
      rw [hasS_P] at CH
      have HE := Lib.hid (show valP l x = if (rightP p.f p.t && inP p.f p.t x) = true then some p else valP (l.drop (k + 1)) x by rw [HG.out, drop_consL hx, valP]; rfl)
      clear hx
      generalize rightP p.f p.t = br at *
      generalize inP p.f p.t x = bi at *
      cases br with
      | false =>
        have NX := Lib.hid (show valP l x = valP (l.drop (k + 1)) x by rw [HE.out]; rfl)
        go_wp2_with (go_at_call 43; (with_reducible refine (CR.out _).mono ?_); rintro e w2 ⟨rfl, hb2⟩)
        exact ⟨⟨k + 1, by omega, by go_num, NX.out, chain (chain HW.out HB1.out) hb2⟩, by simp [intOf] <;> omega⟩
      | true =>
        cases bi with
        | false =>
          have NX := Lib.hid (show valP l x = valP (l.drop (k + 1)) x by rw [HE.out]; rfl)
          go_wp2_with (first
            | (go_at_call 43; (with_reducible refine (CR.out _).mono ?_); rintro e w2 ⟨rfl, hb2⟩; obtain ⟨x0, x1, x2⟩ := HBX.out _ hb2; have hc2 := chain (chain HW.out HB1.out) hb2)
            | (go_at_call 45; (with_reducible refine (CH.out _).mono ?_); rintro e w3 ⟨rfl, hb3⟩; have hc3 := chain hc2 hb3))
          exact ⟨⟨k + 1, by omega, by go_num, NX.out, hc3⟩, by simp [intOf] <;> omega⟩
        | true =>
          have NX := Lib.hid (show valP l x = some p by rw [HE.out]; rfl)
          go_wp2_with (first
            | (go_at_call 43; (with_reducible refine (CR.out _).mono ?_); rintro e w2 ⟨rfl, hb2⟩; obtain ⟨x0, x1, x2⟩ := HBX.out _ hb2; have HB2 := Lib.hid (chain HB1.out hb2); have HBX2 := Lib.hid hb2; clear hb2)
            | (go_at_call 45; (with_reducible refine (CH.out _).mono ?_); rintro e w3 ⟨rfl, hb3⟩; obtain ⟨y0, y1, y2⟩ := HBX.out _ (chain HBX2.out hb3); have HB3 := Lib.hid (chain HB2.out hb3); clear hb3)
            | (go_at_call 46; (with_reducible refine (CC.out _ HB3.out).mono ?_); rintro e w4 ⟨y, rfl, hO⟩; have HO := Lib.hid hO; clear hO))
          go_ret2
          have e1 : fsP l x = some p.fs := by rw [fsP, NX.out]; rfl
          have e2 : firstF l x = p.fs := by rw [firstF, e1]; rfl
          exact ⟨y, by rw [e1]; rfl, by rw [e2]; exact HO.out.list, chain (chain HW.out HB3.out) HO.out.bel⟩
    · obtain rfl : k = n := by omega
      have hlt' : ¬ (k : Int) < (k : Int) := by omega
      have NV := Lib.hid (show valP l x = none by rw [HG.out, List.drop_of_length_le (by have := HN.out; omega)]; rfl)
      have NX := Lib.hid (show fsP l x = none by rw [fsP, NV.out]; rfl)
      go_wp2_with fail
      go_ret2
      have e2 : firstF l x = [] := by rw [firstF, NX.out]; rfl
      exact ⟨.slice none 0 0, by rw [NX.out]; rfl, by rw [e2]; exact ListF.nil _, HW.out⟩

end Go.Proofs.YtaoobliajgcdmaaGreat

/-
  The program's putter: a closure that puts a piece behind those of a list that it has captured.
-/
namespace Go.Proofs.YtaoobliajgcdmaaGreat
open Go.RowKit

/-- Whatever lay, lies, but for two blocks. -/
structure Kb2 (o1 o2 : Option Nat) (w w' : World) : Prop where
  os : w'.os = w.os
  tape : w'.tape = w.tape
  output : w'.output = w.output
  size : w.heap.size ≤ w'.heap.size
  block : ∀ c, c < w.heap.size → o1 ≠ some c → o2 ≠ some c → w'.heap[c]? = w.heap[c]?
theorem Kb2.of_below {o1 o2 : Option Nat} {w w' : World} (h : Below w.heap.size w w') : Kb2 o1 o2 w w' := ⟨h.os, h.tape, h.output, h.size, fun c hc _ _ => h.block c hc⟩
theorem Kb2.refl (o1 o2 : Option Nat) (w : World) : Kb2 o1 o2 w w := .of_below (bl w)
theorem Kb2.trans {o1 o2 : Option Nat} {a b c : World} (h : Kb2 o1 o2 a b) (k : Kb2 o1 o2 b c) : Kb2 o1 o2 a c := ⟨k.os.trans h.os, k.tape.trans h.tape, k.output.trans h.output, Nat.le_trans h.size k.size, fun i hi n1 n2 => (k.block i (Nat.lt_of_lt_of_le hi h.size) n1 n2).trans (h.block i hi n1 n2)⟩
theorem Kb2.below {o1 o2 : Option Nat} {a b c : World} (h : Kb2 o1 o2 a b) (k : Below b.heap.size b c) : Kb2 o1 o2 a c := h.trans (.of_below k)
theorem Kb2.set1 {o2 : Option Nat} {a w : World} {b i : Nat} (h : Kb2 (some b) o2 a w) (u : Value) : Kb2 (some b) o2 a (w.setCell ⟨b, i, none⟩ u) :=
  h.trans ⟨rfl, rfl, rfl, by simp [World.setCell], fun c _ n1 _ => Below.heap_setCell w ⟨b, i, none⟩ u c (fun e => n1 (by simp at e; rw [e]))⟩
theorem Kb2.set2 {o1 : Option Nat} {a w : World} {b i : Nat} (h : Kb2 o1 (some b) a w) (u : Value) : Kb2 o1 (some b) a (w.setCell ⟨b, i, none⟩ u) :=
  h.trans ⟨rfl, rfl, rfl, by simp [World.setCell], fun c _ _ n2 => Below.heap_setCell w ⟨b, i, none⟩ u c (fun e => n2 (by simp at e; rw [e]))⟩
theorem Kb2.grown {o1 o2 : Option Nat} {a w w' : World} (h : Kb2 o1 o2 a w) (hg : w.grownBy w' o2) : Kb2 o1 o2 a w' := h.trans ⟨hg.os, hg.tape, hg.output, hg.size, fun c hc _ n2 => hg.block c hc (fun e => n2 e.symm)⟩
theorem Kb2.to_below {o1 o2 : Option Nat} {w w' : World} {base : Nat} (h : Kb2 o1 o2 w w') (hb : base ≤ w.heap.size) (h1 : ∀ c, o1 = some c → base ≤ c) (h2 : ∀ c, o2 = some c → base ≤ c) : Below base w w' := ⟨h.os, h.tape, h.output, h.size, fun c hc => h.block c (by omega) (fun e => by have := h1 c e; omega) (fun e => by have := h2 c e; omega)⟩

abbrev TPc : TypeId := 62
abbrev TPs : TypeId := 27
abbrev TPp : TypeId := 65
/-- The fields of a piece lie where it says, in a block of fields. -/
def KF (w : World) (p : Pc) : Prop := PF w p ∧ (p.fs ≠ [] → ∀ a, p.fa = some a → ∃ cur, w.heap[a.block]? = some (.cells cur FT (0, 0)))
/-- Blocks of four types lie as they lay. -/
def KT4 (w w' : World) : Prop := ∀ (c : Nat) (cur : Array Value) (t : TypeId), (t = TPc ∨ t = TPs ∨ t = TPp ∨ t = FT) → w.heap[c]? = some (.cells cur t (0, 0)) → w'.heap[c]? = some (.cells cur t (0, 0))
theorem KT4.of_below {w w' : World} (h : Below w.heap.size w w') : KT4 w w' := fun c _ _ _ hc => (h.block c (Array.getElem?_eq_some_iff.1 hc).1).trans hc
theorem KF.pf_of {w w' : World} {p : Pc} (h : KF w p) (hk : ∀ (c : Nat) (cur : Array Value), w.heap[c]? = some (.cells cur FT (0, 0)) → w'.heap[c]? = some (.cells cur FT (0, 0))) : KF w' p := by
  refine ⟨⟨fun k f hf => ?_, h.1.2⟩, fun hn a ha => ?_⟩
  · obtain ⟨g, off, he, c0, c1⟩ := h.1.1 k f hf
    have hn : p.fs ≠ [] := fun e => by rw [e] at hf; simp at hf
    obtain ⟨cur, hcur⟩ := h.2 hn _ he
    have hcur : w.heap[g]? = some (.cells cur FT (0, 0)) := hcur
    have e : w'.heap[g]? = w.heap[g]? := (hk g cur hcur).trans hcur.symm
    exact ⟨g, off, he, (World.cell?_of_block (a := ⟨g, _, none⟩) e).trans c0, (World.cell?_of_block (a := ⟨g, _, none⟩) e).trans c1⟩
  · obtain ⟨cur, hcur⟩ := h.2 hn a ha
    exact ⟨cur, hk _ _ hcur⟩
theorem KF.kt {w w' : World} {p : Pc} (h : KF w p) (hk : KT4 w w') : KF w' p := h.pf_of fun c cur hc => hk c cur FT (.inr (.inr (.inr rfl))) hc
theorem KF.below {w w' : World} {p : Pc} (h : KF w p) (hb : Below w.heap.size w w') : KF w' p := h.kt (.of_below hb)
theorem KF.new {W w : World} {s : List Fd} {u : Value} (ho : OF W s u w) : ∃ A c, u = .slice A s.length c ∧ ∀ f t, KF w ⟨f, t, A, c, s⟩ := by
  obtain ⟨A, c, rfl, hF, hc, hn⟩ := ho.list
  refine ⟨A, c, rfl, fun f t => ⟨⟨hF, hc, hn⟩, fun hne a ha => ?_⟩⟩
  rcases ho.own.2 with ⟨e, h0⟩ | ⟨g, cap, cur, e, _, hg, _⟩
  · exact absurd (List.eq_nil_of_length_eq_zero h0) hne
  · injection e with e1
    have ha : A = some a := ha
    rw [e1] at ha
    cases ha
    exact ⟨cur, hg⟩
theorem KF.same {w : World} {p q : Pc} (h : KF w p) (h1 : q.fa = p.fa) (h2 : q.fc = p.fc) (h3 : q.fs = p.fs) : KF w q := by
  unfold KF PF at h ⊢
  rw [h1, h2, h3]; exact h
/-- A list of pieces in a variable, that a closure has captured. -/
structure PutB (base Q B : Nat) (L : List Pc) (v : Value) (w : World) : Prop where
  qb : Q < base
  bb : B < base
  ptr : Boxed w Q TPp (.pointer (some ⟨B, 0, none⟩))
  box : Boxed w B TPs v
  own : ownE EP w base v L
  kf : ∀ p ∈ L, KF w p
theorem PutB.kt {base Q B : Nat} {L : List Pc} {v : Value} {w w' : World} (h : PutB base Q B L v w) (hk : KT4 w w') : PutB base Q B L v w' := by
  refine ⟨h.qb, h.bb, hk _ _ _ (.inr (.inr (.inl rfl))) h.ptr, hk _ _ _ (.inr (.inl rfl)) h.box, ⟨h.own.1, ?_⟩, fun p hp => (h.kf p hp).kt hk⟩
  rcases h.own.2 with h2 | ⟨g, cap, cur, hv, hg, hh, r⟩
  · exact .inl h2
  · exact .inr ⟨g, cap, cur, hv, hg, hk _ _ _ (.inl rfl) hh, r⟩
theorem PutB.below {base Q B : Nat} {L : List Pc} {v : Value} {w w' : World} (h : PutB base Q B L v w) (hb : Below w.heap.size w w') : PutB base Q B L v w' := h.kt (.of_below hb)
theorem PutB.pcs {base Q B : Nat} {L : List Pc} {v : Value} {w : World} (h : PutB base Q B L v w) : PcsL w v L := ⟨ownE_list h.own, fun p hp => (h.kf p hp).1⟩
theorem PutB.ne {base Q B : Nat} {L : List Pc} {v : Value} {w : World} (h : PutB base Q B L v w) : Q ≠ B := fun e => by
  have h1 := h.ptr
  have h2 := h.box
  rw [e] at h1
  unfold Boxed at h1 h2
  rw [h1] at h2
  injection h2 with h2
  injection h2 with _ h2 _
  revert h2; decide
theorem PutB.lt {base Q B : Nat} {L : List Pc} {v : Value} {w : World} (h : PutB base Q B L v w) {g : Nat} (hg : v.ownBlock = some g) : base ≤ g ∧ g < w.heap.size := h.own.lt g hg
/-- Behind an append of a piece, and the store back. -/
theorem PutB.app {base Q B : Nat} {L : List Pc} {v v' : Value} {w w1 : World} {p : Pc} (h : PutB base Q B L v w) (_ : base ≤ w.heap.size) (hp : KF w p) (hg : w.grownBy w1 v.ownBlock) (hown : ownE EP w1 base v' (L ++ [p])) : PutB base Q B (L ++ [p]) v' (w1.setCell ⟨B, 0, none⟩ v') := by
  have hBw := h.box.lt
  have hQw := h.ptr.lt
  have hkB : some B ≠ v.ownBlock := fun e => by have := h.lt e.symm; have := h.bb; omega
  have hkQ : some Q ≠ v.ownBlock := fun e => by have := h.lt e.symm; have := h.qb; omega
  have b1 : Boxed w1 B TPs v := h.box.kept hg hkB
  have q1 : Boxed w1 Q TPp (.pointer (some ⟨B, 0, none⟩)) := h.ptr.kept hg hkQ
  have hset : ∀ c, c ≠ B → (w1.setCell ⟨B, 0, none⟩ v').heap[c]? = w1.heap[c]? := fun c hc => Below.heap_setCell w1 ⟨B, 0, none⟩ v' c hc
  refine ⟨h.qb, h.bb, ?_, b1.set v', ⟨hown.1, ?_⟩, fun q hq => ?_⟩
  · unfold Boxed
    rw [hset Q h.ne]
    exact q1
  · rcases hown.2 with h2 | ⟨g, cap, cur, hv, hg2, hh, r⟩
    · exact .inl h2
    · exact .inr ⟨g, cap, cur, hv, hg2, by rw [hset g (fun e => by have := h.bb; omega)]; exact hh, r⟩
  · have hq' : KF w q := by
      rcases List.mem_append.1 hq with hq | hq
      · exact h.kf q hq
      · obtain rfl := List.mem_singleton.1 hq
        exact hp
    refine hq'.pf_of fun c cur hc => ?_
    have hcw := (Array.getElem?_eq_some_iff.1 hc).1
    have hcB : c ≠ B := fun e => by
      have h2 := h.box
      unfold Boxed at h2
      rw [e, h2] at hc
      injection hc with hc
      injection hc with _ hc _
      revert hc; decide
    have hcv : some c ≠ v.ownBlock := fun e => by
      rcases h.own.2 with ⟨hv, _⟩ | ⟨g, cap, cur', hv, _, hh, _⟩
      · rw [hv] at e; cases e
      · rw [hv] at e
        cases e
        rw [hh] at hc
        injection hc with hc
        injection hc with _ hc _
        revert hc; decide
    rw [hset c hcB, hg.block c hcw hcv]
    exact hc
/-- Behind a store into the last piece. -/
theorem PutB.setLast {base Q B : Nat} {m : List Pc} {q : Pc} {g c n : Nat} {w : World} (h : PutB base Q B (m ++ [q]) (.slice (some ⟨g, 0, none⟩) n c) w) (hn : n = m.length + 1) (x : Int) : PutB base Q B (m ++ [{ q with t := x }]) (.slice (some ⟨g, 0, none⟩) n c) (w.setCell ⟨g, m.length * 3 + 1, none⟩ (.int .i64 x)) := by
  subst hn
  have hq : (m ++ [q])[m.length]? = some q := by simp
  have hset : (m ++ [q]).set m.length { q with t := x } = m ++ [{ q with t := x }] := by simp
  have hlen : (m ++ [q]).length = m.length + 1 := by simp
  have hw := h.own
  unfold ownE at hw
  rw [hlen] at hw
  have hs := (World.ownsRow.stored hw (m.length * 3 + 1) (.int .i64 x)).1
  rw [flat_setP _ _ _ x hq, hset] at hs
  have hlt := h.lt (g := g) rfl
  have hother : ∀ c, c ≠ g → (w.setCell ⟨g, m.length * 3 + 1, none⟩ (.int .i64 x)).heap[c]? = w.heap[c]? := fun c hc => Below.heap_setCell w ⟨g, m.length * 3 + 1, none⟩ _ c hc
  have hlen2 : (m ++ [{ q with t := x }]).length = m.length + 1 := by simp
  refine ⟨h.qb, h.bb, ?_, ?_, ?_, fun r hr => ?_⟩
  · unfold Boxed
    rw [hother Q (fun e => by have := h.qb; omega)]
    exact h.ptr
  · unfold Boxed
    rw [hother B (fun e => by have := h.bb; omega)]
    exact h.box
  · unfold ownE
    rw [hlen2]
    exact hs
  · have hr' : KF w r := by
      rcases List.mem_append.1 hr with hr | hr
      · exact h.kf r (by simp [hr])
      · obtain rfl := List.mem_singleton.1 hr
        exact (h.kf q (by simp)).same rfl rfl rfl
    refine hr'.pf_of fun c' cur hc => ?_
    rw [hother c' (fun e => ?_)]
    · exact hc
    · rcases h.own.2 with ⟨hv, _⟩ | ⟨g', cap, cur', hv, _, hh, _⟩
      · cases hv
      · injection hv with hv
        injection hv with hv
        injection hv with hv _ _
        rw [e, hv, hh] at hc
        injection hc with hc
        injection hc with _ hc _
        revert hc; decide

theorem PutB.grownQ {base Q B : Nat} {L : List Pc} {v : Value} {w w1 : World} {o : Obj} (h : PutB base Q B L v w) (hg : (w.drew.alloc o).grownBy w1 v.ownBlock) : w1.cell? ⟨Q, 0, none⟩ = some (.pointer (some ⟨B, 0, none⟩)) :=
  (((h.below (belowN (bl w) 1)).ptr.alloc o).kept hg (fun e => by have := h.lt e.symm; have := h.qb; omega)).cell
theorem PutB.grownB {base Q B : Nat} {L : List Pc} {v : Value} {w w1 : World} {o : Obj} (h : PutB base Q B L v w) (hg : (w.drew.alloc o).grownBy w1 v.ownBlock) : w1.cell? ⟨B, 0, none⟩ = some v :=
  (((h.below (belowN (bl w) 1)).box.alloc o).kept hg (fun e => by have := h.lt e.symm; have := h.bb; omega)).cell
theorem PutB.grownF {base Q B : Nat} {L : List Pc} {v : Value} {w w1 : World} {o : Obj} (h : PutB base Q B L v w) (hg : (w.drew.alloc o).grownBy w1 v.ownBlock) : w1.frozen? ⟨B, 0, none⟩ = false :=
  (((h.below (belowN (bl w) 1)).box.alloc o).kept hg (fun e => by have := h.lt e.symm; have := h.bb; omega)).frozen

/-- What the closure leaves. -/
def PutPost (base Q B : Nat) (L : List Pc) (p : Pc) (v : Value) (w : World) (e : Ending) (w' : World) : Prop :=
  e = .returned (.tuple #[]) ∧ ∃ v' A c, PutB base Q B (putP L { p with fa := A, fc := c }) v' w' ∧ Kb2 (some B) v.ownBlock w w'

theorem oneP (w : World) (p : Pc) : RowE EP (w.alloc (ocP p)) (some ⟨w.heap.size, 0, none⟩) [p] := rowE_one (E := EP) w p #[.int .i64 p.f, .int .i64 p.t, .slice p.fa p.fs.length p.fc] rfl TPc
theorem boxP_set {w : World} {b : Nat} {p : Pc} {A : Option Addr} {c : Nat} (h : BoxP w b p) : BoxP (w.setCell ⟨b, 2, none⟩ (.slice A p.fs.length c)) b { p with fa := A, fc := c } :=
  ⟨(World.cell?_setCell_other _ ⟨b, 2, none⟩ ⟨b, 0, none⟩ _ (by simp)).trans h.1, (World.cell?_setCell_other _ ⟨b, 2, none⟩ ⟨b, 1, none⟩ _ (by simp)).trans h.2.1, World.cell?_setCell_same _ ⟨b, 2, none⟩ _ h.2.2⟩

set_option maxHeartbeats 4000000 in
set_option maxRecDepth 100000 in
theorem pput_nil {base Q B : Nat} {v : Value} {w : World} {p : Pc} (h : PutB base Q B [] v w) (hbase : base ≤ w.heap.size) (hp : PF w p) (hps : p.fs.length ≤ 1000000) : Calls Tryz.prog 57 #[pv p, .pointer (some ⟨Q, 0, none⟩)] w (PutPost base Q B [] p v w) := by
  obtain ⟨A, c, hv, _⟩ := h.pcs.1
  have hb1 : Below w.heap.size w (w.alloc (ocP p)) := (bl w).alloc (Nat.le_refl _) _
  have hm1 : IntKind.i64.wrap ((0 : Int) - 1) = -1 := by decide
  have h1 := h.below hb1
  have x0 := h1.ptr.cell
  have x1 := h1.box.cell
  have HP := Lib.hid hp
  have HH := Lib.hid h
  have HB1 := Lib.hid hb1
  have HBASE := Lib.hid hbase
  simp only [List.length_nil] at hv
  subst hv
  clear h hp hb1 h1 hbase
  go_enter Tryz.func57, Tryz.ntmps57
  go_wp2_with fail
  go_quiet (fail)
  refine abstract_then (fun w' => Below w.heap.size w w' ∧ BoxP w' w.heap.size p ∧ w.heap.size < w'.heap.size ∧ w'.frozen? ⟨w.heap.size, 2, none⟩ = false ∧ w'.heap[w.heap.size]? = some (ocP p)) ⟨belowN HB1.out _, ((boxP_new w p).below (belowN (bl _) _)), by simp, by simp [go_sem], heap_alloc_new w _⟩ ?_
  rintro w1 ⟨hb1, hbx, hlt1, hfz, hob⟩
  have HOB := Lib.hid hob
  obtain ⟨b0, b1, b2⟩ := hbx
  have HB1 := Lib.hid hb1
  have HLT := Lib.hid hlt1
  have HBX := Lib.hid (show BoxP w1 w.heap.size p from ⟨b0, b1, b2⟩)
  have HFZ := Lib.hid hfz
  have CC := Lib.hid (cloneF_any w1 p.fa p.fc p.fs (HP.out.below hb1).1 HP.out.2.2 hps)
  clear hb1 x0 x1 hlt1 hfz hob
  go_wp2_with (go_at_call 46; (with_reducible refine CC.out.mono ?_); rintro e w2 ⟨u, rfl, hO⟩; obtain ⟨A2, c2, rfl, hkf⟩ := KF.new hO; obtain ⟨b0', b1', b2'⟩ := HBX.out.below hO.bel; have hf2 := keepf hO.bel HLT.out HFZ.out; have HO := Lib.hid hO; have HKF := Lib.hid hkf; clear hO hkf)
  refine abstract_worldW (fun w' => Below w.heap.size w w' ∧ BoxP w' w.heap.size { p with fa := A2, fc := c2 } ∧ KF w' { p with fa := A2, fc := c2 }) ⟨(chain HB1.out HO.out.bel).setCell (p := ⟨w.heap.size, 2, none⟩) (Nat.le_refl _) _, boxP_set (HBX.out.below HO.out.bel), ?_⟩ ?_
  · have hk := HKF.out p.f p.t
    refine KF.pf_of (hk.same rfl rfl rfl) fun c cur hc => ?_
    refine (Below.heap_setCell w2 ⟨w.heap.size, 2, none⟩ _ c (fun e => ?_)).trans hc
    have e2 := (HO.out.bel.block w.heap.size HLT.out).trans HOB.out
    rw [e] at hc
    rw [show w2.heap[w.heap.size]? = _ from e2] at hc
    injection hc with hc
    injection hc with _ hc _
    revert hc; decide
  rintro w3 ⟨hb3, ⟨y0, y1, y2⟩, hk3⟩
  have HB3 := Lib.hid hb3
  have HK3 := Lib.hid hk3
  have h3 := HH.out.below hb3
  have x0 := h3.ptr.cell
  have x0a : (w3.alloc (.cells #[.int .i64 p.f, .int .i64 p.t, .slice A2 p.fs.length c2] TPc)).cell? ⟨Q, 0, none⟩ = some (.pointer (some ⟨B, 0, none⟩)) := (h3.below ((bl w3).alloc (Nat.le_refl _) _)).ptr.cell
  have HH3 := Lib.hid h3
  clear hb3 hk3 h3 b0 b1 b2
  go_region_law (refine step_appE (E := EP) (xs := [({ p with fa := A2, fc := c2 } : Pc)]) rfl (.tmp 34) (.tmp 36) rfl rfl rfl (World.ownsRow.alloc (w := w3.drew) HH3.out.own _) rfl rfl (by first | exact oneP w3.drew { p with fa := A2, fc := c2 } | (have hrow := oneP w3.drew { p with fa := A2, fc := c2 }; simp at hrow ⊢; exact hrow)) (fun h => by cases h) (by simp) (by have h5 := HBASE.out; have h6 := HB3.out.size; simp; omega) ?_; intro v' w4 hown4 hg4 _; obtain ⟨g4, c4, hv4⟩ := own_at hown4 (by simp); simp only [List.nil_append, List.length_singleton] at hv4; subst hv4; have HP4 := Lib.hid (((HH3.out.below (belowN (bl w3) 1)).below ((bl w3.drew).alloc (Nat.le_refl _) _)).app (by have h5 := HBASE.out; have h6 := HB3.out.size; simp; omega) ((HK3.out.below (belowN (bl w3) 1)).below ((bl w3.drew).alloc (Nat.le_refl _) _)) hg4 hown4); have HK4 := Lib.hid (((Kb2.of_below (o1 := some B) (o2 := (Value.slice A 0 c).ownBlock) HB3.out).below (((bl w3).drew).alloc (by simp) _)).grown hg4); have y4 := HH3.out.grownQ hg4; have z4 := HH3.out.grownB hg4; have f4 := HH3.out.grownF hg4; clear hown4 hg4)
  all_goals go_end0
  all_goals exact ⟨rfl, _, A2, c2, HP4.out, HK4.out.set1 _⟩

set_option maxHeartbeats 4000000 in
set_option maxRecDepth 100000 in
theorem pput_more {base Q B : Nat} {w : World} {g c : Nat} {m : List Pc} {q p : Pc} (h : PutB base Q B (m ++ [q]) (.slice (some ⟨g, 0, none⟩) (m.length + 1) c) w) (hbase : base ≤ w.heap.size) (hp : PF w p) (hn : m.length ≤ 100000) (hqs : q.fs.length ≤ 1000000) (hps : p.fs.length ≤ 1000000) : Calls Tryz.prog 57 #[pv p, .pointer (some ⟨Q, 0, none⟩)] w (PutPost base Q B (m ++ [q]) p (.slice (some ⟨g, 0, none⟩) (m.length + 1) c) w) := by
  have HH := Lib.hid h
  have HP := Lib.hid hp
  have HBASE := Lib.hid hbase
  have HX := Lib.hid (show Cells3 w g (m.length * 3) q by
    obtain ⟨A2, c2, e2, hr, _⟩ := h.pcs.1
    injection e2 with e2 _ _
    rw [← e2] at hr
    have hx : (m ++ [q])[m.length]? = some q := by simp
    have k0 := hr.at hx (j := 0) rfl
    have k1 := hr.at hx (j := 1) rfl
    have k2 := hr.at hx (j := 2) rfl
    rw [Nat.zero_add] at k0 k1 k2
    exact ⟨k0, k1, k2⟩)
  have HFZ := Lib.hid (show ∀ w', Below w.heap.size w w' → w'.frozen? ⟨g, m.length * 3 + 1, none⟩ = false from fun w' hb => by
    have e := ownE_below h.own hb
    unfold ownE at e
    rw [show (m ++ [q]).length = m.length + 1 by simp] at e
    exact World.ownsRow.frozenAt e _)
  have HSET := Lib.hid (fun w' (hb : Below w.heap.size w w') (n : Nat) (hn : n = m.length + 1) (x : Int) => (show PutB base Q B (m ++ [{ q with t := x }]) (.slice (some ⟨g, 0, none⟩) n c) (w'.setCell ⟨g, m.length * 3 + 1, none⟩ (.int .i64 x)) by
    subst hn
    exact (h.below hb).setLast rfl x))
  have CO := Lib.hid (fun w' (hb : Below w.heap.size w w') => goeson_any w' q p ((h.kf q (by simp)).1.below hb) (hp.below hb) hqs hps)
  have HB1 := Lib.hid (show Below w.heap.size w (w.alloc (ocP p)) from (bl w).alloc (Nat.le_refl _) _)
  have MK := Lib.hid (show ∀ w', Below (w.alloc (ocP p)).heap.size (w.alloc (ocP p)) w' → (Below (w.alloc (ocP p)).heap.size (w.alloc (ocP p)) w' ∧ Cells3 w' g (m.length * 3) q ∧ BoxP w' w.heap.size p) from fun w' hb => ⟨hb, (HX.out.below HB1.out).below hb, (boxP_new w p).below hb⟩)
  have HN := Lib.hid hn
  have h1 := h.below HB1.out
  have x0 := h1.ptr.cell
  have x1 := h1.box.cell
  have NA := Lib.hid (show goesB q p = false → ∀ A c, putP (m ++ [q]) { p with fa := A, fc := c } = (m ++ [q]) ++ [{ p with fa := A, fc := c }] from fun hg A c => putP_app (by
    rintro ⟨e1, e2⟩
    have e1 : q.t = p.f := e1
    have e2 : sameF q.fs p.fs = true := e2
    rw [goesB, decide_eq_true e1, e2] at hg
    cases hg))
  have NJ := Lib.hid (show goesB q p = true → putP (m ++ [q]) { p with fa := none, fc := 0 } = m ++ [{ q with t := p.t }] from fun hg => putP_join (by
    rw [goesB, Bool.and_eq_true, decide_eq_true_eq] at hg
    exact hg))
  obtain ⟨n, hn1⟩ : ∃ n, m.length + 1 = n := ⟨_, rfl⟩
  obtain ⟨j, hj⟩ : ∃ j, m.length = j := ⟨_, rfl⟩
  have hsub : IntKind.i64.wrap ((n : Int) - 1) = (j : Int) := by rw [IntWalk.i64_in _ (by omega)]; omega
  have hjn : (j : Int) < (n : Int) := by omega
  have hjn2 : j < n := by omega
  have hj0 : (0 : Int) ≤ (j : Int) := by omega
  have HNJ := Lib.hid (show n = j + 1 by omega)
  rw [hn1] at HH x1 ⊢
  rw [hj] at HX HFZ HSET MK
  clear h h1 hp hn hqs hn1 hj hbase
  generalize goesB q p = s at *
  cases s with
  | true =>
    have NX := Lib.hid (NJ.out rfl)
    clear NA NJ hps
    go_enter Tryz.func57, Tryz.ntmps57
    go_wp2_with fail
    first
      | (go_region_held3 (fun w' => Below (w.alloc (ocP p)).heap.size (w.alloc (ocP p)) w' ∧ Cells3 w' g (j * 3) q ∧ BoxP w' w.heap.size p)
          (first | exact MK.out _ ((bl (w.alloc (ocP p))).drew) | exact MK.out _ hb1 | fail)
          (first | (go_at_call 44; (refine (CO.out _ (chain HB1.out (by go_split_ands; assumption))).mono ?_); (rintro e w1 ⟨rfl, hb0⟩); (have hb1 := chain (by go_split_ands; assumption) hb0); clear hb0) | fail))
      | fail
    have HB2 := Lib.hid (chain HB1.out hb1)
    obtain ⟨_, ⟨z0, z1, z2⟩, ⟨b0, b1, b2⟩⟩ := MK.out _ hb1
    have f1 := HFZ.out _ HB2.out
    go_wp2_with fail
    refine bodyPost_ret (results_none rfl _ _ _) rfl ?_
    exact ⟨rfl, _, none, 0, by rw [NX.out]; exact HSET.out _ HB2.out n HNJ.out p.t, (Kb2.of_below (o1 := some B) (o2 := some g) HB2.out).set2 _⟩
  | false =>
    have NX := Lib.hid (NA.out rfl)
    clear NA NJ
    go_enter Tryz.func57, Tryz.ntmps57
    go_wp2_with fail
    first
      | (go_region_held3 (fun w' => Below (w.alloc (ocP p)).heap.size (w.alloc (ocP p)) w' ∧ Cells3 w' g (j * 3) q ∧ BoxP w' w.heap.size p)
          (first | exact MK.out _ ((bl (w.alloc (ocP p))).drew) | exact MK.out _ hb1 | fail)
          (first | (go_at_call 44; (refine (CO.out _ (chain HB1.out (by go_split_ands; assumption))).mono ?_); (rintro e w1 ⟨rfl, hb0⟩); (have hb1 := chain (by go_split_ands; assumption) hb0); clear hb0) | fail))
      | fail
    refine abstract_then (fun w' => Below w.heap.size w w' ∧ BoxP w' w.heap.size p ∧ w.heap.size < w'.heap.size ∧ w'.frozen? ⟨w.heap.size, 2, none⟩ = false ∧ w'.heap[w.heap.size]? = some (ocP p)) ⟨chain HB1.out hb1, (boxP_new w p).below hb1, by have := hb1.size; simp at this; omega, keepf hb1 (by simp) (by simp [go_sem]), (hb1.block _ (by simp)).trans (heap_alloc_new w _)⟩ ?_
    clear hb1
    rintro w1 ⟨hb1, hbx, hlt1, hfz, hob⟩
    have HOB := Lib.hid hob
    obtain ⟨b0, b1, b2⟩ := hbx
    have HB1 := Lib.hid hb1
    have HLT := Lib.hid hlt1
    have HBX := Lib.hid (show BoxP w1 w.heap.size p from ⟨b0, b1, b2⟩)
    have HFZ := Lib.hid hfz
    have CC := Lib.hid (cloneF_any w1 p.fa p.fc p.fs (HP.out.below hb1).1 HP.out.2.2 hps)
    clear hb1 x0 x1 hlt1 hfz hob
    go_wp2_with (go_at_call 46; (with_reducible refine CC.out.mono ?_); rintro e w2 ⟨u, rfl, hO⟩; obtain ⟨A2, c2, rfl, hkf⟩ := KF.new hO; obtain ⟨b0', b1', b2'⟩ := HBX.out.below hO.bel; have hf2 := keepf hO.bel HLT.out HFZ.out; have HO := Lib.hid hO; have HKF := Lib.hid hkf; clear hO hkf)
    refine abstract_worldW (fun w' => Below w.heap.size w w' ∧ BoxP w' w.heap.size { p with fa := A2, fc := c2 } ∧ KF w' { p with fa := A2, fc := c2 }) ⟨(chain HB1.out HO.out.bel).setCell (p := ⟨w.heap.size, 2, none⟩) (Nat.le_refl _) _, boxP_set (HBX.out.below HO.out.bel), ?_⟩ ?_
    · have hk := HKF.out p.f p.t
      refine KF.pf_of (hk.same rfl rfl rfl) fun c cur hc => ?_
      refine (Below.heap_setCell w2 ⟨w.heap.size, 2, none⟩ _ c (fun e => ?_)).trans hc
      have e2 := (HO.out.bel.block w.heap.size HLT.out).trans HOB.out
      rw [e] at hc
      rw [show w2.heap[w.heap.size]? = _ from e2] at hc
      injection hc with hc
      injection hc with _ hc _
      revert hc; decide
    rintro w3 ⟨hb3, ⟨y0, y1, y2⟩, hk3⟩
    have HB3 := Lib.hid hb3
    have HK3 := Lib.hid hk3
    have h3 := HH.out.below hb3
    have x0 := h3.ptr.cell
    have x0a : (w3.alloc (.cells #[.int .i64 p.f, .int .i64 p.t, .slice A2 p.fs.length c2] TPc)).cell? ⟨Q, 0, none⟩ = some (.pointer (some ⟨B, 0, none⟩)) := (h3.below ((bl w3).alloc (Nat.le_refl _) _)).ptr.cell
    have HH3 := Lib.hid h3
    clear hb3 hk3 h3 b0 b1 b2
    go_region_law (refine step_appE (E := EP) (xs := [({ p with fa := A2, fc := c2 } : Pc)]) rfl (.tmp 34) (.tmp 36) rfl rfl rfl (World.ownsRow.alloc (w := w3.drew) HH3.out.own _) rfl rfl (by first | exact oneP w3.drew { p with fa := A2, fc := c2 } | (have hrow := oneP w3.drew { p with fa := A2, fc := c2 }; simp at hrow ⊢; exact hrow)) (fun h => by cases h) (by have := HN.out; simp; omega) (by have h5 := HBASE.out; have h6 := HB3.out.size; simp; omega) ?_; intro v' w4 hown4 hg4 _; obtain ⟨g4, c4, hv4⟩ := own_at hown4 (by simp); obtain ⟨n4, c5, hv5⟩ : ∃ n4 c5, v' = .slice (some ⟨g4, 0, none⟩) n4 c5 := ⟨_, _, hv4⟩; clear hv4; subst hv5; have HP4 := Lib.hid (((HH3.out.below (belowN (bl w3) 1)).below ((bl w3.drew).alloc (Nat.le_refl _) _)).app (by have h5 := HBASE.out; have h6 := HB3.out.size; simp; omega) ((HK3.out.below (belowN (bl w3) 1)).below ((bl w3.drew).alloc (Nat.le_refl _) _)) hg4 hown4); have HK4 := Lib.hid (((Kb2.of_below (o1 := some B) (o2 := (Value.slice (some ⟨g, 0, none⟩) n c).ownBlock) HB3.out).below (((bl w3).drew).alloc (by simp) _)).grown hg4); have y4 := HH3.out.grownQ hg4; have z4 := HH3.out.grownB hg4; have f4 := HH3.out.grownF hg4; clear hown4 hg4)
    all_goals go_end0
    all_goals exact ⟨rfl, _, A2, c2, by rw [NX.out A2 c2]; exact HP4.out, HK4.out.set1 _⟩


theorem pput_any {base Q B : Nat} {v : Value} {L : List Pc} {w : World} {p : Pc} (h : PutB base Q B L v w) (hbase : base ≤ w.heap.size) (hp : PF w p) (hn : L.length ≤ 100000) (hL : ∀ q ∈ L, q.fs.length ≤ 1000000) (hps : p.fs.length ≤ 1000000) : Calls Tryz.prog 57 #[pv p, .pointer (some ⟨Q, 0, none⟩)] w (PutPost base Q B L p v w) := by
  rcases List.eq_nil_or_concat L with rfl | ⟨m, q, rfl⟩
  · exact pput_nil h hbase hp hps
  · rw [List.concat_eq_append] at *
    obtain ⟨g, c, rfl⟩ := own_at h.own (by simp)
    rw [show (m ++ [q]).length = m.length + 1 by simp] at *
    exact pput_more h hbase hp (by omega) (hL q (by simp)) hps

end Go.Proofs.YtaoobliajgcdmaaGreat

/-
  Plain facts on lists of numbers: numbers put in one by one, each once, rising; and the pieces of a span that is cut at sorted times.
-/
namespace Go.Proofs.YtaoobliajgcdmaaGreat.Co

/-- Put a number where it belongs, unless it is there. -/
def insU (x : Int) : List Int → List Int
  | [] => [x]
  | y :: ys => if y < x then y :: insU x ys else if y = x then y :: ys else x :: y :: ys
/-- The numbers of a list, each once, rising. -/
def riseL (l : List Int) : List Int := l.foldl (fun o x => insU x o) []

theorem mem_insU (x y : Int) : ∀ l : List Int, y ∈ insU x l ↔ y = x ∨ y ∈ l
  | [] => by simp [insU]
  | z :: zs => by
    unfold insU
    split
    · simp only [List.mem_cons, mem_insU x y zs]
      constructor
      · rintro (h | h | h) <;> simp [h]
      · rintro (h | h | h) <;> simp [h]
    · split
      · rename_i h
        subst h
        simp
      · simp
theorem insU_pw (x : Int) : ∀ l : List Int, l.Pairwise (· < ·) → (insU x l).Pairwise (· < ·)
  | [], _ => by simp [insU]
  | z :: zs, h => by
    obtain ⟨h1, h2⟩ := List.pairwise_cons.1 h
    unfold insU
    split
    · refine List.pairwise_cons.2 ⟨fun y hy => ?_, insU_pw x zs h2⟩
      rcases (mem_insU x y zs).1 hy with rfl | hy
      · assumption
      · exact h1 y hy
    · split
      · exact h
      · refine List.pairwise_cons.2 ⟨fun y hy => ?_, h⟩
        rcases List.mem_cons.1 hy with rfl | hy
        · omega
        · have := h1 y hy
          omega
theorem fold_mem (l : List Int) : ∀ (o : List Int) (y : Int), y ∈ l.foldl (fun o x => insU x o) o ↔ y ∈ o ∨ y ∈ l := by
  induction l with
  | nil => simp
  | cons x l ih =>
    intro o y
    rw [List.foldl_cons, ih, mem_insU, List.mem_cons]
    constructor
    · rintro ((h | h) | h) <;> simp [h]
    · rintro (h | h | h) <;> simp [h]
theorem fold_pw (l : List Int) : ∀ o : List Int, o.Pairwise (· < ·) → (l.foldl (fun o x => insU x o) o).Pairwise (· < ·) := by
  induction l with
  | nil => exact fun _ h => h
  | cons x l ih => exact fun o h => ih _ (insU_pw x o h)
theorem mem_riseL (l : List Int) (y : Int) : y ∈ riseL l ↔ y ∈ l := by simp [riseL, fold_mem]
theorem riseL_pw (l : List Int) : (riseL l).Pairwise (· < ·) := fold_pw l [] List.Pairwise.nil
theorem riseL_snoc (l : List Int) (x : Int) : riseL (l ++ [x]) = insU x (riseL l) := by simp [riseL]
theorem insU_length (x : Int) : ∀ l : List Int, (insU x l).length ≤ l.length + 1
  | [] => by simp [insU]
  | z :: zs => by
    have := insU_length x zs
    unfold insU
    split
    · simp; omega
    · split <;> simp
theorem fold_length (l : List Int) : ∀ o : List Int, (l.foldl (fun o x => insU x o) o).length ≤ o.length + l.length := by
  induction l with
  | nil => simp
  | cons x l ih =>
    intro o
    have h1 := ih (insU x o)
    have h2 := insU_length x o
    simp only [List.foldl_cons, List.length_cons]
    omega
theorem riseL_length (l : List Int) : (riseL l).length ≤ l.length := by simpa [riseL] using fold_length l []

/-- All numbers ahead of place k are less, the one there is not: so the number belongs there. -/
theorem insU_at {x : Int} : ∀ {l : List Int} {k : Nat}, (∀ j y, j < k → l[j]? = some y → y < x) → k ≤ l.length → (∀ y, l[k]? = some y → x < y) → insU x l = l.take k ++ x :: l.drop k
  | [], k, _, hk, _ => by
    obtain rfl : k = 0 := by simpa using hk
    simp [insU]
  | z :: zs, 0, _, _, h => by
    have := h z (by simp)
    unfold insU
    rw [if_neg (by omega), if_neg (by omega)]
    simp
  | z :: zs, k + 1, h, hk, hg => by
    have := h 0 z (by omega) (by simp)
    unfold insU
    rw [if_pos this, insU_at (k := k) (fun j y hj hy => h (j + 1) y (by omega) (by simpa using hy)) (by simpa using hk) (fun y hy => hg y (by simpa using hy))]
    simp
theorem insU_same {x : Int} : ∀ {l : List Int} {k : Nat}, (∀ j y, j < k → l[j]? = some y → y < x) → l[k]? = some x → insU x l = l
  | [], k, _, h => by simp at h
  | z :: zs, 0, _, h => by
    obtain rfl : z = x := by simpa using h
    unfold insU
    rw [if_neg (by omega), if_pos rfl]
  | z :: zs, k + 1, h, hx => by
    have := h 0 z (by omega) (by simp)
    unfold insU
    rw [if_pos this, insU_same (k := k) (fun j y hj hy => h (j + 1) y (by omega) (by simpa using hy)) (by simpa using hx)]

/-- Two rising lists with the same numbers are one. -/
theorem pw_ext : ∀ l m : List Int, l.Pairwise (· < ·) → m.Pairwise (· < ·) → (∀ x, x ∈ l ↔ x ∈ m) → l = m
  | [], [], _, _, _ => rfl
  | [], y :: ys, _, _, h => by have := (h y).2 (by simp); simp at this
  | x :: xs, [], _, _, h => by have := (h x).1 (by simp); simp at this
  | x :: xs, y :: ys, hl, hm, h => by
    obtain ⟨h1, h2⟩ := List.pairwise_cons.1 hl
    obtain ⟨h3, h4⟩ := List.pairwise_cons.1 hm
    have hxy : x = y := by
      rcases List.mem_cons.1 ((h x).1 (by simp)) with e | e
      · exact e
      · rcases List.mem_cons.1 ((h y).2 (by simp)) with e' | e'
        · exact e'.symm
        · have := h3 x e
          have := h1 y e'
          omega
    subst hxy
    rw [pw_ext xs ys h2 h4 fun z => ⟨fun hz => ?_, fun hz => ?_⟩]
    · have := h1 z hz
      rcases List.mem_cons.1 ((h z).1 (by simp [hz])) with e | e
      · omega
      · exact e
    · have := h3 z hz
      rcases List.mem_cons.1 ((h z).2 (by simp [hz])) with e | e
      · omega
      · exact e

/-- Of a sorted list, what is above f, each once. -/
def uniqF : Int → List Int → List Int
  | _, [] => []
  | f, t :: ts => if f < t then t :: uniqF t ts else uniqF f ts

theorem mem_uniqF : ∀ (l : List Int) (f y : Int), l.Pairwise (· ≤ ·) → (y ∈ uniqF f l ↔ y ∈ l ∧ f < y)
  | [], f, y, _ => by simp [uniqF]
  | t :: ts, f, y, h => by
    obtain ⟨h1, h2⟩ := List.pairwise_cons.1 h
    unfold uniqF
    split
    · rw [List.mem_cons, mem_uniqF ts t y h2, List.mem_cons]
      constructor
      · rintro (rfl | ⟨h3, h4⟩)
        · exact ⟨.inl rfl, by assumption⟩
        · exact ⟨.inr h3, by omega⟩
      · rintro ⟨rfl | h3, h4⟩
        · exact .inl rfl
        · have := h1 y h3
          by_cases e : y = t
          · exact .inl e
          · exact .inr ⟨h3, by omega⟩
    · rw [mem_uniqF ts f y h2, List.mem_cons]
      constructor
      · rintro ⟨h3, h4⟩
        exact ⟨.inr h3, h4⟩
      · rintro ⟨rfl | h3, h4⟩
        · omega
        · exact ⟨h3, h4⟩
theorem uniqF_pw : ∀ (l : List Int) (f : Int), l.Pairwise (· ≤ ·) → (uniqF f l).Pairwise (· < ·)
  | [], f, _ => by simp [uniqF]
  | t :: ts, f, h => by
    obtain ⟨h1, h2⟩ := List.pairwise_cons.1 h
    unfold uniqF
    split
    · exact List.pairwise_cons.2 ⟨fun y hy => ((mem_uniqF ts t y h2).1 hy).2, uniqF_pw ts t h2⟩
    · exact uniqF_pw ts f h2

/-- The pieces from f on, each one up to the next of the times. -/
def pieces : Int → List Int → List (Int × Int)
  | _, [] => []
  | f, t :: ts => (f, t) :: pieces t ts
theorem pieces_snoc : ∀ (l : List Int) (f t : Int), pieces f (l ++ [t]) = pieces f l ++ [((l.getLast?).getD f, t)]
  | [], f, t => by simp [pieces]
  | x :: xs, f, t => by
    rw [List.cons_append, pieces, pieces_snoc xs x t, pieces]
    rcases xs with _ | ⟨y, ys⟩ <;> simp [List.getLast?_cons]
theorem pieces_length : ∀ (l : List Int) (f : Int), (pieces f l).length = l.length
  | [], f => rfl
  | t :: ts, f => by simp [pieces, pieces_length ts t]

end Go.Proofs.YtaoobliajgcdmaaGreat.Co

/-
  append of numbers onto a list of the call's own, whatever the source: what it leaves, also as one step of a statement whose order is open.
-/
namespace Go.Proofs.YtaoobliajgcdmaaGreat.Co
open Go.RowKit

abbrev ownI (w : World) (base : Nat) (v : Value) (ts : List Int) : Prop := w.ownsRow base 3 1 v ts.length (ts.map (Value.int .i64))

set_option maxRecDepth 100000 in
theorem run_app (w : World) {base : Nat} {v : Value} {ts : List Int} (hown : ownI w base v ts) (B : Option Addr) (c : Nat) (xs : List Int) (hx : Ints w B xs) (hc : B = none → c = 0)
    (hl : ts.length + xs.length ≤ 1000000) (hbase : base ≤ w.heap.size) (ty : TypeId) :
    ∃ v' w', (Builtin.append_ #[68, 68] ty #[v, .slice B xs.length c]).run Tryz.prog w = .ok v' w' ∧ ownI w' base v' (ts ++ xs) ∧ w.grownBy w' v.ownBlock ∧ (v'.ownBlock = v.ownBlock ∨ v'.ownBlock = some w.heap.size) := by
  obtain ⟨i0, hi, hz0, hz1, hz2⟩ := info_parts Tryz.infoInt
  rcases B with _ | ad
  · obtain rfl : xs = [] := by
      rcases xs with _ | ⟨x, xs⟩
      · rfl
      · obtain ⟨_, _, h, _⟩ := hx 0 x (by simp)
        cases h
    obtain rfl := hc rfl
    exact ⟨v, w, run_append_owned_none (P := Tryz.prog) w base 68 ty 3 i0 1 Tryz.underlying68 hi v _ _ hown, by simpa [ownI] using hown, World.grownBy.refl _ _, .inl rfl⟩
  · have hcell : ∀ j u, (xs.map (Value.int .i64))[j]? = some u → w.cell? (ad.add j) = some u := fun j u hu => by
      rw [List.getElem?_map] at hu
      rcases hq : xs[j]? with _ | x
      · simp [hq] at hu
      · obtain ⟨g, off, h, hcl⟩ := hx j x hq
        injection h with h
        subst h
        obtain rfl : Value.int .i64 x = u := by simpa [hq] using hu
        rw [Go.WideShapes.add_plain]
        exact hcl
    obtain ⟨v', w', hrun, h2, h3, _, h5⟩ := run_append_own_at (P := Tryz.prog) w base 68 ty 3 i0 (.int .i64 0) 1 8 Tryz.underlying68 hi hz0 hz1 hz2 rfl (by decide) v _ _ hown ad xs.length c (xs.map (Value.int .i64)) (by simp) hcell
      (fun u hu => by obtain ⟨x, _, rfl⟩ := List.mem_map.1 hu; simp [Value.oneCell']) (by unfold maxLen; omega) (by omega) hbase
    exact ⟨v', w', hrun, by simpa [ownI] using h2, h3, h5⟩

set_option maxRecDepth 100000 in
theorem step_app {ops : Array Oper} {o : Oper} {a : Act} {w : World} {K : Act → World → Prop} {Q : Exit → Act → World → Prop} {E : Prop} (hgd : o.guard = none) (s x : Operand)
    (ho : o.op = .call { callee := .builtin .append, args := #[s, x], argTypes := #[68, 68] })
    {base : Nat} {v : Value} {ts : List Int} (hs : a.eval s = v) (hown : ownI w base v ts) {B : Option Addr} {c m : Nat} {xs : List Int} (hv : a.eval x = .slice B m c) (hm : m = xs.length) (hx : Ints w B xs) (hc : B = none → c = 0)
    (hl : ts.length + xs.length ≤ 1000000) (hbase : base ≤ w.heap.size)
    (h : ∀ v' w', ownI w' base v' (ts ++ xs) → w.grownBy w' v.ownBlock → (v'.ownBlock = v.ownBlock ∨ v'.ownBlock = some w.heap.size) → K (a.put o.dst v') w') :
    if Region.wanted o (yielded ops a.tmps) = true then Oper.wp Tryz.prog o a w K Q else E := by
  subst hm
  have hw : Region.wanted o (yielded ops a.tmps) = true := by simp [Region.wanted, hgd]
  rw [if_pos hw]
  obtain ⟨v', w', hrun, h2, h3, h4⟩ := run_app w hown B c xs hx hc hl hbase o.type
  unfold Oper.wp execOp
  simp only [ho, resolve, invoke, builtin, Sem.run_bind, Sem.run_pure, Result.andThen_ok, List.map_toArray, List.map_cons, List.map_nil, hs, hv, hrun]
  exact h v' w' h2 h3 h4

end Go.Proofs.YtaoobliajgcdmaaGreat.Co

/-
  What the document's Rise gives back for any numbers: each once, rising.
-/
namespace Go.Proofs.YtaoobliajgcdmaaGreat.Co
open Go.RowKit

/-- What holds at the head of each outer round. -/
def RiseRel (w : World) (o : List Int) (v : Value) (wr : World) : Prop := ownI wr w.heap.size v o ∧ Below w.heap.size w wr
/-- All that stand ahead of place k are less than x. -/
def Less (o : List Int) (x : Int) (k : Nat) : Prop := ∀ j y, j < k → o[j]? = some y → y < x
theorem Less.next {o : List Int} {x y : Int} {k : Nat} (h : Less o x k) (hy : o[k]? = some y) (hlt : y < x) : Less o x (k + 1) := fun j z hj hz => by
  rcases Nat.lt_or_ge j k with h1 | h1
  · exact h j z h1 hz
  · obtain rfl : j = k := by omega
    rw [hy] at hz
    injection hz with hz
    omega

theorem belowN' {B : Nat} {a w : World} (h : Below B a w) (n : Nat) : Below B a (w.drewN n) := ⟨h.os, h.tape, h.output, h.size, h.block⟩
theorem own_le {w : World} {base : Nat} {A : Option Addr} {c : Nat} {l : List Int} (h : ownI w base (.slice A l.length c) l) : l.length ≤ c := by
  rcases h.2 with ⟨hv, h0⟩ | ⟨g, cap, cur, hv, _, _, hn, _⟩
  · omega
  · injection hv with _ _ hc
    omega

theorem abstract_world {P : Program} {code : Code} {Q : Exit → Act → World → Prop} {a : Act} {w : World} (R : World → Prop) (h0 : R w) (h : ∀ W, R W → Code.wp P code Q a W) : Code.wp P code Q a w := h w h0
theorem Ints.take {w : World} {A : Option Addr} {l : List Int} (h : Ints w A l) (k : Nat) : Ints w A (l.take k) := fun i x hx => by
  rcases Nat.lt_or_ge i k with hi | hi
  · rw [List.getElem?_take_of_lt hi] at hx
    exact h i x hx
  · rw [List.getElem?_take_eq_none hi] at hx
    cases hx
theorem Ints.drop {w : World} {g off : Nat} {l : List Int} (h : Ints w (some ⟨g, off, none⟩) l) (k : Nat) : Ints w (some ⟨g, off + k, none⟩) (l.drop k) := fun i x hx => by
  rw [List.getElem?_drop] at hx
  obtain ⟨g', off', e, hc⟩ := h (k + i) x hx
  injection e with e
  injection e with e1 e2
  subst e1 e2
  exact ⟨g, off + k, rfl, by rw [Nat.add_assoc]; exact hc⟩
theorem below_grown {a w w1 : World} {row : Option Nat} (h : Below a.heap.size a w) (hg : w.grownBy w1 row) (hr : ∀ r, row = some r → a.heap.size ≤ r) : Below a.heap.size a w1 := h.grown hg h.size hr
theorem own_empty {w : World} {b base : Nat} (h : w.heap[b]? = some (.cells #[] 3 (0, 0))) (hb : base ≤ b) : ownI w base (.slice (some ⟨b, 0, none⟩) 0 0) [] :=
  ⟨by simp, .inr ⟨b, 0, #[], rfl, hb, h, by simp, by simp [maxLen], by simp, by simp⟩⟩
theorem own_e1 (W : World) : ownI (W.alloc (.cells #[] 3)).drew W.heap.size (.slice (some ⟨W.heap.size, 0, none⟩) 0 0) [] := own_empty (heap_alloc_new W _) (Nat.le_refl _)
theorem own_e2 (W : World) (x : Int) : ownI ((W.alloc (.cells #[] 3)).alloc (.cells #[.int .i64 x] 3)).drew W.heap.size (.slice (some ⟨W.heap.size, 0, none⟩) 0 0) [] :=
  own_empty ((Below.heap_alloc (W.alloc (.cells #[] 3)) _ W.heap.size (by simp)).trans (heap_alloc_new W _)) (Nat.le_refl _)
theorem own_e3 (W : World) (x : Int) : ownI ((W.alloc (.cells #[.int .i64 x] 3)).alloc (.cells #[] 3)).drew W.heap.size (.slice (some ⟨W.heap.size + 1, 0, none⟩) 0 0) [] :=
  own_empty (w := ((W.alloc (.cells #[.int .i64 x] 3)).alloc (.cells #[] 3))) (by have := heap_alloc_new (W.alloc (.cells #[.int .i64 x] 3)) (.cells #[] 3); simpa using this) (by omega)
theorem ints_one (w : World) (x : Int) (t : TypeId) : Ints (w.alloc (.cells #[.int .i64 x] t)) (some ⟨w.heap.size, 0, none⟩) [x] := fun i y hy => by
  rcases i with _ | i
  · obtain rfl : x = y := by simpa using hy
    exact ⟨_, _, rfl, by simp [go_sem]⟩
  · simp at hy
theorem ints_cell {w : World} {b : Nat} {x : Int} (h : w.cell? ⟨b, 0, none⟩ = some (.int .i64 x)) : Ints w (some ⟨b, 0, none⟩) [x] := fun i y hy => by
  rcases i with _ | i
  · obtain rfl : x = y := by simpa using hy
    exact ⟨_, _, rfl, h⟩
  · simp at hy
theorem x_e2 {W w1 : World} {x : Int} (hg : ((W.alloc (.cells #[] 3)).alloc (.cells #[.int .i64 x] 3)).drew.grownBy w1 (Value.slice (some ⟨W.heap.size, 0, none⟩) 0 0).ownBlock) : Ints w1 (some ⟨W.heap.size + 1, 0, none⟩) [x] :=
  ints_cell (hg.cell (by simp [go_sem]) (by simp [Value.ownBlock]))
theorem x_e3 {W w1 : World} {x : Int} (hg : ((W.alloc (.cells #[.int .i64 x] 3)).alloc (.cells #[] 3)).drew.grownBy w1 (Value.slice (some ⟨W.heap.size + 1, 0, none⟩) 0 0).ownBlock) : Ints w1 (some ⟨W.heap.size, 0, none⟩) [x] :=
  ints_cell (hg.cell (by simp [go_sem]) (by simp [Value.ownBlock]))
theorem rise_own {w : World} {b b' : Nat} {v : Value} {ts : List Int} (hb : b ≤ b') (h : ownI w b' v ts) : ownI w b v ts := by
  refine ⟨h.1, ?_⟩
  rcases h.2 with h2 | ⟨g, cap, cur, hv, hg, r⟩
  · exact .inl h2
  · exact .inr ⟨g, cap, cur, hv, by omega, r⟩
theorem own_nil_cap {w : World} {base : Nat} {A : Option Addr} {c : Nat} {l : List Int} (h : ownI w base (.slice A l.length c) l) : A = none → c = 0 := by
  rintro rfl
  rcases h.2 with ⟨hv, h0⟩ | ⟨g, cap, cur, hv, _⟩
  · injection hv
  · injection hv with h
    cases h

set_option maxHeartbeats 4000000 in
theorem rise_any (A : Option Addr) (c : Nat) (zs : List Int) (w : World) (hz : Ints w A zs) (hn : zs.length ≤ 1000) :
    Calls Tryz.prog 41 #[.slice A zs.length c] w fun e w' => ∃ v, e = .returned v ∧ ownI w' w.heap.size v (riseL zs) ∧ Below w.heap.size w w' := by
  have HZ := Lib.hid hz
  clear hz
  obtain ⟨n, hnm⟩ : ∃ n, n = zs.length := ⟨_, rfl⟩
  rw [← hnm]
  have hn' : n ≤ 1000 := by omega
  have HN := Lib.hid hnm
  clear hnm hn
  go_enter Tryz.func41, Tryz.ntmps41
  go_wp2_with fail
  go_loopw [3, 4] (fun v i wr => ∃ k : Nat, k ≤ n ∧ i = .int .i64 k ∧ RiseRel w (riseL (zs.take k)) v wr) (fun _ i _ => n - (intOf i).toNat)
  case atStart => exact ⟨0, Nat.zero_le _, rfl, World.ownsRow_nil _ _ _ _, Below.refl _ _⟩
  case round =>
    obtain ⟨i, hi, rfl, hown, hB⟩ := hrel
    obtain ⟨o, ho⟩ : ∃ o, riseL (zs.take i) = o := ⟨_, rfl⟩
    have hol : o.length ≤ 1000 := by rw [← ho]; have := riseL_length (zs.take i); have := List.length_take_le i zs; omega
    rw [ho] at hown
    have HO := Lib.hid ho
    clear ho
    obtain ⟨wo, hwo⟩ : ∃ wo : World, wo = wr := ⟨_, rfl⟩
    subst hwo
    by_cases hlt : i < n
    · obtain ⟨x, hx⟩ : ∃ x, zs[i]? = some x := ⟨_, List.getElem?_eq_getElem (by have := HN.out; omega)⟩
      obtain ⟨g, off, rfl, c0⟩ := HZ.out i x hx
      have hg := lt_of_cell c0
      have c1 : wo.cell? ⟨g, off + i, none⟩ = some (.int .i64 x) := (hB.cell (p := ⟨g, off + i, none⟩) hg).trans c0
      have hnx : riseL (zs.take (i + 1)) = insU x o := by rw [List.take_add_one, hx, Option.toList_some, riseL_snoc, HO.out]
      have HNX := Lib.hid hnx
      clear hnx hx c0
      obtain ⟨B, cb, rfl, hoi⟩ := own_ints hown
      have HOI := Lib.hid hoi
      have HOWN := Lib.hid hown
      clear hoi hown
      go_wp2_with fail
      go_loopw [5] (fun kk wr => ∃ k : Nat, k ≤ o.length ∧ kk = .int .i64 k ∧ Less o x k ∧ ∃ q, wr = wo.drewN q) (fun kk _ => o.length - (intOf kk).toNat)
      case atStart => exact ⟨0, Nat.zero_le _, rfl, fun j y hj => absurd hj (by omega), 0, rfl⟩
      case round =>
        obtain ⟨k, hk, rfl, hless, q, rfl⟩ := hrel
        have HLS := Lib.hid hless
        clear hless
        by_cases hko : k < o.length
        · obtain ⟨y, hy⟩ : ∃ y, o[k]? = some y := ⟨_, List.getElem?_eq_getElem hko⟩
          obtain ⟨g', off', rfl, d0⟩ := HOI.out k y hy
          have HY := Lib.hid hy
          clear hy
          by_cases hyx : y < x
          · go_wp2_with fail
            go_quiet (fail)
            go_wp2_with fail
            go_roundw
            case rel => exact ⟨k + 1, by omega, by go_num, HLS.out.next HY.out hyx, _, rfl⟩
            case measure => simp [intOf]; omega
          · have hd : decide (y < x) = false := by simpa using hyx
            by_cases hxy : y = x
            · have hq : (y == x) = true := by simpa using hxy
              go_wp2_with fail
              go_quiet (fail)
              go_wp2_with fail
              go_quiet (fail)
              go_wp2_with fail
              go_roundw
              case rel => exact ⟨i + 1, by omega, by go_num, by rw [HNX.out, insU_same HLS.out (by rw [HY.out, hxy])]; exact HOWN.out, belowN' hB _⟩
              case measure => simp [intOf]; omega
            · have hq : (y == x) = false := by simpa using hxy
              go_wp2_with fail
              go_quiet (fail)
              go_wp2_with fail
              go_quiet (fail)
              go_wp2_with fail
              have hge : ∀ z, o[k]? = some z → x < z := fun z hz => by rw [HY.out] at hz; injection hz with hz; omega
              have HGE := Lib.hid hge
              clear hge
              refine abstract_world (fun W => Below w.heap.size w W ∧ Ints W (some ⟨g', off', none⟩) o ∧ W.cell? ⟨g, off + i, none⟩ = some (.int .i64 x)) ⟨belowN' (belowN' (belowN' hB _) _) _, HOI.out, c1⟩ ?_
              rintro W ⟨hBW, hOW, cW⟩
              have hcap := own_le HOWN.out
              have k0 : (0 : Int) ≤ (k : Int) := by omega
              have k1 : (k : Int) ≤ (o.length : Int) := by omega
              have k2 : (o.length : Int) ≤ (cb : Int) := by omega
              have k3 : (k : Int) ≤ (cb : Int) := by omega
              have hkc : ¬ cb = k := by omega
              have hcn : some (⟨g', off', none⟩ : Addr) = none → cb = 0 := by simp
              have hcn' : some (⟨g', off' + k, none⟩ : Addr) = none → cb - k = 0 := by simp
              have hT : Ints W (some ⟨g', off' + k, none⟩) (o.drop k) := hOW.drop k
              have mk : ∀ w', Below W.heap.size W w' → (Below W.heap.size W w' ∧ w'.cell? ⟨g, off + i, none⟩ = some (.int .i64 x)) := fun w' h => ⟨h, (h.cell (p := ⟨g, off + i, none⟩) (lt_of_cell cW)).trans cW⟩
              have MK := Lib.hid mk
              clear mk
              have HHD := Lib.hid (hOW.take k)
              have HTL := Lib.hid hT
              clear hOW hT
              go_region_held3 (fun w' => Below W.heap.size W w' ∧ w'.cell? ⟨g, off + i, none⟩ = some (.int .i64 x))
                (first | exact MK.out _ ((Below.refl _ _).drew) | exact MK.out _ hb3 | exact MK.out _ hb2 | exact MK.out _ (hb1.alloc hb1.size _) | exact MK.out _ hb1 | exact MK.out _ (by go_grown))
                (first
                  | (refine step_app rfl (.tmp 44) (.tmp 47) rfl (base := W.heap.size) rfl (own_e1 W) rfl (List.length_take_of_le hk).symm (HHD.out.below (by go_split_ands; assumption)) hcn (by simp; omega) (by simp) ?_; intro v1 w1 hown1 hg1 hat1; have hb1 : Below W.heap.size W w1 := below_grown (by go_split_ands; assumption) hg1 (fun r hr => ((own_e1 W).lt r hr).1))
                  | (refine step_app rfl (.tmp 44) (.tmp 47) rfl (base := W.heap.size) rfl (own_e2 W x) rfl (List.length_take_of_le hk).symm (HHD.out.below (by go_split_ands; assumption)) hcn (by simp; omega) (by simp; omega) ?_; intro v1 w1 hown1 hg1 hat1; have hb1 : Below W.heap.size W w1 := below_grown (by go_split_ands; assumption) hg1 (fun r hr => ((own_e2 W x).lt r hr).1); have HX1 := Lib.hid (x_e2 hg1))
                  | (refine step_app rfl (.tmp 44) (.tmp 47) rfl (base := W.heap.size) rfl (own_e3 W x) rfl (List.length_take_of_le hk).symm (HHD.out.below (by go_split_ands; assumption)) hcn (by simp; omega) (by simp; omega) ?_; intro v1 w1 hown1 hg1 hat1; have hb1 : Below W.heap.size W w1 := below_grown (by go_split_ands; assumption) hg1 (fun r hr => ((own_e3 W x).lt r hr).1); have HX1 := Lib.hid (x_e3 hg1))
                  | (refine step_app rfl (.tmp 48) (.tmp 53) rfl (base := W.heap.size) rfl (World.ownsRow.alloc hown1 _) rfl rfl (ints_one w1 x _) (by simp) (by simp; omega) (by have := hb1.size; simp; omega) ?_; intro v2 w2 hown2 hg2 hat2; have hb2 : Below W.heap.size W w2 := below_grown (hb1.alloc hb1.size _) hg2 (fun r hr => (hown1.lt r hr).1))
                  | (refine step_app rfl (.tmp 48) (.tmp 53) rfl (base := W.heap.size) rfl hown1 rfl rfl HX1.out (by simp) (by simp; omega) hb1.size ?_; intro v2 w2 hown2 hg2 hat2; have hb2 : Below W.heap.size W w2 := below_grown hb1 hg2 (fun r hr => (hown1.lt r hr).1))
                  | (refine step_app rfl (.tmp 54) (.tmp 57) rfl (base := W.heap.size) rfl hown2 rfl (List.length_drop ..).symm (HTL.out.below hb2) hcn' (by simp; omega) hb2.size ?_; intro v3 w3 hown3 hg3 hat3; have hb3 : Below W.heap.size W w3 := below_grown hb2 hg3 (fun r hr => (hown2.lt r hr).1)))
              all_goals
                go_wp2_with fail
                go_roundw
                case rel => exact ⟨i + 1, by omega, by go_num, by rw [HNX.out, insU_at HLS.out hk HGE.out]; exact rise_own hBW.size (by rw [show o.take k ++ x :: o.drop k = [] ++ o.take k ++ [x] ++ o.drop k from by simp]; exact hown3), hBW.trans (hb3.mono hBW.size)⟩
                case measure => simp [intOf]; omega
        · obtain rfl : k = o.length := by omega
          have hge : ∀ z, o[o.length]? = some z → x < z := fun z hz => by simp at hz
          have HGE := Lib.hid hge
          clear hge
          have hd : decide (o.length < o.length) = false := by simp
          go_wp2_with fail
          go_quiet (fail)
          go_wp2_with fail
          go_quiet (fail)
          go_wp2_with fail
          refine abstract_world (fun W => Below w.heap.size w W ∧ Ints W B o ∧ W.cell? ⟨g, off + i, none⟩ = some (.int .i64 x)) ⟨belowN' (belowN' (belowN' hB _) _) _, HOI.out, c1⟩ ?_
          rintro W ⟨hBW, hOW, cW⟩
          have hcap := own_le HOWN.out
          have hcn := own_nil_cap HOWN.out
          have HCN := Lib.hid hcn
          clear hcn
          have k0 : (0 : Int) ≤ (o.length : Int) := by omega
          have k2 : (o.length : Int) ≤ (cb : Int) := by omega
          by_cases hkc : cb = o.length
          · subst hkc
            have hT : Ints W B ([] : List Int) := Ints.nil _ _
            have hcn' : B = none → o.length - o.length = 0 := fun _ => by omega
            have mk : ∀ w', Below W.heap.size W w' → (Below W.heap.size W w' ∧ w'.cell? ⟨g, off + i, none⟩ = some (.int .i64 x)) := fun w' h => ⟨h, (h.cell (p := ⟨g, off + i, none⟩) (lt_of_cell cW)).trans cW⟩
            have MK := Lib.hid mk
            clear mk
            have HHD := Lib.hid (hOW.take o.length)
            have HTL := Lib.hid hT
            clear hOW hT
            go_region_held3 (fun w' => Below W.heap.size W w' ∧ w'.cell? ⟨g, off + i, none⟩ = some (.int .i64 x))
              (first | exact MK.out _ ((Below.refl _ _).drew) | exact MK.out _ hb3 | exact MK.out _ hb2 | exact MK.out _ (hb1.alloc hb1.size _) | exact MK.out _ hb1 | exact MK.out _ (by go_grown))
              (first
                | (refine step_app rfl (.tmp 44) (.tmp 47) rfl (base := W.heap.size) rfl (own_e1 W) rfl (List.length_take_of_le hk).symm (HHD.out.below (by go_split_ands; assumption)) HCN.out (by simp; omega) (by simp) ?_; intro v1 w1 hown1 hg1 hat1; have hb1 : Below W.heap.size W w1 := below_grown (by go_split_ands; assumption) hg1 (fun r hr => ((own_e1 W).lt r hr).1))
                | (refine step_app rfl (.tmp 44) (.tmp 47) rfl (base := W.heap.size) rfl (own_e2 W x) rfl (List.length_take_of_le hk).symm (HHD.out.below (by go_split_ands; assumption)) HCN.out (by simp; omega) (by simp; omega) ?_; intro v1 w1 hown1 hg1 hat1; have hb1 : Below W.heap.size W w1 := below_grown (by go_split_ands; assumption) hg1 (fun r hr => ((own_e2 W x).lt r hr).1); have HX1 := Lib.hid (x_e2 hg1))
                | (refine step_app rfl (.tmp 44) (.tmp 47) rfl (base := W.heap.size) rfl (own_e3 W x) rfl (List.length_take_of_le hk).symm (HHD.out.below (by go_split_ands; assumption)) HCN.out (by simp; omega) (by simp; omega) ?_; intro v1 w1 hown1 hg1 hat1; have hb1 : Below W.heap.size W w1 := below_grown (by go_split_ands; assumption) hg1 (fun r hr => ((own_e3 W x).lt r hr).1); have HX1 := Lib.hid (x_e3 hg1))
                | (refine step_app rfl (.tmp 48) (.tmp 53) rfl (base := W.heap.size) rfl (World.ownsRow.alloc hown1 _) rfl rfl (ints_one w1 x _) (by simp) (by simp; omega) (by have := hb1.size; simp; omega) ?_; intro v2 w2 hown2 hg2 hat2; have hb2 : Below W.heap.size W w2 := below_grown (hb1.alloc hb1.size _) hg2 (fun r hr => (hown1.lt r hr).1))
                | (refine step_app rfl (.tmp 48) (.tmp 53) rfl (base := W.heap.size) rfl hown1 rfl rfl HX1.out (by simp) (by simp; omega) hb1.size ?_; intro v2 w2 hown2 hg2 hat2; have hb2 : Below W.heap.size W w2 := below_grown hb1 hg2 (fun r hr => (hown1.lt r hr).1))
                | (refine step_app rfl (.tmp 54) (.tmp 57) rfl (base := W.heap.size) rfl hown2 rfl rfl (Ints.nil _ _) (by simp) (by simp; omega) hb2.size ?_; intro v3 w3 hown3 hg3 hat3; have hb3 : Below W.heap.size W w3 := below_grown hb2 hg3 (fun r hr => (hown2.lt r hr).1)))
            all_goals
              go_wp2_with fail
              go_roundw
              case rel => exact ⟨i + 1, by omega, by go_num, by rw [HNX.out, insU_at HLS.out hk HGE.out]; exact rise_own hBW.size (by rw [show o.take o.length ++ x :: o.drop o.length = [] ++ o.take o.length ++ [x] ++ [] from by simp]; exact hown3), hBW.trans (hb3.mono hBW.size)⟩
              case measure => simp [intOf]; omega
          · have hT : Ints W (B.map (·.add o.length)) ([] : List Int) := Ints.nil _ _
            have hcn' : B.map (·.add o.length) = none → cb - o.length = 0 := fun e => by
              have := HCN.out (by simpa using e)
              omega
            have mk : ∀ w', Below W.heap.size W w' → (Below W.heap.size W w' ∧ w'.cell? ⟨g, off + i, none⟩ = some (.int .i64 x)) := fun w' h => ⟨h, (h.cell (p := ⟨g, off + i, none⟩) (lt_of_cell cW)).trans cW⟩
            have MK := Lib.hid mk
            clear mk
            have HHD := Lib.hid (hOW.take o.length)
            have HTL := Lib.hid hT
            clear hOW hT
            go_region_held3 (fun w' => Below W.heap.size W w' ∧ w'.cell? ⟨g, off + i, none⟩ = some (.int .i64 x))
              (first | exact MK.out _ ((Below.refl _ _).drew) | exact MK.out _ hb3 | exact MK.out _ hb2 | exact MK.out _ (hb1.alloc hb1.size _) | exact MK.out _ hb1 | exact MK.out _ (by go_grown))
              (first
                | (refine step_app rfl (.tmp 44) (.tmp 47) rfl (base := W.heap.size) rfl (own_e1 W) rfl (List.length_take_of_le hk).symm (HHD.out.below (by go_split_ands; assumption)) HCN.out (by simp; omega) (by simp) ?_; intro v1 w1 hown1 hg1 hat1; have hb1 : Below W.heap.size W w1 := below_grown (by go_split_ands; assumption) hg1 (fun r hr => ((own_e1 W).lt r hr).1))
                | (refine step_app rfl (.tmp 44) (.tmp 47) rfl (base := W.heap.size) rfl (own_e2 W x) rfl (List.length_take_of_le hk).symm (HHD.out.below (by go_split_ands; assumption)) HCN.out (by simp; omega) (by simp; omega) ?_; intro v1 w1 hown1 hg1 hat1; have hb1 : Below W.heap.size W w1 := below_grown (by go_split_ands; assumption) hg1 (fun r hr => ((own_e2 W x).lt r hr).1); have HX1 := Lib.hid (x_e2 hg1))
                | (refine step_app rfl (.tmp 44) (.tmp 47) rfl (base := W.heap.size) rfl (own_e3 W x) rfl (List.length_take_of_le hk).symm (HHD.out.below (by go_split_ands; assumption)) HCN.out (by simp; omega) (by simp; omega) ?_; intro v1 w1 hown1 hg1 hat1; have hb1 : Below W.heap.size W w1 := below_grown (by go_split_ands; assumption) hg1 (fun r hr => ((own_e3 W x).lt r hr).1); have HX1 := Lib.hid (x_e3 hg1))
                | (refine step_app rfl (.tmp 48) (.tmp 53) rfl (base := W.heap.size) rfl (World.ownsRow.alloc hown1 _) rfl rfl (ints_one w1 x _) (by simp) (by simp; omega) (by have := hb1.size; simp; omega) ?_; intro v2 w2 hown2 hg2 hat2; have hb2 : Below W.heap.size W w2 := below_grown (hb1.alloc hb1.size _) hg2 (fun r hr => (hown1.lt r hr).1))
                | (refine step_app rfl (.tmp 48) (.tmp 53) rfl (base := W.heap.size) rfl hown1 rfl rfl HX1.out (by simp) (by simp; omega) hb1.size ?_; intro v2 w2 hown2 hg2 hat2; have hb2 : Below W.heap.size W w2 := below_grown hb1 hg2 (fun r hr => (hown1.lt r hr).1))
                | (refine step_app rfl (.tmp 54) (.tmp 57) rfl (base := W.heap.size) rfl hown2 rfl rfl (Ints.nil _ _) hcn' (by simp; omega) hb2.size ?_; intro v3 w3 hown3 hg3 hat3; have hb3 : Below W.heap.size W w3 := below_grown hb2 hg3 (fun r hr => (hown2.lt r hr).1)))
            all_goals
              go_wp2_with fail
              go_roundw
              case rel => exact ⟨i + 1, by omega, by go_num, by rw [HNX.out, insU_at HLS.out hk HGE.out]; exact rise_own hBW.size (by rw [show o.take o.length ++ x :: o.drop o.length = [] ++ o.take o.length ++ [x] ++ [] from by simp]; exact hown3), hBW.trans (hb3.mono hBW.size)⟩
              case measure => simp [intOf]; omega
    · have hall : riseL zs = o := by rw [← HO.out, List.take_of_length_le (by have := HN.out; omega)]
      have HALL := Lib.hid hall
      clear hall
      go_wp2_with fail
      go_ret
      exact ⟨_, rfl, by rw [HALL.out]; exact hown, hB⟩

end Go.Proofs.YtaoobliajgcdmaaGreat.Co

/-
  The program's Over: the last value of each name in a map, its entries put in order by names.
-/
namespace Go.Proofs.YtaoobliajgcdmaaGreat
open Go.RowKit

set_option maxHeartbeats 4000000 in
set_option maxRecDepth 100000 in
theorem pover_typed (w : World) (A : Option Addr) (c : Nat) (L : List (List Fd)) (hL : RowsF w A L) (hT : L.flatten.length ≤ 20000) (hn : L.length ≤ 200) (hok : ∀ l ∈ L, okF l) :
    Calls Tryz.prog 68 #[.slice A L.length c] w fun e w' => ∃ v, e = .returned v ∧ ListF w' v (overL L.flatten) ∧ Below w.heap.size w w' ∧ TyF w' v := by
  have hmm := @run_makeMap Tryz.prog
  obtain ⟨all, hall⟩ : ∃ all, L.flatten = all := ⟨_, rfl⟩
  rw [hall] at hT ⊢
  have HALL := Lib.hid hall
  have HL := Lib.hid hL
  have HT := Lib.hid hT
  have HOK := Lib.hid hok
  obtain ⟨n, hnm⟩ : ∃ n, L.length = n := ⟨_, rfl⟩
  rw [hnm] at hn ⊢
  have HN := Lib.hid hnm
  clear hL hT hnm hok hall
  go_enter Tryz.func68, Tryz.ntmps68
  go_wp2_with fail
  go_loopw [14] (fun i wr => ∃ (k : Nat) (D : DataW Unit), k ≤ n ∧ i = .int .i64 k ∧ OM w (L.take k).flatten D wr) (fun i _ => n - (intOf i).toNat)
  case atStart => exact ⟨0, _, Nat.zero_le _, rfl, OM.nil w⟩
  case round =>
    obtain ⟨k, D0, hk, rfl, hM0⟩ := hrel
    have HM0 := Lib.hid hM0
    clear hM0
    by_cases hlt : k < n
    · have hlt' : (k : Int) < (n : Int) := by omega
      obtain ⟨row, hrow⟩ : ∃ row, L[k]? = some row := ⟨_, List.getElem?_eq_getElem (by have := HN.out; omega)⟩
      obtain ⟨g, off, v, rfl, cv, B, d, rfl, hF, hcd, hnd⟩ := HL.out k row hrow
      have cv1 := keepc HM0.out.bel cv
      have HF := Lib.hid hF
      have HROW := Lib.hid hrow
      have HOKR := Lib.hid (HOK.out row (List.mem_of_getElem? hrow))
      obtain ⟨m, hm⟩ : ∃ m, row.length = m := ⟨_, rfl⟩
      have hm63 : m ≤ 20000 := by
        have := flat_pre hrow m
        rw [List.length_append, ← hm, List.take_length, HALL.out] at this
        have := HT.out
        omega
      have HM := Lib.hid hm
      rw [hm] at cv1
      clear cv hF hrow hm hcd hnd
      go_wp2_with fail
      go_loopw [20] (fun j wr' => ∃ (t : Nat) (D : DataW Unit), t ≤ m ∧ j = .int .i64 t ∧ OM w ((L.take k).flatten ++ row.take t) D wr') (fun j _ => m - (intOf j).toNat)
      case atStart => exact ⟨0, _, Nat.zero_le _, rfl, by rw [List.take_zero, List.append_nil]; exact HM0.out⟩
      case round =>
        obtain ⟨t, D, ht, rfl, hM⟩ := hrel
        have HMD := Lib.hid hM
        clear hM
        by_cases hlt2 : t < m
        · have hlt2' : (t : Int) < (m : Int) := by omega
          obtain ⟨f, hf⟩ : ∃ f, row[t]? = some f := ⟨_, List.getElem?_eq_getElem (by have := HM.out; omega)⟩
          obtain ⟨g2, off2, rfl, c0, c1⟩ := (HF.out.below HMD.out.bel) t f hf
          have HX := Lib.hid (show (L.take k).flatten ++ row.take t ++ [f] = (L.take k).flatten ++ row.take (t + 1) by
            rw [List.take_add_one, hf, Option.toList_some, List.append_assoc])
          have HLEN := Lib.hid (show ((L.take k).flatten ++ row.take t).length < maxLen by
            have h2 := flat_pre HROW.out t
            rw [HALL.out] at h2
            have := HT.out
            unfold maxLen
            omega)
          have HKEY := Lib.hid (WideMaps.keyOf_string_mk Tryz.underlying9 (s := f.n) (by have := HOKR.out f (List.mem_of_getElem? hf); unfold maxLen; omega))
          clear hf
          go_wp2_with (first
            | (at_mapUpdate; refine wpList_mapUpdate_own _ rfl _ _ _ MT rfl KT VT keyS Tryz.underlying121 anyI w.heap.size _ D rfl (HMD.out.alloc _).map HLEN.out _ _ _ rfl rfl HKEY.out (.lit (.int .i64 f.v)) [] rfl ?_; intro w1 hown1 hgrow1)
            | go_in)
          have NX := Lib.hid ((HMD.out.alloc _).put hown1 hgrow1)
          clear hown1 hgrow1
          go_wp2_with fail
          exact ⟨⟨t + 1, _, by omega, by go_num, by rw [← HX.out]; exact NX.out⟩, by simp [intOf] <;> omega⟩
        · obtain rfl : t = m := by omega
          have hlt2' : ¬ (t : Int) < (t : Int) := by omega
          have HX := Lib.hid (show (L.take k).flatten ++ row.take t = (L.take (k + 1)).flatten by
            rw [flat_next HROW.out, List.take_of_length_le (l := row) (by have := HM.out; omega)])
          go_wp2_with fail
          exact ⟨⟨k + 1, D, by omega, by go_num, by rw [← HX.out]; exact HMD.out⟩, by simp [intOf] <;> omega⟩
    · obtain rfl : k = n := by omega
      have hlt' : ¬ (k : Int) < (k : Int) := by omega
      have HX := Lib.hid (show (L.take k).flatten = all by rw [List.take_of_length_le (by have := HN.out; omega), HALL.out])
      rw [HX.out] at HM0
      have HS := Lib.hid (map_size HM0.out.map)
      go_wp2_with (first
        | (at_range; refine wpList_range_own _ rfl _ MT rfl KT VT keyS Tryz.underlying121 anyI w.heap.size _ D0 rfl HM0.out.map ?_; intro w0 hrg0 hg0 hs0)
        | go_in)
      have HG0 := Lib.hid hg0
      have HR0 := Lib.hid hrg0
      obtain ⟨r, hr⟩ : ∃ r, wr.heap.size = r := ⟨_, rfl⟩
      rw [hr] at HR0 ⊢
      have HRZ := Lib.hid (show w.heap.size ≤ r by rw [← hr]; exact HM0.out.bel.size)
      have HB0 := Lib.hid (show Below w.heap.size w w0 from HM0.out.bel.grown hg0 HM0.out.bel.size (fun j hj => by cases hj))
      clear hg0 hrg0 hs0 hr
      go_loopw [8] (fun o wr => ∃ (left : Lit → Bool) (cnt : Nat) (acc : List Fd), wr.ranges Tryz.prog KT anyI w.heap.size r all.length D0 left cnt ∧ acc.length + cnt ≤ all.length ∧ OF w acc o wr ∧ Got all left acc) (fun _ wr => wr.rangeLeft w.heap.size r)
      case atStart => exact ⟨_, _, [], HR0.out, by have := HS.out; simpa using this, (OF.nil w).below HB0.out, Got.start HM0.out.says⟩
      case round =>
        obtain ⟨left, cnt, acc, hrg, hcs, hO, hG⟩ := hrel
        have HO := Lib.hid hO
        have HGT := Lib.hid hG
        have HRG := Lib.hid hrg
        have HCS := Lib.hid hcs
        clear hO hG hrg hcs
        go_wp2_with (first
          | (at_next; refine wpList_next_ranges _ rfl _ rfl KT keyS anyI (fun s : ByteArray => Value.string s) (Value.int .i64) keyS_inv anyI_inv w.heap.size r all.length D0 left cnt rfl HRG.out ?_ ?_)
          | go_in)
        · intro hc0 hl0
          have HL0 := Lib.hid hl0
          have CS := Lib.hid (sort_fieldsT wr HO.out.own (by have := HCS.out; have := HT.out; omega) HO.out.bel.size)
          clear hl0 hc0
          go_wp2_with (go_at_call 87; (with_reducible refine CS.out.mono ?_); rintro e w2 ⟨⟨rfl, m, hp, hs, hl2, hb2⟩, hty⟩)
          go_ret
          exact ⟨_, rfl, by rw [← HGT.out.done HL0.out hp hs]; exact hl2, HO.out.bel.trans hb2, hty⟩
        · intro x c kl yd yp w1 cnt1 hkey hlk hv hat hrg1 hcl hg1 hs1 hen
          have ekl := keyS_lit hkey
          subst ekl
          have ey : ((DataW.lit (.int .i64 c), []) : DataW Unit × List MemPlace) = (yd, yp) := Option.some.inj hv
          injection ey with ey1 ey2
          subst ey1
          have HGT1 := Lib.hid (HGT.out.step HM0.out.says hlk hat)
          have HO1 := Lib.hid (HO.out.other hg1 (ne_iter HO.out.own HRG.out).1 (fun j hj => by cases hj; exact HRZ.out))
          have HO2 := Lib.hid (HO1.out.below ((bl w1).alloc (Nat.le_refl _) (oc ⟨x, c⟩)))
          have HR2 := Lib.hid (hrg1.alloc (oc ⟨x, c⟩))
          have HLT := Lib.hid hcl
          clear hrg1 hg1 hs1 hkey hlk hv hat hcl
          go_wp2_with (first
            | (at_builtin; refine wpList_appF rfl (.tmp 38) (.tmp 42) rfl rfl HO2.out.own rfl rfl (field_one w1 ⟨x, c⟩ FT) (by simp) (by have := HCS.out; have := HT.out; simp; omega) HO2.out.bel.size ?_; intro v' w3 hown3 hg3; have HN3 := Lib.hid (HO2.out.grown hg3 hown3); have HR3 := Lib.hid (HR2.out.kept hg3 (fun e => (ne_iter HO2.out.own HR2.out).2 e.symm) (fun e => (ne_iter HO2.out.own HR2.out).1 e.symm)); clear hown3 hg3)
            | go_in)
          go_roundw
          case rel => exact ⟨_, cnt1, acc ++ [⟨x, c⟩], HR3.out, by have := HCS.out; have := HLT.out; simp; omega, HN3.out, HGT1.out⟩
          case measure => rw [HR3.out.left_eq, HRG.out.left_eq]; exact HLT.out

theorem pover_any (w : World) (A : Option Addr) (c : Nat) (L : List (List Fd)) (hL : RowsF w A L) (hT : L.flatten.length ≤ 20000) (hn : L.length ≤ 200) (hok : ∀ l ∈ L, okF l) :
    Calls Tryz.prog 68 #[.slice A L.length c] w fun e w' => ∃ v, e = .returned v ∧ ListF w' v (overL L.flatten) ∧ Below w.heap.size w w' := (pover_typed w A c L hL hT hn hok).mono fun _ _ ⟨v, h1, h2, h3, _⟩ => ⟨v, h1, h2, h3⟩

end Go.Proofs.YtaoobliajgcdmaaGreat

/-
  The program's Setter: the newest version that sets a name, found in one walk over the versions as they stand.
-/
namespace Go.Proofs.YtaoobliajgcdmaaGreat
open Go.RowKit

theorem counts_any (v : Vr) (w : World) : Calls Tryz.prog 82 #[vv v] w fun e w' => e = .returned (.bool (!v.gone)) ∧ w' = w.alloc (ocV v) := by
  obtain ⟨id, st, ent, sf, se, fa, fc, fs, gone⟩ := v
  cases gone
  all_goals
    go_enter Tryz.func82, Tryz.ntmps82
    go_wp2_with fail
    go_ret
    exact ⟨rfl, rfl⟩

theorem lastS_mem : ∀ {O : List Vr} {s : ByteArray} {n : Int}, lastS O s = some n → ∃ v ∈ O, v.st = n
  | [], _, _, h => by simp [lastS] at h
  | v :: O, s, n, h => by
    rw [lastS] at h
    cases hr : lastS O s with
    | some m =>
      rw [hr] at h
      obtain ⟨x, hx, e⟩ := lastS_mem hr
      exact ⟨x, List.mem_cons_of_mem _ hx, e.trans (Option.some.inj h)⟩
    | none =>
      rw [hr] at h
      by_cases hb : setsB v s = true
      · simp only [if_pos hb, Option.some.injEq] at h
        exact ⟨v, List.mem_cons_self, h⟩
      · simp [if_neg hb] at h
/-- One version more. -/
def nextS (T : Option Int) (x : Vr) (s : ByteArray) : Option Int := if setsB x s then (match T with | some n => if n ≤ x.st then some x.st else some n | none => some x.st) else T
theorem lastS_ins : ∀ (O : List Vr) (x : Vr) (s : ByteArray), SortedV O → lastS (insV O x) s = nextS (lastS O s) x s
  | [], x, s, _ => by simp [insV, lastS, nextS]
  | y :: O, x, s, h => by
    obtain ⟨h1, h2⟩ := List.pairwise_cons.1 h
    rw [insV]
    split
    · rename_i hle
      rw [lastS, lastS_ins O x s h2, lastS]
      unfold nextS
      by_cases hb : setsB x s = true
      · rw [if_pos hb, if_pos hb]
        cases lastS O s with
        | some n => by_cases hn : n ≤ x.st <;> simp [hn]
        | none =>
          simp only []
          by_cases hy : setsB y s = true
          · simp [if_pos hy, hle]
          · simp [if_neg hy]
      · rw [if_neg hb, if_neg hb]
    · rename_i hgt
      rw [lastS]
      unfold nextS
      cases hr : lastS (y :: O) s with
      | none => simp only []
      | some n =>
        obtain ⟨z, hz, e⟩ := lastS_mem hr
        have : x.st < n := by
          rw [← e]
          rcases List.mem_cons.1 hz with rfl | hz
          · omega
          · have := h1 z hz; omega
        simp only []
        rw [if_neg (by omega : ¬ n ≤ x.st)]
        split <;> rfl
theorem setL_next {l : List Vr} {k : Nat} {x : Vr} (h : l[k]? = some x) (s : ByteArray) : setL s (l.take (k + 1)) = nextS (setL s (l.take k)) x s := by
  unfold setL
  rw [List.take_add_one, h, Option.toList_some, ordL_snoc, lastS_ins _ _ _ (ordL_sorted _)]

end Go.Proofs.YtaoobliajgcdmaaGreat
