/-
  Texts joined into one: what the program's and the document's calls give back, piece by piece.
-/
import Derived.Test.YtmhddpgeiijhgaaMg1
import Derived.Test.YtmhddpgeiijhgaaRows
import Derived.BigQuiet
import Derived.ChangeAlike
import Derived.ChangeKeysEq
import Derived.Deep.AppendLies
import Derived.Deep.CutBlock
import Derived.Deep.CutRange
import Derived.Deep.Light
import Derived.Deep.QuietTactic
import Derived.Deep.RegionHeld3
import Derived.Deep.RegionLaw
import Derived.Handy
import Derived.Laws.BytesArg
import Derived.Laws.OwnMore
import Derived.Laws.Strings
import Derived.Laws.StructEq
import Derived.Lib.Hide
import Derived.Maps.AppendAt
import Derived.OneCell
import Derived.OwnWalk
import Derived.RegionTactic
import Derived.StillTailTactics
import Derived.WalkArith
import Derived.WalkKit
import Derived.WalkLawsBesides
import Derived.WalkSpells
import Derived.Test.YtmhddpgeiijhgaaChecked
import Derived.ChangeMaps5
import Derived.Deep.SlicePairs
import Derived.Lib.SmallJoins
import Derived.OpenShut
import Derived.ProofKit
import Derived.SizedLaws

/-
  Plain facts on timelines: lists of pieces, what they have at a time, pieces put behind each other.
-/
namespace Go.Proofs.Ytmhddpgeiijhgaa

/-- A piece; where its fields lie (fa, fc) is no part of what it says. -/
structure Pc where
  f : Int
  t : Int
  fa : Option Addr
  fc : Nat
  fs : List Fd
abbrev sayP (p : Pc) : Int × Int × List Fd := (p.f, p.t, p.fs)
/-- Do two pieces, two lists of them, say the same? -/
def sameP1 (p q : Pc) : Bool := (decide (p.f = q.f) && decide (p.t = q.t)) && sameF p.fs q.fs
def sameP : List Pc → List Pc → Bool
  | [], [] => true
  | p :: l, q :: m => sameP1 p q && sameP l m
  | _, _ => false
theorem sameP_say : ∀ {l m : List Pc}, l.map sayP = m.map sayP → sameP l m = true
  | [], [], _ => rfl
  | [], _ :: _, h => by simp at h
  | _ :: _, [], h => by simp at h
  | p :: l, q :: m, h => by
    rw [List.map_cons, List.map_cons] at h
    injection h with h1 h2
    obtain ⟨f, t, fa, fc, fs⟩ := p
    obtain ⟨f', t', fa', fc', fs'⟩ := q
    simp only [sayP, Prod.mk.injEq] at h1
    obtain ⟨rfl, rfl, rfl⟩ := h1
    rw [sameP, sameP_say h2]
    simp [sameP1, sameF_self]
theorem sameP_len : ∀ (a b : List Pc), a.length ≠ b.length → sameP a b = false
  | [], [], h => absurd rfl h
  | [], _ :: _, _ => rfl
  | _ :: _, [], _ => rfl
  | x :: a, y :: b, h => by
    rw [sameP, sameP_len a b (fun e => h (by simp [e])), Bool.and_false]

abbrev rightP (f t : Int) : Bool := decide (-1099511627776 ≤ f) && decide (t ≤ 1099511627776) && decide (f < t)
abbrev inP (f t x : Int) : Bool := decide (f ≤ x) && decide (x < t)
def hasP (p : Pc) (x : Int) : Bool := rightP p.f p.t && inP p.f p.t x
theorem hasP_iff (p : Pc) (x : Int) : hasP p x = true ↔ (-1099511627776 ≤ p.f ∧ p.t ≤ 1099511627776 ∧ p.f < p.t) ∧ p.f ≤ x ∧ x < p.t := by
  simp [hasP, rightP, inP, and_assoc]
/-- The first piece that has a time. -/
def valP : List Pc → Int → Option Pc
  | [], _ => none
  | p :: l, x => if hasP p x = true then some p else valP l x
def fsP (l : List Pc) (x : Int) : Option (List Fd) := (valP l x).map Pc.fs
theorem valP_append : ∀ (l m : List Pc) (x : Int), valP (l ++ m) x = match valP l x with | some p => some p | none => valP m x
  | [], m, x => rfl
  | p :: l, m, x => by
    rw [List.cons_append, valP, valP]
    split
    · rfl
    · exact valP_append l m x
theorem fsP_append (l m : List Pc) (x : Int) : fsP (l ++ m) x = match fsP l x with | some s => some s | none => fsP m x := by
  unfold fsP
  rw [valP_append]
  cases valP l x <;> rfl
theorem valP_none {l : List Pc} {x : Int} (h : ∀ p ∈ l, ¬ hasP p x = true) : valP l x = none := by
  induction l with
  | nil => rfl
  | cons p l ih =>
    rw [valP, if_neg (h p (by simp))]
    exact ih fun q hq => h q (List.mem_cons_of_mem _ hq)
theorem valP_mem {l : List Pc} {x : Int} {p : Pc} (h : valP l x = some p) : p ∈ l ∧ hasP p x = true := by
  induction l with
  | nil => cases h
  | cons q l ih =>
    rw [valP] at h
    split at h
    · rename_i hq
      injection h with h
      subst h
      exact ⟨by simp, hq⟩
    · exact ⟨List.mem_cons_of_mem _ (ih h).1, (ih h).2⟩
theorem fsP_none {l : List Pc} {x : Int} (h : ∀ p ∈ l, ¬ hasP p x = true) : fsP l x = none := by rw [fsP, valP_none h]; rfl
theorem fsP_one (p : Pc) (x : Int) : fsP [p] x = if hasP p x = true then some p.fs else none := by
  rw [fsP, valP]
  split <;> rfl

/-- A timeline. -/
def linkP (p q : Pc) : Prop := p.t ≤ q.f ∧ (p.t = q.f → p.fs ≠ q.fs)
def TL : List Pc → Prop
  | [] => True
  | [p] => rightP p.f p.t = true
  | p :: q :: l => rightP p.f p.t = true ∧ linkP p q ∧ TL (q :: l)
theorem TL.tail {p : Pc} : ∀ {l : List Pc}, TL (p :: l) → TL l
  | [], _ => trivial
  | _ :: _, h => h.2.2
theorem TL.head {p : Pc} : ∀ {l : List Pc}, TL (p :: l) → rightP p.f p.t = true
  | [], h => h
  | _ :: _, h => h.1
theorem right_lt {f t : Int} (h : rightP f t = true) : -1099511627776 ≤ f ∧ f < t ∧ t ≤ 1099511627776 := by
  simp only [rightP, Bool.and_eq_true, decide_eq_true_eq] at h
  omega
theorem TL.behind : ∀ {l : List Pc} {p : Pc}, TL (p :: l) → ∀ q ∈ l, p.t ≤ q.f
  | [], _, _, q, hq => by simp at hq
  | r :: l, p, h, q, hq => by
    have h1 := h.2.1.1
    rcases List.mem_cons.1 hq with rfl | hq
    · exact h1
    · have := TL.behind h.2.2 q hq
      have := right_lt h.2.2.head
      omega
theorem TL.rights : ∀ {l : List Pc}, TL l → ∀ p ∈ l, rightP p.f p.t = true
  | [], _, p, hp => by simp at hp
  | q :: l, h, p, hp => by
    rcases List.mem_cons.1 hp with rfl | hp
    · exact h.head
    · exact TL.rights h.tail p hp
theorem has_at {p : Pc} (h : rightP p.f p.t = true) {x : Int} (h1 : p.f ≤ x) (h2 : x < p.t) : hasP p x = true := by
  have := right_lt h
  rw [hasP_iff]; omega
theorem fs_head {p : Pc} {l : List Pc} (h : TL (p :: l)) {x : Int} (h1 : p.f ≤ x) (h2 : x < p.t) : fsP (p :: l) x = some p.fs := by
  rw [fsP, valP, if_pos (has_at h.head h1 h2)]; rfl
theorem fs_below {p : Pc} {l : List Pc} (h : TL (p :: l)) {x : Int} (h1 : x < p.f) : fsP (p :: l) x = none := fsP_none fun q hq hh => by
  rw [hasP_iff] at hh
  have := right_lt h.head
  rcases List.mem_cons.1 hq with rfl | hq
  · omega
  · have := h.behind q hq
    omega
theorem fs_tail {p : Pc} {l : List Pc} (h : TL (p :: l)) (x : Int) : fsP l x = if x < p.t then none else fsP (p :: l) x := by
  split
  · exact fsP_none fun q hq hh => by
      rw [hasP_iff] at hh
      have := h.behind q hq
      omega
  · have : ¬ hasP p x = true := fun hh => by rw [hasP_iff] at hh; omega
    rw [fsP, fsP, valP, if_neg this]
/-- At its end the first piece's fields are not told. -/
theorem fs_end {p : Pc} {l : List Pc} (h : TL (p :: l)) : fsP (p :: l) p.t ≠ some p.fs := by
  have hn : ¬ hasP p p.t = true := fun hh => by rw [hasP_iff] at hh; omega
  have e : fsP (p :: l) p.t = fsP l p.t := by rw [fsP, fsP, valP, if_neg hn]
  rw [e]
  cases l with
  | nil => simp [fsP, valP]
  | cons q l =>
    obtain ⟨h1, h2, h3⟩ := h
    have hq := right_lt h3.head
    by_cases he : p.t = q.f
    · rw [fs_head h3 (by omega) (by omega)]
      intro e2
      injection e2 with e2
      exact h2.2 he e2.symm
    · rw [fs_below h3 (by have := h2.1; omega)]
      simp
/-- A timeline is told by what it has at each time. -/
theorem tl_ext : ∀ {a b : List Pc}, TL a → TL b → (∀ x, fsP a x = fsP b x) → a.map sayP = b.map sayP
  | [], [], _, _, _ => rfl
  | [], q :: m, _, hb, h => by
    have := h q.f
    have hq := right_lt hb.head
    rw [fs_head hb (by omega) (by omega)] at this
    simp [fsP, valP] at this
  | p :: l, [], ha, _, h => by
    have := h p.f
    have hp := right_lt ha.head
    rw [fs_head ha (by omega) (by omega)] at this
    simp [fsP, valP] at this
  | p :: l, q :: m, ha, hb, h => by
    have hp := right_lt ha.head
    have hq := right_lt hb.head
    have ep := fs_head ha (x := p.f) (by omega) (by omega)
    have eq := fs_head hb (x := q.f) (by omega) (by omega)
    have hf : p.f = q.f := by
      rcases Int.lt_trichotomy p.f q.f with hlt | he | hgt
      · rw [h, fs_below hb hlt] at ep; cases ep
      · exact he
      · rw [← h, fs_below ha hgt] at eq; cases eq
    have hs : p.fs = q.fs := by
      have := h p.f
      rw [ep, hf, eq] at this
      injection this
    have ht : p.t = q.t := by
      rcases Int.lt_trichotomy p.t q.t with hlt | he | hgt
      · have := fs_end ha
        rw [h, fs_head hb (by omega) hlt, hs] at this
        exact absurd rfl this
      · exact he
      · have := fs_end hb
        rw [← h, fs_head ha (by omega) hgt, hs] at this
        exact absurd rfl this
    rw [List.map_cons, List.map_cons, tl_ext ha.tail hb.tail (fun x => by rw [fs_tail ha, fs_tail hb, ht, h])]
    simp only [sayP, hf, ht, hs]
theorem tl_same {a b : List Pc} (ha : TL a) (hb : TL b) (h : ∀ x, fsP a x = fsP b x) : sameP a b = true := sameP_say (tl_ext ha hb h)
/-- What each piece has is told at its beginning. -/
theorem fs_mem : ∀ {l : List Pc}, TL l → ∀ p ∈ l, fsP l p.f = some p.fs
  | [], _, p, hp => by simp at hp
  | q :: l, h, p, hp => by
    rcases List.mem_cons.1 hp with rfl | hp
    · have := right_lt h.head
      exact fs_head h (by omega) (by omega)
    · have h1 := fs_mem h.tail p hp
      have h2 := h.behind p hp
      rw [fs_tail h, if_neg (by omega)] at h1
      exact h1

/-- Is a list a timeline? -/
def linkB (p q : Pc) : Bool := decide (p.t ≤ q.f) && (decide (p.t ≠ q.f) || !sameF p.fs q.fs)
def rightT : List Pc → Bool
  | [] => true
  | [p] => rightP p.f p.t
  | p :: q :: l => rightP p.f p.t && linkB p q && rightT (q :: l)
theorem linkB_iff (p q : Pc) : linkB p q = true ↔ linkP p q := by
  unfold linkB linkP
  simp only [Bool.and_eq_true, decide_eq_true_eq, Bool.or_eq_true, Bool.not_eq_true']
  constructor
  · rintro ⟨h1, h2⟩
    refine ⟨h1, fun he hs => ?_⟩
    rcases h2 with h2 | h2
    · exact h2 he
    · rw [hs, sameF_self] at h2; cases h2
  · rintro ⟨h1, h2⟩
    refine ⟨h1, ?_⟩
    by_cases he : p.t = q.f
    · right
      cases hs : sameF p.fs q.fs with
      | false => rfl
      | true => exact absurd (sameF_eq _ _ hs) (h2 he)
    · exact .inl he
theorem rightT_iff : ∀ l : List Pc, rightT l = true ↔ TL l
  | [] => by simp [rightT, TL]
  | [p] => Iff.rfl
  | p :: q :: l => by
    rw [rightT, Bool.and_eq_true, Bool.and_eq_true, linkB_iff, rightT_iff (q :: l), TL, and_assoc]

/-- A piece behind a timeline. -/
def putP (l : List Pc) (p : Pc) : List Pc := match l.getLast? with
  | none => [p]
  | some q => if q.t = p.f ∧ sameF q.fs p.fs = true then l.dropLast ++ [{ q with t := p.t }] else l ++ [p]
theorem TL.snoc : ∀ {l : List Pc} {p : Pc}, TL l → rightP p.f p.t = true → (∀ q, l.getLast? = some q → linkP q p) → TL (l ++ [p])
  | [], _, _, hp, _ => hp
  | [q], p, h, hp, hl => ⟨h, hl q rfl, hp⟩
  | q :: r :: l, p, h, hp, hl => ⟨h.1, h.2.1, TL.snoc (l := r :: l) h.2.2 hp (fun s hs => hl s (by simpa using hs))⟩
theorem TL.init : ∀ {l m : List Pc}, TL (l ++ m) → TL l
  | [], _, _ => trivial
  | [_], _, h => h.head
  | _ :: q :: l, _, h => ⟨h.1, h.2.1, TL.init (l := q :: l) h.2.2⟩
theorem TL.last : ∀ {l : List Pc} {p : Pc}, TL (l ++ [p]) → rightP p.f p.t = true ∧ (∀ q ∈ l, q.t ≤ p.f) ∧ ∀ q, l.getLast? = some q → linkP q p
  | [], _, h => ⟨h, by simp, by simp⟩
  | [q], _, h => ⟨h.2.2, by simpa using h.2.1.1, by simpa using h.2.1⟩
  | q :: r :: l, p, h => by
    obtain ⟨h1, h2, h3⟩ := TL.last (l := r :: l) (p := p) h.2.2
    refine ⟨h1, fun s hs => ?_, fun s hs => h3 s (by simpa using hs)⟩
    rcases List.mem_cons.1 hs with rfl | hs
    · exact TL.behind h p (by simp)
    · exact h2 s hs
theorem link_fs {q q' p : Pc} (h : linkP q p) (h1 : q'.t = q.t) (h2 : q'.fs = q.fs) : linkP q' p := by
  unfold linkP at *
  rw [h1, h2]; exact h
/-- What is put behind a timeline. -/
structure PutTo (l : List Pc) (p : Pc) (m : List Pc) : Prop where
  tl : TL m
  fs : ∀ x, fsP m x = if p.f ≤ x ∧ x < p.t then some p.fs else fsP l x
  le : ∀ q ∈ m, q.t ≤ p.t
  len : m.length ≤ l.length + 1
  mem : ∀ q ∈ m, q.fs = p.fs ∨ ∃ r ∈ l, q.fs = r.fs
theorem fs_past {l : List Pc} {x : Int} (h : ∀ q ∈ l, q.t ≤ x) : fsP l x = none := fsP_none fun q hq hh => by
  rw [hasP_iff] at hh
  have := h q hq
  omega
theorem put_to {l : List Pc} {p : Pc} (hl : TL l) (hp : rightP p.f p.t = true) (hle : ∀ q ∈ l, q.t ≤ p.f) : PutTo l p (putP l p) := by
  have hr := right_lt hp
  rcases List.eq_nil_or_concat l with rfl | ⟨m, q, rfl⟩
  · refine ⟨hp, fun x => ?_, by simp [putP], by simp [putP], by simp [putP]⟩
    show fsP [p] x = _
    rw [fsP_one]
    by_cases hx : p.f ≤ x ∧ x < p.t
    · rw [if_pos hx, if_pos (has_at hp hx.1 hx.2)]
    · rw [if_neg hx, if_neg (fun hh => by rw [hasP_iff] at hh; exact hx hh.2)]; rfl
  · rw [List.concat_eq_append] at hl hle ⊢
    obtain ⟨h1, h2, h3⟩ := hl.last
    have hq := hle q (by simp)
    have hqr := right_lt h1
    unfold putP
    rw [show (m ++ [q]).getLast? = some q by simp, List.dropLast_concat]
    simp only
    by_cases hj : q.t = p.f ∧ sameF q.fs p.fs = true
    · rw [if_pos hj]
      have hj : q.t = p.f ∧ q.fs = p.fs := ⟨hj.1, sameF_eq _ _ hj.2⟩
      refine ⟨hl.init.snoc ?_ (fun s hs => ⟨(h3 s hs).1, fun e => (h3 s hs).2 e⟩), fun x => ?_, ?_, by simp, ?_⟩
      · show rightP q.f p.t = true
        simp only [rightP, Bool.and_eq_true, decide_eq_true_eq]; omega
      · rw [fsP_append, fsP_append, fsP_one, fsP_one]
        by_cases hx : p.f ≤ x ∧ x < p.t
        · rw [if_pos hx, fs_past (fun s hs => by have := h2 s hs; omega)]
          simp only
          rw [if_pos, hj.2]
          rw [hasP_iff]
          show (-1099511627776 ≤ q.f ∧ p.t ≤ 1099511627776 ∧ q.f < p.t) ∧ q.f ≤ x ∧ x < p.t
          omega
        · rw [if_neg hx]
          have : (hasP { q with t := p.t } x = true) ↔ (hasP q x = true) := by
            rw [hasP_iff, hasP_iff]
            show ((-1099511627776 ≤ q.f ∧ p.t ≤ 1099511627776 ∧ q.f < p.t) ∧ q.f ≤ x ∧ x < p.t) ↔ _
            omega
          simp only [this]
      · intro s hs
        rcases List.mem_append.1 hs with hs | hs
        · have := h2 s hs; omega
        · obtain rfl := List.mem_singleton.1 hs
          exact Int.le_refl _
      · intro s hs
        rcases List.mem_append.1 hs with hs | hs
        · exact .inr ⟨s, by simp [hs], rfl⟩
        · obtain rfl := List.mem_singleton.1 hs
          exact .inl hj.2
    · rw [if_neg hj]
      refine ⟨hl.snoc hp (fun s hs => ?_), fun x => ?_, ?_, by simp, ?_⟩
      · rw [show (m ++ [q]).getLast? = some q by simp] at hs
        injection hs with hs
        subst hs
        exact ⟨hq, fun e e2 => hj ⟨e, by rw [e2]; exact sameF_self _⟩⟩
      · rw [fsP_append, fsP_one]
        by_cases hx : p.f ≤ x ∧ x < p.t
        · rw [if_pos hx, fs_past (fun s hs => by have := hle s hs; omega), if_pos (has_at hp hx.1 hx.2)]
        · rw [if_neg hx, if_neg (fun hh => by rw [hasP_iff] at hh; exact hx hh.2)]
          cases fsP (m ++ [q]) x <;> rfl
      · intro s hs
        rcases List.mem_append.1 hs with hs | hs
        · have := hle s hs; omega
        · obtain rfl := List.mem_singleton.1 hs
          exact Int.le_refl _
      · intro s hs
        rcases List.mem_append.1 hs with hs | hs
        · exact .inr ⟨s, hs, rfl⟩
        · obtain rfl := List.mem_singleton.1 hs
          exact .inl rfl

/-- A timeline that is made from end to end. -/
structure MadeT (ts : List Int) (g : Int → Option (List Fd)) (i : Nat) (o : List Pc) : Prop where
  tl : TL o
  le : ∀ e, ts[i]? = some e → ∀ q ∈ o, q.t ≤ e
  fs : ∀ e, ts[i]? = some e → ∀ x, fsP o x = if x < e then g x else none
  len : o.length ≤ i
/-- What is to be made is the same from one end to the next one, and nothing outside of them. -/
structure Steps (ts : List Int) (g : Int → Option (List Fd)) : Prop where
  up : ts.Pairwise (· < ·)
  lim : ∀ e ∈ ts, -1099511627776 ≤ e ∧ e ≤ 1099511627776
  const : ∀ (i : Nat) (a b x : Int), ts[i]? = some a → ts[i + 1]? = some b → a ≤ x → x < b → g x = g a
  ahead : ∀ x, (∀ e, ts[0]? = some e → x < e) → g x = none
  behind : ∀ x, (∀ e ∈ ts, e ≤ x) → g x = none
theorem MadeT.start {ts : List Int} {g : Int → Option (List Fd)} (h : Steps ts g) : MadeT ts g 0 [] :=
  ⟨trivial, fun e _ q hq => by simp at hq, fun e he x => by
    by_cases hx : x < e
    · rw [if_pos hx, h.ahead x (fun e' he' => by rw [he] at he'; injection he' with he'; omega)]; rfl
    · rw [if_neg hx]; rfl, Nat.le_refl _⟩
theorem steps_lt {ts : List Int} {g : Int → Option (List Fd)} (h : Steps ts g) {i : Nat} {f t : Int} (hf : ts[i]? = some f) (ht : ts[i + 1]? = some t) : f < t ∧ -1099511627776 ≤ f ∧ t ≤ 1099511627776 := by
  obtain ⟨h1, rfl⟩ := List.getElem?_eq_some_iff.1 hf
  obtain ⟨h2, rfl⟩ := List.getElem?_eq_some_iff.1 ht
  exact ⟨List.pairwise_iff_getElem.1 h.up i (i + 1) h1 h2 (by omega), (h.lim _ (List.getElem_mem h1)).1, (h.lim _ (List.getElem_mem h2)).2⟩
theorem MadeT.skip {ts : List Int} {g : Int → Option (List Fd)} (h : Steps ts g) {i : Nat} {o : List Pc} (k : MadeT ts g i o) {f t : Int} (hf : ts[i]? = some f) (ht : ts[i + 1]? = some t) (hg : g f = none) : MadeT ts g (i + 1) o := by
  have hlt := steps_lt h hf ht
  refine ⟨k.tl, fun e he q hq => ?_, fun e he x => ?_, by have := k.len; omega⟩
  · rw [ht] at he; injection he with he; subst he
    have := k.le f hf q hq; omega
  · rw [ht] at he; injection he with he; subst he
    rw [k.fs f hf]
    by_cases h1 : x < f
    · rw [if_pos h1, if_pos (by omega)]
    · rw [if_neg h1]
      by_cases h2 : x < t
      · rw [if_pos h2, h.const i f t x hf ht (by omega) h2, hg]
      · rw [if_neg h2]
theorem MadeT.next {ts : List Int} {g : Int → Option (List Fd)} (h : Steps ts g) {i : Nat} {o : List Pc} (k : MadeT ts g i o) {p : Pc} (hf : ts[i]? = some p.f) (ht : ts[i + 1]? = some p.t) (hg : g p.f = some p.fs) : MadeT ts g (i + 1) (putP o p) := by
  have hlt := steps_lt h hf ht
  have hp : rightP p.f p.t = true := by simp only [rightP, Bool.and_eq_true, decide_eq_true_eq]; omega
  have hpt := put_to k.tl hp (k.le p.f hf)
  refine ⟨hpt.tl, fun e he q hq => ?_, fun e he x => ?_, by have := k.len; have := hpt.len; omega⟩
  · rw [ht] at he; injection he with he; subst he
    exact hpt.le q hq
  · rw [ht] at he; injection he with he; subst he
    rw [hpt.fs, k.fs p.f hf]
    by_cases h1 : p.f ≤ x ∧ x < p.t
    · rw [if_pos h1, if_pos h1.2, h.const i p.f p.t x hf ht h1.1 h1.2, hg]
    · rw [if_neg h1]
      by_cases h2 : x < p.f
      · rw [if_pos h2, if_pos (by omega)]
      · rw [if_neg h2, if_neg (by omega)]
theorem MadeT.stop {ts : List Int} {g : Int → Option (List Fd)} (h : Steps ts g) {i : Nat} {o : List Pc} (k : MadeT ts g i o) (hi : ts.length = i + 1) : TL o ∧ ∀ x, fsP o x = g x := by
  refine ⟨k.tl, fun x => ?_⟩
  obtain ⟨e, he⟩ : ∃ e, ts[i]? = some e := ⟨_, List.getElem?_eq_getElem (by omega)⟩
  rw [k.fs e he]
  split
  · rfl
  · rw [h.behind x (fun a ha => by
      obtain ⟨j, hj⟩ := List.mem_iff_getElem?.1 ha
      have hjl := (List.getElem?_eq_some_iff.1 hj).1
      rcases Nat.lt_or_ge j i with hji | hji
      · obtain ⟨h1, rfl⟩ := List.getElem?_eq_some_iff.1 hj
        obtain ⟨h2, rfl⟩ := List.getElem?_eq_some_iff.1 he
        have := List.pairwise_iff_getElem.1 h.up j i h1 h2 hji
        omega
      · obtain rfl : j = i := by omega
        rw [he] at hj; injection hj with hj; omega)]

end Go.Proofs.Ytmhddpgeiijhgaa

/-
  What span.Make and span.Meet give back, and the document's Meet, for any spans.
-/
namespace Go.Proofs.Ytmhddpgeiijhgaa.Co
open Go.RowKit

def madeF (f t : Int) : Int := if rightB f t then f else 0
def madeT (f t : Int) : Int := if rightB f t then t else 0
def madeE (f t : Int) : Int := if rightB f t then 0 else 3
/-- Have both a time in common? -/
def meetB (a b c d : Int) : Bool := rightB a b && rightB c d && decide (max a c < min b d)
def meetF (a b c d : Int) : Int := if meetB a b c d then max a c else 0
def meetT (a b c d : Int) : Int := if meetB a b c d then min b d else 0

/-- Three blocks of the call's own are there still. -/
theorem size3 {w w1 : World} {o0 o1 o2 : Obj} (hb : Below (((w.alloc o0).alloc o1).alloc o2).heap.size (((w.alloc o0).alloc o1).alloc o2) w1) :
    w.heap.size < w1.heap.size ∧ w.heap.size + 1 < w1.heap.size ∧ w.heap.size + 1 + 1 < w1.heap.size := by
  have := hb.size
  simp at this
  omega

def meetE (a b c d : Int) : Int := if meetB a b c d then 0 else 3
end Go.Proofs.Ytmhddpgeiijhgaa.Co

/-
  What Make, Clip and Splice are to tell at each time; from end to end it is the same: plain facts.
-/
namespace Go.Proofs.Ytmhddpgeiijhgaa

theorem rightB_P (f t : Int) : Co.rightB f t = rightP f t := by
  rw [Bool.eq_iff_iff]
  simp only [Co.rightB, rightP, Bool.and_eq_true, decide_eq_true_eq]
  omega
theorem rightP_iff (f t : Int) : rightP f t = true ↔ -1099511627776 ≤ f ∧ f < t ∧ t ≤ 1099511627776 := by
  simp only [rightP, Bool.and_eq_true, decide_eq_true_eq]
  omega
theorem inP_iff (f t x : Int) : inP f t x = true ↔ f ≤ x ∧ x < t := by
  simp only [inP, Bool.and_eq_true, decide_eq_true_eq]
theorem meetB_iff (a b c d : Int) : Co.meetB a b c d = true ↔ (rightP a b = true ∧ rightP c d = true) ∧ max a c < min b d := by
  unfold Co.meetB
  rw [rightB_P, rightB_P, Bool.and_eq_true, Bool.and_eq_true, decide_eq_true_eq]
theorem covers_iff (v : Vr) (x : Int) : coversB v x = true ↔ v.gone = false ∧ rightP v.sf v.se = true ∧ v.sf ≤ x ∧ x < v.se := by
  rw [rightP_iff]
  simp only [coversB, Bool.and_eq_true, Bool.not_eq_true', decide_eq_true_eq]
  constructor
  · rintro ⟨⟨h1, ⟨h2, h3⟩, h4⟩, h5, h6⟩; exact ⟨h1, ⟨h2, h4, h3⟩, h5, h6⟩
  · rintro ⟨h1, ⟨h2, h4, h3⟩, h5, h6⟩; exact ⟨⟨h1, ⟨h2, h3⟩, h4⟩, h5, h6⟩

/-- What the timeline of versions over a span has at a time. -/
def makeV (a : Int × Int) (l : List Vr) (x : Int) : Option (List Fd) := if (rightP a.1 a.2 && inP a.1 a.2 x && l.any fun v => coversB v x) = true then some (atL x l) else none
theorem makeV_out {a : Int × Int} {l : List Vr} {x : Int} (h : ¬ (rightP a.1 a.2 = true ∧ a.1 ≤ x ∧ x < a.2)) : makeV a l x = none := by
  rw [makeV, if_neg]
  intro hh
  rw [Bool.and_eq_true, Bool.and_eq_true, inP_iff] at hh
  exact h ⟨hh.1.1, hh.1.2.1, hh.1.2.2⟩
theorem makeV_in {a : Int × Int} {l : List Vr} {x : Int} (h1 : rightP a.1 a.2 = true) (h2 : a.1 ≤ x) (h3 : x < a.2) : makeV a l x = if (l.any fun v => coversB v x) = true then some (atL x l) else none := by
  rw [makeV, h1, (inP_iff _ _ _).2 ⟨h2, h3⟩]; rfl
theorem at_congr {l : List Vr} {x y : Int} (h : ∀ v ∈ l, coversB v x = coversB v y) : atL x l = atL y l ∧ (l.any fun v => coversB v x) = l.any fun v => coversB v y := by
  refine ⟨by rw [atL, atL, List.filter_congr h], ?_⟩
  rw [Bool.eq_iff_iff, List.any_eq_true, List.any_eq_true]
  constructor
  · rintro ⟨v, hv, hc⟩; exact ⟨v, hv, by rw [← h v hv]; exact hc⟩
  · rintro ⟨v, hv, hc⟩; exact ⟨v, hv, by rw [h v hv]; exact hc⟩

/-- Between two ends no other one lies. -/
theorem end_le {ts : List Int} (hp : ts.Pairwise (· < ·)) {i : Nat} {a b x e : Int} (ha : ts[i]? = some a) (hb : ts[i + 1]? = some b) (h1 : a ≤ x) (h2 : x < b) (he : e ∈ ts) : e ≤ x ↔ e ≤ a := by
  obtain ⟨j, hj⟩ := List.mem_iff_getElem?.1 he
  obtain ⟨i1, rfl⟩ := List.getElem?_eq_some_iff.1 ha
  obtain ⟨i2, rfl⟩ := List.getElem?_eq_some_iff.1 hb
  obtain ⟨i3, rfl⟩ := List.getElem?_eq_some_iff.1 hj
  have lt := fun (m n : Nat) (hm : m < ts.length) (hn : n < ts.length) (h : m < n) => List.pairwise_iff_getElem.1 hp m n hm hn h
  rcases Nat.lt_trichotomy j i with h | rfl | h
  · have := lt j i i3 i1 h
    omega
  · omega
  · rcases Nat.lt_or_ge (i + 1) j with h3 | h3
    · have := lt (i + 1) j i2 i3 h3
      have := lt i j i1 i3 h
      omega
    · obtain rfl : j = i + 1 := by omega
      omega
theorem end_first {ts : List Int} (hp : ts.Pairwise (· < ·)) {x : Int} (h : ∀ e, ts[0]? = some e → x < e) {e : Int} (he : e ∈ ts) : x < e := by
  cases ts with
  | nil => simp at he
  | cons y ts =>
    have h0 := h y rfl
    rcases List.mem_cons.1 he with rfl | he
    · exact h0
    · have := (List.pairwise_cons.1 hp).1 e he
      omega

/-- The ends of which Make goes. -/
def endsV (a : Int × Int) (v : Vr) : List Int := if (Co.meetB a.1 a.2 v.sf v.se && !v.gone) = true then [Co.meetF a.1 a.2 v.sf v.se, Co.meetT a.1 a.2 v.sf v.se] else []
def endsM (a : Int × Int) (l : List Vr) : List Int := [a.1, a.2] ++ l.flatMap (endsV a)
theorem endsV_length (a : Int × Int) (v : Vr) : (endsV a v).length ≤ 2 := by unfold endsV; split <;> simp
theorem flat2_length {α : Type} (f : α → List Int) (h : ∀ x, (f x).length ≤ 2) : ∀ l : List α, (l.flatMap f).length ≤ 2 * l.length
  | [] => by simp
  | x :: l => by
    have := h x
    have := flat2_length f h l
    rw [List.flatMap_cons, List.length_append, List.length_cons]; omega
theorem endsM_length (a : Int × Int) (l : List Vr) : (endsM a l).length ≤ 2 * l.length + 2 := by
  have := flat2_length (endsV a) (endsV_length a) l
  unfold endsM
  rw [List.length_append]
  simp only [List.length_cons, List.length_nil]
  omega
theorem steps_make {a : Int × Int} {l : List Vr} {ts : List Int} (ha : rightP a.1 a.2 = true) (hp : ts.Pairwise (· < ·)) (hm : ∀ y, y ∈ ts ↔ y ∈ endsM a l) : Steps ts (makeV a l) := by
  have hr := (rightP_iff _ _).1 ha
  have h1 : a.1 ∈ ts := (hm _).2 (by simp [endsM])
  have h2 : a.2 ∈ ts := (hm _).2 (by simp [endsM])
  refine ⟨hp, fun e he => ?_, fun i b c x hb hc hx1 hx2 => ?_, fun x hx => ?_, fun x hx => ?_⟩
  · have he := (hm e).1 he
    unfold endsM at he
    rcases List.mem_append.1 he with he | he
    · simp at he
      rcases he with rfl | rfl <;> omega
    · obtain ⟨v, hv, he⟩ := List.mem_flatMap.1 he
      unfold endsV at he
      split at he
      · rename_i hh
        rw [Bool.and_eq_true] at hh
        have hh2 := (meetB_iff _ _ _ _).1 hh.1
        have := (rightP_iff _ _).1 hh2.1.2
        have := hh2.2
        simp only [Co.meetF, Co.meetT, hh.1, if_true, List.mem_cons, List.not_mem_nil, or_false] at he
        omega
      · simp at he
  · have e1 := end_le hp hb hc hx1 hx2 h1
    have e2 := end_le hp hb hc hx1 hx2 h2
    by_cases hin : a.1 ≤ x ∧ x < a.2
    · have hin2 : a.1 ≤ b ∧ b < a.2 := by omega
      have hcv : ∀ v ∈ l, coversB v x = coversB v b := fun v hv => by
        rw [Bool.eq_iff_iff, covers_iff, covers_iff]
        by_cases hg : v.gone = false
        · by_cases hvr : rightP v.sf v.se = true
          · have hvr2 := (rightP_iff _ _).1 hvr
            by_cases hmt : max a.1 v.sf < min a.2 v.se
            · have hmb : Co.meetB a.1 a.2 v.sf v.se = true := (meetB_iff _ _ _ _).2 ⟨⟨ha, hvr⟩, hmt⟩
              have hev : endsV a v = [max a.1 v.sf, min a.2 v.se] := by
                unfold endsV Co.meetF Co.meetT
                rw [hmb, hg]; rfl
              have m1 : max a.1 v.sf ∈ ts := (hm _).2 (List.mem_append.2 (.inr (List.mem_flatMap.2 ⟨v, hv, by rw [hev]; simp⟩)))
              have m2 : min a.2 v.se ∈ ts := (hm _).2 (List.mem_append.2 (.inr (List.mem_flatMap.2 ⟨v, hv, by rw [hev]; simp⟩)))
              have k1 := end_le hp hb hc hx1 hx2 m1
              have k2 := end_le hp hb hc hx1 hx2 m2
              constructor
              · rintro ⟨_, _, q1, q2⟩; exact ⟨hg, hvr, by omega, by omega⟩
              · rintro ⟨_, _, q1, q2⟩; exact ⟨hg, hvr, by omega, by omega⟩
            · constructor
              · rintro ⟨_, _, q1, q2⟩; omega
              · rintro ⟨_, _, q1, q2⟩; omega
          · constructor
            · rintro ⟨_, q, _⟩; exact absurd q hvr
            · rintro ⟨_, q, _⟩; exact absurd q hvr
        · constructor
          · rintro ⟨q, _⟩; exact absurd q hg
          · rintro ⟨q, _⟩; exact absurd q hg
      obtain ⟨c1, c2⟩ := at_congr hcv
      rw [makeV_in ha hin.1 hin.2, makeV_in ha hin2.1 hin2.2, c1, c2]
    · rw [makeV_out (fun h => hin h.2), makeV_out (fun h => hin (by omega))]
  · have := end_first hp hx h1
    exact makeV_out fun h => by omega
  · have := hx a.2 h2
    exact makeV_out fun h => by omega

/-- What l has, but at the times of a what m has. -/
def spliceV (a : Int × Int) (l m : List Pc) (x : Int) : Option (List Fd) := if inP a.1 a.2 x = true then fsP m x else fsP l x
def endsP (p : Pc) : List Int := [p.f, p.t]
def endsS (a : Int × Int) (l m : List Pc) : List Int := [a.1, a.2] ++ l.flatMap endsP ++ m.flatMap endsP
theorem endsS_length (a : Int × Int) (l m : List Pc) : (endsS a l m).length ≤ 2 * l.length + 2 * m.length + 2 := by
  have h1 := flat2_length endsP (fun _ => Nat.le_refl 2) l
  have h2 := flat2_length endsP (fun _ => Nat.le_refl 2) m
  unfold endsS
  rw [List.length_append, List.length_append]
  simp only [List.length_cons, List.length_nil]
  omega
theorem fs_congr {l : List Pc} {x y : Int} (h : ∀ p ∈ l, hasP p x = hasP p y) : fsP l x = fsP l y := by
  induction l with
  | nil => rfl
  | cons p l ih =>
    rw [fsP, fsP, valP, valP, h p (by simp)]
    split
    · rfl
    · exact ih fun q hq => h q (List.mem_cons_of_mem _ hq)
theorem steps_splice {a : Int × Int} {l m : List Pc} {ts : List Int} (ha : rightP a.1 a.2 = true) (hl : TL l) (hm : TL m) (hp : ts.Pairwise (· < ·)) (ht : ∀ y, y ∈ ts ↔ y ∈ endsS a l m) : Steps ts (spliceV a l m) := by
  have hr := (rightP_iff _ _).1 ha
  have h1 : a.1 ∈ ts := (ht _).2 (by simp [endsS])
  have h2 : a.2 ∈ ts := (ht _).2 (by simp [endsS])
  have l1 : ∀ p ∈ l, p.f ∈ ts ∧ p.t ∈ ts := fun p hpl => ⟨(ht _).2 (List.mem_append.2 (.inl (List.mem_append.2 (.inr (List.mem_flatMap.2 ⟨p, hpl, by simp [endsP]⟩))))), (ht _).2 (List.mem_append.2 (.inl (List.mem_append.2 (.inr (List.mem_flatMap.2 ⟨p, hpl, by simp [endsP]⟩)))))⟩
  have m1 : ∀ p ∈ m, p.f ∈ ts ∧ p.t ∈ ts := fun p hpm => ⟨(ht _).2 (List.mem_append.2 (.inr (List.mem_flatMap.2 ⟨p, hpm, by simp [endsP]⟩))), (ht _).2 (List.mem_append.2 (.inr (List.mem_flatMap.2 ⟨p, hpm, by simp [endsP]⟩)))⟩
  refine ⟨hp, fun e he => ?_, fun i b c x hb hc hx1 hx2 => ?_, fun x hx => ?_, fun x hx => ?_⟩
  · have he := (ht e).1 he
    unfold endsS at he
    rcases List.mem_append.1 he with he | he
    · rcases List.mem_append.1 he with he | he
      · simp at he
        rcases he with rfl | rfl <;> omega
      · obtain ⟨p, hpl, he⟩ := List.mem_flatMap.1 he
        have := (rightP_iff _ _).1 (hl.rights p hpl)
        simp [endsP] at he
        omega
    · obtain ⟨p, hpm, he⟩ := List.mem_flatMap.1 he
      have := (rightP_iff _ _).1 (hm.rights p hpm)
      simp [endsP] at he
      omega
  · have e1 := end_le hp hb hc hx1 hx2 h1
    have e2 := end_le hp hb hc hx1 hx2 h2
    have hcong : ∀ (k : List Pc), (∀ p ∈ k, p.f ∈ ts ∧ p.t ∈ ts) → fsP k x = fsP k b := fun k hk => fs_congr fun p hpk => by
      have k1 := end_le hp hb hc hx1 hx2 (hk p hpk).1
      have k2 := end_le hp hb hc hx1 hx2 (hk p hpk).2
      rw [Bool.eq_iff_iff, hasP_iff, hasP_iff]
      omega
    have hin : inP a.1 a.2 x = inP a.1 a.2 b := by
      rw [Bool.eq_iff_iff, inP_iff, inP_iff]; omega
    rw [spliceV, spliceV, hin, hcong l l1, hcong m m1]
  · have := end_first hp hx h1
    rw [spliceV, if_neg (fun h => by rw [inP_iff] at h; omega)]
    exact fsP_none fun p hpl h => by
      rw [hasP_iff] at h
      have := end_first hp hx (l1 p hpl).1
      omega
  · have := hx a.2 h2
    rw [spliceV, if_neg (fun h => by rw [inP_iff] at h; omega)]
    exact fsP_none fun p hpl h => by
      rw [hasP_iff] at h
      have := hx p.t (l1 p hpl).2
      omega

/-- A timeline within a span. -/
def clipP (a : Int × Int) (p : Pc) : Option Pc := if Co.meetB a.1 a.2 p.f p.t = true then some ⟨Co.meetF a.1 a.2 p.f p.t, Co.meetT a.1 a.2 p.f p.t, p.fa, p.fc, p.fs⟩ else none
def clipL (a : Int × Int) (l : List Pc) : List Pc := l.filterMap (clipP a)
theorem tl_pair : ∀ {l : List Pc}, TL l → l.Pairwise linkP
  | [], _ => List.Pairwise.nil
  | [p], _ => List.pairwise_singleton _ _
  | p :: q :: l, h => by
    refine List.pairwise_cons.2 ⟨fun r hr => ?_, tl_pair h.2.2⟩
    rcases List.mem_cons.1 hr with rfl | hr
    · exact h.2.1
    · have h1 := TL.behind h.2.2 r hr
      have h2 := right_lt h.2.2.head
      have h3 := h.2.1.1
      exact ⟨by omega, fun e => by omega⟩
theorem tl_of : ∀ {l : List Pc}, (∀ p ∈ l, rightP p.f p.t = true) → l.Pairwise linkP → TL l
  | [], _, _ => trivial
  | [p], h, _ => h p (by simp)
  | p :: q :: l, h, k => ⟨h p (by simp), (List.pairwise_cons.1 k).1 q (by simp), tl_of (fun r hr => h r (List.mem_cons_of_mem _ hr)) (List.pairwise_cons.1 k).2⟩
theorem clip_some {a : Int × Int} {p q : Pc} (h : clipP a p = some q) : rightP q.f q.t = true ∧ q.f = max a.1 p.f ∧ q.t = min a.2 p.t ∧ q.fs = p.fs ∧ rightP a.1 a.2 = true ∧ rightP p.f p.t = true := by
  unfold clipP at h
  split at h
  · rename_i hm
    injection h with h
    subst h
    have h2 := (meetB_iff _ _ _ _).1 hm
    have r1 := (rightP_iff _ _).1 h2.1.1
    have r2 := (rightP_iff _ _).1 h2.1.2
    have e1 : Co.meetF a.1 a.2 p.f p.t = max a.1 p.f := by rw [Co.meetF, hm]; rfl
    have e2 : Co.meetT a.1 a.2 p.f p.t = min a.2 p.t := by rw [Co.meetT, hm]; rfl
    refine ⟨?_, e1, e2, rfl, h2.1.1, h2.1.2⟩
    show rightP (Co.meetF a.1 a.2 p.f p.t) (Co.meetT a.1 a.2 p.f p.t) = true
    rw [e1, e2, rightP_iff]
    have := h2.2
    omega
  · cases h
theorem clip_tl {a : Int × Int} {l : List Pc} (h : TL l) : TL (clipL a l) := by
  refine tl_of (fun q hq => ?_) ?_
  · obtain ⟨p, _, hpq⟩ := List.mem_filterMap.1 hq
    exact (clip_some hpq).1
  · refine (tl_pair h).filterMap _ ?_
    intro p p' hl q hq q' hq'
    have c1 := clip_some hq
    have c2 := clip_some hq'
    refine ⟨by have := hl.1; omega, fun e => ?_⟩
    rw [c1.2.2.2.1, c2.2.2.2.1]
    exact hl.2 (by have := hl.1; omega)
theorem clip_fs (a : Int × Int) : ∀ (l : List Pc) (x : Int), fsP (clipL a l) x = if (rightP a.1 a.2 && inP a.1 a.2 x) = true then fsP l x else none
  | [], x => by simp [clipL, fsP, valP]
  | p :: l, x => by
    have ih := clip_fs a l x
    unfold clipL at ih ⊢
    rw [List.filterMap_cons]
    cases hc : clipP a p with
    | none =>
      simp only
      rw [ih]
      split
      · rename_i hh
        rw [Bool.and_eq_true, inP_iff] at hh
        rw [fsP, fsP, valP, if_neg]
        intro hp
        rw [hasP_iff] at hp
        unfold clipP at hc
        rw [if_pos] at hc
        · cases hc
        · rw [meetB_iff, rightP_iff, rightP_iff]
          have := (rightP_iff _ _).1 hh.1
          omega
      · rfl
    | some q =>
      have c := clip_some hc
      simp only
      rw [fsP, valP]
      by_cases hq : hasP q x = true
      · rw [if_pos hq]
        rw [hasP_iff] at hq
        have ra := (rightP_iff _ _).1 c.2.2.2.2.1
        have rp := (rightP_iff _ _).1 c.2.2.2.2.2
        rw [if_pos, fsP, valP, if_pos]
        · show some q.fs = some p.fs
          rw [c.2.2.2.1]
        · rw [hasP_iff]; omega
        · rw [c.2.2.2.2.1, Bool.true_and, inP_iff]; omega
      · rw [if_neg hq]
        show fsP (List.filterMap (clipP a) l) x = _
        rw [ih]
        split
        · rename_i hh
          rw [Bool.and_eq_true, inP_iff] at hh
          rw [fsP, fsP, valP, if_neg]
          intro hp
          apply hq
          rw [hasP_iff] at hp ⊢
          have := (rightP_iff _ _).1 c.1
          omega
        · rfl
theorem clip_length (a : Int × Int) (l : List Pc) : (clipL a l).length ≤ l.length := List.length_filterMap_le _ _

/-! What the laws say of these. -/
theorem covers_out {a : Int × Int} {v : Vr} {x : Int} (ha : rightP a.1 a.2 = true) (h1 : a.1 ≤ x) (h2 : x < a.2) (h : ¬ (Co.meetB a.1 a.2 v.sf v.se = true ∧ max a.1 v.sf ≤ x ∧ x < min a.2 v.se)) : coversB v x = false := by
  cases hc : coversB v x with
  | false => rfl
  | true =>
    rw [covers_iff] at hc
    exact absurd ⟨(meetB_iff _ _ _ _).2 ⟨⟨ha, hc.2.1⟩, by omega⟩, by omega, by omega⟩ h
theorem make_less {a : Int × Int} {l : List Vr} {v : Vr} {x : Int} (h : coversB v x = false) : makeV a (l ++ [v]) x = makeV a l x := by
  unfold makeV atL
  rw [List.filter_append, List.any_append]
  simp [h]
theorem more_not {a : Int × Int} {l : List Vr} {v : Vr} (h : Co.meetB a.1 a.2 v.sf v.se = false) (x : Int) : makeV a (l ++ [v]) x = makeV a l x := by
  by_cases hin : rightP a.1 a.2 = true ∧ a.1 ≤ x ∧ x < a.2
  · exact make_less (covers_out hin.1 hin.2.1 hin.2.2 (fun hh => by rw [h] at hh; exact absurd hh.1 (by simp)))
  · rw [makeV_out hin, makeV_out hin]
theorem more_is {a : Int × Int} {l : List Vr} {v : Vr} (h : Co.meetB a.1 a.2 v.sf v.se = true) {was new : List Pc} (h1 : ∀ x, fsP was x = makeV a l x) (h2 : ∀ x, fsP new x = makeV (Co.meetF a.1 a.2 v.sf v.se, Co.meetT a.1 a.2 v.sf v.se) (l ++ [v]) x) (x : Int) : spliceV (Co.meetF a.1 a.2 v.sf v.se, Co.meetT a.1 a.2 v.sf v.se) was new x = makeV a (l ++ [v]) x := by
  have e1 : Co.meetF a.1 a.2 v.sf v.se = max a.1 v.sf := by rw [Co.meetF, h]; rfl
  have e2 : Co.meetT a.1 a.2 v.sf v.se = min a.2 v.se := by rw [Co.meetT, h]; rfl
  have hh := (meetB_iff _ _ _ _).1 h
  have ra := (rightP_iff _ _).1 hh.1.1
  have rv := (rightP_iff _ _).1 hh.1.2
  have hx : rightP (max a.1 v.sf) (min a.2 v.se) = true := by rw [rightP_iff]; have := hh.2; omega
  rw [spliceV, h1, h2]
  simp only [e1, e2]
  by_cases hin : inP (max a.1 v.sf) (min a.2 v.se) x = true
  · rw [if_pos hin]
    rw [inP_iff] at hin
    rw [makeV_in (a := (max a.1 v.sf, min a.2 v.se)) hx hin.1 hin.2, makeV_in hh.1.1 (by omega) (by omega)]
  · rw [if_neg hin]
    by_cases hia : a.1 ≤ x ∧ x < a.2
    · exact (make_less (covers_out hh.1.1 hia.1 hia.2 (fun k => hin ((inP_iff _ _ _).2 k.2)))).symm
    · rw [makeV_out (fun k => hia k.2), makeV_out (fun k => hia k.2)]
theorem clip_make (a b : Int × Int) (l : List Vr) {m : List Pc} (h : ∀ x, fsP m x = makeV a l x) (x : Int) : fsP (clipL b m) x = makeV (Co.meetF a.1 a.2 b.1 b.2, Co.meetT a.1 a.2 b.1 b.2) l x := by
  rw [clip_fs, h]
  cases hm : Co.meetB a.1 a.2 b.1 b.2 with
  | true =>
    have e1 : Co.meetF a.1 a.2 b.1 b.2 = max a.1 b.1 := by rw [Co.meetF, hm]; rfl
    have e2 : Co.meetT a.1 a.2 b.1 b.2 = min a.2 b.2 := by rw [Co.meetT, hm]; rfl
    have hh := (meetB_iff _ _ _ _).1 hm
    have ra := (rightP_iff _ _).1 hh.1.1
    have rb := (rightP_iff _ _).1 hh.1.2
    have hx : rightP (max a.1 b.1) (min a.2 b.2) = true := by rw [rightP_iff]; have := hh.2; omega
    rw [e1, e2, hh.1.2, Bool.true_and]
    by_cases hin : max a.1 b.1 ≤ x ∧ x < min a.2 b.2
    · rw [makeV_in (a := (max a.1 b.1, min a.2 b.2)) hx hin.1 hin.2, if_pos ((inP_iff _ _ _).2 (by omega)), makeV_in hh.1.1 (by omega) (by omega)]
    · rw [makeV_out (a := (max a.1 b.1, min a.2 b.2)) (fun k => hin k.2)]
      split
      · rename_i hb
        rw [inP_iff] at hb
        exact makeV_out fun k => hin (by omega)
      · rfl
  | false =>
    have e1 : Co.meetF a.1 a.2 b.1 b.2 = 0 := by rw [Co.meetF, hm]; rfl
    have e2 : Co.meetT a.1 a.2 b.1 b.2 = 0 := by rw [Co.meetT, hm]; rfl
    rw [e1, e2, makeV_out (a := ((0 : Int), (0 : Int))) (fun k => by have h1 := k.2.1; have h2 := k.2.2; have h1 : (0 : Int) ≤ x := h1; have h2 : x < (0 : Int) := h2; omega)]
    split
    · rename_i hb
      rw [Bool.and_eq_true, inP_iff] at hb
      refine makeV_out fun k => ?_
      have : Co.meetB a.1 a.2 b.1 b.2 = true := (meetB_iff _ _ _ _).2 ⟨⟨k.1, hb.1⟩, by omega⟩
      rw [hm] at this; cases this
    · rfl
theorem splice_back {b : Int × Int} {m : List Pc} (hb : rightP b.1 b.2 = true) (x : Int) : spliceV b m (clipL b m) x = fsP m x := by
  rw [spliceV, clip_fs, hb, Bool.true_and]
  split
  · rfl
  · rfl

end Go.Proofs.Ytmhddpgeiijhgaa

/-
  Pieces in memory: lists of pieces, lists of them that a call makes.
-/
namespace Go.Proofs.Ytmhddpgeiijhgaa
open Go.RowKit

abbrev cellsPc (p : Pc) : List Value := [.int .i64 p.f, .int .i64 p.t, .slice p.fa p.fs.length p.fc]
/-- A piece as a value. -/
abbrev pv (p : Pc) : Value := .agg #[.int .i64 p.f, .int .i64 p.t, .slice p.fa p.fs.length p.fc]
/-- The fields of a piece lie where it says. -/
def PF (w : World) (p : Pc) : Prop := Fields w p.fa p.fs ∧ p.fs.length ≤ p.fc ∧ (p.fa = none → p.fc = 0)
theorem PF.below {w w' : World} {p : Pc} (h : PF w p) (hb : Below w.heap.size w w') : PF w' p := ⟨h.1.below hb, h.2⟩
theorem PF.list {w : World} {p : Pc} (h : PF w p) : ListF w (.slice p.fa p.fs.length p.fc) p.fs := ⟨p.fa, p.fc, rfl, h.1, h.2.1, h.2.2⟩
abbrev Cells3 (w : World) (g o : Nat) (p : Pc) : Prop := w.cell? ⟨g, o, none⟩ = some (.int .i64 p.f) ∧ w.cell? ⟨g, o + 1, none⟩ = some (.int .i64 p.t) ∧ w.cell? ⟨g, o + 2, none⟩ = some (.slice p.fa p.fs.length p.fc)
theorem Cells3.below {w w' : World} {g o : Nat} {p : Pc} (h : Cells3 w g o p) (hb : Below w.heap.size w w') : Cells3 w' g o p :=
  ⟨keepc hb h.1, keepc hb h.2.1, keepc hb h.2.2⟩
theorem Cells3.more {w : World} {g o : Nat} {p : Pc} (h : Cells3 w g o p) (x : Obj) : Cells3 (w.alloc x) g o p := h.below ((bl w).alloc (Nat.le_refl _) x)
abbrev BoxP (w : World) (g : Nat) (p : Pc) : Prop := w.cell? ⟨g, 0, none⟩ = some (.int .i64 p.f) ∧ w.cell? ⟨g, 1, none⟩ = some (.int .i64 p.t) ∧ w.cell? ⟨g, 2, none⟩ = some (.slice p.fa p.fs.length p.fc)
theorem BoxP.below {w w' : World} {g : Nat} {p : Pc} (h : BoxP w g p) (hb : Below w.heap.size w w') : BoxP w' g p := ⟨keepc hb h.1, keepc hb h.2.1, keepc hb h.2.2⟩
/-- The fields of a piece lie where it says, and not in block o. -/
def KP (w : World) (o : Option Nat) (p : Pc) : Prop := PF w p ∧ (p.fs ≠ [] → ∀ a, p.fa = some a → o ≠ some a.block)
theorem PF.lt {w : World} {p : Pc} (h : PF w p) (hn : p.fs ≠ []) {a : Addr} (ha : p.fa = some a) : a.block < w.heap.size := by
  cases hfs : p.fs with
  | nil => exact absurd hfs hn
  | cons f l =>
    obtain ⟨g, off, he, c0, _⟩ := h.1 0 f (by rw [hfs]; rfl)
    rw [ha] at he
    injection he with he
    subst he
    exact lt_of_cell c0
/-- Whatever lay, lies, but for one block. -/
def Kb (o : Option Nat) (w w' : World) : Prop := w.heap.size ≤ w'.heap.size ∧ ∀ c, c < w.heap.size → o ≠ some c → w'.heap[c]? = w.heap[c]?
theorem Kb.refl (o : Option Nat) (w : World) : Kb o w w := ⟨Nat.le_refl _, fun _ _ _ => rfl⟩
theorem Kb.trans {o : Option Nat} {a b c : World} (h : Kb o a b) (k : Kb o b c) : Kb o a c := ⟨Nat.le_trans h.1 k.1, fun i hi hn => (k.2 i (Nat.lt_of_lt_of_le hi h.1) hn).trans (h.2 i hi hn)⟩
theorem Kb.of_below {o : Option Nat} {w w' : World} (h : Below w.heap.size w w') : Kb o w w' := ⟨h.size, fun c hc _ => h.block c hc⟩
theorem Kb.set {a w : World} {b i : Nat} (h : Kb (some b) a w) (u : Value) : Kb (some b) a (w.setCell ⟨b, i, none⟩ u) :=
  ⟨by have := h.1; simpa [World.setCell] using this, fun c hc hn => (Below.heap_setCell w ⟨b, i, none⟩ u c (fun e => hn (by simp at e; rw [e]))).trans (h.2 c hc hn)⟩
theorem Kb.grown {a w w' : World} {o : Option Nat} (h : Kb o a w) (hg : w.grownBy w' o) : Kb o a w' := h.trans ⟨hg.size, fun c hc hn => hg.block c hc (fun e => hn e.symm)⟩
theorem Kb.cell {o : Option Nat} {w w' : World} (h : Kb o w w') {g i : Nat} {u : Value} (hc : w.cell? ⟨g, i, none⟩ = some u) (hn : o ≠ some g) : w'.cell? ⟨g, i, none⟩ = some u :=
  (World.cell?_of_block (w := w) (h.2 g (lt_of_cell hc) hn)).trans hc
theorem KP.below {w w' : World} {o : Option Nat} {p : Pc} (h : KP w o p) (hb : Below w.heap.size w w') : KP w' o p := ⟨h.1.below hb, h.2⟩
theorem KP.but {w w' : World} {o : Option Nat} {p : Pc} (h : KP w o p) (hb : Kb o w w') : PF w' p := by
  refine ⟨fun k f hf => ?_, h.1.2⟩
  obtain ⟨g, off, he, c0, c1⟩ := h.1.1 k f hf
  have hne : o ≠ some g := h.2 (fun e => by rw [e] at hf; simp at hf) _ he
  exact ⟨g, off, he, hb.cell c0 hne, hb.cell c1 hne⟩
theorem KP.move {w w' : World} {o o' : Option Nat} {p : Pc} (h : KP w o p) (hb : Kb o w w') (ho : o' = o ∨ ∃ g, o' = some g ∧ w.heap.size ≤ g) : KP w' o' p := by
  refine ⟨h.but hb, fun hn a ha => ?_⟩
  rcases ho with rfl | ⟨g, rfl, hg⟩
  · exact h.2 hn a ha
  · intro e
    injection e with e
    have := h.1.lt hn ha
    omega
theorem KP.same {w : World} {o : Option Nat} {p q : Pc} (h : KP w o p) (h1 : q.fa = p.fa) (h2 : q.fc = p.fc) (h3 : q.fs = p.fs) : KP w o q := by
  unfold KP PF at h ⊢
  rw [h1, h2, h3]; exact h
/-- What Clip tells of any list, and what Splice. -/
def clipG (a : Int × Int) (l : List Pc) (x : Int) : Option (List Fd) := if rightT l = true then fsP (clipL a l) x else none
def spliceG (a : Int × Int) (l m : List Pc) (x : Int) : Option (List Fd) := if (rightT l && rightT m) = true then (if rightP a.1 a.2 = true then spliceV a l m x else fsP l x) else none
def firstF (l : List Pc) (x : Int) : List Fd := (fsP l x).getD []
theorem fs_small {l : List Pc} {n : Nat} (h : ∀ p ∈ l, p.fs.length ≤ n) {x : Int} {s : List Fd} (hs : fsP l x = some s) : s.length ≤ n := by
  unfold fsP at hs
  cases hv : valP l x with
  | none => rw [hv] at hs; cases hs
  | some p =>
    rw [hv] at hs
    have : p.fs = s := by simpa using hs
    rw [← this]
    exact h p (valP_mem hv).1
theorem clipG_few {a : Int × Int} {l : List Pc} {n : Nat} (h : ∀ p ∈ l, p.fs.length ≤ n) : ∀ x s, clipG a l x = some s → s.length ≤ n := fun x s hs => by
  unfold clipG at hs
  split at hs
  · rw [clip_fs] at hs
    split at hs
    · exact fs_small h hs
    · cases hs
  · cases hs
theorem spliceG_few {a : Int × Int} {l m : List Pc} {n : Nat} (h : ∀ p ∈ l, p.fs.length ≤ n) (k : ∀ p ∈ m, p.fs.length ≤ n) : ∀ x s, spliceG a l m x = some s → s.length ≤ n := fun x s hs => by
  unfold spliceG at hs
  split at hs
  · split at hs
    · unfold spliceV at hs
      split at hs
      · exact fs_small k hs
      · exact fs_small h hs
    · exact fs_small h hs
  · cases hs
abbrev sp2 (a : Int × Int) : Value := .agg #[.int .i64 a.1, .int .i64 a.2]
abbrev spanP (p : Pc) : Int × Int := (p.f, p.t)

end Go.Proofs.Ytmhddpgeiijhgaa

/-
  An argument that is a list of fields, or a list of lists of fields.
-/
namespace Go.Proofs.Ytmhddpgeiijhgaa
open Go.ChangeShapes Go.WideShapes Go.ChangeAt Go.RowKit Go.Joins Go.ChangeMaps Go.Deep

theorem Try.own : ownKnob Try.prog.godebug = none := by kernel_rfl
theorem Try.laidOut : laidOutB Try.prog = true := by kernel_rfl
theorem Try.cellsField : Try.prog.cellsOf 69 = 2 := by kernel_rfl
theorem Try.cells3i : Try.prog.cellsOf 3 = 1 := by kernel_rfl
theorem Try.cells3s : Try.prog.cellsOf 9 = 1 := by kernel_rfl
theorem Try.cells3l : Try.prog.cellsOf 49 = 1 := by kernel_rfl

instance : Inhabited Fd := ⟨⟨⟨#[]⟩, 0⟩⟩
theorem plain_of_cell {w : World} {a : Addr} {v : Value} (h : w.cell? (a.add 0) = some v) : a = ⟨a.block, a.off, none⟩ := by
  obtain ⟨b, off, spot⟩ := a
  have hs : spot = none := by simpa [Addr.add] using World.cell?_spot h
  subst hs
  rfl
/-- Fields that may be. -/
def wellF (l : List Fd) : Prop := ∀ f ∈ l, (-9223372036854775808 ≤ f.v ∧ f.v ≤ 9223372036854775807) ∧ f.n.size ≤ 9223372036854775807
theorem int_of_wf {n : Int} (h : (Lit.int .i64 n).wf = true) : -9223372036854775808 ≤ n ∧ n ≤ 9223372036854775807 := by
  have h1 : IntKind.i64.min = -9223372036854775808 := rfl
  have h2 : IntKind.i64.max = 9223372036854775807 := rfl
  simp only [Lit.wf, Bool.and_eq_true, decide_eq_true_eq] at h
  omega
section
variable {H : Type} {enc : TypeId × Value → H} {W : World} {r : Reach} {base : Nat}

set_option maxRecDepth 100000 in
theorem fields_of {fuel : Nat} {v : Value} {x : DataW H × List MemPlace} (hf : DataW.trod enc Try.prog W 0 (fun _ => true) true fuel 49 [v] = some x) :
    ∃ l, ListF W v l ∧ wellF l ∧ l.length ≤ 9223372036854775807 := by
  rcases open_slice Try.underlying49 hf with ⟨hcs, _⟩ | ⟨a, len', cap', m, n, D, Pl, hcs, _, hl, hmx, hm, _, hx⟩
  · obtain rfl : v = .slice none 0 0 := by simpa using hcs
    exact ⟨[], ⟨none, 0, rfl, Fields.nil _ _, Nat.le_refl _, fun _ => rfl⟩, fun f hf => by simp at hf, by simp⟩
  · obtain rfl : v = .slice (some a) len' cap' := by simpa using hcs
    simp only [if_true] at hm
    subst hm
    have each : ∀ i, i < len' → ∃ q : Fd, W.cell? (a.add (i * 2)) = some (.string q.n) ∧ W.cell? (a.add (i * 2 + 1)) = some (.int .i64 q.v) ∧ (-9223372036854775808 ≤ q.v ∧ q.v ≤ 9223372036854775807) ∧ q.n.size ≤ 9223372036854775807 := by
      intro i hi
      obtain ⟨cs', h1, h2⟩ := hx i (by omega)
      rw [Try.cellsField] at h1
      obtain ⟨_, hlen, hcell⟩ := World.cells?_some h1
      obtain ⟨xs, k, hk, hxy, _, hxl, hf⟩ := DataW.trod_struct Try.underlying69 h2
      match xs, hxl, cs', hlen with
      | [y0, y1], _, [v0, v1], _ =>
        have g0 := hf 0 _ rfl
        have g1 := hf 1 _ rfl
        simp [Try.cells3i, Try.cells3s] at g0 g1
        obtain ⟨s, e0, _, hz⟩ := DataW.trod_string Try.underlying9 g0
        obtain ⟨x, e1, _, hw⟩ := DataW.trod_int Try.underlying3 g1
        simp at e0 e1
        subst e0 e1
        have f0 := hcell 0 (by omega)
        have f1 := hcell 1 (by omega)
        rw [add_add] at f0 f1
        exact ⟨⟨s, x⟩, by simpa using f0, by simpa using f1, int_of_wf hw, by unfold maxLen at hz; omega⟩
    obtain ⟨q, hq⟩ := choose_lt each
    refine ⟨(List.range len').map q, ⟨some a, m, by simp, fun i x hxx => ?_, by simpa using hl, by simp⟩, fun x hxx => ?_, by simp; unfold maxLen at hmx; omega⟩
    · have hi : i < len' := by
        rcases Nat.lt_or_ge i len' with hlt | hge
        · exact hlt
        · rw [List.getElem?_eq_none (by simpa using hge)] at hxx
          cases hxx
      obtain rfl : q i = x := by
        rw [List.getElem?_map, List.getElem?_range hi] at hxx
        simpa using hxx
      obtain ⟨z0, _⟩ := hq 0 (by omega)
      have ha := plain_of_cell (by simpa using z0)
      obtain ⟨c0, c1, _⟩ := hq i hi
      rw [ha, Go.WideShapes.add_plain] at c0 c1
      exact ⟨a.block, a.off, by rw [← ha], c0, by rw [Nat.add_assoc]; exact c1⟩
    · obtain ⟨i, hi, rfl⟩ := List.mem_map.1 hxx
      exact (hq i (List.mem_range.1 hi)).2.2

set_option maxRecDepth 100000 in
theorem arg_fields {v : Value} {d : DataW H} {p : List MemPlace} (hv : Value.okWide Try.prog W r base 49 v) (h : DataW.Trod enc Try.prog W 0 (fun _ => true) true 49 v d p) :
    ∃ l, ListF W v l ∧ wellF l ∧ l.length ≤ 9223372036854775807 := by
  obtain ⟨A, len, cap, rfl⟩ := okWide_slice Try.underlying49 hv
  obtain ⟨fuel, hf⟩ := h
  exact fields_of (by simpa [Value.cells] using hf)

end

end Go.Proofs.Ytmhddpgeiijhgaa

/-
  An argument that is a list of versions.
-/
namespace Go.Proofs.Ytmhddpgeiijhgaa
open Go.ChangeShapes Go.WideShapes Go.ChangeAt Go.RowKit Go.Joins Go.ChangeMaps Go.Deep

theorem Try.cellsVersion : Try.prog.cellsOf 51 = 7 := by kernel_rfl
theorem Try.cellsSpan : Try.prog.cellsOf 26 = 2 := by kernel_rfl
theorem Try.cells3b : Try.prog.cellsOf 4 = 1 := by kernel_rfl
instance : Inhabited Vr := ⟨⟨0, 0, ⟨#[]⟩, 0, 0, none, 0, [], false⟩⟩

section
variable {H : Type} {enc : TypeId × Value → H} {W : World} {r : Reach} {base : Nat}

set_option maxRecDepth 100000 in
theorem arg_vers {v : Value} {d : DataW H} {p : List MemPlace} (hv : Value.okWide Try.prog W r base 43 v) (h : DataW.Trod enc Try.prog W 0 (fun _ => true) true 43 v d p) :
    ∃ l, VersL W v l ∧ (∀ x ∈ l, okF x.fs) ∧ l.length ≤ 9223372036854775807 := by
  obtain ⟨A, len, cap, rfl⟩ := okWide_slice Try.underlying43 hv
  obtain ⟨fuel, hf⟩ := h
  rcases open_slice Try.underlying43 hf with ⟨hcs, _⟩ | ⟨a, len', cap', m, n, D, Pl, hcs, _, hl, hmx, hm, _, hx⟩
  · simp [Value.cells] at hcs
    obtain ⟨rfl, rfl, rfl⟩ := hcs
    exact ⟨[], ⟨ListE.nil _, fun v hv => by simp at hv⟩, fun v hv => by simp at hv, by simp⟩
  · simp [Value.cells] at hcs
    obtain ⟨rfl, rfl, rfl⟩ := hcs
    simp only [if_true] at hm
    subst hm
    have each : ∀ i, i < len → ∃ q : Vr, (∀ j u, (cellsV q)[j]? = some u → W.cell? (a.add (i * 7 + j)) = some u) ∧ VF W q ∧ okF q.fs := by
      intro i hi
      obtain ⟨cs', h1, h2⟩ := hx i (by omega)
      rw [Try.cellsVersion] at h1
      obtain ⟨_, hlen, hcell⟩ := World.cells?_some h1
      obtain ⟨xs, k, hk, hxy, _, hxl, hf⟩ := DataW.trod_struct Try.underlying51 h2
      match xs, hxl, cs', hlen with
      | [y0, y1, y2, y3, y4, y5], _, [v0, v1, v2, v3, v4, v5, v6], _ =>
        have g0 := hf 0 _ rfl
        have g1 := hf 1 _ rfl
        have g2 := hf 2 _ rfl
        have g3 := hf 3 _ rfl
        have g4 := hf 4 _ rfl
        have g5 := hf 5 _ rfl
        simp [Try.cells3i, Try.cells3s, Try.cells3b, Try.cells3l, Try.cellsSpan] at g0 g1 g2 g3 g4 g5
        obtain ⟨x0, e0, _, _⟩ := DataW.trod_int Try.underlying3 g0
        obtain ⟨x1, e1, _, _⟩ := DataW.trod_int Try.underlying3 g1
        obtain ⟨x2, e2, _, _⟩ := DataW.trod_string Try.underlying9 g2
        obtain ⟨xs3, k3, hk3, hxy3, _, hxl3, hf3⟩ := DataW.trod_struct Try.underlying26 g3
        obtain ⟨l4, hl4, hw4, _⟩ := fields_of g4
        obtain ⟨x5, e5, _⟩ := DataW.trod_bool Try.underlying4 g5
        match xs3, hxl3 with
        | [z0, z1], _ =>
          have s0 := hf3 0 _ rfl
          have s1 := hf3 1 _ rfl
          simp [Try.cells3i] at s0 s1
          obtain ⟨x3, e3, _, _⟩ := DataW.trod_int Try.underlying3 s0
          obtain ⟨x4, e4, _, _⟩ := DataW.trod_int Try.underlying3 s1
          simp at e0 e1 e2 e3 e4 e5
          subst e0 e1 e2 e3 e4 e5
          obtain ⟨B, c, rfl, hB, hc, hnc⟩ := hl4
          refine ⟨⟨x0, x1, x2, x3, x4, B, c, l4, x5⟩, fun j u hu => ?_, ⟨hB, hc, hnc⟩, fun f hf => (hw4 f hf).2⟩
          have hj : j < 7 := by
            rcases Nat.lt_or_ge j 7 with h' | h'
            · exact h'
            · rw [List.getElem?_eq_none (by simpa using h')] at hu; cases hu
          have f0 := hcell j hj
          rw [add_add] at f0
          have hh : ([Value.int .i64 x0, .int .i64 x1, .string x2, .int .i64 x3, .int .i64 x4, .slice B l4.length c, .bool x5] : List Value)[j]? = some u := hu
          rw [hh] at f0
          exact f0
    obtain ⟨q, hq⟩ := choose_lt each
    refine ⟨(List.range len).map q, ⟨⟨some a, m, by simp, fun i x hxx => ?_, by simpa using hl, by simp⟩, fun x hxx => ?_⟩, fun x hxx => ?_, by simp; unfold maxLen at hmx; omega⟩
    · have hi : i < len := by
        rcases Nat.lt_or_ge i len with hlt | hge
        · exact hlt
        · rw [List.getElem?_eq_none (by simpa using hge)] at hxx
          cases hxx
      obtain rfl : q i = x := by
        rw [List.getElem?_map, List.getElem?_range hi] at hxx
        simpa using hxx
      have z0 := (hq 0 (by omega)).1 0 _ rfl
      have ha := plain_of_cell (by simpa using z0)
      refine ⟨a.block, a.off, by rw [← ha], fun j u hu => ?_⟩
      have c0 := (hq i hi).1 j u hu
      rw [ha, Go.WideShapes.add_plain] at c0
      have e7 : EV.sz = 7 := rfl
      rw [e7, Nat.add_assoc]
      exact c0
    · obtain ⟨i, hi, rfl⟩ := List.mem_map.1 hxx
      exact (hq i (List.mem_range.1 hi)).2.1
    · obtain ⟨i, hi, rfl⟩ := List.mem_map.1 hxx
      exact (hq i (List.mem_range.1 hi)).2.2
end

end Go.Proofs.Ytmhddpgeiijhgaa

/-
  What a text begins with, by the program: TakeNum.
-/
namespace Go.Proofs.Ytmhddpgeiijhgaa
open Go.RowKit
set_option maxRecDepth 100000

/-- What TakeNum, and the document's, give back. -/
def TakePost (s : ByteArray) (w : World) (e : Ending) (w' : World) : Prop := e = .returned (.tuple #[.int .i64 (tkN s : Int), .string (tkR s), .int .i64 (tkE s : Int)]) ∧ Below w.heap.size w w'
theorem ret_ise {a b c d : Int} {s t : ByteArray} (h : a = b) (k : s = t) (l : c = d) : Ending.returned (.tuple #[.int .i64 a, .string s, .int .i64 c]) = .returned (.tuple #[.int .i64 b, .string t, .int .i64 d]) := by rw [h, k, l]
theorem index_run {s : ByteArray} {i c : Nat} (h : (nats s)[i]? = some c) (w : World) : (Instr.index 9 (.string s) (.int .i64 (i : Int))).run Try.prog w = .ok (.int .u8 (c : Int)) w := by
  have hi : i < s.size := by
    rw [← nats_length]
    rcases Nat.lt_or_ge i (nats s).length with h' | h'
    · exact h'
    · rw [List.getElem?_eq_none h'] at h; cases h
  rw [nats_get hi] at h
  injection h with h
  rw [run_index_string w 9 s .i64 i Try.underlying9, dif_pos (by omega)]
  simp only [Int.toNat_natCast, h]

theorem and_not_mark {c : Nat} (hc : c < 256) : bits BinOp.andNot IntKind.u8 (c : Int) (mark (ones c) : Int) = ((c - mark (ones c) : Nat) : Int) := by
  have key : ∀ c : Nat, c < 256 → bits BinOp.andNot IntKind.u8 (c : Int) (mark (ones c) : Int) = ((c - mark (ones c) : Nat) : Int) := by decide +kernel
  exact key c hc
theorem bare_lt {c : Nat} (hc : c < 256) : ones c = 8 ∧ c - mark (ones c) = 0 ∨ ones c ≤ 7 ∧ c - mark (ones c) < 128 := by
  have key : ∀ c : Nat, c < 256 → (ones c = 8 ∧ c - mark (ones c) = 0 ∨ ones c ≤ 7 ∧ c - mark (ones c) < 128) := by decide +kernel
  exact key c hc
theorem bare_take (c : Nat) {r : List Nat} {k : Nat} (hk : k ≤ ones c) : (bare c r).take (k + 1) = (c - mark (ones c)) :: r.take k := by
  rw [bare, List.take_succ_cons, List.take_take, Nat.min_eq_left hk]
theorem gather_start (c : Nat) (r : List Nat) : val ((bare c r).take (0 + 1)) = c - mark (ones c) := by
  rw [bare_take c (Nat.zero_le _)]; simp [val]
theorem gather_all {c : Nat} {r : List Nat} (hl : ones c ≤ r.length) : val ((bare c r).take (ones c + 1)) = takeV c r := by
  rw [List.take_of_length_le (by rw [bare_length hl]; omega), bare_val hl]
theorem gather_lt {c : Nat} {r : List Nat} (hc : c < 256) (hl : ones c ≤ r.length) (hr : ∀ b ∈ r, b < 256) : ∀ k, k < ones c → val ((bare c r).take (k + 1)) < 72057594037927936 := by
  intro k hk
  have hb := val_lt (r.take k) (fun b hb => hr b (List.mem_of_mem_take hb))
  have hlen : (r.take k).length = k := by rw [List.length_take]; omega
  rw [bare_take c (Nat.le_of_lt hk), val, hlen]
  rw [hlen] at hb
  rcases bare_lt hc with ⟨h1, h2⟩ | ⟨h1, h2⟩
  · have h3 : 256 ^ k ≤ 256 ^ 7 := Nat.pow_le_pow_right (by decide) (by omega)
    rw [h2]; omega
  · have h3 : 256 ^ k ≤ 256 ^ 6 := Nat.pow_le_pow_right (by decide) (by omega)
    have h4 : (c - mark (ones c)) * 256 ^ k ≤ 127 * 256 ^ 6 := Nat.mul_le_mul (by omega) h3
    omega
theorem gather_next {c : Nat} {r : List Nat} (hl : ones c ≤ r.length) (hr : ∀ b ∈ r, b < 256) : ∀ k, k < ones c → ∃ b, r[k]? = some b ∧ b < 256 ∧ val ((bare c r).take (k + 1 + 1)) = 256 * val ((bare c r).take (k + 1)) + b := by
  intro k hk
  have hkr : k < r.length := by omega
  refine ⟨r[k], List.getElem?_eq_getElem hkr, hr _ (List.getElem_mem hkr), ?_⟩
  rw [bare_take c (Nat.le_of_lt hk), bare_take c hk, List.take_add_one, List.getElem?_eq_getElem hkr, Option.toList_some, ← List.cons_append, val_snoc]

theorem wraps_u64' (n : Int) (h0 : 0 ≤ n) (h1 : n < 2 ^ 64) : IntKind.u64.wrap n = n := by
  rw [IntKind.wrap_u64]
  omega
theorem shl_or {n b : Nat} (hn : n < 72057594037927936) (hb : b < 256) : bits BinOp.or IntKind.u64 ((n : Int) * 256) (b : Int) = ((256 * n + b : Nat) : Int) := by
  rw [bits_join .u64 64 (by decide) wraps_u64' 8 _ _ (by omega) (by omega) (by omega) (by omega) (by omega) (by omega)]
  omega

theorem belowN {n : Nat} {W w : World} (h : Below n W w) (q : Nat) : Below n W (w.drewN q) := h.trans ⟨rfl, rfl, rfl, Nat.le_refl _, fun _ _ => rfl⟩

/-- A number without a sign as one with. -/
def unzig (n : Nat) : Int := if n % 2 = 1 then -((n : Int) / 2) - 1 else (n : Int) / 2
theorem unzig_odd {n : Nat} (h : n % 2 = 1) : unzig n = -((n : Int) / 2) - 1 := by unfold unzig; rw [if_pos h]
theorem unzig_even {n : Nat} (h : ¬ n % 2 = 1) : unzig n = (n : Int) / 2 := by unfold unzig; rw [if_neg h]
def TakeIntPost (s : ByteArray) (w : World) (e : Ending) (w' : World) : Prop := e = .returned (.tuple #[.int .i64 (unzig (tkN s)), .string (tkR s), .int .i64 (tkE s : Int)]) ∧ Below w.heap.size w w'

end Go.Proofs.Ytmhddpgeiijhgaa

/-
  Buckets of time: plain facts.
-/
namespace Go.Proofs.Ytmhddpgeiijhgaa

abbrev widthB (w : Int) : Bool := decide (1 ≤ w) && decide (w ≤ 1099511627776)
abbrev timeB (t : Int) : Bool := decide (-1099511627776 ≤ t) && decide (t < 1099511627776)
theorem widthB_iff (w : Int) : widthB w = true ↔ 1 ≤ w ∧ w ≤ 1099511627776 := by simp [widthB]
theorem timeB_iff (t : Int) : timeB t = true ↔ -1099511627776 ≤ t ∧ t < 1099511627776 := by simp [timeB]
/-- Which bucket has a time, if it is one and the width, too. -/
def floorE (t w : Int) : Nat := if (widthB w && timeB t) = true then 0 else 2
def floorV (t w : Int) : Int := if (widthB w && timeB t) = true then t / w else 0
theorem ediv_bounds {t w : Int} (hw : 1 ≤ w) : t / w * w ≤ t ∧ t < t / w * w + w := by
  have h1 := Int.emod_nonneg t (show w ≠ 0 by omega)
  have h2 := Int.emod_lt_of_pos t (show 0 < w by omega)
  have h3 := Int.mul_ediv_add_emod t w
  have h4 : w * (t / w) = t / w * w := Int.mul_comm _ _
  omega
theorem ediv_unique {t w k : Int} (hw : 1 ≤ w) (h1 : k * w ≤ t) (h2 : t < k * w + w) : t / w = k := by
  obtain ⟨b1, b2⟩ := ediv_bounds (t := t) hw
  rcases Int.lt_trichotomy (t / w) k with h | h | h
  · have := Int.mul_le_mul_of_nonneg_right (show t / w + 1 ≤ k by omega) (show (0 : Int) ≤ w by omega)
    rw [Int.add_mul, Int.one_mul] at this
    omega
  · exact h
  · have := Int.mul_le_mul_of_nonneg_right (show k + 1 ≤ t / w by omega) (show (0 : Int) ≤ w by omega)
    rw [Int.add_mul, Int.one_mul] at this
    omega
/-- The quotient that the machine reckons, and the bucket. -/
theorem tdiv_floor {t w : Int} (hw : 1 ≤ w) : (t < t.tdiv w * w → t / w = t.tdiv w - 1) ∧ (¬ t < t.tdiv w * w → t / w = t.tdiv w) := by
  have h1 := Int.mul_tdiv_add_tmod t w
  have h4 : w * t.tdiv w = t.tdiv w * w := Int.mul_comm _ _
  have h5 : t.tmod w < w := Int.tmod_lt_of_pos t (by omega)
  have h6 : -w < t.tmod w := by
    have := Int.lt_tmod_of_pos t (show 0 < w by omega)
    omega
  constructor
  · intro h
    refine ediv_unique hw ?_ ?_
    · rw [Int.sub_mul, Int.one_mul]; omega
    · rw [Int.sub_mul, Int.one_mul]; omega
  · intro h
    exact ediv_unique hw (by omega) (by omega)
theorem tdiv_small {t w : Int} (_hw : 1 ≤ w) (h1 : -1099511627776 ≤ t) (h2 : t ≤ 1099511627776) : -1099511627776 ≤ t.tdiv w ∧ t.tdiv w ≤ 1099511627776 ∧ -2199023255552 ≤ t.tdiv w * w ∧ t.tdiv w * w ≤ 2199023255552 := by
  have h0 := Int.mul_tdiv_add_tmod t w
  have h4 : w * t.tdiv w = t.tdiv w * w := Int.mul_comm _ _
  have ha : (t.tdiv w).natAbs ≤ t.natAbs := Int.natAbs_tdiv_le_natAbs t w
  have hm : (t.tmod w).natAbs ≤ t.natAbs := by
    rw [Int.natAbs_tmod]; exact Nat.mod_le _ _
  omega

/-- A bucket's times. -/
def spanB (k w : Int) : Bool := widthB w && decide (max (k * w) (-1099511627776) < min (k * w + w) 1099511627776)
def spanV (k w : Int) : Int × Int := if spanB k w = true then (max (k * w) (-1099511627776), min (k * w + w) 1099511627776) else (0, 0)
theorem spanB_far {k w : Int} (hw : 1 ≤ w) (h : k > 1099511627776 / w ∨ k < 0 - 1099511627776 / w - 1) : spanB k w = false := by
  obtain ⟨b1, b2⟩ := ediv_bounds (t := 1099511627776) hw
  unfold spanB
  rw [Bool.and_eq_false_iff]
  right
  rw [decide_eq_false_iff_not]
  rcases h with h | h
  · have := Int.mul_le_mul_of_nonneg_right (show 1099511627776 / w + 1 ≤ k by omega) (show (0 : Int) ≤ w by omega)
    rw [Int.add_mul, Int.one_mul] at this
    omega
  · have := Int.mul_le_mul_of_nonneg_right (show k + 1 ≤ -(1099511627776 / w) - 1 by omega) (show (0 : Int) ≤ w by omega)
    rw [Int.add_mul, Int.one_mul, Int.sub_mul, Int.neg_mul, Int.one_mul] at this
    omega
theorem spanB_wide {k w : Int} (h : widthB w = false) : spanB k w = false := by unfold spanB; rw [h, Bool.false_and]
theorem max_ediv {w : Int} (hw : 1 ≤ w) : 0 ≤ 1099511627776 / w ∧ 1099511627776 / w ≤ 1099511627776 := by
  obtain ⟨b1, b2⟩ := ediv_bounds (t := 1099511627776) hw
  constructor
  · exact Int.ediv_nonneg (by decide) (by omega)
  · exact Int.ediv_le_self _ (by decide)
theorem spanB_out {k w : Int} (hw : 1 ≤ w) (h : k < -1099511627776 ∨ 1099511627776 < k) (hw2 : w ≤ 1099511627776) : spanB k w = false := by
  obtain ⟨b1, b2⟩ := ediv_bounds (t := 1099511627776) hw
  obtain ⟨m1, m2⟩ := max_ediv hw
  rcases h with h | h
  · by_cases h2 : k < 0 - 1099511627776 / w - 1
    · exact spanB_far hw (.inr h2)
    · -- the least bucket of the width 1 alone begins so far below
      have e : 1099511627776 / w = 1099511627776 := by omega
      have hw1 : w = 1 := by
        by_cases h1 : w = 1
        · exact h1
        · have := Int.mul_le_mul_of_nonneg_left (show 2 ≤ w by omega) (show (0 : Int) ≤ 1099511627776 by decide)
          rw [e] at b1
          omega
      subst hw1
      unfold spanB
      rw [Bool.and_eq_false_iff]
      right
      rw [decide_eq_false_iff_not]
      omega
  · exact spanB_far hw (.inl (by omega))
theorem near_small {k w : Int} (hw : 1 ≤ w) (hw2 : w ≤ 1099511627776) (h1 : ¬ k > 1099511627776 / w) (h2 : ¬ k < 0 - 1099511627776 / w - 1) : -2199023255552 ≤ k * w ∧ k * w ≤ 1099511627776 := by
  obtain ⟨b1, b2⟩ := ediv_bounds (t := 1099511627776) hw
  have p1 := Int.mul_le_mul_of_nonneg_right (show k ≤ 1099511627776 / w by omega) (show (0 : Int) ≤ w by omega)
  have p2 := Int.mul_le_mul_of_nonneg_right (show -(1099511627776 / w) - 1 ≤ k by omega) (show (0 : Int) ≤ w by omega)
  rw [Int.sub_mul, Int.neg_mul, Int.one_mul] at p2
  omega
/-- A time lies in its own bucket, and in no other one. -/
theorem bucket_has {t k w : Int} (hw : widthB w = true) (ht : timeB t = true) : (spanB k w = true ∧ (spanV k w).1 ≤ t ∧ t < (spanV k w).2) ↔ k = t / w := by
  rw [widthB_iff] at hw
  rw [timeB_iff] at ht
  obtain ⟨b1, b2⟩ := ediv_bounds (t := t) hw.1
  constructor
  · rintro ⟨h1, h2, h3⟩
    unfold spanV at h2 h3
    rw [if_pos h1] at h2 h3
    exact (ediv_unique hw.1 (by have h2 : max (k * w) (-1099511627776) ≤ t := h2; omega) (by have h3 : t < min (k * w + w) 1099511627776 := h3; omega)).symm
  · rintro rfl
    have h1 : spanB (t / w) w = true := by
      unfold spanB
      rw [Bool.and_eq_true, widthB_iff, decide_eq_true_eq]
      exact ⟨hw, by omega⟩
    refine ⟨h1, ?_, ?_⟩
    · unfold spanV; rw [if_pos h1]; show max _ _ ≤ t; omega
    · unfold spanV; rw [if_pos h1]; show t < min _ _; omega

/-- The buckets that have a time of a span. -/
abbrev rightBk (f t : Int) : Bool := decide (-1099511627776 ≤ f) && decide (t ≤ 1099511627776) && decide (f < t)
def overE (f t w m : Int) : Nat := if rightBk f t = false then 3 else if widthB w = false then 2 else if m < (t - 1) / w - f / w + 1 then 4 else 0
def risingI (x : Int) (n : Nat) : List Int := (List.range n).map (fun i : Nat => x + (i : Int))
theorem risingI_len (x : Int) (n : Nat) : (risingI x n).length = n := by unfold risingI; simp
theorem risingI_next (x : Int) (n : Nat) : risingI x (n + 1) = risingI x n ++ [x + (n : Int)] := by unfold risingI; rw [List.range_succ, List.map_append]; rfl
def overBk (f t w m : Int) : List Int := if overE f t w m = 0 then risingI (f / w) ((t - 1) / w - f / w + 1).toNat else []
theorem ediv_mono {a b w : Int} (hw : 1 ≤ w) (h : a ≤ b) : a / w ≤ b / w := Int.ediv_le_ediv (by omega) h
theorem ediv_small {t w : Int} (hw : 1 ≤ w) (h1 : -1099511627776 ≤ t) (h2 : t ≤ 1099511627776) : -1099511627776 ≤ t / w ∧ t / w ≤ 1099511627776 := by
  obtain ⟨b1, b2⟩ := ediv_bounds (t := t) hw
  constructor
  · by_cases h : -1099511627776 ≤ t / w
    · exact h
    · exfalso
      have p1 := Int.mul_le_mul_of_nonneg_right (show t / w ≤ -1099511627776 - 1 by omega) (show (0 : Int) ≤ w by omega)
      omega
  · have e := ediv_mono (w := w) hw h2
    have := (max_ediv hw).2
    omega

end Go.Proofs.Ytmhddpgeiijhgaa

/-
  The document's Name and one: is a text a name, what is wrong with a field alone. Fields in memory.
-/
namespace Go.Proofs.Ytmhddpgeiijhgaa
open Go.RowKit

/-- What a name's first bytes may be. -/
def preOk : List Nat → Bool
  | [] => true
  | c :: r => letterB c && r.all innerB
theorem preOk_snoc (l : List Nat) (c : Nat) : preOk (l ++ [c]) = (preOk l && if l = [] then letterB c else innerB c) := by
  cases l with
  | nil => simp [preOk]
  | cons d r => simp [preOk, Bool.and_assoc]
theorem preOk_more : ∀ (l : List Nat) (k : Nat), preOk (l.take k) = false → preOk l = false
  | [], _, h => by simp [preOk] at h
  | c :: r, 0, h => by simp [preOk] at h
  | c :: r, k + 1, h => by
    rw [List.take_succ_cons, preOk] at h
    rw [preOk]
    cases hc : letterB c with
    | false => rfl
    | true =>
      rw [hc, Bool.true_and] at h
      rw [Bool.true_and]
      rw [List.all_eq_false] at h ⊢
      obtain ⟨x, hx, h2⟩ := h
      exact ⟨x, List.mem_of_mem_take hx, h2⟩
theorem nameL_pre (l : List Nat) : nameL l = (preOk l && (!l.isEmpty && decide (l.length ≤ 12))) := by
  cases l with
  | nil => rfl
  | cons c r =>
    rw [nameL, preOk, List.isEmpty_cons, List.length_cons]
    simp
theorem name_bad {s : ByteArray} {k c : Nat} (hc : (nats s)[k]? = some c) (hp : preOk ((nats s).take k) = true) (h : (if k = 0 then letterB c else innerB c) = false) : nameB s = false := by
  unfold nameB
  rw [nameL_pre, preOk_more (nats s) (k + 1), Bool.false_and]
  rw [List.take_add_one, hc, Option.toList_some, preOk_snoc, hp, Bool.true_and]
  have hk : k < (nats s).length := by
    rcases Nat.lt_or_ge k (nats s).length with h' | h'
    · exact h'
    · rw [List.getElem?_eq_none h'] at hc; cases hc
  have e : ((nats s).take k = []) ↔ k = 0 := by
    rw [← List.length_eq_zero_iff, List.length_take, Nat.min_eq_left (by omega)]
  by_cases h0 : k = 0
  · rw [if_pos (e.2 h0)]; rw [if_pos h0] at h; exact h
  · rw [if_neg (fun h' => h0 (e.1 h'))]; rw [if_neg h0] at h; exact h
theorem name_next {s : ByteArray} {k c : Nat} (hc : (nats s)[k]? = some c) (hp : preOk ((nats s).take k) = true) (h : (if k = 0 then letterB c else innerB c) = true) : preOk ((nats s).take (k + 1)) = true := by
  rw [List.take_add_one, hc, Option.toList_some, preOk_snoc, hp, Bool.true_and]
  have hk : k < (nats s).length := by
    rcases Nat.lt_or_ge k (nats s).length with h' | h'
    · exact h'
    · rw [List.getElem?_eq_none h'] at hc; cases hc
  have e : ((nats s).take k = []) ↔ k = 0 := by
    rw [← List.length_eq_zero_iff, List.length_take, Nat.min_eq_left (by omega)]
  by_cases h0 : k = 0
  · rw [if_pos (e.2 h0)]; rw [if_pos h0] at h; exact h
  · rw [if_neg (fun h' => h0 (e.1 h'))]; rw [if_neg h0] at h; exact h
theorem letter_inner {c k : Nat} (h : letterB c = true) : (if k = 0 then letterB c else innerB c) = true := by
  split
  · exact h
  · unfold innerB; rw [h]; rfl
theorem byte0 {s : ByteArray} {c : Nat} (h : (nats s)[0]? = some c) (h0 : 0 < s.size) : (s[0]'h0).toNat = c := by
  have := nats_get (s := s) (i := 0) h0
  rw [this] at h
  exact Option.some.inj h
theorem ret_bool {a b : Bool} (h : a = b) : Ending.returned (.bool a) = .returned (.bool b) := by rw [h]

end Go.Proofs.Ytmhddpgeiijhgaa

/-
  The document's Of, Covers and At of versions.
-/
namespace Go.Proofs.Ytmhddpgeiijhgaa
open Go.RowKit

/-- Few enough versions, of few enough fields. -/
def fewV (l : List Vr) : Prop := l.length ≤ 200 ∧ ∀ v ∈ l, v.fs.length ≤ 100
theorem flat_leV {L : List (List Fd)} {m : Nat} (h : ∀ l ∈ L, l.length ≤ m) : L.flatten.length ≤ L.length * m := by
  induction L with
  | nil => simp
  | cons a L ih =>
    rw [List.flatten_cons, List.length_append, List.length_cons, Nat.add_mul, Nat.one_mul]
    have h1 := h a List.mem_cons_self
    have h2 := ih fun l hl => h l (List.mem_cons_of_mem _ hl)
    omega
theorem counts_mem {l : List Vr} {fs : List Fd} (h : fs ∈ countsV l) : ∃ v ∈ l, v.fs = fs := by
  unfold countsV at h
  obtain ⟨v, hv, rfl⟩ := List.mem_map.1 h
  exact ⟨v, (ordL_perm l).mem_iff.1 (List.mem_filter.1 hv).1, rfl⟩
theorem counts_few {l : List Vr} (h : fewV l) : (countsV l).length ≤ 200 ∧ (countsV l).flatten.length ≤ 20000 ∧ ∀ fs ∈ countsV l, fs.length ≤ 100 := by
  have h1 : (countsV l).length ≤ 200 := by
    unfold countsV
    rw [List.length_map]
    have := List.length_filter_le (fun v : Vr => !v.gone) (ordL l)
    rw [ordL_length] at this
    have := h.1
    omega
  have h2 : ∀ fs ∈ countsV l, fs.length ≤ 100 := fun fs hf => by
    obtain ⟨v, hv, rfl⟩ := counts_mem hf
    exact h.2 v hv
  have h3 := flat_leV h2
  have : (countsV l).length * 100 ≤ 200 * 100 := Nat.mul_le_mul_right 100 h1
  exact ⟨h1, by omega, h2⟩
/-- Lists of fields as their values' parts. -/
def slOf (v : Vr) : Sl := ⟨v.fa, v.fs.length, v.fc⟩
end Go.Proofs.Ytmhddpgeiijhgaa

/-
  The document's Covers and At of versions.
-/
namespace Go.Proofs.Ytmhddpgeiijhgaa
open Go.RowKit

def rightS (f t : Int) : Bool := decide (-1099511627776 ≤ f) && decide (t ≤ 1099511627776) && decide (f < t)
def hasS (f t x : Int) : Bool := decide (f ≤ x) && decide (x < t)
theorem coversB_eq (v : Vr) (t : Int) : coversB v t = (!v.gone && rightS v.sf v.se && hasS v.sf v.se t) := rfl

set_option maxHeartbeats 1000000 in
theorem dright01_any (f t : Int) (w : World) : Ret 31 #[.agg #[.int .i64 f, .int .i64 t]] w (.bool (rightS f t)) := by
  by_cases h1 : -1099511627776 ≤ f
  · by_cases h2 : t ≤ 1099511627776
    · by_cases h3 : f < t
      · have HE := Lib.hid (show rightS f t = true by simp [rightS, h1, h2, h3])
        go_enter Try.func31, Try.ntmps31
        go_wp2_with fail
        go_ret
        exact ⟨ret_bool HE.out.symm, (bl w).alloc (Nat.le_refl _) _⟩
      · have HE := Lib.hid (show rightS f t = false by simp [rightS, h3])
        go_enter Try.func31, Try.ntmps31
        go_wp2_with fail
        go_ret
        exact ⟨ret_bool HE.out.symm, (bl w).alloc (Nat.le_refl _) _⟩
    · have HE := Lib.hid (show rightS f t = false by simp [rightS, h2])
      go_enter Try.func31, Try.ntmps31
      go_wp2_with fail
      go_ret
      exact ⟨ret_bool HE.out.symm, (bl w).alloc (Nat.le_refl _) _⟩
  · have HE := Lib.hid (show rightS f t = false by simp [rightS, h1])
    go_enter Try.func31, Try.ntmps31
    go_wp2_with fail
    go_ret
    exact ⟨ret_bool HE.out.symm, (bl w).alloc (Nat.le_refl _) _⟩
set_option maxHeartbeats 1000000 in
theorem dhas01_any (f t x : Int) (w : World) : Ret 13 #[.agg #[.int .i64 f, .int .i64 t], .int .i64 x] w (.bool (hasS f t x)) := by
  by_cases h1 : f ≤ x
  · by_cases h2 : x < t
    · have HE := Lib.hid (show hasS f t x = true by simp [hasS, h1, h2])
      go_enter Try.func13, Try.ntmps13
      go_wp2_with fail
      go_ret
      exact ⟨ret_bool HE.out.symm, (bl w).alloc (Nat.le_refl _) _⟩
    · have HE := Lib.hid (show hasS f t x = false by simp [hasS, h2])
      go_enter Try.func13, Try.ntmps13
      go_wp2_with fail
      go_ret
      exact ⟨ret_bool HE.out.symm, (bl w).alloc (Nat.le_refl _) _⟩
  · have HE := Lib.hid (show hasS f t x = false by simp [hasS, h1])
    go_enter Try.func13, Try.ntmps13
    go_wp2_with fail
    go_ret
    exact ⟨ret_bool HE.out.symm, (bl w).alloc (Nat.le_refl _) _⟩

theorem few_filter {l : List Vr} (p : Vr → Bool) (h : fewV l) : fewV (l.filter p) := ⟨by have := List.length_filter_le p l; have := h.1; omega, fun v hv => h.2 v (List.mem_filter.1 hv).1⟩

end Go.Proofs.Ytmhddpgeiijhgaa

/-
  Is a span right, by the program?
-/
namespace Go.Proofs.Ytmhddpgeiijhgaa
open Go.RowKit

set_option maxHeartbeats 1000000 in
theorem pspan_right (f t : Int) (w : World) : Ret 30 #[.agg #[.int .i64 f, .int .i64 t]] w (.bool (rightS f t)) := by
  by_cases h1 : -1099511627776 ≤ f
  · by_cases h3 : f < t
    · by_cases h2 : t ≤ 1099511627776
      · have HE := Lib.hid (show rightS f t = true by simp [rightS, h1, h2, h3])
        go_enter Try.func30, Try.ntmps30
        go_wp2_with fail
        go_ret
        exact ⟨ret_bool HE.out.symm, by (repeat (first | exact (bl w) | refine belowN ?_ _ | refine Below.alloc ?_ (by have hsz := Below.size (bl w); first | omega | (simp; done) | (simp; omega) | (simp at hsz ⊢; omega)) _))⟩
      · have HE := Lib.hid (show rightS f t = false by simp [rightS, h2])
        go_enter Try.func30, Try.ntmps30
        go_wp2_with fail
        go_ret
        exact ⟨ret_bool HE.out.symm, by (repeat (first | exact (bl w) | refine belowN ?_ _ | refine Below.alloc ?_ (by have hsz := Below.size (bl w); first | omega | (simp; done) | (simp; omega) | (simp at hsz ⊢; omega)) _))⟩
    · have HE := Lib.hid (show rightS f t = false by simp [rightS, h3])
      go_enter Try.func30, Try.ntmps30
      go_wp2_with fail
      go_ret
      exact ⟨ret_bool HE.out.symm, by (repeat (first | exact (bl w) | refine belowN ?_ _ | refine Below.alloc ?_ (by have hsz := Below.size (bl w); first | omega | (simp; done) | (simp; omega) | (simp at hsz ⊢; omega)) _))⟩
  · have HE := Lib.hid (show rightS f t = false by simp [rightS, h1])
    go_enter Try.func30, Try.ntmps30
    go_wp2_with fail
    go_ret
    exact ⟨ret_bool HE.out.symm, by (repeat (first | exact (bl w) | refine belowN ?_ _ | refine Below.alloc ?_ (by have hsz := Below.size (bl w); first | omega | (simp; done) | (simp; omega) | (simp at hsz ⊢; omega)) _))⟩
set_option maxHeartbeats 1000000 in
theorem phas_any (f t x : Int) (w : World) : Ret 28 #[.agg #[.int .i64 f, .int .i64 t], .int .i64 x] w (.bool (hasS f t x)) := by
  by_cases h1 : f ≤ x
  · by_cases h2 : x < t
    · have HE := Lib.hid (show hasS f t x = true by simp [hasS, h1, h2])
      go_enter Try.func28, Try.ntmps28
      go_wp2_with fail
      go_ret
      exact ⟨ret_bool HE.out.symm, by (repeat (first | exact (bl w) | refine belowN ?_ _ | refine Below.alloc ?_ (by have hsz := Below.size (bl w); first | omega | (simp; done) | (simp; omega) | (simp at hsz ⊢; omega)) _))⟩
    · have HE := Lib.hid (show hasS f t x = false by simp [hasS, h2])
      go_enter Try.func28, Try.ntmps28
      go_wp2_with fail
      go_ret
      exact ⟨ret_bool HE.out.symm, by (repeat (first | exact (bl w) | refine belowN ?_ _ | refine Below.alloc ?_ (by have hsz := Below.size (bl w); first | omega | (simp; done) | (simp; omega) | (simp at hsz ⊢; omega)) _))⟩
  · have HE := Lib.hid (show hasS f t x = false by simp [hasS, h1])
    go_enter Try.func28, Try.ntmps28
    go_wp2_with fail
    go_ret
    exact ⟨ret_bool HE.out.symm, by (repeat (first | exact (bl w) | refine belowN ?_ _ | refine Below.alloc ?_ (by have hsz := Below.size (bl w); first | omega | (simp; done) | (simp; omega) | (simp at hsz ⊢; omega)) _))⟩

end Go.Proofs.Ytmhddpgeiijhgaa

/-
  The program's isWidth, floor, Floor, Span.
-/
namespace Go.Proofs.Ytmhddpgeiijhgaa
open Go.RowKit

set_option maxHeartbeats 1000000 in
theorem pwidth13_any (x : Int) (w : World) : Same 27 #[.int .i64 x] w (.bool (widthB x)) := by
  by_cases h1 : 1 ≤ x
  · have h1' : decide (1 ≤ x) = true := by simpa using h1
    by_cases h2 : x ≤ 1099511627776
    · have h2' : decide (x ≤ 1099511627776) = true := by simpa using h2
      have HE := Lib.hid (show widthB x = true by simp [widthB, h1, h2])
      go_enter Try.func27, Try.ntmps27
      go_wp2_with fail
      go_ret
      exact ⟨ret_bool HE.out.symm, rfl⟩
    · have h2' : decide (x ≤ 1099511627776) = false := by simpa using h2
      have HE := Lib.hid (show widthB x = false by simp [widthB, h2])
      go_enter Try.func27, Try.ntmps27
      go_wp2_with fail
      go_ret
      exact ⟨ret_bool HE.out.symm, rfl⟩
  · have h1' : decide (1 ≤ x) = false := by simpa using h1
    have HE := Lib.hid (show widthB x = false by simp [widthB, h1])
    go_enter Try.func27, Try.ntmps27
    go_wp2_with fail
    go_ret
    exact ⟨ret_bool HE.out.symm, rfl⟩

set_option maxHeartbeats 1000000 in
theorem pfl13_any (t x : Int) (w : World) (hx : 1 ≤ x) (h1 : -1099511627776 ≤ t) (h2 : t ≤ 1099511627776) : Same 29 #[.int .i64 t, .int .i64 x] w (.int .i64 (t / x)) := by
  obtain ⟨s1, s2, s3, s4⟩ := tdiv_small hx h1 h2
  obtain ⟨f1, f2⟩ := tdiv_floor (t := t) hx
  have hx0 : ¬ x = 0 := by omega
  have hx0' : (x == 0) = false := by simpa using hx0
  have hm := Int.mul_tdiv_add_tmod t x
  have hm2 : x * t.tdiv x = t.tdiv x * x := Int.mul_comm _ _
  have q1 : wrap64 (t.tdiv x) = t.tdiv x := IntWalk.wrap64_in _ (by omega)
  have q3 : wrap64 (t.tdiv x - 1) = t.tdiv x - 1 := IntWalk.wrap64_in _ (by omega)
  have q4 : wrap64 (t.tmod x) = t.tmod x := IntWalk.wrap64_in _ (by omega)
  by_cases h3 : t < t.tdiv x * x
  · have h3' : decide (t.tmod x < 0) = true := by rw [decide_eq_true_eq]; omega
    have h3 : t.tmod x < 0 := by omega
    have HV := Lib.hid (f1 (by omega))
    rw [HV.out]
    clear f1 f2 s1 s2 s3 s4 hm hm2 h1 h2
    go_enter Try.func29, Try.ntmps29
    go_wp2_with fail
    go_ret
    exact ⟨ret_int (by first | exact q3 | rfl | (show wrap64 (t.tdiv x - 1) = _; exact q3)), rfl⟩
  · have h3' : decide (t.tmod x < 0) = false := by rw [decide_eq_false_iff_not]; omega
    have h3 : ¬ t.tmod x < 0 := by omega
    have HV := Lib.hid (f2 (by omega))
    rw [HV.out]
    clear f1 f2 s1 s2 s3 s4 hm hm2 h1 h2
    go_enter Try.func29, Try.ntmps29
    go_wp2_with fail
    go_ret
    exact ⟨ret_int (by first | rfl | exact q1), rfl⟩

theorem hasS_times (t : Int) : hasS (-1099511627776) 1099511627776 t = timeB t := rfl
set_option maxHeartbeats 2000000 in
theorem pbfloor_any (t x : Int) (w : World) : Ret 8 #[.int .i64 t, .int .i64 x] w (.tuple #[.int .i64 (floorV t x), .int .i64 ((floorE t x : Nat) : Int)]) := by
  have CW := Lib.hid (pwidth13_any x)
  have CH := Lib.hid (phas_any (-1099511627776) 1099511627776 t)
  rw [hasS_times] at CH
  have HB0 := Lib.hid (show ∀ o : Obj, Below w.heap.size w (w.alloc o) from fun o => (bl w).alloc (Nat.le_refl _) o)
  cases hw : widthB x with
  | false =>
    rw [hw] at CW
    have HE := Lib.hid (show floorE t x = 2 ∧ floorV t x = 0 from ⟨by rw [floorE, hw, Bool.false_and]; rfl, by rw [floorV, hw, Bool.false_and]; rfl⟩)
    rw [HE.out.1, HE.out.2]
    clear hw
    go_enter Try.func8, Try.ntmps8
    go_wp2_with (go_at_call 27; (with_reducible refine (CW.out _).mono ?_); rintro e w2 ⟨rfl, rfl⟩)
    go_ret2
    exact ⟨rfl, HB0.out _⟩
  | true =>
    rw [hw] at CW
    cases ht : timeB t with
    | false =>
      rw [ht] at CH
      have HE := Lib.hid (show floorE t x = 2 ∧ floorV t x = 0 from ⟨by rw [floorE, hw, ht]; rfl, by rw [floorV, hw, ht]; rfl⟩)
      rw [HE.out.1, HE.out.2]
      clear hw ht
      go_enter Try.func8, Try.ntmps8
      go_wp2_with (first
        | (go_at_call 27; (with_reducible refine (CW.out _).mono ?_); rintro e w2 ⟨rfl, rfl⟩)
        | (go_at_call 28; (with_reducible refine (CH.out _).mono ?_); rintro e w3 ⟨rfl, hb3⟩))
      go_ret2
      exact ⟨rfl, chain (HB0.out _) hb3⟩
    | true =>
      rw [ht] at CH
      have hx := (widthB_iff x).1 hw
      have ht2 := (timeB_iff t).1 ht
      have CF := Lib.hid (fun w => pfl13_any t x w hx.1 ht2.1 (by omega))
      have HE := Lib.hid (show floorE t x = 0 ∧ floorV t x = t / x from ⟨by rw [floorE, hw, ht]; rfl, by rw [floorV, hw, ht]; rfl⟩)
      rw [HE.out.1, HE.out.2]
      clear hw ht hx ht2
      go_enter Try.func8, Try.ntmps8
      go_wp2_with (first
        | (go_at_call 27; (with_reducible refine (CW.out _).mono ?_); rintro e w2 ⟨rfl, rfl⟩)
        | (go_at_call 28; (with_reducible refine (CH.out _).mono ?_); rintro e w3 ⟨rfl, hb3⟩)
        | (go_at_call 29; (with_reducible refine (CF.out _).mono ?_); rintro e w4 ⟨rfl, rfl⟩))
      go_ret2
      exact ⟨rfl, chain (HB0.out _) hb3⟩

/-- What the first and the last bucket tell of a bucket. -/
theorem spanB_ends {k x : Int} (hx : 1 ≤ x) (hx2 : x ≤ 1099511627776) :
    (k < (-1099511627776) / x → spanB k x = false) ∧ (1099511627775 / x < k → spanB k x = false) ∧
    (¬ k < (-1099511627776) / x → ¬ 1099511627775 / x < k → spanB k x = true ∧ -2199023255552 ≤ k * x ∧ k * x < 1099511627776 ∧ -1099511627776 < k * x + x) := by
  obtain ⟨a1, a2⟩ := ediv_bounds (t := -1099511627776) hx
  obtain ⟨b1, b2⟩ := ediv_bounds (t := 1099511627775) hx
  have hw : widthB x = true := (widthB_iff x).2 ⟨hx, hx2⟩
  generalize (-1099511627776) / x = lo at *
  generalize 1099511627775 / x = hi at *
  refine ⟨fun h => ?_, fun h => ?_, fun h1 h2 => ?_⟩
  · have p := Int.mul_le_mul_of_nonneg_right (show k + 1 ≤ lo by omega) (show (0 : Int) ≤ x by omega)
    rw [Int.add_mul, Int.one_mul] at p
    unfold spanB
    rw [hw, Bool.true_and, decide_eq_false_iff_not]
    omega
  · have p := Int.mul_le_mul_of_nonneg_right (show hi + 1 ≤ k by omega) (show (0 : Int) ≤ x by omega)
    rw [Int.add_mul, Int.one_mul] at p
    unfold spanB
    rw [hw, Bool.true_and, decide_eq_false_iff_not]
    omega
  · have p1 := Int.mul_le_mul_of_nonneg_right (show lo ≤ k by omega) (show (0 : Int) ≤ x by omega)
    have p2 := Int.mul_le_mul_of_nonneg_right (show k ≤ hi by omega) (show (0 : Int) ≤ x by omega)
    refine ⟨?_, by omega, by omega, by omega⟩
    unfold spanB
    rw [hw, Bool.true_and, decide_eq_true_eq]
    omega
set_option maxHeartbeats 4000000 in
set_option maxRecDepth 10000 in
theorem pbspan_any (k x : Int) (w : World) : Ret 10 #[.int .i64 k, .int .i64 x] w (.tuple #[.agg #[.int .i64 (spanV k x).1, .int .i64 (spanV k x).2], .bool (spanB k x)]) := by
  have CW := Lib.hid (pwidth13_any x)
  have HB0 := Lib.hid (show ∀ o : Obj, Below w.heap.size w (w.alloc o) from fun o => (bl w).alloc (Nat.le_refl _) o)
  cases hw : widthB x with
  | false =>
    rw [hw] at CW
    have HE := Lib.hid (show (spanV k x).1 = 0 ∧ (spanV k x).2 = 0 ∧ spanB k x = false by unfold spanV; rw [spanB_wide hw]; exact ⟨rfl, rfl, rfl⟩)
    clear hw
    go_enter Try.func10, Try.ntmps10
    go_wp2_with (go_at_call 27; (with_reducible refine (CW.out _).mono ?_); rintro e w2 ⟨rfl, rfl⟩)
    refine bodyPost_ret (v := .tuple #[.agg #[.int .i64 0, .int .i64 0], .bool false]) (by simp [results, Try.results10, go_sem]) rfl ⟨by rw [HE.out.1, HE.out.2.1, HE.out.2.2], ?_⟩
    exact HB0.out _
  | true =>
    rw [hw] at CW
    have hx := (widthB_iff x).1 hw
    have CF := Lib.hid (fun w => pfl13_any (-1099511627776) x w hx.1 (by decide) (by decide))
    have CG := Lib.hid (fun w => pfl13_any 1099511627775 x w hx.1 (by decide) (by decide))
    obtain ⟨e1, e2, e3⟩ := spanB_ends (k := k) hx.1 hx.2
    generalize (-1099511627776) / x = lo at *
    generalize 1099511627775 / x = hi at *
    by_cases h1 : k < lo
    · have h1' : decide (k < lo) = true := by simpa using h1
      have hb := e1 h1
      have HE := Lib.hid (show (spanV k x).1 = 0 ∧ (spanV k x).2 = 0 ∧ spanB k x = false by unfold spanV; rw [hb]; exact ⟨rfl, rfl, rfl⟩)
      clear hw hx e1 e2 e3 hb h1
      go_enter Try.func10, Try.ntmps10
      go_wp2_with (first
        | (go_at_call 27; (with_reducible refine (CW.out _).mono ?_); rintro e w2 ⟨rfl, rfl⟩)
        | (go_at_call 29; (with_reducible refine (CF.out _).mono ?_); rintro e w4 ⟨rfl, rfl⟩)
        | (go_at_call 29; (with_reducible refine (CG.out _).mono ?_); rintro e w4 ⟨rfl, rfl⟩))
      refine bodyPost_ret (v := .tuple #[.agg #[.int .i64 0, .int .i64 0], .bool false]) (by simp [results, Try.results10, go_sem]) rfl ⟨by rw [HE.out.1, HE.out.2.1, HE.out.2.2], ?_⟩
      exact HB0.out _
    · have h1' : decide (k < lo) = false := by simpa using h1
      by_cases h2 : hi < k
      · have h2' : decide (hi < k) = true := by simpa using h2
        have hb := e2 h2
        have HE := Lib.hid (show (spanV k x).1 = 0 ∧ (spanV k x).2 = 0 ∧ spanB k x = false by unfold spanV; rw [hb]; exact ⟨rfl, rfl, rfl⟩)
        clear hw hx e1 e2 e3 hb h1 h2
        go_enter Try.func10, Try.ntmps10
        go_wp2_with (first
          | (go_at_call 27; (with_reducible refine (CW.out _).mono ?_); rintro e w2 ⟨rfl, rfl⟩)
          | (go_at_call 29; (with_reducible refine (CF.out _).mono ?_); rintro e w4 ⟨rfl, rfl⟩)
          | (go_at_call 29; (with_reducible refine (CG.out _).mono ?_); rintro e w4 ⟨rfl, rfl⟩))
        refine bodyPost_ret (v := .tuple #[.agg #[.int .i64 0, .int .i64 0], .bool false]) (by simp [results, Try.results10, go_sem]) rfl ⟨by rw [HE.out.1, HE.out.2.1, HE.out.2.2], ?_⟩
        exact HB0.out _
      · have h2' : decide (hi < k) = false := by simpa using h2
        obtain ⟨hb, s1, s2, s3⟩ := e3 h1 h2
        have r1 : wrap64 (k * x) = k * x := IntWalk.wrap64_in _ (by omega)
        have r2 : wrap64 (k * x + x) = k * x + x := IntWalk.wrap64_in _ (by omega)
        have HE := Lib.hid (show (spanV k x).1 = max (k * x) (-1099511627776) ∧ (spanV k x).2 = min (k * x + x) 1099511627776 ∧ spanB k x = true by unfold spanV; rw [hb]; exact ⟨rfl, rfl, rfl⟩)
        clear hw hx e1 e2 e3 hb h1 h2
        by_cases c1 : k * x < -1099511627776
        · have m1 : max (k * x) (-1099511627776) = -1099511627776 := by omega
          have d1 : decide (k * x < -1099511627776) = true := by simpa using c1
          by_cases c2 : 1099511627776 < k * x + x
          · have m2 : min (k * x + x) 1099511627776 = 1099511627776 := by omega
            have d2 : decide (1099511627776 < k * x + x) = true := by simpa using c2
            clear s1 s2 s3
            go_enter Try.func10, Try.ntmps10
            go_wp2_with (first
              | (go_at_call 27; (with_reducible refine (CW.out _).mono ?_); rintro e w2 ⟨rfl, rfl⟩)
              | (go_at_call 29; (with_reducible refine (CF.out _).mono ?_); rintro e w4 ⟨rfl, rfl⟩)
              | (go_at_call 29; (with_reducible refine (CG.out _).mono ?_); rintro e w4 ⟨rfl, rfl⟩))
            refine bodyPost_ret (v := .tuple #[.agg #[.int .i64 (-1099511627776), .int .i64 (1099511627776)], .bool true]) (by simp [results, Try.results10, go_sem]) rfl ⟨by rw [HE.out.1, HE.out.2.1, HE.out.2.2, m1, m2], ?_⟩
            first | exact HB0.out _ | ((repeat (first | exact bl _ | (refine Go.RowKit.Below.setCell (p := ⟨_, _, none⟩) ?_ (by first | exact Nat.le_refl _ | simp | (simp; omega)) _) | (refine Go.RowKit.Below.alloc ?_ (by first | exact Nat.le_refl _ | simp | (simp; omega)) _))))
          · have m2 : min (k * x + x) 1099511627776 = k * x + x := by omega
            have d2 : decide (1099511627776 < k * x + x) = false := by simpa using c2
            clear s1 s2 s3
            go_enter Try.func10, Try.ntmps10
            go_wp2_with (first
              | (go_at_call 27; (with_reducible refine (CW.out _).mono ?_); rintro e w2 ⟨rfl, rfl⟩)
              | (go_at_call 29; (with_reducible refine (CF.out _).mono ?_); rintro e w4 ⟨rfl, rfl⟩)
              | (go_at_call 29; (with_reducible refine (CG.out _).mono ?_); rintro e w4 ⟨rfl, rfl⟩))
            refine bodyPost_ret (v := .tuple #[.agg #[.int .i64 (-1099511627776), .int .i64 (k * x + x)], .bool true]) (by simp [results, Try.results10, go_sem]) rfl ⟨by rw [HE.out.1, HE.out.2.1, HE.out.2.2, m1, m2], ?_⟩
            first | exact HB0.out _ | ((repeat (first | exact bl _ | (refine Go.RowKit.Below.setCell (p := ⟨_, _, none⟩) ?_ (by first | exact Nat.le_refl _ | simp | (simp; omega)) _) | (refine Go.RowKit.Below.alloc ?_ (by first | exact Nat.le_refl _ | simp | (simp; omega)) _))))
        · have m1 : max (k * x) (-1099511627776) = k * x := by omega
          have d1 : decide (k * x < -1099511627776) = false := by simpa using c1
          by_cases c2 : 1099511627776 < k * x + x
          · have m2 : min (k * x + x) 1099511627776 = 1099511627776 := by omega
            have d2 : decide (1099511627776 < k * x + x) = true := by simpa using c2
            clear s1 s2 s3
            go_enter Try.func10, Try.ntmps10
            go_wp2_with (first
              | (go_at_call 27; (with_reducible refine (CW.out _).mono ?_); rintro e w2 ⟨rfl, rfl⟩)
              | (go_at_call 29; (with_reducible refine (CF.out _).mono ?_); rintro e w4 ⟨rfl, rfl⟩)
              | (go_at_call 29; (with_reducible refine (CG.out _).mono ?_); rintro e w4 ⟨rfl, rfl⟩))
            refine bodyPost_ret (v := .tuple #[.agg #[.int .i64 (k * x), .int .i64 (1099511627776)], .bool true]) (by simp [results, Try.results10, go_sem]) rfl ⟨by rw [HE.out.1, HE.out.2.1, HE.out.2.2, m1, m2], ?_⟩
            first | exact HB0.out _ | ((repeat (first | exact bl _ | (refine Go.RowKit.Below.setCell (p := ⟨_, _, none⟩) ?_ (by first | exact Nat.le_refl _ | simp | (simp; omega)) _) | (refine Go.RowKit.Below.alloc ?_ (by first | exact Nat.le_refl _ | simp | (simp; omega)) _))))
          · have m2 : min (k * x + x) 1099511627776 = k * x + x := by omega
            have d2 : decide (1099511627776 < k * x + x) = false := by simpa using c2
            clear s1 s2 s3
            go_enter Try.func10, Try.ntmps10
            go_wp2_with (first
              | (go_at_call 27; (with_reducible refine (CW.out _).mono ?_); rintro e w2 ⟨rfl, rfl⟩)
              | (go_at_call 29; (with_reducible refine (CF.out _).mono ?_); rintro e w4 ⟨rfl, rfl⟩)
              | (go_at_call 29; (with_reducible refine (CG.out _).mono ?_); rintro e w4 ⟨rfl, rfl⟩))
            refine bodyPost_ret (v := .tuple #[.agg #[.int .i64 (k * x), .int .i64 (k * x + x)], .bool true]) (by simp [results, Try.results10, go_sem]) rfl ⟨by rw [HE.out.1, HE.out.2.1, HE.out.2.2, m1, m2], ?_⟩
            first | exact HB0.out _ | ((repeat (first | exact bl _ | (refine Go.RowKit.Below.setCell (p := ⟨_, _, none⟩) ?_ (by first | exact Nat.le_refl _ | simp | (simp; omega)) _) | (refine Go.RowKit.Below.alloc ?_ (by first | exact Nat.le_refl _ | simp | (simp; omega)) _))))

end Go.Proofs.Ytmhddpgeiijhgaa

/-
  Totals: plain facts; the document's list of them.
-/
namespace Go.Proofs.Ytmhddpgeiijhgaa
open Go.RowKit

/-- What there is of a name in a bucket. -/
structure Tt where
  n : ByteArray
  k : Int
  c : Int
  s : Int
def sameN (a b : ByteArray) : Bool := a.toList == b.toList
/-- Does a total stand ahead of a name and a bucket? -/
def ltT (t : Tt) (n : ByteArray) (k : Int) : Bool := aheadB t.n n || (sameN t.n n && decide (t.k < k))
def isAt (t : Tt) (n : ByteArray) (k : Int) : Bool := sameN t.n n && (t.k == k)
def posT : List Tt → ByteArray → Int → Nat
  | [], _, _ => 0
  | t :: l, n, k => if ltT t n k = true then posT l n k + 1 else 0
def isT (l : List Tt) (n : ByteArray) (k : Int) : Bool := match l[posT l n k]? with
  | some t => isAt t n k
  | none => false
def getT (l : List Tt) (n : ByteArray) (k : Int) : Int × Int := if isT l n k = true then match l[posT l n k]? with
  | some t => (t.c, t.s)
  | none => (0, 0) else (0, 0)
def newT (n : ByteArray) (k c s : Int) : List Tt := if (c == 0 && s == 0) = true then [] else [⟨n, k, c, s⟩]
def addT (l : List Tt) (n : ByteArray) (k c s : Int) : List Tt :=
  l.take (posT l n k) ++ newT n k (wrap64 (c + (getT l n k).1)) (wrap64 (s + (getT l n k).2)) ++ l.drop (if isT l n k = true then posT l n k + 1 else posT l n k)
theorem posT_le : ∀ (l : List Tt) (n : ByteArray) (k : Int), posT l n k ≤ l.length
  | [], _, _ => Nat.le_refl _
  | t :: l, n, k => by
    rw [posT, List.length_cons]
    split
    · have := posT_le l n k; omega
    · omega
theorem posT_at : ∀ (l : List Tt) (n : ByteArray) (k : Int) (j : Nat) (t : Tt), j ≤ posT l n k → l[j]? = some t → (j < posT l n k ↔ ltT t n k = true)
  | [], _, _, j, t, _, h => by simp at h
  | x :: l, n, k, j, t, hj, h => by
    rw [posT] at hj ⊢
    cases j with
    | zero =>
      obtain rfl : x = t := by simpa using h
      split
      · rename_i hx; simp [hx]
      · rename_i hx; simp [hx]
    | succ j =>
      rw [List.getElem?_cons_succ] at h
      split at hj
      · rename_i hx
        rw [if_pos hx]
        have := posT_at l n k j t (by omega) h
        rw [← this]; omega
      · omega
theorem isT_at {l : List Tt} {n : ByteArray} {k : Int} {t : Tt} (h : l[posT l n k]? = some t) : isT l n k = isAt t n k := by
  unfold isT; rw [h]
theorem isT_end {l : List Tt} {n : ByteArray} {k : Int} (h : posT l n k = l.length) : isT l n k = false := by
  unfold isT; rw [h, List.getElem?_eq_none (Nat.le_refl _)]
theorem getT_at {l : List Tt} {n : ByteArray} {k : Int} {t : Tt} (h : l[posT l n k]? = some t) (h2 : isT l n k = true) : getT l n k = (t.c, t.s) := by
  unfold getT; rw [if_pos h2, h]
theorem getT_none {l : List Tt} {n : ByteArray} {k : Int} (h2 : isT l n k = false) : getT l n k = (0, 0) := by
  unfold getT; rw [if_neg (by rw [h2]; simp)]
theorem isT_some {l : List Tt} {n : ByteArray} {k : Int} (h : isT l n k = true) : ∃ t, l[posT l n k]? = some t := by
  unfold isT at h
  split at h
  · rename_i t ht; exact ⟨t, ht⟩
  · cases h

abbrev cellsTt (t : Tt) : List Value := [.string t.n, .int .i64 t.k, .int .i64 t.c, .int .i64 t.s]
/-- The document's totals. -/
def ETr : El Tt where
  s := 42
  e := 77
  sz := 4
  bys := 40
  z := .agg #[.string ⟨#[]⟩, .int .i64 0, .int .i64 0, .int .i64 0]
  cells := cellsTt
  pos := by decide
  few := by decide
  len := fun _ => rfl
  one := fun x u hu => by
    simp only [cellsTt, List.mem_cons, List.not_mem_nil, or_false] at hu
    rcases hu with rfl | rfl | rfl | rfl <;> rfl
  und := Try.underlying42
  info := by kernel_rfl
  zs := rfl
theorem RowE.cellsT {w : World} {A : Option Addr} {l : List Tt} (h : RowE ETr w A l) {j : Nat} {t : Tt} (hv : l[j]? = some t) : ∃ g off, A = some ⟨g, off, none⟩ ∧
    w.cell? ⟨g, off + j * 4, none⟩ = some (.string t.n) ∧ w.cell? ⟨g, off + j * 4 + 1, none⟩ = some (.int .i64 t.k) ∧ w.cell? ⟨g, off + j * 4 + 2, none⟩ = some (.int .i64 t.c) ∧ w.cell? ⟨g, off + j * 4 + 3, none⟩ = some (.int .i64 t.s) := by
  obtain ⟨g, off, rfl, hc⟩ := h j t hv
  exact ⟨g, off, rfl, hc 0 _ rfl, hc 1 _ rfl, hc 2 _ rfl, hc 3 _ rfl⟩

set_option maxHeartbeats 4000000 in
theorem dplace13_any (w : World) (A : Option Addr) (c : Nat) (l : List Tt) (n : ByteArray) (k : Int) (hl : RowE ETr w A l) (hn : l.length ≤ 1000000) :
    Ret 36 #[.slice A l.length c, .string n, .int .i64 k] w (.tuple #[.int .i64 ((posT l n k : Nat) : Int), .bool (isT l n k)]) := by
  have HL := Lib.hid hl
  obtain ⟨m, hm⟩ : ∃ m, l.length = m := ⟨_, rfl⟩
  obtain ⟨p, hp⟩ : ∃ p, posT l n k = p := ⟨_, rfl⟩
  obtain ⟨b, hb⟩ : ∃ b, isT l n k = b := ⟨_, rfl⟩
  have HPL := Lib.hid (show p ≤ m by rw [← hp, ← hm]; exact posT_le l n k)
  have HAT := Lib.hid (show ∀ j t, j ≤ p → l[j]? = some t → (j < p ↔ ltT t n k = true) from fun j t => by rw [← hp]; exact posT_at l n k j t)
  have HIS := Lib.hid (show ∀ t, l[p]? = some t → b = isAt t n k from fun t => by rw [← hp, ← hb]; exact isT_at)
  have HIE := Lib.hid (show p = m → b = false by rw [← hp, ← hb, ← hm]; exact isT_end)
  rw [hm] at hn ⊢
  rw [hp, hb]
  have HM := Lib.hid hm
  clear hl hm hp hb
  go_enter Try.func36, Try.ntmps36
  go_wp2_with fail
  go_loopw [8] (fun i wr => ∃ j : Nat, j ≤ p ∧ i = .int .i64 j ∧ wr = w) (fun i _ => m - (intOf i).toNat)
  case atStart => exact ⟨0, Nat.zero_le _, rfl, rfl⟩
  case round =>
    obtain ⟨j, hj, rfl, hwr⟩ := hrel
    obtain rfl := hwr.symm
    by_cases hlt : j < m
    · have hlt' : decide ((j : Int) < (m : Int)) = true := by rw [decide_eq_true_eq]; omega
      have hlt2 : (j : Int) < (m : Int) := by omega
      obtain ⟨t, ht⟩ : ∃ t, l[j]? = some t := ⟨_, List.getElem?_eq_getElem (by have := HM.out; omega)⟩
      obtain ⟨g, off, rfl, c0, c1, _, _⟩ := HL.out.cellsT ht
      have hiff := HAT.out j t hj ht
      have e1 := less_nats t.n n
      unfold ltT at hiff
      have hend : ¬ j < p → b = isAt t n k := fun h => HIS.out t (by rw [show p = j by omega]; exact ht)
      unfold isAt at hend
      cases ha : aheadB t.n n with
      | true =>
        have HN := Lib.hid (show j + 1 ≤ p from hiff.2 (by rw [ha]; rfl))
        rw [show lessN (nats t.n) (nats n) = true from ha] at e1
        clear hiff hend ha ht
        go_wp2_with fail
        exact ⟨⟨j + 1, HN.out, by go_num, trivial⟩, by have := HPL.out; have := HN.out; simp [intOf] <;> omega⟩
      | false =>
        rw [show lessN (nats t.n) (nats n) = false from ha] at e1
        cases hs : sameN t.n n with
        | true =>
          have e2 : (t.n.toList == n.toList) = true := hs
          by_cases hk : t.k < k
          · have HN := Lib.hid (show j + 1 ≤ p from hiff.2 (by rw [ha, hs, decide_eq_true hk]; rfl))
            have e3 : decide (t.k < k) = true := decide_eq_true hk
            clear hiff hend ha ht hs hk
            go_wp2_with fail
            exact ⟨⟨j + 1, HN.out, by go_num, trivial⟩, by have := HPL.out; have := HN.out; simp [intOf] <;> omega⟩
          · have hnp : ¬ j < p := by rw [hiff, ha, hs, decide_eq_false hk]; simp
            have e3 : decide (t.k < k) = false := decide_eq_false hk
            have HB := Lib.hid (show b = (t.k == k) by rw [hend hnp, hs, Bool.true_and])
            obtain rfl : j = p := by omega
            clear hiff hend ha ht hs hk hnp
            go_wp2_with fail
            go_quiet (fail)
            go_wp2_with fail
            go_ret2
            exact ⟨ret_ib rfl HB.out.symm, belowN (bl w) _⟩
        | false =>
          have e2 : (t.n.toList == n.toList) = false := hs
          have hnp : ¬ j < p := by rw [hiff, ha, hs]; simp
          have HB := Lib.hid (show b = false by rw [hend hnp, hs, Bool.false_and])
          obtain rfl : j = p := by omega
          clear hiff hend ha ht hs hnp
          go_wp2_with fail
          go_quiet (fail)
          go_wp2_with fail
          go_ret2
          exact ⟨ret_ib rfl HB.out.symm, belowN (bl w) _⟩
    · obtain rfl : j = m := by have := HPL.out; omega
      have hlt' : decide ((j : Int) < (j : Int)) = false := by rw [decide_eq_false_iff_not]; omega
      have hlt2 : ¬ (j : Int) < (j : Int) := by omega
      have HB := Lib.hid (HIE.out (by have := HPL.out; omega))
      have HP2 := Lib.hid (show p = j by have := HPL.out; omega)
      go_wp2_with fail
      go_quiet (fail)
      go_wp2_with fail
      go_ret2
      exact ⟨ret_ib (by rw [HP2.out]) HB.out.symm, belowN (bl w) _⟩
end Go.Proofs.Ytmhddpgeiijhgaa

/-
  Plain facts on the bytes of fields: what is put is taken, and what is taken is put as the same bytes.
-/
namespace Go.Proofs.Ytmhddpgeiijhgaa

theorem zig_range {v : Int} (h : valB v = true) : 0 ≤ zig v ∧ zig v ≤ 4611686018427387903 := by
  unfold valB at h
  simp only [Bool.and_eq_true, decide_eq_true_eq] at h
  unfold zig
  split <;> omega
theorem intS_enc {v : Int} (h : valB v = true) : intS v = encS (zig v).toNat := by
  have h2 := zig_range h
  unfold valB at h
  simp only [Bool.and_eq_true, decide_eq_true_eq] at h
  rw [(int_ok h rfl).1]
  obtain ⟨m, hm⟩ : ∃ m : Nat, zig v = (m : Int) := ⟨(zig v).toNat, by omega⟩
  rw [hm, (num_ok (n := m) (by omega)).1, Int.toNat_natCast]
theorem unzig_zig {v : Int} : unzig (zig v).toNat = v := by
  unfold zig unzig
  by_cases h : v < 0
  · rw [if_pos h, if_pos (by omega)]; omega
  · rw [if_neg h, if_neg (by omega)]; omega
theorem zig_unzig (n : Nat) : zig (unzig n) = (n : Int) := by
  unfold zig unzig
  by_cases h : n % 2 = 1
  · rw [if_pos h, if_pos (by omega)]; omega
  · rw [if_neg h, if_neg (by omega)]; omega
theorem valB_unzig {n : Nat} (h : n < 4611686018427387904) : valB (unzig n) = true := by
  unfold valB unzig
  simp only [Bool.and_eq_true, decide_eq_true_eq]
  split <;> omega
theorem int_takenF {v : Int} (h : valB v = true) (b : ByteArray) : unzig (tkN (intS v ++ b)) = v ∧ tkR (intS v ++ b) = b ∧ tkE (intS v ++ b) = 0 := by
  have h2 := zig_range h
  rw [intS_enc h]
  obtain ⟨k1, k2, k3⟩ := tk_enc (n := (zig v).toNat) (by omega) b
  exact ⟨by rw [k1, unzig_zig], k2, k3⟩
theorem int_againF {s : ByteArray} (h : tkE s = 0) : intS (unzig (tkN s)) ++ tkR s = s := by
  rw [intS_enc (valB_unzig (tkN_lt s)), zig_unzig, Int.toNat_natCast]
  exact tk_again h

/-- The bytes of a field, of fields. -/
def oneS (f : Fd) : ByteArray := textS f.n ++ intS f.v
def manyS : List Fd → ByteArray
  | [] => ⟨#[]⟩
  | f :: l => oneS f ++ manyS l
theorem empty_append (s : ByteArray) : (⟨#[]⟩ : ByteArray) ++ s = s := by
  apply nats_inj
  rw [nats_append]; rfl
theorem append_empty (s : ByteArray) : s ++ (⟨#[]⟩ : ByteArray) = s := by
  apply nats_inj
  rw [nats_append, nats_nil, List.append_nil]
theorem manyS_append : ∀ l m : List Fd, manyS (l ++ m) = manyS l ++ manyS m
  | [], m => by rw [List.nil_append, manyS, empty_append]
  | f :: l, m => by rw [List.cons_append, manyS, manyS, manyS_append l m, ByteArray.append_assoc]
/-- What Put answers. -/
def putS (l : List Fd) : ByteArray := if rightE l = 0 then encS l.length ++ manyS l else ⟨#[]⟩
/-- Is a name one, and behind the one ahead? -/
def behindB : Option ByteArray → ByteArray → Bool
  | none, s => nameB s
  | some p, s => nameB s && aheadB p s
/-- The fields that s begins with, behind a name. -/
def takeG : Nat → Option ByteArray → ByteArray → List Fd × ByteArray × Nat
  | 0, _, s => ([], s, 0)
  | n + 1, o, s =>
    if ttE s 12 ≠ 0 then ([], ⟨#[]⟩, ttE s 12)
    else if behindB o (ttS s 12) = false then ([], ⟨#[]⟩, 8)
    else if tkE (ttR s 12) ≠ 0 then ([], ⟨#[]⟩, tkE (ttR s 12))
    else if (takeG n (some (ttS s 12)) (tkR (ttR s 12))).2.2 ≠ 0 then ([], ⟨#[]⟩, (takeG n (some (ttS s 12)) (tkR (ttR s 12))).2.2)
    else (⟨ttS s 12, unzig (tkN (ttR s 12))⟩ :: (takeG n (some (ttS s 12)) (tkR (ttR s 12))).1, (takeG n (some (ttS s 12)) (tkR (ttR s 12))).2.1, 0)
def takeF (s : ByteArray) : List Fd × ByteArray × Nat :=
  if tkE s ≠ 0 then ([], ⟨#[]⟩, tkE s) else if 8 < tkN s then ([], ⟨#[]⟩, 4) else takeG (tkN s) none (tkR s)
/-- What is behind fields that have been taken. -/
def goOn (acc : List Fd) (t : List Fd × ByteArray × Nat) : List Fd × ByteArray × Nat := if t.2.2 ≠ 0 then ([], ⟨#[]⟩, t.2.2) else (acc ++ t.1, t.2.1, 0)
theorem takeG_err {n : Nat} {o : Option ByteArray} {s : ByteArray} (h : (takeG n o s).2.2 ≠ 0) : takeG n o s = ([], ⟨#[]⟩, (takeG n o s).2.2) := by
  cases n with
  | zero => exact absurd rfl h
  | succ n =>
    rw [takeG] at h ⊢
    by_cases h1 : ttE s 12 ≠ 0
    · rw [if_pos h1]
    · rw [if_neg h1] at h ⊢
      by_cases h2 : behindB o (ttS s 12) = false
      · rw [if_pos h2]
      · rw [if_neg h2] at h ⊢
        by_cases h3 : tkE (ttR s 12) ≠ 0
        · rw [if_pos h3]
        · rw [if_neg h3] at h ⊢
          by_cases h4 : (takeG n (some (ttS s 12)) (tkR (ttR s 12))).2.2 ≠ 0
          · rw [if_pos h4]
          · rw [if_neg h4] at h
            exact absurd rfl h
theorem goOn_start (t : List Fd × ByteArray × Nat) (h : t.2.2 ≠ 0 → t = ([], ⟨#[]⟩, t.2.2)) : goOn [] t = t := by
  unfold goOn
  by_cases h1 : t.2.2 ≠ 0
  · rw [if_pos h1]; exact (h h1).symm
  · rw [if_neg h1]
    have : t.2.2 = 0 := by omega
    rw [List.nil_append]
    obtain ⟨a, b, c⟩ := t
    obtain rfl : c = 0 := this
    rfl
theorem goOn_text {acc : List Fd} {n : Nat} {o : Option ByteArray} {s : ByteArray} (h : ttE s 12 ≠ 0) : goOn acc (takeG (n + 1) o s) = ([], ⟨#[]⟩, ttE s 12) := by
  rw [takeG, if_pos h, goOn, if_pos h]
theorem goOn_form {acc : List Fd} {n : Nat} {o : Option ByteArray} {s : ByteArray} (h : ttE s 12 = 0) (h2 : behindB o (ttS s 12) = false) : goOn acc (takeG (n + 1) o s) = ([], ⟨#[]⟩, 8) := by
  rw [takeG, if_neg (by omega), if_pos h2, goOn, if_pos (by decide)]
theorem goOn_int {acc : List Fd} {n : Nat} {o : Option ByteArray} {s : ByteArray} (h : ttE s 12 = 0) (h2 : behindB o (ttS s 12) = true) (h3 : tkE (ttR s 12) ≠ 0) : goOn acc (takeG (n + 1) o s) = ([], ⟨#[]⟩, tkE (ttR s 12)) := by
  rw [takeG, if_neg (by omega), if_neg (by rw [h2]; simp), if_pos h3, goOn, if_pos h3]
theorem goOn_next {acc : List Fd} {n : Nat} {o : Option ByteArray} {s : ByteArray} (h : ttE s 12 = 0) (h2 : behindB o (ttS s 12) = true) (h3 : tkE (ttR s 12) = 0) :
    goOn acc (takeG (n + 1) o s) = goOn (acc ++ [⟨ttS s 12, unzig (tkN (ttR s 12))⟩]) (takeG n (some (ttS s 12)) (tkR (ttR s 12))) := by
  rw [takeG, if_neg (by omega), if_neg (by rw [h2]; simp), if_neg (by omega)]
  by_cases h4 : (takeG n (some (ttS s 12)) (tkR (ttR s 12))).2.2 ≠ 0
  · rw [if_pos h4, goOn, if_pos h4, goOn, if_pos h4]
  · rw [if_neg h4, goOn, if_neg (by simp), goOn, if_neg h4, List.append_assoc]
    rfl
theorem goOn_end (acc : List Fd) (o : Option ByteArray) (s : ByteArray) : goOn acc (takeG 0 o s) = (acc, s, 0) := by
  rw [takeG, goOn, if_neg (by simp), List.append_nil]

theorem behind_right {o : Option ByteArray} {f : Fd} {l : List Fd} : rightG o (f :: l) = 0 ↔ behindB o f.n = true ∧ valB f.v = true ∧ rightG (some f.n) l = 0 := by
  have e1 : oneE f = 0 ↔ nameB f.n = true ∧ valB f.v = true := by
    unfold oneE
    cases nameB f.n <;> cases valB f.v <;> simp
  cases o with
  | none =>
    rw [rightG_none, behindB]
    by_cases h : oneE f = 0
    · rw [if_pos h]
      have := e1.1 h
      simp [this]
    · rw [if_neg h]
      constructor
      · intro h2; exact absurd h2 h
      · intro h2; exact absurd (e1.2 ⟨h2.1, h2.2.1⟩) h
  | some p =>
    rw [rightG_some, behindB]
    by_cases h : oneE f = 0
    · rw [if_pos h]
      have := e1.1 h
      cases ha : aheadB p f.n <;> simp [this]
    · rw [if_neg h]
      constructor
      · intro h2; exact absurd h2 h
      · intro h2
        rw [Bool.and_eq_true] at h2
        exact absurd (e1.2 ⟨h2.1.1, h2.2.1⟩) h
theorem behind_name {o : Option ByteArray} {s : ByteArray} (h : behindB o s = true) : nameB s = true := by
  cases o with
  | none => exact h
  | some p => rw [behindB, Bool.and_eq_true] at h; exact h.1
theorem name_size {s : ByteArray} (h : nameB s = true) : s.size ≤ 12 := by
  unfold nameB at h
  rw [nameL_pre] at h
  simp only [Bool.and_eq_true, decide_eq_true_eq] at h
  rw [← nats_length]
  exact h.2.2
/-- What is put is taken. -/
theorem take_put : ∀ (l : List Fd) (o : Option ByteArray) (b : ByteArray), rightG o l = 0 → takeG l.length o (manyS l ++ b) = (l, b, 0)
  | [], _, b, _ => by rw [manyS, empty_append]; rfl
  | f :: l, o, b, h => by
    obtain ⟨h1, h2, h3⟩ := behind_right.1 h
    have hz := name_size (behind_name h1)
    have e : manyS (f :: l) ++ b = textS f.n ++ (intS f.v ++ (manyS l ++ b)) := by rw [manyS, oneS, ByteArray.append_assoc, ByteArray.append_assoc]
    obtain ⟨t1, t2, t3⟩ := tt_text (s := f.n) (b := intS f.v ++ (manyS l ++ b)) (most := 12) (by omega) (by omega)
    obtain ⟨i1, i2, i3⟩ := int_takenF h2 (manyS l ++ b)
    have ih := take_put l (some f.n) b h3
    rw [List.length_cons, e, takeG, t1, t2, t3, i1, i2, i3, ih]
    simp [h1]
/-- What is taken is put as the same bytes. -/
theorem put_take : ∀ (n : Nat) (o : Option ByteArray) (s : ByteArray), (takeG n o s).2.2 = 0 → (takeG n o s).1.length = n ∧ rightG o (takeG n o s).1 = 0 ∧ manyS (takeG n o s).1 ++ (takeG n o s).2.1 = s
  | 0, o, s, _ => by
    refine ⟨rfl, ?_, ?_⟩
    · cases o <;> rfl
    · show manyS [] ++ s = s
      rw [manyS, empty_append]
  | n + 1, o, s, h => by
    rw [takeG] at h ⊢
    by_cases h1 : ttE s 12 ≠ 0
    · rw [if_pos h1] at h; exact absurd h h1
    · rw [if_neg h1] at h ⊢
      by_cases h2 : behindB o (ttS s 12) = false
      · rw [if_pos h2] at h; cases h
      · rw [if_neg h2] at h ⊢
        by_cases h3 : tkE (ttR s 12) ≠ 0
        · rw [if_pos h3] at h; exact absurd h h3
        · rw [if_neg h3] at h ⊢
          by_cases h4 : (takeG n (some (ttS s 12)) (tkR (ttR s 12))).2.2 ≠ 0
          · rw [if_pos h4] at h; exact absurd h h4
          · rw [if_neg h4]
            obtain ⟨k1, k2, k3⟩ := put_take n (some (ttS s 12)) (tkR (ttR s 12)) (by omega)
            have hb : behindB o (ttS s 12) = true := by
              cases hh : behindB o (ttS s 12)
              · exact absurd hh h2
              · rfl
            refine ⟨by rw [List.length_cons, k1], behind_right.2 ⟨hb, valB_unzig (tkN_lt _), k2⟩, ?_⟩
            rw [manyS, oneS, ByteArray.append_assoc, ByteArray.append_assoc, k3, int_againF (by omega), tt_again (by omega)]
theorem takeF_put {l : List Fd} (h : rightE l = 0) (b : ByteArray) : takeF (putS l ++ b) = (l, b, 0) := by
  have hr : rightG none l = 0 ∧ l.length ≤ 8 := by
    unfold rightE at h
    by_cases h8 : 8 < l.length
    · rw [if_pos h8] at h; cases h
    · rw [if_neg h8] at h; exact ⟨h, by omega⟩
  unfold putS
  rw [if_pos h, ByteArray.append_assoc]
  obtain ⟨k1, k2, k3⟩ := tk_enc (n := l.length) (by omega) (manyS l ++ b)
  unfold takeF
  rw [k1, k2, k3, if_neg (by simp), if_neg (by omega), take_put l none b hr.1]
theorem putF_take {s : ByteArray} (h : (takeF s).2.2 = 0) : rightE (takeF s).1 = 0 ∧ putS (takeF s).1 ++ (takeF s).2.1 = s := by
  unfold takeF at h ⊢
  by_cases h1 : tkE s ≠ 0
  · rw [if_pos h1] at h; exact absurd h h1
  · rw [if_neg h1] at h ⊢
    by_cases h2 : 8 < tkN s
    · rw [if_pos h2] at h; cases h
    · rw [if_neg h2] at h ⊢
      obtain ⟨k1, k2, k3⟩ := put_take _ _ _ h
      have hr : rightE (takeG (tkN s) none (tkR s)).1 = 0 := by
        unfold rightE
        rw [k1, if_neg h2, k2]
      refine ⟨hr, ?_⟩
      unfold putS
      rw [if_pos hr, k1, ByteArray.append_assoc, k3]
      exact tk_again (by omega)

end Go.Proofs.Ytmhddpgeiijhgaa

/-
  Plain facts for the laws of fields: what is made may be; the chapter's examples.
-/
namespace Go.Proofs.Ytmhddpgeiijhgaa

theorem layL_length : ∀ (l : List Fd) (f : Fd), (layL l f).length ≤ l.length + 1
  | [], _ => Nat.le_refl _
  | g :: l, f => by
    rw [layL]
    split
    · rw [List.length_cons, List.length_cons]; have := layL_length l f; omega
    · split
      · rw [List.length_cons, List.length_cons]; omega
      · rw [List.length_cons, List.length_cons]; omega
theorem foldl_length : ∀ (l a : List Fd), (l.foldl layL a).length ≤ a.length + l.length
  | [], _ => Nat.le_refl _
  | f :: l, a => by
    rw [List.foldl_cons, List.length_cons]
    have h1 := foldl_length l (layL a f)
    have h2 := layL_length a f
    omega
theorem overL_length (l : List Fd) : (overL l).length ≤ l.length := by have := foldl_length l []; rw [List.length_nil] at this; unfold overL; omega
theorem overL_snoc (l : List Fd) (f : Fd) : overL (l ++ [f]) = layL (overL l) f := by unfold overL; rw [List.foldl_append]; rfl
theorem foldl_mem : ∀ (l a : List Fd) (g : Fd), g ∈ l.foldl layL a → g ∈ a ∨ g ∈ l
  | [], _, _, h => .inl h
  | f :: l, a, g, h => by
    rcases foldl_mem l (layL a f) g h with h | h
    · rcases layL_mem a f g h with rfl | h
      · exact .inr List.mem_cons_self
      · exact .inl h
    · exact .inr (List.mem_cons_of_mem _ h)
theorem overL_mem {l : List Fd} {g : Fd} (h : g ∈ overL l) : g ∈ l := by
  rcases foldl_mem l [] g h with h | h
  · simp at h
  · exact h
theorem firstE_all : ∀ l : List Fd, firstE l = 0 → ∀ f ∈ l, oneE f = 0
  | [], _, f, hf => by simp at hf
  | g :: l, h, f, hf => by
    rw [firstE] at h
    by_cases h1 : oneE g = 0
    · rw [if_pos h1] at h
      rcases List.mem_cons.1 hf with rfl | hf
      · exact h1
      · exact firstE_all l h f hf
    · rw [if_neg h1] at h; exact absurd h h1
theorem rises_right : ∀ (l : List Fd) (o : Option ByteArray), Rises l → (∀ f ∈ l, oneE f = 0) → (∀ p, o = some p → ∀ f ∈ l, aheadB p f.n = true) → rightG o l = 0
  | [], o, _, _, _ => by cases o <;> rfl
  | f :: l, o, h, h1, h2 => by
    have h0 := h1 f List.mem_cons_self
    have ih := rises_right l (some f.n) h.2 (fun g hg => h1 g (List.mem_cons_of_mem _ hg)) (fun p hp g hg => by cases hp; exact h.1 g hg)
    cases o with
    | none => rw [rightG_none, if_pos h0, ih]
    | some p => rw [rightG_some, if_pos h0, if_pos (h2 p rfl f List.mem_cons_self), ih]
theorem make_big {l : List Fd} (h : 8 < l.length) : makeF l = ([], 4) := by unfold makeF; rw [if_pos h]
theorem make_bad {l : List Fd} (h : ¬ 8 < l.length) (h2 : firstE l ≠ 0) : makeF l = ([], firstE l) := by unfold makeF; rw [if_neg h, if_neg h2]
theorem make_twice {l : List Fd} (h : ¬ 8 < l.length) (h2 : firstE l = 0) (h3 : (overL l).length ≠ l.length) : makeF l = ([], 7) := by unfold makeF; rw [if_neg h, if_pos h2, if_neg h3]
theorem make_good {l : List Fd} (h : ¬ 8 < l.length) (h2 : firstE l = 0) (h3 : (overL l).length = l.length) : makeF l = (overL l, 0) := by unfold makeF; rw [if_neg h, if_pos h2, if_pos h3]
/-- What is made may be. -/
theorem make_right {l : List Fd} (h : (makeF l).2 = 0) : rightE (makeF l).1 = 0 := by
  by_cases h8 : 8 < l.length
  · rw [make_big h8] at h; cases h
  · by_cases h2 : firstE l = 0
    · by_cases h3 : (overL l).length = l.length
      · rw [make_good h8 h2 h3]
        unfold rightE
        rw [if_neg (by show ¬ 8 < (overL l).length; omega)]
        exact rises_right _ none (overL_rises l) (fun f hf => firstE_all l h2 f (overL_mem hf)) (fun p hp => by cases hp)
      · rw [make_twice h8 h2 h3] at h; cases h
    · rw [make_bad h8 h2] at h; exact absurd h h2
theorem make_length (l : List Fd) : (makeF l).1.length ≤ 8 := by
  by_cases h8 : 8 < l.length
  · rw [make_big h8]; decide
  · by_cases h2 : firstE l = 0
    · by_cases h3 : (overL l).length = l.length
      · rw [make_good h8 h2 h3]; show (overL l).length ≤ 8; omega
      · rw [make_twice h8 h2 h3]; decide
    · rw [make_bad h8 h2]; exact Nat.zero_le _
theorem right_length {l : List Fd} (h : rightE l = 0) : l.length ≤ 8 := by
  unfold rightE at h
  by_cases h8 : 8 < l.length
  · rw [if_pos h8] at h; cases h
  · omega
theorem take_length (s : ByteArray) : (takeF s).1.length ≤ 8 := by
  by_cases h : (takeF s).2.2 = 0
  · exact right_length (putF_take h).1
  · have e : (takeF s).1 = [] := by
      unfold takeF at h ⊢
      by_cases h1 : tkE s ≠ 0
      · rw [if_pos h1]
      · rw [if_neg h1] at h ⊢
        by_cases h2 : 8 < tkN s
        · rw [if_pos h2]
        · rw [if_neg h2] at h ⊢
          rw [takeG_err h]
    rw [e]; decide

/-- The chapter's examples. -/
def nA : ByteArray := ⟨#[97]⟩
def nB : ByteArray := ⟨#[98]⟩
def nC : ByteArray := ⟨#[99]⟩
theorem example_over : overL ([[⟨nA, 1⟩, ⟨nB, 2⟩], [⟨nB, 3⟩, ⟨nC, 4⟩]] : List (List Fd)).flatten = [⟨nA, 1⟩, ⟨nB, 3⟩, ⟨nC, 4⟩] := by
  have h1 : aheadB nA nB = true := by decide +kernel
  have h2 : aheadB nB nB = false := by decide +kernel
  have h3 : aheadB nB nC = true := by decide +kernel
  have h4 : aheadB nA nC = true := by decide +kernel
  have h5 : aheadB nB nA = false := by decide +kernel
  simp [overL, layL, h1, h2, h3, h4]
theorem example_put : rightE [⟨nA, 1⟩] = 0 ∧ putS [⟨nA, 1⟩] = ⟨#[1, 1, 97, 2]⟩ := by
  have h : rightE [⟨nA, 1⟩] = 0 := by decide +kernel
  refine ⟨h, ?_⟩
  unfold putS
  rw [if_pos h]
  decide +kernel

end Go.Proofs.Ytmhddpgeiijhgaa

/-
  The document's small words of buckets: Width, Floor, Span, Counts.
-/
namespace Go.Proofs.Ytmhddpgeiijhgaa
open Go.RowKit

set_option maxHeartbeats 1000000 in
theorem dwidth13_any (x : Int) (w : World) : Same 18 #[.int .i64 x] w (.bool (widthB x)) := by
  by_cases h1 : 1 ≤ x
  · have h1' : decide (1 ≤ x) = true := by simpa using h1
    by_cases h2 : x ≤ 1099511627776
    · have h2' : decide (x ≤ 1099511627776) = true := by simpa using h2
      have HE := Lib.hid (show widthB x = true by simp [widthB, h1, h2])
      go_enter Try.func18, Try.ntmps18
      go_wp2_with fail
      go_ret
      exact ⟨ret_bool HE.out.symm, rfl⟩
    · have h2' : decide (x ≤ 1099511627776) = false := by simpa using h2
      have HE := Lib.hid (show widthB x = false by simp [widthB, h2])
      go_enter Try.func18, Try.ntmps18
      go_wp2_with fail
      go_ret
      exact ⟨ret_bool HE.out.symm, rfl⟩
  · have h1' : decide (1 ≤ x) = false := by simpa using h1
    have HE := Lib.hid (show widthB x = false by simp [widthB, h1])
    go_enter Try.func18, Try.ntmps18
    go_wp2_with fail
    go_ret
    exact ⟨ret_bool HE.out.symm, rfl⟩

set_option maxHeartbeats 2000000 in
theorem dfloor13_any (t x : Int) (w : World) : Same 9 #[.int .i64 t, .int .i64 x] w (.tuple #[.int .i64 (floorV t x), .int .i64 ((floorE t x : Nat) : Int)]) := by
  have CW := Lib.hid (dwidth13_any x)
  by_cases hw : widthB x = true
  · rw [hw] at CW
    have hw2 := (widthB_iff x).1 hw
    by_cases h1 : t < -1099511627776
    · have h1' : decide (t < -1099511627776) = true := by simpa using h1
      have HE := Lib.hid (show floorE t x = 2 ∧ floorV t x = 0 from ⟨by rw [floorE, if_neg]; rw [Bool.and_eq_true, timeB_iff]; omega, by rw [floorV, if_neg]; rw [Bool.and_eq_true, timeB_iff]; omega⟩)
      rw [HE.out.1, HE.out.2]
      clear hw hw2 h1
      go_enter Try.func9, Try.ntmps9
      go_wp2_with (go_at_call 18; (with_reducible refine (CW.out _).mono ?_); rintro e w2 ⟨rfl, rfl⟩)
      go_ret2
      exact ⟨rfl, rfl⟩
    · have h1' : decide (t < -1099511627776) = false := by simpa using h1
      by_cases h2 : 1099511627776 ≤ t
      · have h2' : decide (1099511627776 ≤ t) = true := by simpa using h2
        have HE := Lib.hid (show floorE t x = 2 ∧ floorV t x = 0 from ⟨by rw [floorE, if_neg]; rw [Bool.and_eq_true, timeB_iff]; omega, by rw [floorV, if_neg]; rw [Bool.and_eq_true, timeB_iff]; omega⟩)
        rw [HE.out.1, HE.out.2]
        clear hw hw2 h1 h2
        go_enter Try.func9, Try.ntmps9
        go_wp2_with (go_at_call 18; (with_reducible refine (CW.out _).mono ?_); rintro e w2 ⟨rfl, rfl⟩)
        go_ret2
        exact ⟨rfl, rfl⟩
      · have h2' : decide (1099511627776 ≤ t) = false := by simpa using h2
        have ht : timeB t = true := (timeB_iff t).2 (by omega)
        have HE := Lib.hid (show floorE t x = 0 ∧ floorV t x = t / x from ⟨by rw [floorE, hw, ht]; rfl, by rw [floorV, hw, ht]; rfl⟩)
        rw [HE.out.1, HE.out.2]
        obtain ⟨s1, s2, s3, s4⟩ := tdiv_small hw2.1 (t := t) (by omega) (by omega)
        obtain ⟨f1, f2⟩ := tdiv_floor (t := t) hw2.1
        have hx0 : ¬ x = 0 := by omega
        have hx0' : (x == 0) = false := by simpa using hx0
        have q1 : wrap64 (t.tdiv x) = t.tdiv x := IntWalk.wrap64_in _ (by omega)
        have q2 : wrap64 (t.tdiv x * x) = t.tdiv x * x := IntWalk.wrap64_in _ (by omega)
        have q3 : wrap64 (t.tdiv x - 1) = t.tdiv x - 1 := IntWalk.wrap64_in _ (by omega)
        by_cases h3 : t < t.tdiv x * x
        · have h3' : decide (t < t.tdiv x * x) = true := by simpa using h3
          have HV := Lib.hid (f1 h3)
          rw [HV.out]
          clear f1 f2 s1 s2 s3 s4 hw hw2 ht h1 h2 h3
          go_enter Try.func9, Try.ntmps9
          go_wp2_with (go_at_call 18; (with_reducible refine (CW.out _).mono ?_); rintro e w2 ⟨rfl, rfl⟩)
          go_ret2
          exact ⟨by show Ending.returned (.tuple #[.int .i64 (wrap64 (t.tdiv x - 1)), .int .i64 0]) = _; rw [q3]; rfl, rfl⟩
        · have h3' : decide (t < t.tdiv x * x) = false := by simpa using h3
          have HV := Lib.hid (f2 h3)
          rw [HV.out]
          clear f1 f2 s1 s2 s3 s4 hw hw2 ht h1 h2 h3
          go_enter Try.func9, Try.ntmps9
          go_wp2_with (go_at_call 18; (with_reducible refine (CW.out _).mono ?_); rintro e w2 ⟨rfl, rfl⟩)
          go_ret2
          exact ⟨by show Ending.returned (.tuple #[.int .i64 (wrap64 (t.tdiv x)), .int .i64 0]) = _; rw [q1]; rfl, rfl⟩
  · have hw' : widthB x = false := by simpa using hw
    rw [hw'] at CW
    have HE := Lib.hid (show floorE t x = 2 ∧ floorV t x = 0 from ⟨by rw [floorE, hw', Bool.false_and]; rfl, by rw [floorV, hw', Bool.false_and]; rfl⟩)
    rw [HE.out.1, HE.out.2]
    clear hw hw'
    go_enter Try.func9, Try.ntmps9
    go_wp2_with (go_at_call 18; (with_reducible refine (CW.out _).mono ?_); rintro e w2 ⟨rfl, rfl⟩)
    go_ret2
    exact ⟨rfl, rfl⟩

/-- A span in a box. -/
theorem boxS_facts (w : World) : (w.alloc (.cells #[.int .i64 0, .int .i64 0] 26)).cell? ⟨w.heap.size, 0, none⟩ = some (.int .i64 0) ∧ (w.alloc (.cells #[.int .i64 0, .int .i64 0] 26)).cell? ⟨w.heap.size, 1, none⟩ = some (.int .i64 0) := ⟨by simp [go_sem], by simp [go_sem]⟩
set_option maxHeartbeats 4000000 in
set_option maxRecDepth 10000 in
theorem dspan13_any (k x : Int) (w : World) : Ret 11 #[.int .i64 k, .int .i64 x] w (.tuple #[.agg #[.int .i64 (spanV k x).1, .int .i64 (spanV k x).2], .bool (spanB k x)]) := by
  have CW := Lib.hid (dwidth13_any x)
  have HB0 := Lib.hid (show ∀ u v : Value, Below w.heap.size w (((w.alloc (.cells #[.int .i64 0, .int .i64 0] 26)).setCell ⟨w.heap.size, 0, none⟩ u).setCell ⟨w.heap.size, 1, none⟩ v) from fun u v => (((bl w).alloc (Nat.le_refl _) _).setCell (p := ⟨w.heap.size, 0, none⟩) (Nat.le_refl _) u).setCell (p := ⟨w.heap.size, 1, none⟩) (Nat.le_refl _) v)
  by_cases hw : widthB x = true
  · rw [hw] at CW
    have hw2 := (widthB_iff x).1 hw
    have hx0 : ¬ x = 0 := by omega
    have hx0' : (x == 0) = false := by simpa using hx0
    have hq : (1099511627776 : Int).tdiv x = 1099511627776 / x := Int.tdiv_eq_ediv_of_nonneg (by decide)
    obtain ⟨m1, m2⟩ := max_ediv hw2.1
    by_cases h1 : k < -1099511627776
    · have h1' : decide (k < -1099511627776) = true := by simpa using h1
      have hb := spanB_out hw2.1 (.inl h1) hw2.2
      have HE := Lib.hid (show (spanV k x).1 = 0 ∧ (spanV k x).2 = 0 ∧ spanB k x = false by unfold spanV; rw [hb]; exact ⟨rfl, rfl, rfl⟩)
      clear hb hw hw2 h1 hx0 hx0' hq m1 m2
      go_enter Try.func11, Try.ntmps11
      go_wp2_with (go_at_call 18; (with_reducible refine (CW.out _).mono ?_); rintro e w2 ⟨rfl, rfl⟩)
      refine bodyPost_ret (v := .tuple #[.agg #[.int .i64 0, .int .i64 0], .bool false]) (by simp [results, Try.results11, go_sem]) rfl ⟨by rw [HE.out.1, HE.out.2.1, HE.out.2.2], ?_⟩
      exact (bl w).alloc (Nat.le_refl _) _
    · have h1' : decide (k < -1099511627776) = false := by simpa using h1
      by_cases h2 : 1099511627776 < k
      · have h2' : decide (1099511627776 < k) = true := by simpa using h2
        have hb := spanB_out hw2.1 (.inr h2) hw2.2
        have HE := Lib.hid (show (spanV k x).1 = 0 ∧ (spanV k x).2 = 0 ∧ spanB k x = false by unfold spanV; rw [hb]; exact ⟨rfl, rfl, rfl⟩)
        clear hb hw hw2 h1 h2 hx0 hx0' hq m1 m2
        go_enter Try.func11, Try.ntmps11
        go_wp2_with (go_at_call 18; (with_reducible refine (CW.out _).mono ?_); rintro e w2 ⟨rfl, rfl⟩)
        refine bodyPost_ret (v := .tuple #[.agg #[.int .i64 0, .int .i64 0], .bool false]) (by simp [results, Try.results11, go_sem]) rfl ⟨by rw [HE.out.1, HE.out.2.1, HE.out.2.2], ?_⟩
        exact (bl w).alloc (Nat.le_refl _) _
      · have h2' : decide (1099511627776 < k) = false := by simpa using h2
        have q1 : wrap64 ((1099511627776 : Int).tdiv x) = 1099511627776 / x := by rw [hq]; exact IntWalk.wrap64_in _ (by omega)
        have q2 : wrap64 (-(1099511627776 / x)) = -(1099511627776 / x) := IntWalk.wrap64_in _ (by omega)
        have q2' : wrap64 (0 - 1099511627776 / x) = -(1099511627776 / x) := by rw [Int.zero_sub]; exact q2
        have q3 : wrap64 (-(1099511627776 / x) - 1) = -(1099511627776 / x) - 1 := IntWalk.wrap64_in _ (by omega)
        by_cases h3 : 1099511627776 / x < k
        · have h3' : decide (1099511627776 / x < k) = true := by simpa using h3
          have hb := spanB_far hw2.1 (.inl h3)
          have HE := Lib.hid (show (spanV k x).1 = 0 ∧ (spanV k x).2 = 0 ∧ spanB k x = false by unfold spanV; rw [hb]; exact ⟨rfl, rfl, rfl⟩)
          generalize (1099511627776 : Int) / x = M at *
          clear hb hw hw2 h1 h2 h3 hq m1 m2
          go_enter Try.func11, Try.ntmps11
          go_wp2_with (go_at_call 18; (with_reducible refine (CW.out _).mono ?_); rintro e w2 ⟨rfl, rfl⟩)
          refine bodyPost_ret (v := .tuple #[.agg #[.int .i64 0, .int .i64 0], .bool false]) (by simp [results, Try.results11, go_sem]) rfl ⟨by rw [HE.out.1, HE.out.2.1, HE.out.2.2], ?_⟩
          exact (bl w).alloc (Nat.le_refl _) _
        · have h3' : decide (1099511627776 / x < k) = false := by simpa using h3
          by_cases h4 : k < -(1099511627776 / x) - 1
          · have h4' : decide (k < -(1099511627776 / x) - 1) = true := by simpa using h4
            have hb := spanB_far (k := k) hw2.1 (.inr (by omega))
            have HE := Lib.hid (show (spanV k x).1 = 0 ∧ (spanV k x).2 = 0 ∧ spanB k x = false by unfold spanV; rw [hb]; exact ⟨rfl, rfl, rfl⟩)
            generalize (1099511627776 : Int) / x = M at *
            clear hb hw hw2 h1 h2 h3 h4 hq m1 m2
            go_enter Try.func11, Try.ntmps11
            go_wp2_with (go_at_call 18; (with_reducible refine (CW.out _).mono ?_); rintro e w2 ⟨rfl, rfl⟩)
            refine bodyPost_ret (v := .tuple #[.agg #[.int .i64 0, .int .i64 0], .bool false]) (by simp [results, Try.results11, go_sem]) rfl ⟨by rw [HE.out.1, HE.out.2.1, HE.out.2.2], ?_⟩
            exact (bl w).alloc (Nat.le_refl _) _
          · have h4' : decide (k < -(1099511627776 / x) - 1) = false := by simpa using h4
            obtain ⟨n1, n2⟩ := near_small (k := k) hw2.1 hw2.2 (by omega) (by omega)
            have r1 : wrap64 (k * x) = k * x := IntWalk.wrap64_in _ (by omega)
            have r2 : wrap64 (k * x + x) = k * x + x := IntWalk.wrap64_in _ (by omega)
            have HSB := Lib.hid (show spanB k x = decide (max (k * x) (-1099511627776) < min (k * x + x) 1099511627776) by unfold spanB; rw [hw, Bool.true_and])
            have HSV := Lib.hid (show ∀ f t : Int, max (k * x) (-1099511627776) = f → min (k * x + x) 1099511627776 = t → (spanV k x, spanB k x) = if f < t then ((f, t), true) else ((0, 0), false) from fun f t hf ht => by
              have h := HSB.out
              rw [hf, ht] at h
              unfold spanV
              by_cases c : f < t
              · rw [h, decide_eq_true c, if_pos rfl, if_pos c, hf, ht]
              · rw [h, decide_eq_false c, if_neg (by simp), if_neg c])
            generalize (1099511627776 : Int) / x = M at *
            have key : ∀ f t : Int, max (k * x) (-1099511627776) = f → min (k * x + x) 1099511627776 = t → (f < t → (spanV k x).1 = f ∧ (spanV k x).2 = t ∧ spanB k x = true) ∧ (¬ f < t → (spanV k x).1 = 0 ∧ (spanV k x).2 = 0 ∧ spanB k x = false) := fun f t hf ht => by
              have h := HSV.out f t hf ht
              constructor
              · intro c
                rw [if_pos c] at h
                injection h with h5 h6
                rw [h5, h6]; exact ⟨rfl, rfl, rfl⟩
              · intro c
                rw [if_neg c] at h
                injection h with h5 h6
                rw [h5, h6]; exact ⟨rfl, rfl, rfl⟩
            have KEY := Lib.hid key
            have hx1 := hw2.1
            clear key hw hw2 h1 h2 h3 h4 hq m1 m2
            by_cases c1 : k * x < -1099511627776
            · have d1 : decide (k * x < -1099511627776) = true := by simpa using c1
              by_cases c2 : 1099511627776 < k * x + x
              · have d2 : decide (1099511627776 < k * x + x) = true := by simpa using c2
                obtain ⟨k1, k2⟩ := KEY.out (-1099511627776) (1099511627776) (by omega) (by omega)
                have c3 : (-1099511627776 : Int) < 1099511627776 := by decide
                have d3 : decide (1099511627776 ≤ -1099511627776) = false := by rw [decide_eq_false_iff_not]; omega
                have HE := Lib.hid (k1 c3)
                clear k1 k2 c1 c2 c3 n1 n2 hx1 HSB HSV KEY
                go_enter Try.func11, Try.ntmps11
                go_wp2_with (go_at_call 18; (with_reducible refine (CW.out _).mono ?_); rintro e w2 ⟨rfl, rfl⟩)
                refine bodyPost_ret (v := .tuple #[.agg #[.int .i64 (-1099511627776), .int .i64 (1099511627776)], .bool true]) (by simp [results, Try.results11, go_sem, r1, r2]) rfl ⟨by rw [HE.out.1, HE.out.2.1, HE.out.2.2], ?_⟩
                (repeat (first | exact bl _ | (refine Go.RowKit.Below.setCell (p := ⟨_, _, none⟩) ?_ (by first | exact Nat.le_refl _ | simp | (simp; omega)) _) | (refine Go.RowKit.Below.alloc ?_ (by first | exact Nat.le_refl _ | simp | (simp; omega)) _)))
              · have d2 : decide (1099511627776 < k * x + x) = false := by simpa using c2
                obtain ⟨k1, k2⟩ := KEY.out (-1099511627776) (k * x + x) (by omega) (by omega)
                by_cases c3 : -1099511627776 < k * x + x
                · have d3 : decide (k * x + x ≤ -1099511627776) = false := by rw [decide_eq_false_iff_not]; omega
                  have HE := Lib.hid (k1 c3)
                  clear k1 k2 c1 c2 c3 n1 n2 hx1 HSB HSV KEY
                  go_enter Try.func11, Try.ntmps11
                  go_wp2_with (go_at_call 18; (with_reducible refine (CW.out _).mono ?_); rintro e w2 ⟨rfl, rfl⟩)
                  refine bodyPost_ret (v := .tuple #[.agg #[.int .i64 (-1099511627776), .int .i64 (k * x + x)], .bool true]) (by simp [results, Try.results11, go_sem, r1, r2]) rfl ⟨by rw [HE.out.1, HE.out.2.1, HE.out.2.2], ?_⟩
                  (repeat (first | exact bl _ | (refine Go.RowKit.Below.setCell (p := ⟨_, _, none⟩) ?_ (by first | exact Nat.le_refl _ | simp | (simp; omega)) _) | (refine Go.RowKit.Below.alloc ?_ (by first | exact Nat.le_refl _ | simp | (simp; omega)) _)))
                · have d3 : decide (k * x + x ≤ -1099511627776) = true := by rw [decide_eq_true_eq]; omega
                  have HE := Lib.hid (k2 c3)
                  clear k1 k2 c1 c2 c3 n1 n2 hx1 HSB HSV KEY
                  go_enter Try.func11, Try.ntmps11
                  go_wp2_with (go_at_call 18; (with_reducible refine (CW.out _).mono ?_); rintro e w2 ⟨rfl, rfl⟩)
                  refine bodyPost_ret (v := .tuple #[.agg #[.int .i64 0, .int .i64 0], .bool false]) (by simp [results, Try.results11, go_sem]) rfl ⟨by rw [HE.out.1, HE.out.2.1, HE.out.2.2], ?_⟩
                  (repeat (first | exact bl _ | (refine Go.RowKit.Below.setCell (p := ⟨_, _, none⟩) ?_ (by first | exact Nat.le_refl _ | simp | (simp; omega)) _) | (refine Go.RowKit.Below.alloc ?_ (by first | exact Nat.le_refl _ | simp | (simp; omega)) _)))
            · have d1 : decide (k * x < -1099511627776) = false := by simpa using c1
              by_cases c2 : 1099511627776 < k * x + x
              · have d2 : decide (1099511627776 < k * x + x) = true := by simpa using c2
                obtain ⟨k1, k2⟩ := KEY.out (k * x) (1099511627776) (by omega) (by omega)
                by_cases c3 : k * x < 1099511627776
                · have d3 : decide (1099511627776 ≤ k * x) = false := by rw [decide_eq_false_iff_not]; omega
                  have HE := Lib.hid (k1 c3)
                  clear k1 k2 c1 c2 c3 n1 n2 hx1 HSB HSV KEY
                  go_enter Try.func11, Try.ntmps11
                  go_wp2_with (go_at_call 18; (with_reducible refine (CW.out _).mono ?_); rintro e w2 ⟨rfl, rfl⟩)
                  refine bodyPost_ret (v := .tuple #[.agg #[.int .i64 (k * x), .int .i64 (1099511627776)], .bool true]) (by simp [results, Try.results11, go_sem, r1, r2]) rfl ⟨by rw [HE.out.1, HE.out.2.1, HE.out.2.2], ?_⟩
                  (repeat (first | exact bl _ | (refine Go.RowKit.Below.setCell (p := ⟨_, _, none⟩) ?_ (by first | exact Nat.le_refl _ | simp | (simp; omega)) _) | (refine Go.RowKit.Below.alloc ?_ (by first | exact Nat.le_refl _ | simp | (simp; omega)) _)))
                · have d3 : decide (1099511627776 ≤ k * x) = true := by rw [decide_eq_true_eq]; omega
                  have HE := Lib.hid (k2 c3)
                  clear k1 k2 c1 c2 c3 n1 n2 hx1 HSB HSV KEY
                  go_enter Try.func11, Try.ntmps11
                  go_wp2_with (go_at_call 18; (with_reducible refine (CW.out _).mono ?_); rintro e w2 ⟨rfl, rfl⟩)
                  refine bodyPost_ret (v := .tuple #[.agg #[.int .i64 0, .int .i64 0], .bool false]) (by simp [results, Try.results11, go_sem]) rfl ⟨by rw [HE.out.1, HE.out.2.1, HE.out.2.2], ?_⟩
                  (repeat (first | exact bl _ | (refine Go.RowKit.Below.setCell (p := ⟨_, _, none⟩) ?_ (by first | exact Nat.le_refl _ | simp | (simp; omega)) _) | (refine Go.RowKit.Below.alloc ?_ (by first | exact Nat.le_refl _ | simp | (simp; omega)) _)))
              · have d2 : decide (1099511627776 < k * x + x) = false := by simpa using c2
                obtain ⟨k1, k2⟩ := KEY.out (k * x) (k * x + x) (by omega) (by omega)
                by_cases c3 : k * x < k * x + x
                · have d3 : decide (k * x + x ≤ k * x) = false := by rw [decide_eq_false_iff_not]; omega
                  have HE := Lib.hid (k1 c3)
                  clear k1 k2 c1 c2 c3 n1 n2 hx1 HSB HSV KEY
                  go_enter Try.func11, Try.ntmps11
                  go_wp2_with (go_at_call 18; (with_reducible refine (CW.out _).mono ?_); rintro e w2 ⟨rfl, rfl⟩)
                  refine bodyPost_ret (v := .tuple #[.agg #[.int .i64 (k * x), .int .i64 (k * x + x)], .bool true]) (by simp [results, Try.results11, go_sem, r1, r2]) rfl ⟨by rw [HE.out.1, HE.out.2.1, HE.out.2.2], ?_⟩
                  (repeat (first | exact bl _ | (refine Go.RowKit.Below.setCell (p := ⟨_, _, none⟩) ?_ (by first | exact Nat.le_refl _ | simp | (simp; omega)) _) | (refine Go.RowKit.Below.alloc ?_ (by first | exact Nat.le_refl _ | simp | (simp; omega)) _)))
                · have d3 : decide (k * x + x ≤ k * x) = true := by rw [decide_eq_true_eq]; omega
                  have HE := Lib.hid (k2 c3)
                  clear k1 k2 c1 c2 c3 n1 n2 hx1 HSB HSV KEY
                  go_enter Try.func11, Try.ntmps11
                  go_wp2_with (go_at_call 18; (with_reducible refine (CW.out _).mono ?_); rintro e w2 ⟨rfl, rfl⟩)
                  refine bodyPost_ret (v := .tuple #[.agg #[.int .i64 0, .int .i64 0], .bool false]) (by simp [results, Try.results11, go_sem]) rfl ⟨by rw [HE.out.1, HE.out.2.1, HE.out.2.2], ?_⟩
                  (repeat (first | exact bl _ | (refine Go.RowKit.Below.setCell (p := ⟨_, _, none⟩) ?_ (by first | exact Nat.le_refl _ | simp | (simp; omega)) _) | (refine Go.RowKit.Below.alloc ?_ (by first | exact Nat.le_refl _ | simp | (simp; omega)) _)))
  · have hw' : widthB x = false := by simpa using hw
    rw [hw'] at CW
    have HE := Lib.hid (show (spanV k x).1 = 0 ∧ (spanV k x).2 = 0 ∧ spanB k x = false by unfold spanV; rw [spanB_wide hw']; exact ⟨rfl, rfl, rfl⟩)
    clear hw hw'
    go_enter Try.func11, Try.ntmps11
    go_wp2_with (go_at_call 18; (with_reducible refine (CW.out _).mono ?_); rintro e w2 ⟨rfl, rfl⟩)
    refine bodyPost_ret (v := .tuple #[.agg #[.int .i64 0, .int .i64 0], .bool false]) (by simp [results, Try.results11, go_sem]) rfl ⟨by rw [HE.out.1, HE.out.2.1, HE.out.2.2], ?_⟩
    exact (bl w).alloc (Nat.le_refl _) _

end Go.Proofs.Ytmhddpgeiijhgaa

/-
  The world behind a stretch of a walk, named by what is known of it.
-/
namespace Go.Proofs.Ytmhddpgeiijhgaa
open Go.RowKit

theorem abstract_worldW {P : Program} {code : Code} {Q : Exit → Act → World → Prop} {a : Act} {w : World} (R : World → Prop) (h0 : R w) (h : ∀ W, R W → Code.wp P code Q a W) : Code.wp P code Q a w := h w h0
theorem abstract_then {next : Act → World → Prop} {Q : Exit → Act → World → Prop} {a : Act} {w : World} (R : World → Prop) (h0 : R w) (h : ∀ W, R W → Exit.then next Q .normal a W) : Exit.then next Q .normal a w := h w h0

end Go.Proofs.Ytmhddpgeiijhgaa
