/-
  Texts joined into one: what the program's and the document's calls give back, piece by piece.
-/
import Derived.Test.YtnopbhlhdecimaaMg1
import Derived.Test.YtnopbhlhdecimaaRows
import Derived.BigQuiet
import Derived.ChangeAlike
import Derived.ChangeKeysEq
import Derived.Deep.AppendLies
import Derived.Deep.CutBlock
import Derived.Deep.CutRange
import Derived.Deep.Light
import Derived.Deep.QuietTactic
import Derived.Deep.RegionHeld3
import Derived.Deep.RegionLaw
import Derived.Handy
import Derived.Laws.BytesArg
import Derived.Laws.OwnMore
import Derived.Laws.Strings
import Derived.Laws.StructEq
import Derived.Lib.Hide
import Derived.Maps.AppendAt
import Derived.OneCell
import Derived.OwnWalk
import Derived.RegionTactic
import Derived.StillTailTactics
import Derived.WalkArith
import Derived.WalkKit
import Derived.WalkLawsBesides
import Derived.WalkSpells

/-
  Plain facts on lists of spans: which times a list has, what a cover is, that a set of times has one cover, how covers grow at their end.
-/
namespace Go.Proofs.Ytnopbhlhdecimaa.Co

/-- May the span be? -/
def rightB (f t : Int) : Bool := decide (-1099511627776 ≤ f ∧ f < t ∧ t ≤ 1099511627776)
/-- Has it the time? -/
def hasB (f t x : Int) : Bool := decide (f ≤ x ∧ x < t)
theorem right_yes {f t : Int} (h : rightB f t = true) : -1099511627776 ≤ f ∧ f < t ∧ t ≤ 1099511627776 := by simpa [rightB] using h
theorem right_no {f t : Int} (h : rightB f t = false) : ¬ (-1099511627776 ≤ f ∧ f < t ∧ t ≤ 1099511627776) := by simpa [rightB] using h

abbrev Sp := Int × Int
/-- Has one of the list's right spans the time? -/
def Mem (l : List Sp) (x : Int) : Prop := ∃ p ∈ l, rightB p.1 p.2 = true ∧ p.1 ≤ x ∧ x < p.2
def memB (l : List Sp) (x : Int) : Bool := l.any fun p => rightB p.1 p.2 && hasB p.1 p.2 x
theorem memB_iff (l : List Sp) (x : Int) : memB l x = true ↔ Mem l x := by simp [memB, Mem, hasB]
theorem memB_eq {l m : List Sp} {x : Int} (h : Mem l x ↔ Mem m x) : memB l x = memB m x := by
  rw [Bool.eq_iff_iff, memB_iff, memB_iff]; exact h
instance (l : List Sp) (x : Int) : Decidable (Mem l x) := decidable_of_iff _ (memB_iff l x)

theorem mem_nil (x : Int) : ¬ Mem [] x := by simp [Mem]
theorem mem_cons (p : Sp) (l : List Sp) (x : Int) : Mem (p :: l) x ↔ (rightB p.1 p.2 = true ∧ p.1 ≤ x ∧ x < p.2) ∨ Mem l x := by simp [Mem]
theorem mem_append (l m : List Sp) (x : Int) : Mem (l ++ m) x ↔ Mem l x ∨ Mem m x := by
  simp only [Mem, List.mem_append]
  constructor
  · rintro ⟨p, h | h, r⟩
    · exact .inl ⟨p, h, r⟩
    · exact .inr ⟨p, h, r⟩
  · rintro (⟨p, h, r⟩ | ⟨p, h, r⟩)
    · exact ⟨p, .inl h, r⟩
    · exact ⟨p, .inr h, r⟩
theorem mem_one (p : Sp) (x : Int) : Mem [p] x ↔ (rightB p.1 p.2 = true ∧ p.1 ≤ x ∧ x < p.2) := by simp [Mem]
theorem mem_perm {l m : List Sp} (h : l.Perm m) (x : Int) : Mem l x ↔ Mem m x := by
  constructor
  · rintro ⟨p, hp, r⟩; exact ⟨p, h.mem_iff.1 hp, r⟩
  · rintro ⟨p, hp, r⟩; exact ⟨p, h.mem_iff.2 hp, r⟩
theorem mem_filter (l : List Sp) (x : Int) : Mem (l.filter fun p => rightB p.1 p.2) x ↔ Mem l x := by
  simp only [Mem, List.mem_filter]
  constructor
  · rintro ⟨p, ⟨hp, _⟩, r⟩; exact ⟨p, hp, r⟩
  · rintro ⟨p, hp, r⟩; exact ⟨p, ⟨hp, r.1⟩, r⟩
theorem mem_bounds {l : List Sp} {x : Int} (h : Mem l x) : -1099511627776 ≤ x ∧ x < 1099511627776 := by
  obtain ⟨p, _, hr, h1, h2⟩ := h
  have := right_yes hr
  omega

/-- A cover: right spans, each of which ends ahead of the next one. -/
def Cov (l : List Sp) : Prop := (∀ p ∈ l, rightB p.1 p.2 = true) ∧ l.Pairwise fun p q => p.2 < q.1
instance (l : List Sp) : Decidable (Cov l) := inferInstanceAs (Decidable (_ ∧ _))
theorem Cov.nil : Cov [] := ⟨by simp, List.Pairwise.nil⟩
theorem Cov.tail {p : Sp} {l : List Sp} (h : Cov (p :: l)) : Cov l := ⟨fun q hq => h.1 q (List.mem_cons_of_mem _ hq), (List.pairwise_cons.1 h.2).2⟩
theorem Cov.head {p : Sp} {l : List Sp} (h : Cov (p :: l)) : ∀ q ∈ l, p.2 < q.1 := (List.pairwise_cons.1 h.2).1
theorem Cov.snoc {l : List Sp} {p : Sp} (h : Cov l) (hp : rightB p.1 p.2 = true) (hl : ∀ q ∈ l, q.2 < p.1) : Cov (l ++ [p]) := by
  refine ⟨fun q hq => ?_, ?_⟩
  · rcases List.mem_append.1 hq with h1 | h1
    · exact h.1 q h1
    · obtain rfl := List.mem_singleton.1 h1; exact hp
  · refine List.pairwise_append.2 ⟨h.2, List.pairwise_singleton _ _, fun a ha b hb => ?_⟩
    obtain rfl := List.mem_singleton.1 hb
    exact hl a ha
theorem Cov.left {l m : List Sp} (h : Cov (l ++ m)) : Cov l := ⟨fun p hp => h.1 p (List.mem_append_left _ hp), (List.pairwise_append.1 h.2).1⟩
theorem Cov.last {l : List Sp} {p : Sp} (h : Cov (l ++ [p])) : rightB p.1 p.2 = true ∧ ∀ q ∈ l, q.2 < p.1 :=
  ⟨h.1 p (by simp), fun q hq => (List.pairwise_append.1 h.2).2.2 q hq p (by simp)⟩
/-- All that stand ahead end ahead, if the last one does. -/
theorem Cov.ends {l : List Sp} {q : Sp} (h : Cov (l ++ [q])) {x : Int} (hx : q.2 < x) : ∀ p ∈ l ++ [q], p.2 < x := fun p hp => by
  rcases List.mem_append.1 hp with h1 | h1
  · have := h.last.2 p h1
    have := right_yes h.last.1
    omega
  · obtain rfl := List.mem_singleton.1 h1; exact hx

theorem cov_first {p : Sp} {l : List Sp} (h : Cov (p :: l)) {x : Int} (hx : Mem (p :: l) x) : p.1 ≤ x := by
  obtain ⟨q, hq, hr, h1, h2⟩ := hx
  rcases List.mem_cons.1 hq with rfl | hq
  · exact h1
  · have := h.head q hq
    have := right_yes (h.1 p (by simp))
    omega
theorem cov_first_mem {p : Sp} {l : List Sp} (h : Cov (p :: l)) : Mem (p :: l) p.1 := by
  have := right_yes (h.1 p (by simp))
  exact ⟨p, by simp, h.1 p (by simp), by omega, by omega⟩
theorem cov_end {p : Sp} {l : List Sp} (h : Cov (p :: l)) : ¬ Mem (p :: l) p.2 := by
  rintro ⟨q, hq, hr, h1, h2⟩
  rcases List.mem_cons.1 hq with rfl | hq
  · omega
  · have := h.head q hq
    omega
theorem cov_tail {p : Sp} {l : List Sp} (h : Cov (p :: l)) (x : Int) : Mem l x ↔ Mem (p :: l) x ∧ p.2 ≤ x := by
  constructor
  · intro hm
    obtain ⟨q, hq, hr, h1, h2⟩ := hm
    have := h.head q hq
    exact ⟨⟨q, List.mem_cons_of_mem _ hq, hr, h1, h2⟩, by omega⟩
  · rintro ⟨⟨q, hq, hr, h1, h2⟩, h3⟩
    rcases List.mem_cons.1 hq with rfl | hq
    · omega
    · exact ⟨q, hq, hr, h1, h2⟩

/-- A set of times has one cover. -/
theorem cov_ext : ∀ l m : List Sp, Cov l → Cov m → (∀ x, Mem l x ↔ Mem m x) → l = m
  | [], [], _, _, _ => rfl
  | [], q :: m, _, hm, h => absurd ((h q.1).2 (cov_first_mem hm)) (mem_nil _)
  | p :: l, [], hl, _, h => absurd ((h p.1).1 (cov_first_mem hl)) (mem_nil _)
  | p :: l, q :: m, hl, hm, h => by
    have h1 := cov_first hm ((h p.1).1 (cov_first_mem hl))
    have h2 := cov_first hl ((h q.1).2 (cov_first_mem hm))
    have rp := right_yes (hl.1 p (by simp))
    have rq := right_yes (hm.1 q (by simp))
    have e1 : p.1 = q.1 := by omega
    have e2 : p.2 = q.2 := by
      rcases Int.lt_trichotomy p.2 q.2 with hlt | heq | hgt
      · exact absurd ((h p.2).2 ⟨q, by simp, hm.1 q (by simp), by omega, hlt⟩) (cov_end hl)
      · exact heq
      · exact absurd ((h q.2).1 ⟨p, by simp, hl.1 p (by simp), by omega, hgt⟩) (cov_end hm)
    have e : p = q := Prod.ext e1 e2
    subst e
    rw [cov_ext l m hl.tail hm.tail fun x => by rw [cov_tail hl, cov_tail hm, h x]]

/-- The cover of a set of times. -/
def CovOf (l : List Sp) (S : Int → Prop) : Prop := Cov l ∧ ∀ x, Mem l x ↔ S x
theorem CovOf.eq {l m : List Sp} {S T : Int → Prop} (hl : CovOf l S) (hm : CovOf m T) (h : ∀ x, S x ↔ T x) : l = m :=
  cov_ext l m hl.1 hm.1 fun x => ((hl.2 x).trans (h x)).trans (hm.2 x).symm
theorem CovOf.same {l m : List Sp} {S T : Int → Prop} (hl : CovOf l S) (hm : CovOf m T) (h : ∀ x, S x ↔ T x) : decide (l = m) = true := by
  simpa using hl.eq hm h

/- Is a list a cover, as far as k? -/
theorem cov_take_succ {l : List Sp} {k : Nat} {p : Sp} (hp : l[k]? = some p) (h : Cov (l.take k)) (hr : rightB p.1 p.2 = true) (hq : ∀ q, k ≠ 0 → l[k - 1]? = some q → q.2 < p.1) : Cov (l.take (k + 1)) := by
  rw [List.take_add_one, hp]
  simp only [Option.toList_some]
  rcases Nat.eq_zero_or_pos k with rfl | hk
  · simpa using Cov.snoc (l := []) Cov.nil hr (by simp)
  · obtain ⟨q, hq'⟩ : ∃ q, l[k - 1]? = some q := by
      have : k < l.length := by rcases Nat.lt_or_ge k l.length with h | h; exact h; simp [List.getElem?_eq_none h] at hp
      exact ⟨_, List.getElem?_eq_getElem (by omega)⟩
    have e : l.take k = l.take (k - 1) ++ [q] := by
      have e1 : l.take (k - 1 + 1) = l.take (k - 1) ++ [q] := by rw [List.take_add_one, hq']; rfl
      rwa [show k - 1 + 1 = k from by omega] at e1
    have h' := h
    rw [e] at h'
    refine Cov.snoc h hr ?_
    rw [e]
    exact h'.ends (hq q (by omega) hq')
theorem cov_not_right {l : List Sp} {k : Nat} {p : Sp} (hp : l[k]? = some p) (hr : rightB p.1 p.2 = false) : ¬ Cov l := fun h => by
  have := h.1 p (List.mem_of_getElem? hp)
  rw [hr] at this
  cases this
theorem cov_not_apart {l : List Sp} {k : Nat} {p q : Sp} (hq : l[k]? = some q) (hp : l[k + 1]? = some p) (h : p.1 ≤ q.2) : ¬ Cov l := fun hc => by
  have h1 := List.pairwise_iff_getElem.1 hc.2 k (k + 1)
  obtain ⟨l1, e1⟩ := List.getElem?_eq_some_iff.1 hq
  obtain ⟨l2, e2⟩ := List.getElem?_eq_some_iff.1 hp
  have := h1 l1 l2 (by omega)
  rw [e1, e2] at this
  omega

/- Making a cover of spans that rise. -/
/-- What has been made of the spans so far. -/
structure Made (m d : List Sp) : Prop where
  cov : Cov m
  mem : ∀ x, Mem m x ↔ Mem d x
  len : m.length ≤ d.length
  from_ : ∀ q ∈ m, ∃ p ∈ d, p.1 = q.1
theorem Made.nil : Made [] [] := ⟨Cov.nil, fun _ => Iff.rfl, Nat.le_refl _, by simp⟩
theorem Made.joins {m d : List Sp} {q a : Sp} (h : Made (m ++ [q]) d) (hr : rightB a.1 a.2 = true) (hs : ∀ p ∈ d, p.1 ≤ a.1) (hle : a.1 ≤ q.2) : Made (m ++ [(q.1, max q.2 a.2)]) (d ++ [a]) := by
  have hq := right_yes h.cov.last.1
  have ha := right_yes hr
  obtain ⟨p, hp, he⟩ := h.from_ q (by simp)
  have h1 := hs p hp
  have hr' : rightB q.1 (max q.2 a.2) = true := by simp [rightB]; omega
  refine ⟨Cov.snoc h.cov.left hr' h.cov.last.2, fun x => ?_, by have := h.len; simp at this ⊢; omega, ?_⟩
  · rw [mem_append, mem_append, ← h.mem x, mem_append, mem_one, mem_one, mem_one]
    simp only [hr', hr, h.cov.last.1, true_and]
    constructor
    · rintro (h2 | h2)
      · exact .inl (.inl h2)
      · rcases Int.lt_or_le x q.2 with h3 | h3
        · exact .inl (.inr ⟨h2.1, h3⟩)
        · exact .inr ⟨by omega, by omega⟩
    · rintro ((h2 | h2) | h2)
      · exact .inl h2
      · exact .inr ⟨h2.1, by omega⟩
      · exact .inr ⟨by omega, by omega⟩
  · intro r hr2
    rcases List.mem_append.1 hr2 with h2 | h2
    · obtain ⟨p', hp', e⟩ := h.from_ r (List.mem_append_left _ h2)
      exact ⟨p', List.mem_append_left _ hp', e⟩
    · obtain rfl := List.mem_singleton.1 h2
      exact ⟨p, List.mem_append_left _ hp, he⟩
theorem Made.adds {m d : List Sp} {a : Sp} (h : Made m d) (hr : rightB a.1 a.2 = true) (hl : ∀ q ∈ m, q.2 < a.1) : Made (m ++ [a]) (d ++ [a]) := by
  refine ⟨Cov.snoc h.cov hr hl, fun x => ?_, by have := h.len; simp; omega, ?_⟩
  · rw [mem_append, mem_append, h.mem x]
  · intro r hr2
    rcases List.mem_append.1 hr2 with h2 | h2
    · obtain ⟨p', hp', e⟩ := h.from_ r h2
      exact ⟨p', List.mem_append_left _ hp', e⟩
    · obtain rfl := List.mem_singleton.1 h2
      exact ⟨_, by simp, rfl⟩

/- The document's way: piece by piece between the ends. -/
/-- A piece behind a cover: it is joined to the last one where it touches it. -/
theorem put_joins {m : List Sp} {q : Sp} {t : Int} (h : Cov (m ++ [q])) (hq : q.2 < t) (ht : t ≤ 1099511627776) : Cov (m ++ [(q.1, t)]) ∧ ∀ x, Mem (m ++ [(q.1, t)]) x ↔ Mem (m ++ [q]) x ∨ (q.2 ≤ x ∧ x < t) := by
  have hr := right_yes h.last.1
  have hr' : rightB q.1 t = true := by simp [rightB]; omega
  refine ⟨Cov.snoc h.left hr' h.last.2, fun x => ?_⟩
  rw [mem_append, mem_append, mem_one, mem_one]
  simp only [hr', h.last.1, true_and]
  constructor
  · rintro (h2 | h2)
    · exact .inl (.inl h2)
    · rcases Int.lt_or_le x q.2 with h3 | h3
      · exact .inl (.inr ⟨h2.1, h3⟩)
      · exact .inr ⟨h3, h2.2⟩
  · rintro ((h2 | h2) | h2)
    · exact .inl h2
    · exact .inr ⟨h2.1, by omega⟩
    · exact .inr ⟨by omega, h2.2⟩
theorem put_adds {m : List Sp} {f t : Int} (h : Cov m) (hl : ∀ q ∈ m, q.2 < f) (hr : rightB f t = true) : Cov (m ++ [(f, t)]) ∧ ∀ x, Mem (m ++ [(f, t)]) x ↔ Mem m x ∨ (f ≤ x ∧ x < t) := by
  refine ⟨Cov.snoc h hr hl, fun x => ?_⟩
  rw [mem_append, mem_one]
  simp [hr]

/-- The ends of the right spans of a list. -/
def endsOf (l : List Sp) : List Int := (l.filter fun p => rightB p.1 p.2).flatMap fun p => [p.1, p.2]
theorem mem_ends {l : List Sp} {p : Sp} (hp : p ∈ l) (hr : rightB p.1 p.2 = true) : p.1 ∈ endsOf l ∧ p.2 ∈ endsOf l := by
  unfold endsOf
  simp only [List.mem_flatMap, List.mem_filter]
  exact ⟨⟨p, ⟨hp, hr⟩, by simp⟩, ⟨p, ⟨hp, hr⟩, by simp⟩⟩
theorem ends_bounds {l : List Sp} {x : Int} (h : x ∈ endsOf l) : -1099511627776 ≤ x ∧ x ≤ 1099511627776 := by
  unfold endsOf at h
  simp only [List.mem_flatMap, List.mem_filter] at h
  obtain ⟨p, ⟨_, hr⟩, hx⟩ := h
  have := right_yes hr
  simp at hx
  omega
theorem ends_append (l m : List Sp) : endsOf (l ++ m) = endsOf l ++ endsOf m := by simp [endsOf]
theorem ends_length (l : List Sp) : (endsOf l).length ≤ 2 * l.length := by
  have h : ∀ l : List Sp, (l.flatMap fun p => [p.1, p.2]).length = 2 * l.length := fun l => by
    induction l with
    | nil => rfl
    | cons p l ih => simp only [List.flatMap_cons, List.length_append, ih, List.length_cons, List.length_nil]; omega
  rw [endsOf, h]
  have := List.length_filter_le (fun p : Sp => rightB p.1 p.2) l
  omega
/-- Between two ends that follow on each other all times are alike. -/
theorem mem_between {l : List Sp} {ts : List Int} (hts : ∀ y ∈ endsOf l, y ∈ ts) (hp : ts.Pairwise (· < ·)) {i : Nat} {a b x : Int} (ha : ts[i]? = some a) (hb : ts[i + 1]? = some b) (h1 : a ≤ x) (h2 : x < b) : Mem l x ↔ Mem l a := by
  have key : ∀ y ∈ ts, y < b → y ≤ a := fun y hy hlt => by
    obtain ⟨j, hj⟩ := List.getElem?_of_mem hy
    obtain ⟨lj, ej⟩ := List.getElem?_eq_some_iff.1 hj
    obtain ⟨li, ei⟩ := List.getElem?_eq_some_iff.1 ha
    obtain ⟨lb, eb⟩ := List.getElem?_eq_some_iff.1 hb
    have H := List.pairwise_iff_getElem.1 hp
    rcases Nat.lt_trichotomy j i with h | rfl | h
    · have := H j i lj li h
      omega
    · omega
    · rcases Nat.lt_or_ge (i + 1) j with h3 | h3
      · have := H (i + 1) j lb lj h3
        omega
      · obtain rfl : j = i + 1 := by omega
        omega
  constructor
  · rintro ⟨p, hp', hr, h3, h4⟩
    obtain ⟨e1, e2⟩ := mem_ends hp' hr
    have := key p.1 (hts _ e1) (by omega)
    exact ⟨p, hp', hr, this, by omega⟩
  · rintro ⟨p, hp', hr, h3, h4⟩
    obtain ⟨e1, e2⟩ := mem_ends hp' hr
    refine ⟨p, hp', hr, by omega, ?_⟩
    rcases Int.lt_or_le p.2 b with h5 | h5
    · have := key p.2 (hts _ e2) h5
      omega
    · omega
theorem mem_ahead {l : List Sp} {ts : List Int} (hts : ∀ y ∈ endsOf l, y ∈ ts) (hp : ts.Pairwise (· < ·)) {x : Int} (h : ∀ q, ts[0]? = some q → x < q) : ¬ Mem l x := by
  rintro ⟨p, hp', hr, h3, h4⟩
  obtain ⟨j, hj⟩ := List.getElem?_of_mem (hts _ (mem_ends hp' hr).1)
  obtain ⟨lj, ej⟩ := List.getElem?_eq_some_iff.1 hj
  have h0 := h ts[0] (List.getElem?_eq_getElem (by omega))
  rcases Nat.eq_zero_or_pos j with rfl | h1
  · omega
  · have := List.pairwise_iff_getElem.1 hp 0 j (by omega) lj h1
    omega
theorem mem_behind {l : List Sp} {ts : List Int} (hts : ∀ y ∈ endsOf l, y ∈ ts) (hp : ts.Pairwise (· < ·)) {i : Nat} {a x : Int} (ha : ts[i]? = some a) (hi : ts.length ≤ i + 1) (h : a ≤ x) : ¬ Mem l x := by
  rintro ⟨p, hp', hr, h3, h4⟩
  obtain ⟨j, hj⟩ := List.getElem?_of_mem (hts _ (mem_ends hp' hr).2)
  obtain ⟨lj, ej⟩ := List.getElem?_eq_some_iff.1 hj
  obtain ⟨li, ei⟩ := List.getElem?_eq_some_iff.1 ha
  rcases Nat.lt_or_ge j i with h1 | h1
  · have := List.pairwise_iff_getElem.1 hp j i lj li h1
    omega
  · obtain rfl : j = i := by omega
    omega

/-- Which times of two lists count. -/
def kindB (kind : Int) (x y : Bool) : Bool := (kind == 0 && (x || y)) || (kind == 1 && x && y) || (kind == 2 && x && !y)
def KindP (kind : Int) (a b : List Sp) (x : Int) : Prop := kindB kind (memB a x) (memB b x) = true
/-- What is out when the pieces ahead of place i are through. -/
structure OutTo (a b : List Sp) (kind : Int) (ts : List Int) (i : Nat) (o : List Sp) : Prop where
  cov : Cov o
  mem : ∀ x, (∀ q, ts[i]? = some q → x < q) → i < ts.length → (Mem o x ↔ KindP kind a b x)
  ends : ∀ p ∈ o, ∀ q, ts[i]? = some q → p.2 ≤ q
  len : o.length ≤ i
theorem kind_none {kind : Int} : kindB kind false false = false := by simp [kindB]
theorem OutTo.start {a b : List Sp} {kind : Int} {ts : List Int} (ha : ∀ y ∈ endsOf a, y ∈ ts) (hb : ∀ y ∈ endsOf b, y ∈ ts) (hp : ts.Pairwise (· < ·)) : OutTo a b kind ts 0 [] := by
  refine ⟨Cov.nil, fun x hx _ => ?_, by simp, Nat.le_refl _⟩
  have h1 : memB a x = false := by have := mem_ahead ha hp hx; rw [← memB_iff] at this; simpa using this
  have h2 : memB b x = false := by have := mem_ahead hb hp hx; rw [← memB_iff] at this; simpa using this
  simp [KindP, h1, h2, kind_none, mem_nil]
theorem kind_between {a b : List Sp} {kind : Int} {ts : List Int} (ha : ∀ y ∈ endsOf a, y ∈ ts) (hb : ∀ y ∈ endsOf b, y ∈ ts) (hp : ts.Pairwise (· < ·)) {i : Nat} {f t x : Int} (hf : ts[i]? = some f) (ht : ts[i + 1]? = some t) (h1 : f ≤ x) (h2 : x < t) : KindP kind a b x ↔ KindP kind a b f := by
  unfold KindP
  rw [memB_eq (l := a) (m := a) (x := x), memB_eq (l := b) (m := b) (x := x)]
  · rw [show memB a x = memB a f from by rw [Bool.eq_iff_iff, memB_iff, memB_iff]; exact mem_between ha hp hf ht h1 h2, show memB b x = memB b f from by rw [Bool.eq_iff_iff, memB_iff, memB_iff]; exact mem_between hb hp hf ht h1 h2]
  · exact Iff.rfl
  · exact Iff.rfl
/-- A piece that doesn't count. -/
theorem OutTo.skip {a b : List Sp} {kind : Int} {ts : List Int} {i : Nat} {o : List Sp} (h : OutTo a b kind ts i o) (ha : ∀ y ∈ endsOf a, y ∈ ts) (hb : ∀ y ∈ endsOf b, y ∈ ts) (hp : ts.Pairwise (· < ·)) {f t : Int} (hf : ts[i]? = some f) (ht : ts[i + 1]? = some t) (hn : kindB kind (memB a f) (memB b f) = false) : OutTo a b kind ts (i + 1) o := by
  obtain ⟨li, ei⟩ := List.getElem?_eq_some_iff.1 hf
  obtain ⟨lj, ej⟩ := List.getElem?_eq_some_iff.1 ht
  have hft := List.pairwise_iff_getElem.1 hp i (i + 1) li lj (by omega)
  rw [ei, ej] at hft
  refine ⟨h.cov, fun x hx _ => ?_, fun p hp' q hq => ?_, by have := h.len; omega⟩
  · rcases Int.lt_or_le x f with h1 | h1
    · exact h.mem x (fun q hq => by rw [hf] at hq; injection hq with hq; omega) li
    · rw [kind_between ha hb hp hf ht h1 (hx t ht)]
      constructor
      · rintro ⟨p, hp', hr, h3, h4⟩
        have := h.ends p hp' f hf
        omega
      · intro hk
        rw [KindP, hn] at hk
        cases hk
  · have := h.ends p hp' f hf
    rw [ht] at hq
    injection hq with hq
    omega
theorem OutTo.next {a b : List Sp} {kind : Int} {ts : List Int} {i : Nat} {o o' : List Sp} (h : OutTo a b kind ts i o) (ha : ∀ y ∈ endsOf a, y ∈ ts) (hb : ∀ y ∈ endsOf b, y ∈ ts) (hp : ts.Pairwise (· < ·)) {f t : Int} (hf : ts[i]? = some f) (ht : ts[i + 1]? = some t) (hn : kindB kind (memB a f) (memB b f) = true)
    (hc : Cov o') (hm : ∀ x, Mem o' x ↔ Mem o x ∨ (f ≤ x ∧ x < t)) (he : ∀ p ∈ o', p ∈ o ∨ p.2 = t) (hl : o'.length ≤ o.length + 1) : OutTo a b kind ts (i + 1) o' := by
  obtain ⟨li, ei⟩ := List.getElem?_eq_some_iff.1 hf
  obtain ⟨lj, ej⟩ := List.getElem?_eq_some_iff.1 ht
  have hft := List.pairwise_iff_getElem.1 hp i (i + 1) li lj (by omega)
  rw [ei, ej] at hft
  refine ⟨hc, fun x hx _ => ?_, fun p hp' q hq => ?_, by have := h.len; omega⟩
  · rw [hm x]
    rcases Int.lt_or_le x f with h1 | h1
    · rw [h.mem x (fun q hq => by rw [hf] at hq; injection hq with hq; omega) li]
      constructor
      · rintro (h2 | h2)
        · exact h2
        · omega
      · exact .inl
    · rw [kind_between ha hb hp hf ht h1 (hx t ht)]
      exact ⟨fun _ => hn, fun _ => .inr ⟨h1, hx t ht⟩⟩
  · rw [ht] at hq
    injection hq with hq
    rcases he p hp' with h1 | h1
    · have := h.ends p h1 f hf
      omega
    · omega
theorem OutTo.stop {a b : List Sp} {kind : Int} {ts : List Int} {i : Nat} {o : List Sp} (h : OutTo a b kind ts i o) (ha : ∀ y ∈ endsOf a, y ∈ ts) (hb : ∀ y ∈ endsOf b, y ∈ ts) (hp : ts.Pairwise (· < ·)) (hi : ts.length ≤ i + 1) (hi2 : i = 0 ∨ i < ts.length) : CovOf o (KindP kind a b) := by
  refine ⟨h.cov, fun x => ?_⟩
  rcases Nat.lt_or_ge i ts.length with hl | hl
  · rcases Int.lt_or_le x ts[i] with h1 | h1
    · exact h.mem x (fun q hq => by rw [List.getElem?_eq_getElem hl] at hq; injection hq with hq; omega) hl
    · have e1 : memB a x = false := by have := mem_behind ha hp (List.getElem?_eq_getElem hl) hi h1; rw [← memB_iff] at this; simpa using this
      have e2 : memB b x = false := by have := mem_behind hb hp (List.getElem?_eq_getElem hl) hi h1; rw [← memB_iff] at this; simpa using this
      constructor
      · rintro ⟨p, hp', hr, h3, h4⟩
        have := h.ends p hp' _ (List.getElem?_eq_getElem hl)
        omega
      · intro hk
        rw [KindP, e1, e2, kind_none] at hk
        cases hk
  · obtain rfl : i = 0 := by omega
    have ht : ts = [] := List.eq_nil_of_length_eq_zero (by omega)
    have e0 : o = [] := List.eq_nil_of_length_eq_zero (by have := h.len; omega)
    have e1 : memB a x = false := by have := mem_ahead ha hp (x := x) (by simp [ht]); rw [← memB_iff] at this; simpa using this
    have e2 : memB b x = false := by have := mem_ahead hb hp (x := x) (by simp [ht]); rw [← memB_iff] at this; simpa using this
    rw [e0]
    simp [KindP, e1, e2, kind_none, mem_nil]

end Go.Proofs.Ytnopbhlhdecimaa.Co

/-
  Plain facts on timelines: lists of pieces, what they have at a time, pieces put behind each other.
-/
namespace Go.Proofs.Ytnopbhlhdecimaa

/-- A piece; where its fields lie (fa, fc) is no part of what it says. -/
structure Pc where
  f : Int
  t : Int
  fa : Option Addr
  fc : Nat
  fs : List Fd
abbrev sayP (p : Pc) : Int × Int × List Fd := (p.f, p.t, p.fs)
/-- Do two pieces, two lists of them, say the same? -/
def sameP1 (p q : Pc) : Bool := (decide (p.f = q.f) && decide (p.t = q.t)) && sameF p.fs q.fs
def sameP : List Pc → List Pc → Bool
  | [], [] => true
  | p :: l, q :: m => sameP1 p q && sameP l m
  | _, _ => false
theorem sameP_say : ∀ {l m : List Pc}, l.map sayP = m.map sayP → sameP l m = true
  | [], [], _ => rfl
  | [], _ :: _, h => by simp at h
  | _ :: _, [], h => by simp at h
  | p :: l, q :: m, h => by
    rw [List.map_cons, List.map_cons] at h
    injection h with h1 h2
    obtain ⟨f, t, fa, fc, fs⟩ := p
    obtain ⟨f', t', fa', fc', fs'⟩ := q
    simp only [sayP, Prod.mk.injEq] at h1
    obtain ⟨rfl, rfl, rfl⟩ := h1
    rw [sameP, sameP_say h2]
    simp [sameP1, sameF_self]
theorem sameP_len : ∀ (a b : List Pc), a.length ≠ b.length → sameP a b = false
  | [], [], h => absurd rfl h
  | [], _ :: _, _ => rfl
  | _ :: _, [], _ => rfl
  | x :: a, y :: b, h => by
    rw [sameP, sameP_len a b (fun e => h (by simp [e])), Bool.and_false]

abbrev rightP (f t : Int) : Bool := decide (-1099511627776 ≤ f) && decide (t ≤ 1099511627776) && decide (f < t)
abbrev inP (f t x : Int) : Bool := decide (f ≤ x) && decide (x < t)
def hasP (p : Pc) (x : Int) : Bool := rightP p.f p.t && inP p.f p.t x
theorem hasP_iff (p : Pc) (x : Int) : hasP p x = true ↔ (-1099511627776 ≤ p.f ∧ p.t ≤ 1099511627776 ∧ p.f < p.t) ∧ p.f ≤ x ∧ x < p.t := by
  simp [hasP, rightP, inP, and_assoc]
/-- The first piece that has a time. -/
def valP : List Pc → Int → Option Pc
  | [], _ => none
  | p :: l, x => if hasP p x = true then some p else valP l x
def fsP (l : List Pc) (x : Int) : Option (List Fd) := (valP l x).map Pc.fs
theorem valP_append : ∀ (l m : List Pc) (x : Int), valP (l ++ m) x = match valP l x with | some p => some p | none => valP m x
  | [], m, x => rfl
  | p :: l, m, x => by
    rw [List.cons_append, valP, valP]
    split
    · rfl
    · exact valP_append l m x
theorem fsP_append (l m : List Pc) (x : Int) : fsP (l ++ m) x = match fsP l x with | some s => some s | none => fsP m x := by
  unfold fsP
  rw [valP_append]
  cases valP l x <;> rfl
theorem valP_none {l : List Pc} {x : Int} (h : ∀ p ∈ l, ¬ hasP p x = true) : valP l x = none := by
  induction l with
  | nil => rfl
  | cons p l ih =>
    rw [valP, if_neg (h p (by simp))]
    exact ih fun q hq => h q (List.mem_cons_of_mem _ hq)
theorem valP_mem {l : List Pc} {x : Int} {p : Pc} (h : valP l x = some p) : p ∈ l ∧ hasP p x = true := by
  induction l with
  | nil => cases h
  | cons q l ih =>
    rw [valP] at h
    split at h
    · rename_i hq
      injection h with h
      subst h
      exact ⟨by simp, hq⟩
    · exact ⟨List.mem_cons_of_mem _ (ih h).1, (ih h).2⟩
theorem fsP_none {l : List Pc} {x : Int} (h : ∀ p ∈ l, ¬ hasP p x = true) : fsP l x = none := by rw [fsP, valP_none h]; rfl
theorem fsP_one (p : Pc) (x : Int) : fsP [p] x = if hasP p x = true then some p.fs else none := by
  rw [fsP, valP]
  split <;> rfl

/-- A timeline. -/
def linkP (p q : Pc) : Prop := p.t ≤ q.f ∧ (p.t = q.f → p.fs ≠ q.fs)
def TL : List Pc → Prop
  | [] => True
  | [p] => rightP p.f p.t = true
  | p :: q :: l => rightP p.f p.t = true ∧ linkP p q ∧ TL (q :: l)
theorem TL.tail {p : Pc} : ∀ {l : List Pc}, TL (p :: l) → TL l
  | [], _ => trivial
  | _ :: _, h => h.2.2
theorem TL.head {p : Pc} : ∀ {l : List Pc}, TL (p :: l) → rightP p.f p.t = true
  | [], h => h
  | _ :: _, h => h.1
theorem right_lt {f t : Int} (h : rightP f t = true) : -1099511627776 ≤ f ∧ f < t ∧ t ≤ 1099511627776 := by
  simp only [rightP, Bool.and_eq_true, decide_eq_true_eq] at h
  omega
theorem TL.behind : ∀ {l : List Pc} {p : Pc}, TL (p :: l) → ∀ q ∈ l, p.t ≤ q.f
  | [], _, _, q, hq => by simp at hq
  | r :: l, p, h, q, hq => by
    have h1 := h.2.1.1
    rcases List.mem_cons.1 hq with rfl | hq
    · exact h1
    · have := TL.behind h.2.2 q hq
      have := right_lt h.2.2.head
      omega
theorem TL.rights : ∀ {l : List Pc}, TL l → ∀ p ∈ l, rightP p.f p.t = true
  | [], _, p, hp => by simp at hp
  | q :: l, h, p, hp => by
    rcases List.mem_cons.1 hp with rfl | hp
    · exact h.head
    · exact TL.rights h.tail p hp
theorem has_at {p : Pc} (h : rightP p.f p.t = true) {x : Int} (h1 : p.f ≤ x) (h2 : x < p.t) : hasP p x = true := by
  have := right_lt h
  rw [hasP_iff]; omega
theorem fs_head {p : Pc} {l : List Pc} (h : TL (p :: l)) {x : Int} (h1 : p.f ≤ x) (h2 : x < p.t) : fsP (p :: l) x = some p.fs := by
  rw [fsP, valP, if_pos (has_at h.head h1 h2)]; rfl
theorem fs_below {p : Pc} {l : List Pc} (h : TL (p :: l)) {x : Int} (h1 : x < p.f) : fsP (p :: l) x = none := fsP_none fun q hq hh => by
  rw [hasP_iff] at hh
  have := right_lt h.head
  rcases List.mem_cons.1 hq with rfl | hq
  · omega
  · have := h.behind q hq
    omega
theorem fs_tail {p : Pc} {l : List Pc} (h : TL (p :: l)) (x : Int) : fsP l x = if x < p.t then none else fsP (p :: l) x := by
  split
  · exact fsP_none fun q hq hh => by
      rw [hasP_iff] at hh
      have := h.behind q hq
      omega
  · have : ¬ hasP p x = true := fun hh => by rw [hasP_iff] at hh; omega
    rw [fsP, fsP, valP, if_neg this]
/-- At its end the first piece's fields are not told. -/
theorem fs_end {p : Pc} {l : List Pc} (h : TL (p :: l)) : fsP (p :: l) p.t ≠ some p.fs := by
  have hn : ¬ hasP p p.t = true := fun hh => by rw [hasP_iff] at hh; omega
  have e : fsP (p :: l) p.t = fsP l p.t := by rw [fsP, fsP, valP, if_neg hn]
  rw [e]
  cases l with
  | nil => simp [fsP, valP]
  | cons q l =>
    obtain ⟨h1, h2, h3⟩ := h
    have hq := right_lt h3.head
    by_cases he : p.t = q.f
    · rw [fs_head h3 (by omega) (by omega)]
      intro e2
      injection e2 with e2
      exact h2.2 he e2.symm
    · rw [fs_below h3 (by have := h2.1; omega)]
      simp
/-- A timeline is told by what it has at each time. -/
theorem tl_ext : ∀ {a b : List Pc}, TL a → TL b → (∀ x, fsP a x = fsP b x) → a.map sayP = b.map sayP
  | [], [], _, _, _ => rfl
  | [], q :: m, _, hb, h => by
    have := h q.f
    have hq := right_lt hb.head
    rw [fs_head hb (by omega) (by omega)] at this
    simp [fsP, valP] at this
  | p :: l, [], ha, _, h => by
    have := h p.f
    have hp := right_lt ha.head
    rw [fs_head ha (by omega) (by omega)] at this
    simp [fsP, valP] at this
  | p :: l, q :: m, ha, hb, h => by
    have hp := right_lt ha.head
    have hq := right_lt hb.head
    have ep := fs_head ha (x := p.f) (by omega) (by omega)
    have eq := fs_head hb (x := q.f) (by omega) (by omega)
    have hf : p.f = q.f := by
      rcases Int.lt_trichotomy p.f q.f with hlt | he | hgt
      · rw [h, fs_below hb hlt] at ep; cases ep
      · exact he
      · rw [← h, fs_below ha hgt] at eq; cases eq
    have hs : p.fs = q.fs := by
      have := h p.f
      rw [ep, hf, eq] at this
      injection this
    have ht : p.t = q.t := by
      rcases Int.lt_trichotomy p.t q.t with hlt | he | hgt
      · have := fs_end ha
        rw [h, fs_head hb (by omega) hlt, hs] at this
        exact absurd rfl this
      · exact he
      · have := fs_end hb
        rw [← h, fs_head ha (by omega) hgt, hs] at this
        exact absurd rfl this
    rw [List.map_cons, List.map_cons, tl_ext ha.tail hb.tail (fun x => by rw [fs_tail ha, fs_tail hb, ht, h])]
    simp only [sayP, hf, ht, hs]
theorem tl_same {a b : List Pc} (ha : TL a) (hb : TL b) (h : ∀ x, fsP a x = fsP b x) : sameP a b = true := sameP_say (tl_ext ha hb h)
/-- What each piece has is told at its beginning. -/
theorem fs_mem : ∀ {l : List Pc}, TL l → ∀ p ∈ l, fsP l p.f = some p.fs
  | [], _, p, hp => by simp at hp
  | q :: l, h, p, hp => by
    rcases List.mem_cons.1 hp with rfl | hp
    · have := right_lt h.head
      exact fs_head h (by omega) (by omega)
    · have h1 := fs_mem h.tail p hp
      have h2 := h.behind p hp
      rw [fs_tail h, if_neg (by omega)] at h1
      exact h1

/-- Is a list a timeline? -/
def linkB (p q : Pc) : Bool := decide (p.t ≤ q.f) && (decide (p.t ≠ q.f) || !sameF p.fs q.fs)
def rightT : List Pc → Bool
  | [] => true
  | [p] => rightP p.f p.t
  | p :: q :: l => rightP p.f p.t && linkB p q && rightT (q :: l)
theorem linkB_iff (p q : Pc) : linkB p q = true ↔ linkP p q := by
  unfold linkB linkP
  simp only [Bool.and_eq_true, decide_eq_true_eq, Bool.or_eq_true, Bool.not_eq_true']
  constructor
  · rintro ⟨h1, h2⟩
    refine ⟨h1, fun he hs => ?_⟩
    rcases h2 with h2 | h2
    · exact h2 he
    · rw [hs, sameF_self] at h2; cases h2
  · rintro ⟨h1, h2⟩
    refine ⟨h1, ?_⟩
    by_cases he : p.t = q.f
    · right
      cases hs : sameF p.fs q.fs with
      | false => rfl
      | true => exact absurd (sameF_eq _ _ hs) (h2 he)
    · exact .inl he
theorem rightT_iff : ∀ l : List Pc, rightT l = true ↔ TL l
  | [] => by simp [rightT, TL]
  | [p] => Iff.rfl
  | p :: q :: l => by
    rw [rightT, Bool.and_eq_true, Bool.and_eq_true, linkB_iff, rightT_iff (q :: l), TL, and_assoc]

/-- A piece behind a timeline. -/
def putP (l : List Pc) (p : Pc) : List Pc := match l.getLast? with
  | none => [p]
  | some q => if q.t = p.f ∧ sameF q.fs p.fs = true then l.dropLast ++ [{ q with t := p.t }] else l ++ [p]
theorem TL.snoc : ∀ {l : List Pc} {p : Pc}, TL l → rightP p.f p.t = true → (∀ q, l.getLast? = some q → linkP q p) → TL (l ++ [p])
  | [], _, _, hp, _ => hp
  | [q], p, h, hp, hl => ⟨h, hl q rfl, hp⟩
  | q :: r :: l, p, h, hp, hl => ⟨h.1, h.2.1, TL.snoc (l := r :: l) h.2.2 hp (fun s hs => hl s (by simpa using hs))⟩
theorem TL.init : ∀ {l m : List Pc}, TL (l ++ m) → TL l
  | [], _, _ => trivial
  | [_], _, h => h.head
  | _ :: q :: l, _, h => ⟨h.1, h.2.1, TL.init (l := q :: l) h.2.2⟩
theorem TL.last : ∀ {l : List Pc} {p : Pc}, TL (l ++ [p]) → rightP p.f p.t = true ∧ (∀ q ∈ l, q.t ≤ p.f) ∧ ∀ q, l.getLast? = some q → linkP q p
  | [], _, h => ⟨h, by simp, by simp⟩
  | [q], _, h => ⟨h.2.2, by simpa using h.2.1.1, by simpa using h.2.1⟩
  | q :: r :: l, p, h => by
    obtain ⟨h1, h2, h3⟩ := TL.last (l := r :: l) (p := p) h.2.2
    refine ⟨h1, fun s hs => ?_, fun s hs => h3 s (by simpa using hs)⟩
    rcases List.mem_cons.1 hs with rfl | hs
    · exact TL.behind h p (by simp)
    · exact h2 s hs
theorem link_fs {q q' p : Pc} (h : linkP q p) (h1 : q'.t = q.t) (h2 : q'.fs = q.fs) : linkP q' p := by
  unfold linkP at *
  rw [h1, h2]; exact h
/-- What is put behind a timeline. -/
structure PutTo (l : List Pc) (p : Pc) (m : List Pc) : Prop where
  tl : TL m
  fs : ∀ x, fsP m x = if p.f ≤ x ∧ x < p.t then some p.fs else fsP l x
  le : ∀ q ∈ m, q.t ≤ p.t
  len : m.length ≤ l.length + 1
  mem : ∀ q ∈ m, q.fs = p.fs ∨ ∃ r ∈ l, q.fs = r.fs
theorem fs_past {l : List Pc} {x : Int} (h : ∀ q ∈ l, q.t ≤ x) : fsP l x = none := fsP_none fun q hq hh => by
  rw [hasP_iff] at hh
  have := h q hq
  omega
theorem put_to {l : List Pc} {p : Pc} (hl : TL l) (hp : rightP p.f p.t = true) (hle : ∀ q ∈ l, q.t ≤ p.f) : PutTo l p (putP l p) := by
  have hr := right_lt hp
  rcases List.eq_nil_or_concat l with rfl | ⟨m, q, rfl⟩
  · refine ⟨hp, fun x => ?_, by simp [putP], by simp [putP], by simp [putP]⟩
    show fsP [p] x = _
    rw [fsP_one]
    by_cases hx : p.f ≤ x ∧ x < p.t
    · rw [if_pos hx, if_pos (has_at hp hx.1 hx.2)]
    · rw [if_neg hx, if_neg (fun hh => by rw [hasP_iff] at hh; exact hx hh.2)]; rfl
  · rw [List.concat_eq_append] at hl hle ⊢
    obtain ⟨h1, h2, h3⟩ := hl.last
    have hq := hle q (by simp)
    have hqr := right_lt h1
    unfold putP
    rw [show (m ++ [q]).getLast? = some q by simp, List.dropLast_concat]
    simp only
    by_cases hj : q.t = p.f ∧ sameF q.fs p.fs = true
    · rw [if_pos hj]
      have hj : q.t = p.f ∧ q.fs = p.fs := ⟨hj.1, sameF_eq _ _ hj.2⟩
      refine ⟨hl.init.snoc ?_ (fun s hs => ⟨(h3 s hs).1, fun e => (h3 s hs).2 e⟩), fun x => ?_, ?_, by simp, ?_⟩
      · show rightP q.f p.t = true
        simp only [rightP, Bool.and_eq_true, decide_eq_true_eq]; omega
      · rw [fsP_append, fsP_append, fsP_one, fsP_one]
        by_cases hx : p.f ≤ x ∧ x < p.t
        · rw [if_pos hx, fs_past (fun s hs => by have := h2 s hs; omega)]
          simp only
          rw [if_pos, hj.2]
          rw [hasP_iff]
          show (-1099511627776 ≤ q.f ∧ p.t ≤ 1099511627776 ∧ q.f < p.t) ∧ q.f ≤ x ∧ x < p.t
          omega
        · rw [if_neg hx]
          have : (hasP { q with t := p.t } x = true) ↔ (hasP q x = true) := by
            rw [hasP_iff, hasP_iff]
            show ((-1099511627776 ≤ q.f ∧ p.t ≤ 1099511627776 ∧ q.f < p.t) ∧ q.f ≤ x ∧ x < p.t) ↔ _
            omega
          simp only [this]
      · intro s hs
        rcases List.mem_append.1 hs with hs | hs
        · have := h2 s hs; omega
        · obtain rfl := List.mem_singleton.1 hs
          exact Int.le_refl _
      · intro s hs
        rcases List.mem_append.1 hs with hs | hs
        · exact .inr ⟨s, by simp [hs], rfl⟩
        · obtain rfl := List.mem_singleton.1 hs
          exact .inl hj.2
    · rw [if_neg hj]
      refine ⟨hl.snoc hp (fun s hs => ?_), fun x => ?_, ?_, by simp, ?_⟩
      · rw [show (m ++ [q]).getLast? = some q by simp] at hs
        injection hs with hs
        subst hs
        exact ⟨hq, fun e e2 => hj ⟨e, by rw [e2]; exact sameF_self _⟩⟩
      · rw [fsP_append, fsP_one]
        by_cases hx : p.f ≤ x ∧ x < p.t
        · rw [if_pos hx, fs_past (fun s hs => by have := hle s hs; omega), if_pos (has_at hp hx.1 hx.2)]
        · rw [if_neg hx, if_neg (fun hh => by rw [hasP_iff] at hh; exact hx hh.2)]
          cases fsP (m ++ [q]) x <;> rfl
      · intro s hs
        rcases List.mem_append.1 hs with hs | hs
        · have := hle s hs; omega
        · obtain rfl := List.mem_singleton.1 hs
          exact Int.le_refl _
      · intro s hs
        rcases List.mem_append.1 hs with hs | hs
        · exact .inr ⟨s, hs, rfl⟩
        · obtain rfl := List.mem_singleton.1 hs
          exact .inl rfl

/-- A timeline that is made from end to end. -/
structure MadeT (ts : List Int) (g : Int → Option (List Fd)) (i : Nat) (o : List Pc) : Prop where
  tl : TL o
  le : ∀ e, ts[i]? = some e → ∀ q ∈ o, q.t ≤ e
  fs : ∀ e, ts[i]? = some e → ∀ x, fsP o x = if x < e then g x else none
  len : o.length ≤ i
/-- What is to be made is the same from one end to the next one, and nothing outside of them. -/
structure Steps (ts : List Int) (g : Int → Option (List Fd)) : Prop where
  up : ts.Pairwise (· < ·)
  lim : ∀ e ∈ ts, -1099511627776 ≤ e ∧ e ≤ 1099511627776
  const : ∀ (i : Nat) (a b x : Int), ts[i]? = some a → ts[i + 1]? = some b → a ≤ x → x < b → g x = g a
  ahead : ∀ x, (∀ e, ts[0]? = some e → x < e) → g x = none
  behind : ∀ x, (∀ e ∈ ts, e ≤ x) → g x = none
theorem MadeT.start {ts : List Int} {g : Int → Option (List Fd)} (h : Steps ts g) : MadeT ts g 0 [] :=
  ⟨trivial, fun e _ q hq => by simp at hq, fun e he x => by
    by_cases hx : x < e
    · rw [if_pos hx, h.ahead x (fun e' he' => by rw [he] at he'; injection he' with he'; omega)]; rfl
    · rw [if_neg hx]; rfl, Nat.le_refl _⟩
theorem steps_lt {ts : List Int} {g : Int → Option (List Fd)} (h : Steps ts g) {i : Nat} {f t : Int} (hf : ts[i]? = some f) (ht : ts[i + 1]? = some t) : f < t ∧ -1099511627776 ≤ f ∧ t ≤ 1099511627776 := by
  obtain ⟨h1, rfl⟩ := List.getElem?_eq_some_iff.1 hf
  obtain ⟨h2, rfl⟩ := List.getElem?_eq_some_iff.1 ht
  exact ⟨List.pairwise_iff_getElem.1 h.up i (i + 1) h1 h2 (by omega), (h.lim _ (List.getElem_mem h1)).1, (h.lim _ (List.getElem_mem h2)).2⟩
theorem MadeT.skip {ts : List Int} {g : Int → Option (List Fd)} (h : Steps ts g) {i : Nat} {o : List Pc} (k : MadeT ts g i o) {f t : Int} (hf : ts[i]? = some f) (ht : ts[i + 1]? = some t) (hg : g f = none) : MadeT ts g (i + 1) o := by
  have hlt := steps_lt h hf ht
  refine ⟨k.tl, fun e he q hq => ?_, fun e he x => ?_, by have := k.len; omega⟩
  · rw [ht] at he; injection he with he; subst he
    have := k.le f hf q hq; omega
  · rw [ht] at he; injection he with he; subst he
    rw [k.fs f hf]
    by_cases h1 : x < f
    · rw [if_pos h1, if_pos (by omega)]
    · rw [if_neg h1]
      by_cases h2 : x < t
      · rw [if_pos h2, h.const i f t x hf ht (by omega) h2, hg]
      · rw [if_neg h2]
theorem MadeT.next {ts : List Int} {g : Int → Option (List Fd)} (h : Steps ts g) {i : Nat} {o : List Pc} (k : MadeT ts g i o) {p : Pc} (hf : ts[i]? = some p.f) (ht : ts[i + 1]? = some p.t) (hg : g p.f = some p.fs) : MadeT ts g (i + 1) (putP o p) := by
  have hlt := steps_lt h hf ht
  have hp : rightP p.f p.t = true := by simp only [rightP, Bool.and_eq_true, decide_eq_true_eq]; omega
  have hpt := put_to k.tl hp (k.le p.f hf)
  refine ⟨hpt.tl, fun e he q hq => ?_, fun e he x => ?_, by have := k.len; have := hpt.len; omega⟩
  · rw [ht] at he; injection he with he; subst he
    exact hpt.le q hq
  · rw [ht] at he; injection he with he; subst he
    rw [hpt.fs, k.fs p.f hf]
    by_cases h1 : p.f ≤ x ∧ x < p.t
    · rw [if_pos h1, if_pos h1.2, h.const i p.f p.t x hf ht h1.1 h1.2, hg]
    · rw [if_neg h1]
      by_cases h2 : x < p.f
      · rw [if_pos h2, if_pos (by omega)]
      · rw [if_neg h2, if_neg (by omega)]
theorem MadeT.stop {ts : List Int} {g : Int → Option (List Fd)} (h : Steps ts g) {i : Nat} {o : List Pc} (k : MadeT ts g i o) (hi : ts.length = i + 1) : TL o ∧ ∀ x, fsP o x = g x := by
  refine ⟨k.tl, fun x => ?_⟩
  obtain ⟨e, he⟩ : ∃ e, ts[i]? = some e := ⟨_, List.getElem?_eq_getElem (by omega)⟩
  rw [k.fs e he]
  split
  · rfl
  · rw [h.behind x (fun a ha => by
      obtain ⟨j, hj⟩ := List.mem_iff_getElem?.1 ha
      have hjl := (List.getElem?_eq_some_iff.1 hj).1
      rcases Nat.lt_or_ge j i with hji | hji
      · obtain ⟨h1, rfl⟩ := List.getElem?_eq_some_iff.1 hj
        obtain ⟨h2, rfl⟩ := List.getElem?_eq_some_iff.1 he
        have := List.pairwise_iff_getElem.1 h.up j i h1 h2 hji
        omega
      · obtain rfl : j = i := by omega
        rw [he] at hj; injection hj with hj; omega)]

end Go.Proofs.Ytnopbhlhdecimaa

/-
  What the small calls of span, and of the document's answers beside it, give back for any spans and times: Right, Has, Long. Each makes new blocks alone.
-/
namespace Go.Proofs.Ytnopbhlhdecimaa.Co
open Go.RowKit

/-- A span as a value. -/
abbrev sp (f t : Int) : Value := .agg #[.int .i64 f, .int .i64 t]

theorem bcell {W w1 : World} (hb : Below W.heap.size W w1) : (∀ b o, b < W.heap.size → w1.cell? ⟨b, o, none⟩ = W.cell? ⟨b, o, none⟩) ∧ (∀ b o, b < W.heap.size → w1.frozen? ⟨b, o, none⟩ = W.frozen? ⟨b, o, none⟩) :=
  ⟨fun b o h => hb.cell (p := ⟨b, o, none⟩) h, fun b o h => hb.frozen (p := ⟨b, o, none⟩) h⟩

set_option maxHeartbeats 400000 in
theorem right_any (f t : Int) (w : World) :
    Calls Try.prog 33 #[sp f t] w fun e w' => e = .returned (.bool (rightB f t)) ∧ Below w.heap.size w w' := by
  by_cases h0 : -1099511627776 ≤ f
  case' neg =>
    go_enter Try.func33, Try.ntmps33
    go_wp2
    go_ret
    exact ⟨by simp [rightB]; omega, by go_grown⟩
  by_cases h1 : f < t
  case' neg =>
    go_enter Try.func33, Try.ntmps33
    go_wp2
    go_ret
    exact ⟨by simp [rightB]; omega, by go_grown⟩
  by_cases h2 : t ≤ 1099511627776
  case' neg =>
    go_enter Try.func33, Try.ntmps33
    go_wp2
    go_ret
    exact ⟨by simp [rightB]; omega, by go_grown⟩
  go_enter Try.func33, Try.ntmps33
  go_wp2
  go_ret
  exact ⟨by simp [rightB]; omega, by go_grown⟩

set_option maxHeartbeats 400000 in
theorem drightc_any (f t : Int) (w : World) :
    Calls Try.prog 30 #[sp f t] w fun e w' => e = .returned (.bool (rightB f t)) ∧ Below w.heap.size w w' := by
  by_cases h0 : -1099511627776 ≤ f
  case' neg =>
    go_enter Try.func30, Try.ntmps30
    go_wp2
    go_ret
    exact ⟨by simp [rightB]; omega, by go_grown⟩
  by_cases h1 : t ≤ 1099511627776
  case' neg =>
    go_enter Try.func30, Try.ntmps30
    go_wp2
    go_ret
    exact ⟨by simp [rightB]; omega, by go_grown⟩
  by_cases h2 : f < t
  case' neg =>
    go_enter Try.func30, Try.ntmps30
    go_wp2
    go_ret
    exact ⟨by simp [rightB]; omega, by go_grown⟩
  go_enter Try.func30, Try.ntmps30
  go_wp2
  go_ret
  exact ⟨by simp [rightB]; omega, by go_grown⟩

set_option maxHeartbeats 400000 in
theorem dhas_any (f t x : Int) (w : World) :
    Calls Try.prog 40 #[sp f t, .int .i64 x] w fun e w' => e = .returned (.bool (hasB f t x)) ∧ Below w.heap.size w w' := by
  by_cases h0 : f ≤ x
  case' neg =>
    go_enter Try.func40, Try.ntmps40
    go_wp2
    go_ret
    exact ⟨by simp [hasB]; omega, by go_grown⟩
  by_cases h1 : x < t
  case' neg =>
    go_enter Try.func40, Try.ntmps40
    go_wp2
    go_ret
    exact ⟨by simp [hasB]; omega, by go_grown⟩
  go_enter Try.func40, Try.ntmps40
  go_wp2
  go_ret
  exact ⟨by simp [hasB]; omega, by go_grown⟩

/-- How many times it has. -/
def longI (f t : Int) : Int := if rightB f t then t - f else 0
theorem ret_int {k : IntKind} {a b : Int} (h : a = b) : Ending.returned (.int k a) = .returned (.int k b) := by rw [h]

/-- Two cells of one block, stored one behind the other. -/
theorem two_set {w : World} {b : Nat} {u0 u1 : Value} (x y : Value) (h0 : w.cell? ⟨b, 0, none⟩ = some u0) (h1 : w.cell? ⟨b, 1, none⟩ = some u1) :
    (w.setCell ⟨b, 0, none⟩ x).cell? ⟨b, 0, none⟩ = some x ∧ ((w.setCell ⟨b, 0, none⟩ x).setCell ⟨b, 1, none⟩ y).cell? ⟨b, 1, none⟩ = some y :=
  ⟨World.cell?_setCell_same _ _ _ h0, World.cell?_setCell_same _ _ _ ((World.cell?_setCell_other _ _ _ _ (by simp)).trans h1)⟩

end Go.Proofs.Ytnopbhlhdecimaa.Co

/-
  What span.Make and span.Meet give back, and the document's Meet, for any spans.
-/
namespace Go.Proofs.Ytnopbhlhdecimaa.Co
open Go.RowKit

def madeF (f t : Int) : Int := if rightB f t then f else 0
def madeT (f t : Int) : Int := if rightB f t then t else 0
def madeE (f t : Int) : Int := if rightB f t then 0 else 3
set_option maxHeartbeats 400000 in
theorem smake_any (f t : Int) (w : World) :
    Calls Try.prog 70 #[.int .i64 f, .int .i64 t] w fun e w' => e = .returned (.tuple #[sp (madeF f t) (madeT f t), .int .i64 (madeE f t)]) ∧ Below w.heap.size w w' := by
  cases hr : rightB f t
  all_goals
    go_enter Try.func70, Try.ntmps70
    go_wp2_with (go_at_call 33; refine (right_any _ _ _).mono ?_; rintro e w1 ⟨rfl, hb⟩; obtain ⟨hc, hf⟩ := bcell hb)
    have h0 := (hc w.heap.size 0 (by simp; omega)).trans (by simp [go_sem]; rfl)
    have h1 := (hc w.heap.size 1 (by simp; omega)).trans (by simp [go_sem]; rfl)
  · obtain ⟨q0, q1⟩ := two_set (.int .i64 0) (.int .i64 0) h0 h1
    refine bodyPost_ret (v := .tuple #[sp (madeF f t) (madeT f t), .int .i64 (madeE f t)]) (by simp [results, Try.results70, go_sem, q0, q1, madeF, madeT, madeE, hr]) rfl ⟨rfl, ?_⟩
    exact (((((Below.refl _ _).alloc (Nat.le_refl _) _).alloc (by simp) _).trans (hb.mono (by simp; omega))).setCell (by simp) _).setCell (by simp) _
  · obtain ⟨q0, q1⟩ := two_set (.int .i64 f) (.int .i64 t) h0 h1
    refine bodyPost_ret (v := .tuple #[sp (madeF f t) (madeT f t), .int .i64 (madeE f t)]) (by simp [results, Try.results70, go_sem, q0, q1, madeF, madeT, madeE, hr]) rfl ⟨rfl, ?_⟩
    exact (((((Below.refl _ _).alloc (Nat.le_refl _) _).alloc (by simp) _).trans (hb.mono (by simp; omega))).setCell (by simp) _).setCell (by simp) _

/-- Have both a time in common? -/
def meetB (a b c d : Int) : Bool := rightB a b && rightB c d && decide (max a c < min b d)
def meetF (a b c d : Int) : Int := if meetB a b c d then max a c else 0
def meetT (a b c d : Int) : Int := if meetB a b c d then min b d else 0

/-- Three blocks of the call's own are there still. -/
theorem size3 {w w1 : World} {o0 o1 o2 : Obj} (hb : Below (((w.alloc o0).alloc o1).alloc o2).heap.size (((w.alloc o0).alloc o1).alloc o2) w1) :
    w.heap.size < w1.heap.size ∧ w.heap.size + 1 < w1.heap.size ∧ w.heap.size + 1 + 1 < w1.heap.size := by
  have := hb.size
  simp at this
  omega

def meetE (a b c d : Int) : Int := if meetB a b c d then 0 else 3
theorem make_meet (a b c d x y : Int) (hr : rightB a b = true) (hs : rightB c d = true) (hx : x = max a c) (hy : y = min b d) (w : World) :
    Calls Try.prog 70 #[.int .i64 x, .int .i64 y] w fun e w' => e = .returned (.tuple #[sp (meetF a b c d) (meetT a b c d), .int .i64 (meetE a b c d)]) ∧ Below w.heap.size w w' := by
  have e : rightB x y = meetB a b c d := by
    have h1 := right_yes hr
    have h2 := right_yes hs
    rw [Bool.eq_iff_iff]
    simp [meetB, rightB, hx, hy]
    omega
  have e1 : madeF x y = meetF a b c d := by simp only [madeF, meetF, e]; rw [hx]
  have e2 : madeT x y = meetT a b c d := by simp only [madeT, meetT, e]; rw [hy]
  have e3 : madeE x y = meetE a b c d := by simp only [madeE, meetE, e]
  exact (smake_any x y w).mono fun e' w' ⟨he, hb⟩ => ⟨by rw [he, e1, e2, e3], hb⟩

set_option maxHeartbeats 800000 in
theorem meet_any (a b c d : Int) (w : World) :
    Calls Try.prog 57 #[sp a b, sp c d] w fun e w' => e = .returned (.tuple #[sp (meetF a b c d) (meetT a b c d), .bool (meetB a b c d)]) ∧ Below w.heap.size w w' := by
  cases hr : rightB a b
  · go_enter Try.func57, Try.ntmps57
    go_wp2_with (go_at_call 33; refine (right_any _ _ _).mono ?_; rintro e w1 ⟨rfl, hb⟩; obtain ⟨hc, hf⟩ := bcell hb)
    have h0 := (hc (w.heap.size + 1 + 1) 0 (by simp)).trans (by simp [go_sem]; rfl)
    have h1 := (hc (w.heap.size + 1 + 1) 1 (by simp)).trans (by simp [go_sem]; rfl)
    obtain ⟨q0, q1⟩ := two_set (.int .i64 0) (.int .i64 0) h0 h1
    refine bodyPost_ret (v := .tuple #[sp (meetF a b c d) (meetT a b c d), .bool (meetB a b c d)]) (by simp [results, Try.results57, go_sem, q0, q1, meetF, meetT, meetB, hr]) rfl ⟨rfl, ?_⟩
    exact ((((((Below.refl _ _).alloc (Nat.le_refl _) _).alloc (by simp) _).alloc (by simp; omega) _).trans (hb.mono (by simp; omega))).setCell (by simp; omega) _).setCell (by simp; omega) _
  · cases hs : rightB c d
    · go_enter Try.func57, Try.ntmps57
      go_wp2_with fail
      (go_at_call 33; refine (right_any _ _ _).mono ?_; rintro e w1 ⟨rfl, hb⟩; obtain ⟨hc, hf⟩ := bcell hb; obtain ⟨hz0, hz1, hz2⟩ := size3 hb)
      go_wp2_with fail
      (go_at_call 33; refine (right_any _ _ _).mono ?_; rintro e w2 ⟨rfl, hb2⟩; obtain ⟨hc2, hf2⟩ := bcell hb2)
      go_wp2_with fail
      have h0 := (hc2 (w.heap.size + 1 + 1) 0 hz2).trans ((hc (w.heap.size + 1 + 1) 0 (by simp)).trans (by simp [go_sem]; rfl))
      have h1 := (hc2 (w.heap.size + 1 + 1) 1 hz2).trans ((hc (w.heap.size + 1 + 1) 1 (by simp)).trans (by simp [go_sem]; rfl))
      obtain ⟨q0, q1⟩ := two_set (.int .i64 0) (.int .i64 0) h0 h1
      refine bodyPost_ret (v := .tuple #[sp (meetF a b c d) (meetT a b c d), .bool (meetB a b c d)]) (by simp [results, Try.results57, go_sem, q0, q1, meetF, meetT, meetB, hr, hs]) rfl ⟨rfl, ?_⟩
      exact ((((((Below.refl _ _).alloc (Nat.le_refl _) _).alloc (by simp) _).alloc (by simp; omega) _).trans ((hb.mono (by simp; omega)).trans (hb2.mono (by omega)))).setCell (by simp; omega) _).setCell (by simp; omega) _
    · go_enter Try.func57, Try.ntmps57
      go_wp2_with fail
      (go_at_call 33; refine (right_any _ _ _).mono ?_; rintro e w1 ⟨rfl, hb⟩; obtain ⟨hc, hf⟩ := bcell hb; obtain ⟨hz0, hz1, hz2⟩ := size3 hb)
      go_wp2_with fail
      (go_at_call 33; refine (right_any _ _ _).mono ?_; rintro e w2 ⟨rfl, hb2⟩; obtain ⟨hc2, hf2⟩ := bcell hb2; have hz3 := hb2.size)
      go_wp2_with fail
      all_goals
        refine (make_meet a b c d _ _ hr hs (by omega) (by omega) _).mono ?_
        rintro e w3 ⟨rfl, hb3⟩
        obtain ⟨hc3, hf3⟩ := bcell hb3
        have hz4 : w.heap.size < w2.heap.size := by omega
        have hz5 : w.heap.size + 1 < w2.heap.size := by omega
        have hz6 : w.heap.size + 1 + 1 < w2.heap.size := by omega
        have hz7 : w.heap.size + 1 + 1 < w3.heap.size := by have := hb3.size; omega
        go_wp2_with fail
        have h0 := (hc3 (w.heap.size + 1 + 1) 0 hz6).trans ((hc2 (w.heap.size + 1 + 1) 0 hz2).trans ((hc (w.heap.size + 1 + 1) 0 (by simp)).trans (by simp [go_sem]; rfl)))
        have h1 := (hc3 (w.heap.size + 1 + 1) 1 hz6).trans ((hc2 (w.heap.size + 1 + 1) 1 hz2).trans ((hc (w.heap.size + 1 + 1) 1 (by simp)).trans (by simp [go_sem]; rfl)))
        obtain ⟨q0, q1⟩ := two_set (.int .i64 (meetF a b c d)) (.int .i64 (meetT a b c d)) h0 h1
        have he : (meetE a b c d == 0) = meetB a b c d := by unfold meetE; cases meetB a b c d <;> rfl
        refine bodyPost_ret (v := .tuple #[sp (meetF a b c d) (meetT a b c d), .bool (meetB a b c d)]) (by simp [results, Try.results57, go_sem, q0, q1, he, hz7]) rfl ⟨rfl, ?_⟩
        exact (((((((Below.refl _ _).alloc (Nat.le_refl _) _).alloc (by simp) _).alloc (by simp; omega) _).trans ((hb.mono (by simp; omega)).trans ((hb2.mono (by omega)).trans (hb3.mono (by omega))))).setCell (by simp; omega) _).setCell (by simp; omega) _).alloc (by simp; omega) _

set_option maxHeartbeats 800000 in
theorem dmeet_any (a b c d : Int) (w : World) :
    Calls Try.prog 53 #[sp a b, sp c d] w fun e w' => e = .returned (.tuple #[sp (meetF a b c d) (meetT a b c d), .bool (meetB a b c d)]) ∧ Below w.heap.size w w' := by
  cases hr : rightB a b
  · go_enter Try.func53, Try.ntmps53
    go_wp2_with (go_at_call 30; refine (drightc_any _ _ _).mono ?_; rintro e w1 ⟨rfl, hb⟩; obtain ⟨hc, hf⟩ := bcell hb)
    have h0 := (hc (w.heap.size + 1 + 1) 0 (by simp)).trans (by simp [go_sem]; rfl)
    have h1 := (hc (w.heap.size + 1 + 1) 1 (by simp)).trans (by simp [go_sem]; rfl)
    obtain ⟨q0, q1⟩ := two_set (.int .i64 0) (.int .i64 0) h0 h1
    refine bodyPost_ret (v := .tuple #[sp (meetF a b c d) (meetT a b c d), .bool (meetB a b c d)]) (by simp [results, Try.results53, go_sem, q0, q1, meetF, meetT, meetB, hr]) rfl ⟨rfl, ?_⟩
    exact ((((((Below.refl _ _).alloc (Nat.le_refl _) _).alloc (by simp) _).alloc (by simp; omega) _).trans (hb.mono (by simp; omega))).setCell (by simp; omega) _).setCell (by simp; omega) _
  · cases hs : rightB c d
    · go_enter Try.func53, Try.ntmps53
      go_wp2_with fail
      (go_at_call 30; refine (drightc_any _ _ _).mono ?_; rintro e w1 ⟨rfl, hb⟩; obtain ⟨hc, hf⟩ := bcell hb; obtain ⟨hz0, hz1, hz2⟩ := size3 hb)
      go_wp2_with fail
      (go_at_call 30; refine (drightc_any _ _ _).mono ?_; rintro e w2 ⟨rfl, hb2⟩; obtain ⟨hc2, hf2⟩ := bcell hb2)
      go_wp2_with fail
      have h0 := (hc2 (w.heap.size + 1 + 1) 0 hz2).trans ((hc (w.heap.size + 1 + 1) 0 (by simp)).trans (by simp [go_sem]; rfl))
      have h1 := (hc2 (w.heap.size + 1 + 1) 1 hz2).trans ((hc (w.heap.size + 1 + 1) 1 (by simp)).trans (by simp [go_sem]; rfl))
      obtain ⟨q0, q1⟩ := two_set (.int .i64 0) (.int .i64 0) h0 h1
      refine bodyPost_ret (v := .tuple #[sp (meetF a b c d) (meetT a b c d), .bool (meetB a b c d)]) (by simp [results, Try.results53, go_sem, q0, q1, meetF, meetT, meetB, hr, hs]) rfl ⟨rfl, ?_⟩
      exact ((((((Below.refl _ _).alloc (Nat.le_refl _) _).alloc (by simp) _).alloc (by simp; omega) _).trans ((hb.mono (by simp; omega)).trans (hb2.mono (by omega)))).setCell (by simp; omega) _).setCell (by simp; omega) _
    · go_enter Try.func53, Try.ntmps53
      go_wp2_with fail
      (go_at_call 30; refine (drightc_any _ _ _).mono ?_; rintro e w1 ⟨rfl, hb⟩; obtain ⟨hc, hf⟩ := bcell hb; obtain ⟨hz0, hz1, hz2⟩ := size3 hb)
      go_wp2_with fail
      (go_at_call 30; refine (drightc_any _ _ _).mono ?_; rintro e w2 ⟨rfl, hb2⟩; obtain ⟨hc2, hf2⟩ := bcell hb2; have hz3 := hb2.size)
      have hz4 : w.heap.size < w2.heap.size := by omega
      have hz5 : w.heap.size + 1 < w2.heap.size := by omega
      have hz6 : w.heap.size + 1 + 1 < w2.heap.size := by omega
      go_wp2_with fail
      all_goals
        have h0 := (hc2 (w.heap.size + 1 + 1) 0 hz2).trans ((hc (w.heap.size + 1 + 1) 0 (by simp)).trans (by simp [go_sem]; rfl))
        have h1 := (hc2 (w.heap.size + 1 + 1) 1 hz2).trans ((hc (w.heap.size + 1 + 1) 1 (by simp)).trans (by simp [go_sem]; rfl))
        first
        | (have hm : meetB a b c d = false := by (simp [meetB, hr, hs]; omega)
           have e1 : meetF a b c d = 0 := by (simp [meetF, hm]; try omega)
           have e2 : meetT a b c d = 0 := by (simp [meetT, hm]; try omega)
           obtain ⟨q0, q1⟩ := two_set (.int .i64 0) (.int .i64 0) h0 h1
           refine bodyPost_ret (v := .tuple #[sp (meetF a b c d) (meetT a b c d), .bool (meetB a b c d)]) (by simp [results, Try.results53, go_sem, q0, q1, e1, e2, hm, hz6]) rfl ⟨rfl, ?_⟩
           exact (((((((Below.refl _ _).alloc (Nat.le_refl _) _).alloc (by simp) _).alloc (by simp; omega) _).trans ((hb.mono (by simp; omega)).trans (hb2.mono (by omega)))).setCell (by simp; omega) _).setCell (by simp; omega) _).alloc (by simp; omega) _)
        | (have hm : meetB a b c d = true := by (simp [meetB, hr, hs]; omega)
           have e1 : meetF a b c d = a := by (simp [meetF, hm]; try omega)
           have e2 : meetT a b c d = b := by (simp [meetT, hm]; try omega)
           obtain ⟨q0, q1⟩ := two_set (.int .i64 a) (.int .i64 b) h0 h1
           refine bodyPost_ret (v := .tuple #[sp (meetF a b c d) (meetT a b c d), .bool (meetB a b c d)]) (by simp [results, Try.results53, go_sem, q0, q1, e1, e2, hm, hz6]) rfl ⟨rfl, ?_⟩
           exact (((((((Below.refl _ _).alloc (Nat.le_refl _) _).alloc (by simp) _).alloc (by simp; omega) _).trans ((hb.mono (by simp; omega)).trans (hb2.mono (by omega)))).setCell (by simp; omega) _).setCell (by simp; omega) _).alloc (by simp; omega) _)
        | (have hm : meetB a b c d = true := by (simp [meetB, hr, hs]; omega)
           have e1 : meetF a b c d = a := by (simp [meetF, hm]; try omega)
           have e2 : meetT a b c d = d := by (simp [meetT, hm]; try omega)
           obtain ⟨q0, q1⟩ := two_set (.int .i64 a) (.int .i64 d) h0 h1
           refine bodyPost_ret (v := .tuple #[sp (meetF a b c d) (meetT a b c d), .bool (meetB a b c d)]) (by simp [results, Try.results53, go_sem, q0, q1, e1, e2, hm, hz6]) rfl ⟨rfl, ?_⟩
           exact (((((((Below.refl _ _).alloc (Nat.le_refl _) _).alloc (by simp) _).alloc (by simp; omega) _).trans ((hb.mono (by simp; omega)).trans (hb2.mono (by omega)))).setCell (by simp; omega) _).setCell (by simp; omega) _).alloc (by simp; omega) _)
        | (have hm : meetB a b c d = true := by (simp [meetB, hr, hs]; omega)
           have e1 : meetF a b c d = c := by (simp [meetF, hm]; try omega)
           have e2 : meetT a b c d = b := by (simp [meetT, hm]; try omega)
           obtain ⟨q0, q1⟩ := two_set (.int .i64 c) (.int .i64 b) h0 h1
           refine bodyPost_ret (v := .tuple #[sp (meetF a b c d) (meetT a b c d), .bool (meetB a b c d)]) (by simp [results, Try.results53, go_sem, q0, q1, e1, e2, hm, hz6]) rfl ⟨rfl, ?_⟩
           exact (((((((Below.refl _ _).alloc (Nat.le_refl _) _).alloc (by simp) _).alloc (by simp; omega) _).trans ((hb.mono (by simp; omega)).trans (hb2.mono (by omega)))).setCell (by simp; omega) _).setCell (by simp; omega) _).alloc (by simp; omega) _)
        | (have hm : meetB a b c d = true := by (simp [meetB, hr, hs]; omega)
           have e1 : meetF a b c d = c := by (simp [meetF, hm]; try omega)
           have e2 : meetT a b c d = d := by (simp [meetT, hm]; try omega)
           obtain ⟨q0, q1⟩ := two_set (.int .i64 c) (.int .i64 d) h0 h1
           refine bodyPost_ret (v := .tuple #[sp (meetF a b c d) (meetT a b c d), .bool (meetB a b c d)]) (by simp [results, Try.results53, go_sem, q0, q1, e1, e2, hm, hz6]) rfl ⟨rfl, ?_⟩
           exact (((((((Below.refl _ _).alloc (Nat.le_refl _) _).alloc (by simp) _).alloc (by simp; omega) _).trans ((hb.mono (by simp; omega)).trans (hb2.mono (by omega)))).setCell (by simp; omega) _).setCell (by simp; omega) _).alloc (by simp; omega) _)

end Go.Proofs.Ytnopbhlhdecimaa.Co

/-
  What Make, Clip and Splice are to tell at each time; from end to end it is the same: plain facts.
-/
namespace Go.Proofs.Ytnopbhlhdecimaa

theorem rightB_P (f t : Int) : Co.rightB f t = rightP f t := by
  rw [Bool.eq_iff_iff]
  simp only [Co.rightB, rightP, Bool.and_eq_true, decide_eq_true_eq]
  omega
theorem rightP_iff (f t : Int) : rightP f t = true ↔ -1099511627776 ≤ f ∧ f < t ∧ t ≤ 1099511627776 := by
  simp only [rightP, Bool.and_eq_true, decide_eq_true_eq]
  omega
theorem inP_iff (f t x : Int) : inP f t x = true ↔ f ≤ x ∧ x < t := by
  simp only [inP, Bool.and_eq_true, decide_eq_true_eq]
theorem meetB_iff (a b c d : Int) : Co.meetB a b c d = true ↔ (rightP a b = true ∧ rightP c d = true) ∧ max a c < min b d := by
  unfold Co.meetB
  rw [rightB_P, rightB_P, Bool.and_eq_true, Bool.and_eq_true, decide_eq_true_eq]
theorem covers_iff (v : Vr) (x : Int) : coversB v x = true ↔ v.gone = false ∧ rightP v.sf v.se = true ∧ v.sf ≤ x ∧ x < v.se := by
  rw [rightP_iff]
  simp only [coversB, Bool.and_eq_true, Bool.not_eq_true', decide_eq_true_eq]
  constructor
  · rintro ⟨⟨h1, ⟨h2, h3⟩, h4⟩, h5, h6⟩; exact ⟨h1, ⟨h2, h4, h3⟩, h5, h6⟩
  · rintro ⟨h1, ⟨h2, h4, h3⟩, h5, h6⟩; exact ⟨⟨h1, ⟨h2, h3⟩, h4⟩, h5, h6⟩

/-- What the timeline of versions over a span has at a time. -/
def makeV (a : Int × Int) (l : List Vr) (x : Int) : Option (List Fd) := if (rightP a.1 a.2 && inP a.1 a.2 x && l.any fun v => coversB v x) = true then some (atL x l) else none
theorem makeV_out {a : Int × Int} {l : List Vr} {x : Int} (h : ¬ (rightP a.1 a.2 = true ∧ a.1 ≤ x ∧ x < a.2)) : makeV a l x = none := by
  rw [makeV, if_neg]
  intro hh
  rw [Bool.and_eq_true, Bool.and_eq_true, inP_iff] at hh
  exact h ⟨hh.1.1, hh.1.2.1, hh.1.2.2⟩
theorem makeV_in {a : Int × Int} {l : List Vr} {x : Int} (h1 : rightP a.1 a.2 = true) (h2 : a.1 ≤ x) (h3 : x < a.2) : makeV a l x = if (l.any fun v => coversB v x) = true then some (atL x l) else none := by
  rw [makeV, h1, (inP_iff _ _ _).2 ⟨h2, h3⟩]; rfl
theorem at_congr {l : List Vr} {x y : Int} (h : ∀ v ∈ l, coversB v x = coversB v y) : atL x l = atL y l ∧ (l.any fun v => coversB v x) = l.any fun v => coversB v y := by
  refine ⟨by rw [atL, atL, List.filter_congr h], ?_⟩
  rw [Bool.eq_iff_iff, List.any_eq_true, List.any_eq_true]
  constructor
  · rintro ⟨v, hv, hc⟩; exact ⟨v, hv, by rw [← h v hv]; exact hc⟩
  · rintro ⟨v, hv, hc⟩; exact ⟨v, hv, by rw [h v hv]; exact hc⟩

/-- Between two ends no other one lies. -/
theorem end_le {ts : List Int} (hp : ts.Pairwise (· < ·)) {i : Nat} {a b x e : Int} (ha : ts[i]? = some a) (hb : ts[i + 1]? = some b) (h1 : a ≤ x) (h2 : x < b) (he : e ∈ ts) : e ≤ x ↔ e ≤ a := by
  obtain ⟨j, hj⟩ := List.mem_iff_getElem?.1 he
  obtain ⟨i1, rfl⟩ := List.getElem?_eq_some_iff.1 ha
  obtain ⟨i2, rfl⟩ := List.getElem?_eq_some_iff.1 hb
  obtain ⟨i3, rfl⟩ := List.getElem?_eq_some_iff.1 hj
  have lt := fun (m n : Nat) (hm : m < ts.length) (hn : n < ts.length) (h : m < n) => List.pairwise_iff_getElem.1 hp m n hm hn h
  rcases Nat.lt_trichotomy j i with h | rfl | h
  · have := lt j i i3 i1 h
    omega
  · omega
  · rcases Nat.lt_or_ge (i + 1) j with h3 | h3
    · have := lt (i + 1) j i2 i3 h3
      have := lt i j i1 i3 h
      omega
    · obtain rfl : j = i + 1 := by omega
      omega
theorem end_first {ts : List Int} (hp : ts.Pairwise (· < ·)) {x : Int} (h : ∀ e, ts[0]? = some e → x < e) {e : Int} (he : e ∈ ts) : x < e := by
  cases ts with
  | nil => simp at he
  | cons y ts =>
    have h0 := h y rfl
    rcases List.mem_cons.1 he with rfl | he
    · exact h0
    · have := (List.pairwise_cons.1 hp).1 e he
      omega

/-- The ends of which Make goes. -/
def endsV (a : Int × Int) (v : Vr) : List Int := if (Co.meetB a.1 a.2 v.sf v.se && !v.gone) = true then [Co.meetF a.1 a.2 v.sf v.se, Co.meetT a.1 a.2 v.sf v.se] else []
def endsM (a : Int × Int) (l : List Vr) : List Int := [a.1, a.2] ++ l.flatMap (endsV a)
theorem endsV_length (a : Int × Int) (v : Vr) : (endsV a v).length ≤ 2 := by unfold endsV; split <;> simp
theorem flat2_length {α : Type} (f : α → List Int) (h : ∀ x, (f x).length ≤ 2) : ∀ l : List α, (l.flatMap f).length ≤ 2 * l.length
  | [] => by simp
  | x :: l => by
    have := h x
    have := flat2_length f h l
    rw [List.flatMap_cons, List.length_append, List.length_cons]; omega
theorem endsM_length (a : Int × Int) (l : List Vr) : (endsM a l).length ≤ 2 * l.length + 2 := by
  have := flat2_length (endsV a) (endsV_length a) l
  unfold endsM
  rw [List.length_append]
  simp only [List.length_cons, List.length_nil]
  omega
theorem steps_make {a : Int × Int} {l : List Vr} {ts : List Int} (ha : rightP a.1 a.2 = true) (hp : ts.Pairwise (· < ·)) (hm : ∀ y, y ∈ ts ↔ y ∈ endsM a l) : Steps ts (makeV a l) := by
  have hr := (rightP_iff _ _).1 ha
  have h1 : a.1 ∈ ts := (hm _).2 (by simp [endsM])
  have h2 : a.2 ∈ ts := (hm _).2 (by simp [endsM])
  refine ⟨hp, fun e he => ?_, fun i b c x hb hc hx1 hx2 => ?_, fun x hx => ?_, fun x hx => ?_⟩
  · have he := (hm e).1 he
    unfold endsM at he
    rcases List.mem_append.1 he with he | he
    · simp at he
      rcases he with rfl | rfl <;> omega
    · obtain ⟨v, hv, he⟩ := List.mem_flatMap.1 he
      unfold endsV at he
      split at he
      · rename_i hh
        rw [Bool.and_eq_true] at hh
        have hh2 := (meetB_iff _ _ _ _).1 hh.1
        have := (rightP_iff _ _).1 hh2.1.2
        have := hh2.2
        simp only [Co.meetF, Co.meetT, hh.1, if_true, List.mem_cons, List.not_mem_nil, or_false] at he
        omega
      · simp at he
  · have e1 := end_le hp hb hc hx1 hx2 h1
    have e2 := end_le hp hb hc hx1 hx2 h2
    by_cases hin : a.1 ≤ x ∧ x < a.2
    · have hin2 : a.1 ≤ b ∧ b < a.2 := by omega
      have hcv : ∀ v ∈ l, coversB v x = coversB v b := fun v hv => by
        rw [Bool.eq_iff_iff, covers_iff, covers_iff]
        by_cases hg : v.gone = false
        · by_cases hvr : rightP v.sf v.se = true
          · have hvr2 := (rightP_iff _ _).1 hvr
            by_cases hmt : max a.1 v.sf < min a.2 v.se
            · have hmb : Co.meetB a.1 a.2 v.sf v.se = true := (meetB_iff _ _ _ _).2 ⟨⟨ha, hvr⟩, hmt⟩
              have hev : endsV a v = [max a.1 v.sf, min a.2 v.se] := by
                unfold endsV Co.meetF Co.meetT
                rw [hmb, hg]; rfl
              have m1 : max a.1 v.sf ∈ ts := (hm _).2 (List.mem_append.2 (.inr (List.mem_flatMap.2 ⟨v, hv, by rw [hev]; simp⟩)))
              have m2 : min a.2 v.se ∈ ts := (hm _).2 (List.mem_append.2 (.inr (List.mem_flatMap.2 ⟨v, hv, by rw [hev]; simp⟩)))
              have k1 := end_le hp hb hc hx1 hx2 m1
              have k2 := end_le hp hb hc hx1 hx2 m2
              constructor
              · rintro ⟨_, _, q1, q2⟩; exact ⟨hg, hvr, by omega, by omega⟩
              · rintro ⟨_, _, q1, q2⟩; exact ⟨hg, hvr, by omega, by omega⟩
            · constructor
              · rintro ⟨_, _, q1, q2⟩; omega
              · rintro ⟨_, _, q1, q2⟩; omega
          · constructor
            · rintro ⟨_, q, _⟩; exact absurd q hvr
            · rintro ⟨_, q, _⟩; exact absurd q hvr
        · constructor
          · rintro ⟨q, _⟩; exact absurd q hg
          · rintro ⟨q, _⟩; exact absurd q hg
      obtain ⟨c1, c2⟩ := at_congr hcv
      rw [makeV_in ha hin.1 hin.2, makeV_in ha hin2.1 hin2.2, c1, c2]
    · rw [makeV_out (fun h => hin h.2), makeV_out (fun h => hin (by omega))]
  · have := end_first hp hx h1
    exact makeV_out fun h => by omega
  · have := hx a.2 h2
    exact makeV_out fun h => by omega

/-- What l has, but at the times of a what m has. -/
def spliceV (a : Int × Int) (l m : List Pc) (x : Int) : Option (List Fd) := if inP a.1 a.2 x = true then fsP m x else fsP l x
def endsP (p : Pc) : List Int := [p.f, p.t]
def endsS (a : Int × Int) (l m : List Pc) : List Int := [a.1, a.2] ++ l.flatMap endsP ++ m.flatMap endsP
theorem endsS_length (a : Int × Int) (l m : List Pc) : (endsS a l m).length ≤ 2 * l.length + 2 * m.length + 2 := by
  have h1 := flat2_length endsP (fun _ => Nat.le_refl 2) l
  have h2 := flat2_length endsP (fun _ => Nat.le_refl 2) m
  unfold endsS
  rw [List.length_append, List.length_append]
  simp only [List.length_cons, List.length_nil]
  omega
theorem fs_congr {l : List Pc} {x y : Int} (h : ∀ p ∈ l, hasP p x = hasP p y) : fsP l x = fsP l y := by
  induction l with
  | nil => rfl
  | cons p l ih =>
    rw [fsP, fsP, valP, valP, h p (by simp)]
    split
    · rfl
    · exact ih fun q hq => h q (List.mem_cons_of_mem _ hq)
theorem steps_splice {a : Int × Int} {l m : List Pc} {ts : List Int} (ha : rightP a.1 a.2 = true) (hl : TL l) (hm : TL m) (hp : ts.Pairwise (· < ·)) (ht : ∀ y, y ∈ ts ↔ y ∈ endsS a l m) : Steps ts (spliceV a l m) := by
  have hr := (rightP_iff _ _).1 ha
  have h1 : a.1 ∈ ts := (ht _).2 (by simp [endsS])
  have h2 : a.2 ∈ ts := (ht _).2 (by simp [endsS])
  have l1 : ∀ p ∈ l, p.f ∈ ts ∧ p.t ∈ ts := fun p hpl => ⟨(ht _).2 (List.mem_append.2 (.inl (List.mem_append.2 (.inr (List.mem_flatMap.2 ⟨p, hpl, by simp [endsP]⟩))))), (ht _).2 (List.mem_append.2 (.inl (List.mem_append.2 (.inr (List.mem_flatMap.2 ⟨p, hpl, by simp [endsP]⟩)))))⟩
  have m1 : ∀ p ∈ m, p.f ∈ ts ∧ p.t ∈ ts := fun p hpm => ⟨(ht _).2 (List.mem_append.2 (.inr (List.mem_flatMap.2 ⟨p, hpm, by simp [endsP]⟩))), (ht _).2 (List.mem_append.2 (.inr (List.mem_flatMap.2 ⟨p, hpm, by simp [endsP]⟩)))⟩
  refine ⟨hp, fun e he => ?_, fun i b c x hb hc hx1 hx2 => ?_, fun x hx => ?_, fun x hx => ?_⟩
  · have he := (ht e).1 he
    unfold endsS at he
    rcases List.mem_append.1 he with he | he
    · rcases List.mem_append.1 he with he | he
      · simp at he
        rcases he with rfl | rfl <;> omega
      · obtain ⟨p, hpl, he⟩ := List.mem_flatMap.1 he
        have := (rightP_iff _ _).1 (hl.rights p hpl)
        simp [endsP] at he
        omega
    · obtain ⟨p, hpm, he⟩ := List.mem_flatMap.1 he
      have := (rightP_iff _ _).1 (hm.rights p hpm)
      simp [endsP] at he
      omega
  · have e1 := end_le hp hb hc hx1 hx2 h1
    have e2 := end_le hp hb hc hx1 hx2 h2
    have hcong : ∀ (k : List Pc), (∀ p ∈ k, p.f ∈ ts ∧ p.t ∈ ts) → fsP k x = fsP k b := fun k hk => fs_congr fun p hpk => by
      have k1 := end_le hp hb hc hx1 hx2 (hk p hpk).1
      have k2 := end_le hp hb hc hx1 hx2 (hk p hpk).2
      rw [Bool.eq_iff_iff, hasP_iff, hasP_iff]
      omega
    have hin : inP a.1 a.2 x = inP a.1 a.2 b := by
      rw [Bool.eq_iff_iff, inP_iff, inP_iff]; omega
    rw [spliceV, spliceV, hin, hcong l l1, hcong m m1]
  · have := end_first hp hx h1
    rw [spliceV, if_neg (fun h => by rw [inP_iff] at h; omega)]
    exact fsP_none fun p hpl h => by
      rw [hasP_iff] at h
      have := end_first hp hx (l1 p hpl).1
      omega
  · have := hx a.2 h2
    rw [spliceV, if_neg (fun h => by rw [inP_iff] at h; omega)]
    exact fsP_none fun p hpl h => by
      rw [hasP_iff] at h
      have := hx p.t (l1 p hpl).2
      omega

/-- A timeline within a span. -/
def clipP (a : Int × Int) (p : Pc) : Option Pc := if Co.meetB a.1 a.2 p.f p.t = true then some ⟨Co.meetF a.1 a.2 p.f p.t, Co.meetT a.1 a.2 p.f p.t, p.fa, p.fc, p.fs⟩ else none
def clipL (a : Int × Int) (l : List Pc) : List Pc := l.filterMap (clipP a)
theorem tl_pair : ∀ {l : List Pc}, TL l → l.Pairwise linkP
  | [], _ => List.Pairwise.nil
  | [p], _ => List.pairwise_singleton _ _
  | p :: q :: l, h => by
    refine List.pairwise_cons.2 ⟨fun r hr => ?_, tl_pair h.2.2⟩
    rcases List.mem_cons.1 hr with rfl | hr
    · exact h.2.1
    · have h1 := TL.behind h.2.2 r hr
      have h2 := right_lt h.2.2.head
      have h3 := h.2.1.1
      exact ⟨by omega, fun e => by omega⟩
theorem tl_of : ∀ {l : List Pc}, (∀ p ∈ l, rightP p.f p.t = true) → l.Pairwise linkP → TL l
  | [], _, _ => trivial
  | [p], h, _ => h p (by simp)
  | p :: q :: l, h, k => ⟨h p (by simp), (List.pairwise_cons.1 k).1 q (by simp), tl_of (fun r hr => h r (List.mem_cons_of_mem _ hr)) (List.pairwise_cons.1 k).2⟩
theorem clip_some {a : Int × Int} {p q : Pc} (h : clipP a p = some q) : rightP q.f q.t = true ∧ q.f = max a.1 p.f ∧ q.t = min a.2 p.t ∧ q.fs = p.fs ∧ rightP a.1 a.2 = true ∧ rightP p.f p.t = true := by
  unfold clipP at h
  split at h
  · rename_i hm
    injection h with h
    subst h
    have h2 := (meetB_iff _ _ _ _).1 hm
    have r1 := (rightP_iff _ _).1 h2.1.1
    have r2 := (rightP_iff _ _).1 h2.1.2
    have e1 : Co.meetF a.1 a.2 p.f p.t = max a.1 p.f := by rw [Co.meetF, hm]; rfl
    have e2 : Co.meetT a.1 a.2 p.f p.t = min a.2 p.t := by rw [Co.meetT, hm]; rfl
    refine ⟨?_, e1, e2, rfl, h2.1.1, h2.1.2⟩
    show rightP (Co.meetF a.1 a.2 p.f p.t) (Co.meetT a.1 a.2 p.f p.t) = true
    rw [e1, e2, rightP_iff]
    have := h2.2
    omega
  · cases h
theorem clip_tl {a : Int × Int} {l : List Pc} (h : TL l) : TL (clipL a l) := by
  refine tl_of (fun q hq => ?_) ?_
  · obtain ⟨p, _, hpq⟩ := List.mem_filterMap.1 hq
    exact (clip_some hpq).1
  · refine (tl_pair h).filterMap _ ?_
    intro p p' hl q hq q' hq'
    have c1 := clip_some hq
    have c2 := clip_some hq'
    refine ⟨by have := hl.1; omega, fun e => ?_⟩
    rw [c1.2.2.2.1, c2.2.2.2.1]
    exact hl.2 (by have := hl.1; omega)
theorem clip_fs (a : Int × Int) : ∀ (l : List Pc) (x : Int), fsP (clipL a l) x = if (rightP a.1 a.2 && inP a.1 a.2 x) = true then fsP l x else none
  | [], x => by simp [clipL, fsP, valP]
  | p :: l, x => by
    have ih := clip_fs a l x
    unfold clipL at ih ⊢
    rw [List.filterMap_cons]
    cases hc : clipP a p with
    | none =>
      simp only
      rw [ih]
      split
      · rename_i hh
        rw [Bool.and_eq_true, inP_iff] at hh
        rw [fsP, fsP, valP, if_neg]
        intro hp
        rw [hasP_iff] at hp
        unfold clipP at hc
        rw [if_pos] at hc
        · cases hc
        · rw [meetB_iff, rightP_iff, rightP_iff]
          have := (rightP_iff _ _).1 hh.1
          omega
      · rfl
    | some q =>
      have c := clip_some hc
      simp only
      rw [fsP, valP]
      by_cases hq : hasP q x = true
      · rw [if_pos hq]
        rw [hasP_iff] at hq
        have ra := (rightP_iff _ _).1 c.2.2.2.2.1
        have rp := (rightP_iff _ _).1 c.2.2.2.2.2
        rw [if_pos, fsP, valP, if_pos]
        · show some q.fs = some p.fs
          rw [c.2.2.2.1]
        · rw [hasP_iff]; omega
        · rw [c.2.2.2.2.1, Bool.true_and, inP_iff]; omega
      · rw [if_neg hq]
        show fsP (List.filterMap (clipP a) l) x = _
        rw [ih]
        split
        · rename_i hh
          rw [Bool.and_eq_true, inP_iff] at hh
          rw [fsP, fsP, valP, if_neg]
          intro hp
          apply hq
          rw [hasP_iff] at hp ⊢
          have := (rightP_iff _ _).1 c.1
          omega
        · rfl
theorem clip_length (a : Int × Int) (l : List Pc) : (clipL a l).length ≤ l.length := List.length_filterMap_le _ _

/-! What the laws say of these. -/
theorem covers_out {a : Int × Int} {v : Vr} {x : Int} (ha : rightP a.1 a.2 = true) (h1 : a.1 ≤ x) (h2 : x < a.2) (h : ¬ (Co.meetB a.1 a.2 v.sf v.se = true ∧ max a.1 v.sf ≤ x ∧ x < min a.2 v.se)) : coversB v x = false := by
  cases hc : coversB v x with
  | false => rfl
  | true =>
    rw [covers_iff] at hc
    exact absurd ⟨(meetB_iff _ _ _ _).2 ⟨⟨ha, hc.2.1⟩, by omega⟩, by omega, by omega⟩ h
theorem make_less {a : Int × Int} {l : List Vr} {v : Vr} {x : Int} (h : coversB v x = false) : makeV a (l ++ [v]) x = makeV a l x := by
  unfold makeV atL
  rw [List.filter_append, List.any_append]
  simp [h]
theorem more_not {a : Int × Int} {l : List Vr} {v : Vr} (h : Co.meetB a.1 a.2 v.sf v.se = false) (x : Int) : makeV a (l ++ [v]) x = makeV a l x := by
  by_cases hin : rightP a.1 a.2 = true ∧ a.1 ≤ x ∧ x < a.2
  · exact make_less (covers_out hin.1 hin.2.1 hin.2.2 (fun hh => by rw [h] at hh; exact absurd hh.1 (by simp)))
  · rw [makeV_out hin, makeV_out hin]
theorem more_is {a : Int × Int} {l : List Vr} {v : Vr} (h : Co.meetB a.1 a.2 v.sf v.se = true) {was new : List Pc} (h1 : ∀ x, fsP was x = makeV a l x) (h2 : ∀ x, fsP new x = makeV (Co.meetF a.1 a.2 v.sf v.se, Co.meetT a.1 a.2 v.sf v.se) (l ++ [v]) x) (x : Int) : spliceV (Co.meetF a.1 a.2 v.sf v.se, Co.meetT a.1 a.2 v.sf v.se) was new x = makeV a (l ++ [v]) x := by
  have e1 : Co.meetF a.1 a.2 v.sf v.se = max a.1 v.sf := by rw [Co.meetF, h]; rfl
  have e2 : Co.meetT a.1 a.2 v.sf v.se = min a.2 v.se := by rw [Co.meetT, h]; rfl
  have hh := (meetB_iff _ _ _ _).1 h
  have ra := (rightP_iff _ _).1 hh.1.1
  have rv := (rightP_iff _ _).1 hh.1.2
  have hx : rightP (max a.1 v.sf) (min a.2 v.se) = true := by rw [rightP_iff]; have := hh.2; omega
  rw [spliceV, h1, h2]
  simp only [e1, e2]
  by_cases hin : inP (max a.1 v.sf) (min a.2 v.se) x = true
  · rw [if_pos hin]
    rw [inP_iff] at hin
    rw [makeV_in (a := (max a.1 v.sf, min a.2 v.se)) hx hin.1 hin.2, makeV_in hh.1.1 (by omega) (by omega)]
  · rw [if_neg hin]
    by_cases hia : a.1 ≤ x ∧ x < a.2
    · exact (make_less (covers_out hh.1.1 hia.1 hia.2 (fun k => hin ((inP_iff _ _ _).2 k.2)))).symm
    · rw [makeV_out (fun k => hia k.2), makeV_out (fun k => hia k.2)]
theorem clip_make (a b : Int × Int) (l : List Vr) {m : List Pc} (h : ∀ x, fsP m x = makeV a l x) (x : Int) : fsP (clipL b m) x = makeV (Co.meetF a.1 a.2 b.1 b.2, Co.meetT a.1 a.2 b.1 b.2) l x := by
  rw [clip_fs, h]
  cases hm : Co.meetB a.1 a.2 b.1 b.2 with
  | true =>
    have e1 : Co.meetF a.1 a.2 b.1 b.2 = max a.1 b.1 := by rw [Co.meetF, hm]; rfl
    have e2 : Co.meetT a.1 a.2 b.1 b.2 = min a.2 b.2 := by rw [Co.meetT, hm]; rfl
    have hh := (meetB_iff _ _ _ _).1 hm
    have ra := (rightP_iff _ _).1 hh.1.1
    have rb := (rightP_iff _ _).1 hh.1.2
    have hx : rightP (max a.1 b.1) (min a.2 b.2) = true := by rw [rightP_iff]; have := hh.2; omega
    rw [e1, e2, hh.1.2, Bool.true_and]
    by_cases hin : max a.1 b.1 ≤ x ∧ x < min a.2 b.2
    · rw [makeV_in (a := (max a.1 b.1, min a.2 b.2)) hx hin.1 hin.2, if_pos ((inP_iff _ _ _).2 (by omega)), makeV_in hh.1.1 (by omega) (by omega)]
    · rw [makeV_out (a := (max a.1 b.1, min a.2 b.2)) (fun k => hin k.2)]
      split
      · rename_i hb
        rw [inP_iff] at hb
        exact makeV_out fun k => hin (by omega)
      · rfl
  | false =>
    have e1 : Co.meetF a.1 a.2 b.1 b.2 = 0 := by rw [Co.meetF, hm]; rfl
    have e2 : Co.meetT a.1 a.2 b.1 b.2 = 0 := by rw [Co.meetT, hm]; rfl
    rw [e1, e2, makeV_out (a := ((0 : Int), (0 : Int))) (fun k => by have h1 := k.2.1; have h2 := k.2.2; have h1 : (0 : Int) ≤ x := h1; have h2 : x < (0 : Int) := h2; omega)]
    split
    · rename_i hb
      rw [Bool.and_eq_true, inP_iff] at hb
      refine makeV_out fun k => ?_
      have : Co.meetB a.1 a.2 b.1 b.2 = true := (meetB_iff _ _ _ _).2 ⟨⟨k.1, hb.1⟩, by omega⟩
      rw [hm] at this; cases this
    · rfl
theorem splice_back {b : Int × Int} {m : List Pc} (hb : rightP b.1 b.2 = true) (x : Int) : spliceV b m (clipL b m) x = fsP m x := by
  rw [spliceV, clip_fs, hb, Bool.true_and]
  split
  · rfl
  · rfl

end Go.Proofs.Ytnopbhlhdecimaa

/-
  Pieces in memory: lists of pieces, lists of them that a call makes.
-/
namespace Go.Proofs.Ytnopbhlhdecimaa
open Go.RowKit

abbrev cellsPc (p : Pc) : List Value := [.int .i64 p.f, .int .i64 p.t, .slice p.fa p.fs.length p.fc]
/-- A piece as a value. -/
abbrev pv (p : Pc) : Value := .agg #[.int .i64 p.f, .int .i64 p.t, .slice p.fa p.fs.length p.fc]
def EP : El Pc where
  s := 22
  e := 45
  sz := 3
  bys := 40
  z := .agg #[.int .i64 0, .int .i64 0, .slice none 0 0]
  cells := cellsPc
  pos := by decide
  few := by decide
  len := fun _ => rfl
  one := fun x u hu => by
    simp only [cellsPc, List.mem_cons, List.not_mem_nil, or_false] at hu
    rcases hu with rfl | rfl | rfl <;> rfl
  und := Try.underlying22
  info := by kernel_rfl
  zs := rfl
/-- A piece in a block of its own. -/
abbrev ocP (p : Pc) : Obj := .cells #[.int .i64 p.f, .int .i64 p.t, .slice p.fa p.fs.length p.fc] 45
/-- The fields of a piece lie where it says. -/
def PF (w : World) (p : Pc) : Prop := Fields w p.fa p.fs ∧ p.fs.length ≤ p.fc ∧ (p.fa = none → p.fc = 0)
theorem PF.below {w w' : World} {p : Pc} (h : PF w p) (hb : Below w.heap.size w w') : PF w' p := ⟨h.1.below hb, h.2⟩
theorem PF.list {w : World} {p : Pc} (h : PF w p) : ListF w (.slice p.fa p.fs.length p.fc) p.fs := ⟨p.fa, p.fc, rfl, h.1, h.2.1, h.2.2⟩
/-- A list of pieces as a value. -/
def PcsL (w : World) (u : Value) (l : List Pc) : Prop := ListE EP w u l ∧ ∀ p ∈ l, PF w p
theorem PcsL.below {w w' : World} {u : Value} {l : List Pc} (h : PcsL w u l) (hb : Below w.heap.size w w') : PcsL w' u l := ⟨h.1.below hb, fun v hv => (h.2 v hv).below hb⟩
theorem PcsL.nil (w : World) : PcsL w (.slice none 0 0) [] := ⟨ListE.nil _, fun p hp => by simp at hp⟩
abbrev Cells3 (w : World) (g o : Nat) (p : Pc) : Prop := w.cell? ⟨g, o, none⟩ = some (.int .i64 p.f) ∧ w.cell? ⟨g, o + 1, none⟩ = some (.int .i64 p.t) ∧ w.cell? ⟨g, o + 2, none⟩ = some (.slice p.fa p.fs.length p.fc)
theorem RowE.cells3 {w : World} {A : Option Addr} {l : List Pc} (h : RowE EP w A l) {k : Nat} {p : Pc} (hv : l[k]? = some p) : ∃ g off, A = some ⟨g, off, none⟩ ∧ Cells3 w g (off + k * 3) p := by
  obtain ⟨g, off, rfl, hc⟩ := h k p hv
  exact ⟨g, off, rfl, hc 0 _ rfl, hc 1 _ rfl, hc 2 _ rfl⟩
theorem Cells3.below {w w' : World} {g o : Nat} {p : Pc} (h : Cells3 w g o p) (hb : Below w.heap.size w w') : Cells3 w' g o p :=
  ⟨keepc hb h.1, keepc hb h.2.1, keepc hb h.2.2⟩
theorem Cells3.more {w : World} {g o : Nat} {p : Pc} (h : Cells3 w g o p) (x : Obj) : Cells3 (w.alloc x) g o p := h.below ((bl w).alloc (Nat.le_refl _) x)
abbrev BoxP (w : World) (g : Nat) (p : Pc) : Prop := w.cell? ⟨g, 0, none⟩ = some (.int .i64 p.f) ∧ w.cell? ⟨g, 1, none⟩ = some (.int .i64 p.t) ∧ w.cell? ⟨g, 2, none⟩ = some (.slice p.fa p.fs.length p.fc)
theorem BoxP.below {w w' : World} {g : Nat} {p : Pc} (h : BoxP w g p) (hb : Below w.heap.size w w') : BoxP w' g p := ⟨keepc hb h.1, keepc hb h.2.1, keepc hb h.2.2⟩
theorem boxP_new (w : World) (p : Pc) : BoxP (w.alloc (ocP p)) w.heap.size p := ⟨by simp [go_sem], by simp [go_sem], by simp [go_sem]⟩

/-- The fields of a piece lie where it says, and not in block o. -/
def KP (w : World) (o : Option Nat) (p : Pc) : Prop := PF w p ∧ (p.fs ≠ [] → ∀ a, p.fa = some a → o ≠ some a.block)
theorem PF.lt {w : World} {p : Pc} (h : PF w p) (hn : p.fs ≠ []) {a : Addr} (ha : p.fa = some a) : a.block < w.heap.size := by
  cases hfs : p.fs with
  | nil => exact absurd hfs hn
  | cons f l =>
    obtain ⟨g, off, he, c0, _⟩ := h.1 0 f (by rw [hfs]; rfl)
    rw [ha] at he
    injection he with he
    subst he
    exact lt_of_cell c0
/-- Whatever lay, lies, but for one block. -/
def Kb (o : Option Nat) (w w' : World) : Prop := w.heap.size ≤ w'.heap.size ∧ ∀ c, c < w.heap.size → o ≠ some c → w'.heap[c]? = w.heap[c]?
theorem Kb.refl (o : Option Nat) (w : World) : Kb o w w := ⟨Nat.le_refl _, fun _ _ _ => rfl⟩
theorem Kb.trans {o : Option Nat} {a b c : World} (h : Kb o a b) (k : Kb o b c) : Kb o a c := ⟨Nat.le_trans h.1 k.1, fun i hi hn => (k.2 i (Nat.lt_of_lt_of_le hi h.1) hn).trans (h.2 i hi hn)⟩
theorem Kb.of_below {o : Option Nat} {w w' : World} (h : Below w.heap.size w w') : Kb o w w' := ⟨h.size, fun c hc _ => h.block c hc⟩
theorem Kb.set {a w : World} {b i : Nat} (h : Kb (some b) a w) (u : Value) : Kb (some b) a (w.setCell ⟨b, i, none⟩ u) :=
  ⟨by have := h.1; simpa [World.setCell] using this, fun c hc hn => (Below.heap_setCell w ⟨b, i, none⟩ u c (fun e => hn (by simp at e; rw [e]))).trans (h.2 c hc hn)⟩
theorem Kb.grown {a w w' : World} {o : Option Nat} (h : Kb o a w) (hg : w.grownBy w' o) : Kb o a w' := h.trans ⟨hg.size, fun c hc hn => hg.block c hc (fun e => hn e.symm)⟩
theorem Kb.cell {o : Option Nat} {w w' : World} (h : Kb o w w') {g i : Nat} {u : Value} (hc : w.cell? ⟨g, i, none⟩ = some u) (hn : o ≠ some g) : w'.cell? ⟨g, i, none⟩ = some u :=
  (World.cell?_of_block (w := w) (h.2 g (lt_of_cell hc) hn)).trans hc
theorem KP.below {w w' : World} {o : Option Nat} {p : Pc} (h : KP w o p) (hb : Below w.heap.size w w') : KP w' o p := ⟨h.1.below hb, h.2⟩
theorem KP.but {w w' : World} {o : Option Nat} {p : Pc} (h : KP w o p) (hb : Kb o w w') : PF w' p := by
  refine ⟨fun k f hf => ?_, h.1.2⟩
  obtain ⟨g, off, he, c0, c1⟩ := h.1.1 k f hf
  have hne : o ≠ some g := h.2 (fun e => by rw [e] at hf; simp at hf) _ he
  exact ⟨g, off, he, hb.cell c0 hne, hb.cell c1 hne⟩
theorem KP.move {w w' : World} {o o' : Option Nat} {p : Pc} (h : KP w o p) (hb : Kb o w w') (ho : o' = o ∨ ∃ g, o' = some g ∧ w.heap.size ≤ g) : KP w' o' p := by
  refine ⟨h.but hb, fun hn a ha => ?_⟩
  rcases ho with rfl | ⟨g, rfl, hg⟩
  · exact h.2 hn a ha
  · intro e
    injection e with e
    have := h.1.lt hn ha
    omega
theorem KP.same {w : World} {o : Option Nat} {p q : Pc} (h : KP w o p) (h1 : q.fa = p.fa) (h2 : q.fc = p.fc) (h3 : q.fs = p.fs) : KP w o q := by
  unfold KP PF at h ⊢
  rw [h1, h2, h3]; exact h
/-- A list of pieces of the call's own, whose block no fields lie in. -/
structure OutP (W : World) (l : List Pc) (v : Value) (w : World) : Prop where
  own : ownE EP w W.heap.size v l
  bel : Below W.heap.size W w
  kp : ∀ p ∈ l, KP w v.ownBlock p
theorem OutP.nil (W : World) : OutP W [] (.slice none 0 0) W := ⟨ownE_nil _ _, bl W, fun p hp => by simp at hp⟩
theorem OutP.below {W w w' : World} {l : List Pc} {v : Value} (h : OutP W l v w) (hb : Below w.heap.size w w') : OutP W l v w' := ⟨ownE_below h.own hb, chain h.bel hb, fun p hp => (h.kp p hp).below hb⟩
theorem OutP.pcs {W w : World} {l : List Pc} {v : Value} (h : OutP W l v w) : PcsL w v l := ⟨ownE_list h.own, fun p hp => (h.kp p hp).1⟩
theorem OutP.lt {W w : World} {l : List Pc} {v : Value} (h : OutP W l v w) {g : Nat} (hg : v.ownBlock = some g) : W.heap.size ≤ g ∧ g < w.heap.size := h.own.lt g hg
/-- Fields of before the call are outside of its list's block. -/
theorem OutP.old {W w : World} {l : List Pc} {v : Value} (h : OutP W l v w) {p : Pc} (hp : PF W p) : KP w v.ownBlock p := ⟨hp.below h.bel, fun hn a ha e => by
  have := (h.lt e).1
  have := hp.lt hn ha
  omega⟩
/-- So are fields that a later call made. -/
theorem OutP.newer {W w w' : World} {l : List Pc} {v u : Value} (h : OutP W l v w) {s : List Fd} (ho : OF w s u w') : ∃ A c, u = .slice A s.length c ∧ ∀ f t, KP w' v.ownBlock ⟨f, t, A, c, s⟩ := by
  obtain ⟨A, c, rfl, hF, hc, hn⟩ := ho.list
  refine ⟨A, c, rfl, fun f t => ⟨⟨hF, hc, hn⟩, fun _ a ha e => ?_⟩⟩
  have ha : A = some a := ha
  have h1 := (h.lt e).2
  have h2 := (ho.own.lt a.block (by rw [ha]; rfl)).1
  omega

theorem wpList_appP {ops : Array Oper} {rest : List Oper} {o : Oper} {a : Act} {w : World} {Q : Exit → Act → World → Prop} (hgd : o.guard = none) (s x : Operand)
    (ho : o.op = .call { callee := .builtin .append, args := #[s, x], argTypes := #[22, 22] })
    {base : Nat} {v : Value} {ts : List Pc} (hs : a.eval s = v) (hown : ownE EP w base v ts) {B : Option Addr} {c m : Nat} {xs : List Pc} (hv : a.eval x = .slice B m c) (hm : m = xs.length) (hx : RowE EP w B xs) (hc : B = none → c = 0)
    (hl : ts.length + xs.length ≤ 1000000) (hbase : base ≤ w.heap.size)
    (h : ∀ v' w', ownE EP w' base v' (ts ++ xs) → w.grownBy w' v.ownBlock → (v'.ownBlock = v.ownBlock ∨ v'.ownBlock = some w.heap.size) → wpList Try.prog ops Q rest (a.put o.dst v') w') : wpList Try.prog ops Q (o :: rest) a w := by
  subst hm
  obtain ⟨v', w', hrun, h2, h3, h4⟩ := run_appE w hown B c xs hx hc hl hbase o.type
  refine wpList_plain hgd fun _ hK => ?_
  unfold Oper.wp execOp
  have e0 : EP.s = 22 := rfl
  rw [e0] at hrun
  simp only [ho, resolve, invoke, builtin, Sem.run_bind, Sem.run_pure, Result.andThen_ok, List.map_toArray, List.map_cons, List.map_nil, hs, hv, hrun]
  exact hK _ _ (h v' w' h2 h3 h4)
theorem OutP.app {W w w' : World} {L : List Pc} {p : Pc} {v v' : Value} (h : OutP W L v w) (hp : KP w v.ownBlock p) (hg : w.grownBy w' v.ownBlock) (hown : ownE EP w' W.heap.size v' (L ++ [p])) (ho : v'.ownBlock = v.ownBlock ∨ v'.ownBlock = some w.heap.size) : OutP W (L ++ [p]) v' w' := by
  have hk : Kb v.ownBlock w w' := (Kb.refl _ _).grown hg
  have ho' : v'.ownBlock = v.ownBlock ∨ ∃ g, v'.ownBlock = some g ∧ w.heap.size ≤ g := ho.imp_right fun e => ⟨_, e, Nat.le_refl _⟩
  refine ⟨hown, below_grownE h.bel hg (fun r hr => (h.own.lt r hr).1), fun q hq => ?_⟩
  rcases List.mem_append.1 hq with hq | hq
  · exact (h.kp q hq).move hk ho'
  · obtain rfl := List.mem_singleton.1 hq
    exact hp.move hk ho'
theorem flat_setP : ∀ (L : List Pc) (t : Nat) (v : Pc) (x : Int), L[t]? = some v → (flatE EP L).set (t * 3 + 1) (.int .i64 x) = flatE EP (L.set t { v with t := x })
  | [], _, _, _, h => by simp at h
  | y :: L, 0, v, x, h => by
    obtain rfl : y = v := by simpa using h
    rw [flatE_cons, List.set_cons_zero, flatE_cons]
    rfl
  | y :: L, t + 1, v, x, h => by
    have ih := flat_setP L t v x (by simpa using h)
    have hl : (EP.cells y).length = 3 := EP.len y
    rw [flatE_cons, List.set_append_right _ _ (by rw [hl]; omega), hl, show (t + 1) * 3 + 1 - 3 = t * 3 + 1 by omega, ih, List.set_cons_succ, flatE_cons]
theorem OutP.setLast {W w : World} {m : List Pc} {q : Pc} {g c n : Nat} (h : OutP W (m ++ [q]) (.slice (some ⟨g, 0, none⟩) n c) w) (hn : n = m.length + 1) (x : Int) : OutP W (m ++ [{ q with t := x }]) (.slice (some ⟨g, 0, none⟩) n c) (w.setCell ⟨g, m.length * 3 + 1, none⟩ (.int .i64 x)) := by
  subst hn
  have hq : (m ++ [q])[m.length]? = some q := by simp
  have hset : (m ++ [q]).set m.length { q with t := x } = m ++ [{ q with t := x }] := by simp
  have hlen : (m ++ [q]).length = m.length + 1 := by simp
  have hw := h.own
  unfold ownE at hw
  rw [hlen] at hw
  have hs := (World.ownsRow.stored hw (m.length * 3 + 1) (.int .i64 x)).1
  rw [flat_setP _ _ _ x hq, hset] at hs
  have hbel : Below W.heap.size W (w.setCell ⟨g, m.length * 3 + 1, none⟩ (.int .i64 x)) := h.bel.setCell (p := ⟨g, m.length * 3 + 1, none⟩) (h.lt rfl).1 _
  have hlen2 : (m ++ [{ q with t := x }]).length = m.length + 1 := by simp
  refine ⟨?_, hbel, fun r hr => ?_⟩
  · unfold ownE
    rw [hlen2]
    exact hs
  · have hk : Kb (some g) w (w.setCell ⟨g, m.length * 3 + 1, none⟩ (.int .i64 x)) := (Kb.refl _ _).set _
    rcases List.mem_append.1 hr with hr | hr
    · exact (h.kp r (by simp [hr])).move hk (.inl rfl)
    · obtain rfl := List.mem_singleton.1 hr
      exact ((h.kp q (by simp)).move hk (.inl rfl)).same rfl rfl rfl

/-- A list of pieces that is the timeline of g. -/
structure TimeL (w : World) (u : Value) (g : Int → Option (List Fd)) (R : List Pc) : Prop where
  pcs : PcsL w u R
  tl : TL R
  fs : ∀ x, fsP R x = g x
  len : R.length ≤ 1000
theorem TimeL.below {w w' : World} {u : Value} {g : Int → Option (List Fd)} {R : List Pc} (h : TimeL w u g R) (hb : Below w.heap.size w w') : TimeL w' u g R := ⟨h.pcs.below hb, h.tl, h.fs, h.len⟩
theorem TimeL.nil (w : World) (g : Int → Option (List Fd)) (h : ∀ x, g x = none) : TimeL w (.slice none 0 0) g [] := ⟨PcsL.nil w, trivial, fun x => (h x).symm, Nat.zero_le _⟩
theorem TimeL.mono {w : World} {u : Value} {g g' : Int → Option (List Fd)} {R : List Pc} (h : TimeL w u g R) (hg : ∀ x, g x = g' x) : TimeL w u g' R := ⟨h.pcs, h.tl, fun x => (h.fs x).trans (hg x), h.len⟩
/-- A value is a timeline of g. -/
def HasTL (w : World) (u : Value) (g : Int → Option (List Fd)) : Prop := ∃ R, TimeL w u g R
/-- The fields of a timeline are as few as those that are told. -/
theorem TimeL.few {w : World} {u : Value} {g : Int → Option (List Fd)} {R : List Pc} (h : TimeL w u g R) {n : Nat} (hg : ∀ x s, g x = some s → s.length ≤ n) : ∀ p ∈ R, p.fs.length ≤ n := fun p hp => hg p.f p.fs (by rw [← h.fs]; exact fs_mem h.tl p hp)
theorem timel_same {w w' : World} {u u' : Value} {g : Int → Option (List Fd)} {R Q : List Pc} (h : TimeL w u g R) (k : TimeL w' u' g Q) : sameP R Q = true := tl_same h.tl k.tl fun x => (h.fs x).trans (k.fs x).symm
/-- What Clip tells of any list, and what Splice. -/
def clipG (a : Int × Int) (l : List Pc) (x : Int) : Option (List Fd) := if rightT l = true then fsP (clipL a l) x else none
def spliceG (a : Int × Int) (l m : List Pc) (x : Int) : Option (List Fd) := if (rightT l && rightT m) = true then (if rightP a.1 a.2 = true then spliceV a l m x else fsP l x) else none
def firstF (l : List Pc) (x : Int) : List Fd := (fsP l x).getD []
theorem fs_small {l : List Pc} {n : Nat} (h : ∀ p ∈ l, p.fs.length ≤ n) {x : Int} {s : List Fd} (hs : fsP l x = some s) : s.length ≤ n := by
  unfold fsP at hs
  cases hv : valP l x with
  | none => rw [hv] at hs; cases hs
  | some p =>
    rw [hv] at hs
    have : p.fs = s := by simpa using hs
    rw [← this]
    exact h p (valP_mem hv).1
theorem clipG_few {a : Int × Int} {l : List Pc} {n : Nat} (h : ∀ p ∈ l, p.fs.length ≤ n) : ∀ x s, clipG a l x = some s → s.length ≤ n := fun x s hs => by
  unfold clipG at hs
  split at hs
  · rw [clip_fs] at hs
    split at hs
    · exact fs_small h hs
    · cases hs
  · cases hs
theorem spliceG_few {a : Int × Int} {l m : List Pc} {n : Nat} (h : ∀ p ∈ l, p.fs.length ≤ n) (k : ∀ p ∈ m, p.fs.length ≤ n) : ∀ x s, spliceG a l m x = some s → s.length ≤ n := fun x s hs => by
  unfold spliceG at hs
  split at hs
  · split at hs
    · unfold spliceV at hs
      split at hs
      · exact fs_small k hs
      · exact fs_small h hs
    · exact fs_small h hs
  · cases hs
abbrev sp2 (a : Int × Int) : Value := .agg #[.int .i64 a.1, .int .i64 a.2]
abbrev spanP (p : Pc) : Int × Int := (p.f, p.t)

end Go.Proofs.Ytnopbhlhdecimaa

/-
  Plain facts on turns: how many ends of a cover are not behind a time tells whether it has the time; going over the turns of two covers gives the cover of what counts; how long covers are.
-/
namespace Go.Proofs.Ytnopbhlhdecimaa.Co

/-- All From and To of a cover. -/
def bord (l : List Sp) : List Int := l.flatMap fun p => [p.1, p.2]
theorem bord_cons (p : Sp) (l : List Sp) : bord (p :: l) = p.1 :: p.2 :: bord l := by simp [bord]
theorem bord_snoc (l : List Sp) (p : Sp) : bord (l ++ [p]) = bord l ++ [p.1, p.2] := by simp [bord]
theorem bord_length (l : List Sp) : (bord l).length = 2 * l.length := by
  induction l with
  | nil => rfl
  | cons p l ih => rw [bord_cons]; simp only [List.length_cons, ih]; omega
theorem bord_bounds {l : List Sp} (h : Cov l) {x : Int} (hx : x ∈ bord l) : -1099511627776 ≤ x ∧ x ≤ 1099511627776 := by
  unfold bord at hx
  simp only [List.mem_flatMap] at hx
  obtain ⟨p, hp, hx⟩ := hx
  have := right_yes (h.1 p hp)
  simp at hx
  omega
theorem bord_behind {p : Sp} {l : List Sp} (h : Cov (p :: l)) {x : Int} (hx : x ∈ bord l) : p.2 < x := by
  unfold bord at hx
  simp only [List.mem_flatMap] at hx
  obtain ⟨q, hq, hx⟩ := hx
  have := right_yes (h.1 q (List.mem_cons_of_mem _ hq))
  have := h.head q hq
  simp at hx
  omega
/-- How many are not behind x. -/
def upTo (l : List Int) (x : Int) : Nat := l.countP fun y => decide (y ≤ x)
theorem upTo_cons (y : Int) (l : List Int) (x : Int) : upTo (y :: l) x = upTo l x + if y ≤ x then 1 else 0 := by
  simp [upTo, List.countP_cons]
theorem cov_odd : ∀ (l : List Sp) (x : Int), Cov l → (Mem l x ↔ upTo (bord l) x % 2 = 1)
  | [], x, _ => by simp [mem_nil, upTo, bord]
  | p :: l, x, h => by
    have ih := cov_odd l x h.tail
    have hr := right_yes (h.1 p (by simp))
    rw [bord_cons, upTo_cons, upTo_cons, mem_cons]
    simp only [h.1 p (by simp), true_and]
    rcases Int.lt_or_le x p.2 with h1 | h1
    · have h0 : upTo (bord l) x = 0 := by
        unfold upTo
        rw [List.countP_eq_zero]
        intro y hy
        have := bord_behind h hy
        simp; omega
      have hn : ¬ Mem l x := by rw [ih, h0]; omega
      rw [h0]
      rcases Int.lt_or_le x p.1 with h2 | h2
      · rw [if_neg (by omega), if_neg (by omega)]
        constructor
        · rintro (h3 | h3)
          · omega
          · exact absurd h3 hn
        · omega
      · rw [if_neg (by omega), if_pos (by omega)]
        exact ⟨fun _ => rfl, fun _ => .inl ⟨h2, h1⟩⟩
    · rw [if_pos (by omega), if_pos (by omega)]
      constructor
      · rintro (h3 | h3)
        · omega
        · have := ih.1 h3
          omega
      · intro h3
        exact .inr (ih.2 (by omega))

/-- A turn: its time, and which list turns. -/
abbrev Tn := Int × Int
/-- The turns of two covers. -/
def tnOf (a b : List Sp) : List Tn := (bord a).map (fun t => (t, 0)) ++ (bord b).map fun t => (t, 1)
theorem tn_bounds {a b : List Sp} (ha : Cov a) (hb : Cov b) {q : Tn} (h : q ∈ tnOf a b) : (q.2 = 0 ∨ q.2 = 1) ∧ -1099511627776 ≤ q.1 ∧ q.1 ≤ 1099511627776 := by
  unfold tnOf at h
  simp only [List.mem_append, List.mem_map] at h
  rcases h with ⟨t, ht, rfl⟩ | ⟨t, ht, rfl⟩
  · exact ⟨.inl rfl, bord_bounds ha ht⟩
  · exact ⟨.inr rfl, bord_bounds hb ht⟩
/-- Has the list with this number turned an odd number of times? -/
def odd (s : List Tn) (n : Int) : Bool := decide ((s.countP fun q => decide (q.2 = n)) % 2 = 1)
theorem odd_nil (n : Int) : odd [] n = false := by simp [odd]
theorem odd_snoc_same (s : List Tn) (q : Tn) {n : Int} (h : q.2 = n) : odd (s ++ [q]) n = !odd s n := by
  unfold odd
  rw [List.countP_append]
  have e : List.countP (fun q : Tn => decide (q.2 = n)) [q] = 1 := by simp [h]
  rw [e]
  rcases Nat.mod_two_eq_zero_or_one (s.countP fun q => decide (q.2 = n)) with h1 | h1
  · rw [decide_eq_true (by omega), decide_eq_false (by omega)]; rfl
  · rw [decide_eq_false (by omega), decide_eq_true (by omega)]; rfl
theorem odd_snoc_other (s : List Tn) (q : Tn) {n : Int} (h : q.2 ≠ n) : odd (s ++ [q]) n = odd s n := by
  unfold odd
  rw [List.countP_append]
  have e : List.countP (fun q : Tn => decide (q.2 = n)) [q] = 0 := by simp [h]
  rw [e, Nat.add_zero]
theorem count_map (l : List Int) (m n : Int) (x : Int) : (l.map fun t => ((t, m) : Tn)).countP (fun q => decide (q.2 = n) && decide (q.1 ≤ x)) = if m = n then upTo l x else 0 := by
  induction l with
  | nil => simp [upTo]
  | cons y l ih =>
    rw [List.map_cons, List.countP_cons, ih, upTo_cons]
    by_cases h : m = n <;> simp [h]
theorem count_tn (a b : List Sp) (x : Int) : (tnOf a b).countP (fun q => decide (q.2 = 0) && decide (q.1 ≤ x)) = upTo (bord a) x ∧ (tnOf a b).countP (fun q => decide (q.2 = 1) && decide (q.1 ≤ x)) = upTo (bord b) x := by
  unfold tnOf
  rw [List.countP_append, List.countP_append, count_map, count_map, count_map, count_map]
  simp
/-- All ahead of place k not behind x, all others behind it: which lists have x. -/
theorem odd_mem {a b : List Sp} (ha : Cov a) (hb : Cov b) {s : List Tn} (hp : s.Perm (tnOf a b)) {k : Nat} {x : Int} (h1 : ∀ q ∈ s.take k, q.1 ≤ x) (h2 : ∀ q ∈ s.drop k, x < q.1) : odd (s.take k) 0 = memB a x ∧ odd (s.take k) 1 = memB b x := by
  have key : ∀ n : Int, (s.take k).countP (fun q => decide (q.2 = n)) = s.countP (fun q => decide (q.2 = n) && decide (q.1 ≤ x)) := fun n => by
    conv => rhs; rw [← List.take_append_drop k s, List.countP_append]
    have e0 : (s.drop k).countP (fun q => decide (q.2 = n) && decide (q.1 ≤ x)) = 0 := by
      rw [List.countP_eq_zero]
      intro q hq
      have := h2 q hq
      simp; omega
    rw [e0, Nat.add_zero]
    apply List.countP_congr
    intro q hq
    have := h1 q hq
    simp [this]
  obtain ⟨c0, c1⟩ := count_tn a b x
  rw [← hp.countP_eq] at c0 c1
  constructor
  · rw [Bool.eq_iff_iff, memB_iff, cov_odd a x ha, odd, key, c0]; simp
  · rw [Bool.eq_iff_iff, memB_iff, cov_odd b x hb, odd, key, c1]; simp

/-- Is the time ahead of the turn at place k? -/
def Ahead (s : List Tn) (k : Nat) (x : Int) : Prop := ∀ q, s[k]? = some q → x < q.1
def CountP (f : Bool → Bool → Bool) (a b : List Sp) (x : Int) : Prop := f (memB a x) (memB b x) = true
/-- What holds when the turns ahead of place k are through. -/
structure Picks (a b : List Sp) (f : Bool → Bool → Bool) (s : List Tn) (k : Nat) (o : List Sp) (fr : Int) (c : Bool) : Prop where
  cov : Cov o
  off : c = false → (∀ x, Ahead s k x → (Mem o x ↔ CountP f a b x)) ∧ ∀ p ∈ o, Ahead s k p.2
  on : c = true → (∀ x, Ahead s k x → ((Mem o x ∨ fr ≤ x) ↔ CountP f a b x)) ∧ (∀ p ∈ o, p.2 < fr) ∧ Ahead s k fr ∧ -1099511627776 ≤ fr ∧ fr ≤ 1099511627776
  len : o.length ≤ k
def Sorted (s : List Tn) : Prop := ∀ (i j : Nat) (p q : Tn), i ≤ j → s[i]? = some p → s[j]? = some q → p.1 ≤ q.1
theorem Sorted.take {s : List Tn} (h : Sorted s) {k : Nat} {t : Tn} (ht : s[k]? = some t) {x : Int} (hx : t.1 ≤ x) : ∀ q ∈ s.take (k + 1), q.1 ≤ x := fun q hq => by
  obtain ⟨i, hi⟩ := List.getElem?_of_mem hq
  rw [List.getElem?_take] at hi
  split at hi
  · have := h i k q t (by omega) hi ht
    omega
  · cases hi
theorem Sorted.drop {s : List Tn} (h : Sorted s) {k : Nat} {x : Int} (hx : Ahead s k x) : ∀ q ∈ s.drop k, x < q.1 := fun q hq => by
  obtain ⟨i, hi⟩ := List.getElem?_of_mem hq
  rw [List.getElem?_drop] at hi
  have hlt : k + i < s.length := by
    rcases Nat.lt_or_ge (k + i) s.length with h1 | h1
    · exact h1
    · simp [List.getElem?_eq_none h1] at hi
  have h0 := hx s[k] (List.getElem?_eq_getElem (by omega))
  have := h k (k + i) _ q (by omega) (List.getElem?_eq_getElem (by omega)) hi
  omega
theorem Picks.start {a b : List Sp} {f : Bool → Bool → Bool} {s : List Tn} (ha : Cov a) (hb : Cov b) (hf : f false false = false) (hp : s.Perm (tnOf a b)) (hs : Sorted s) : Picks a b f s 0 [] 0 false := by
  refine ⟨Cov.nil, fun _ => ⟨fun x hx => ?_, by simp⟩, (fun h => by cases h), Nat.le_refl _⟩
  obtain ⟨e0, e1⟩ := odd_mem ha hb hp (k := 0) (x := x) (by simp) (hs.drop hx)
  simp only [List.take_zero, odd_nil] at e0 e1
  simp [CountP, ← e0, ← e1, hf, mem_nil]
/-- Another turn comes at the same time. -/
theorem Picks.stays {a b : List Sp} {f : Bool → Bool → Bool} {s : List Tn} {k : Nat} {o : List Sp} {fr : Int} {c : Bool} (h : Picks a b f s k o fr c) {t u : Tn} (ht : s[k]? = some t) (hu : s[k + 1]? = some u) (he : u.1 = t.1) : Picks a b f s (k + 1) o fr c := by
  have e : ∀ x, Ahead s (k + 1) x ↔ Ahead s k x := fun x => by
    unfold Ahead
    rw [ht, hu]
    constructor
    · intro h q hq; injection hq with hq; have := h u rfl; subst hq; omega
    · intro h q hq; injection hq with hq; have := h t rfl; subst hq; omega
  refine ⟨h.cov, fun hc => ?_, fun hc => ?_, by have := h.len; omega⟩
  · have := h.off hc
    exact ⟨fun x hx => this.1 x ((e x).1 hx), fun p hp => (e _).2 (this.2 p hp)⟩
  · have := h.on hc
    exact ⟨fun x hx => this.1 x ((e x).1 hx), this.2.1, (e _).2 this.2.2.1, this.2.2.2⟩
theorem ahead_of {s : List Tn} {k : Nat} {t : Tn} (ht : s[k]? = some t) {x : Int} : Ahead s k x ↔ x < t.1 := by
  unfold Ahead
  rw [ht]
  exact ⟨fun h => h t rfl, fun h q hq => by injection hq with hq; subst hq; exact h⟩
/-- The times from a turn on, ahead of the next one, are alike. -/
theorem turn_alike {a b : List Sp} {f : Bool → Bool → Bool} {s : List Tn} (ha : Cov a) (hb : Cov b) (hp : s.Perm (tnOf a b)) (hs : Sorted s) {k : Nat} {t : Tn} (ht : s[k]? = some t) {x : Int} (h1 : t.1 ≤ x) (h2 : Ahead s (k + 1) x) : CountP f a b x ↔ f (odd (s.take (k + 1)) 0) (odd (s.take (k + 1)) 1) = true := by
  obtain ⟨e0, e1⟩ := odd_mem ha hb hp (k := k + 1) (x := x) (hs.take ht h1) (hs.drop h2)
  rw [CountP, e0, e1]
theorem Picks.turns {a b : List Sp} {f : Bool → Bool → Bool} {s : List Tn} {k : Nat} {o : List Sp} {fr : Int} {c : Bool} (h : Picks a b f s k o fr c) (ha : Cov a) (hb : Cov b) (hp : s.Perm (tnOf a b)) (hs : Sorted s) {t : Tn} (ht : s[k]? = some t) (hn : Ahead s (k + 1) t.1) {now : Bool} (hnow : f (odd (s.take (k + 1)) 0) (odd (s.take (k + 1)) 1) = now) :
    (now = true → c = false → Picks a b f s (k + 1) o t.1 true) ∧ (now = false → c = true → Picks a b f s (k + 1) (o ++ [(fr, t.1)]) fr false) ∧ (now = c → Picks a b f s (k + 1) o fr c) := by
  have hb1 := (tn_bounds ha hb (hp.mem_iff.1 (List.mem_of_getElem? ht))).2
  have hlen := h.len
  have low : ∀ x, x < t.1 → Ahead s k x := fun x hx => (ahead_of ht).2 hx
  have up : ∀ x, t.1 ≤ x → Ahead s (k + 1) x → (CountP f a b x ↔ now = true) := fun x h1 h2 => by rw [turn_alike ha hb hp hs ht h1 h2, hnow]
  have far : ∀ x, x < t.1 → Ahead s (k + 1) x := fun x hx q hq => by have := hn q hq; omega
  refine ⟨fun h1 h2 => ?_, fun h1 h2 => ?_, fun h1 => ?_⟩
  · obtain ⟨m1, m2⟩ := h.off h2
    refine ⟨h.cov, (fun h => by cases h), fun _ => ⟨fun x hx => ?_, fun p hp' => (ahead_of ht).1 (m2 p hp'), hn, hb1⟩, by omega⟩
    rcases Int.lt_or_le x t.1 with h3 | h3
    · rw [← m1 x (low x h3)]
      constructor
      · rintro (h4 | h4)
        · exact h4
        · omega
      · exact .inl
    · rw [up x h3 hx]
      exact ⟨fun _ => h1, fun _ => .inr h3⟩
  · obtain ⟨m1, m2, m3, m4⟩ := h.on h2
    have m3' := (ahead_of ht).1 m3
    have hr : rightB fr t.1 = true := by simp [rightB]; omega
    obtain ⟨c1, c2⟩ := put_adds h.cov m2 hr
    refine ⟨c1, fun _ => ⟨fun x hx => ?_, fun p hp' => ?_⟩, (fun h => by cases h), by simp; omega⟩
    · rw [c2 x]
      rcases Int.lt_or_le x t.1 with h3 | h3
      · rw [← m1 x (low x h3)]
        constructor
        · rintro (h4 | h4)
          · exact .inl h4
          · exact .inr h4.1
        · rintro (h4 | h4)
          · exact .inl h4
          · exact .inr ⟨h4, h3⟩
      · rw [up x h3 hx, h1]
        constructor
        · rintro (⟨p, hp', _, h4, h5⟩ | h4)
          · have := m2 p hp'
            omega
          · omega
        · intro h4; cases h4
    · rcases List.mem_append.1 hp' with h3 | h3
      · have := m2 p h3
        exact far _ (by omega)
      · obtain rfl := List.mem_singleton.1 h3
        exact hn
  · refine ⟨h.cov, fun hc => ?_, fun hc => ?_, by omega⟩
    · obtain ⟨m1, m2⟩ := h.off hc
      refine ⟨fun x hx => ?_, fun p hp' => far _ ((ahead_of ht).1 (m2 p hp'))⟩
      rcases Int.lt_or_le x t.1 with h3 | h3
      · exact m1 x (low x h3)
      · rw [up x h3 hx, h1, hc]
        constructor
        · rintro ⟨p, hp', _, h4, h5⟩
          have := (ahead_of ht).1 (m2 p hp')
          omega
        · intro h4; cases h4
    · obtain ⟨m1, m2, m3, m4⟩ := h.on hc
      refine ⟨fun x hx => ?_, m2, far _ ((ahead_of ht).1 m3), m4⟩
      rcases Int.lt_or_le x t.1 with h3 | h3
      · exact m1 x (low x h3)
      · rw [up x h3 hx, h1, hc]
        have := (ahead_of ht).1 m3
        exact ⟨fun _ => rfl, fun _ => .inr (by omega)⟩
theorem Picks.stop {a b : List Sp} {f : Bool → Bool → Bool} {s : List Tn} {k : Nat} {o : List Sp} {fr : Int} {c : Bool} (h : Picks a b f s k o fr c) (hf : f false false = false) (hk : s.length ≤ k) : CovOf o (CountP f a b) := by
  have hA : ∀ x, Ahead s k x := fun x q hq => by rw [List.getElem?_eq_none hk] at hq; cases hq
  cases c with
  | false => exact ⟨h.cov, fun x => (h.off rfl).1 x (hA x)⟩
  | true =>
    exfalso
    obtain ⟨m1, m2, m3, m4, m5⟩ := h.on rfl
    have := (m1 1099511627776 (hA _)).1 (.inr m5)
    have e1 : memB a 1099511627776 = false := by
      cases hm : memB a 1099511627776
      · rfl
      · have := mem_bounds ((memB_iff _ _).1 hm); omega
    have e2 : memB b 1099511627776 = false := by
      cases hm : memB b 1099511627776
      · rfl
      · have := mem_bounds ((memB_iff _ _).1 hm); omega
    rw [CountP, e1, e2, hf] at this
    cases this

/- How long covers are. -/
def lens (l : List Sp) : Int := (l.map fun p => p.2 - p.1).sum
theorem lens_cons (p : Sp) (l : List Sp) : lens (p :: l) = p.2 - p.1 + lens l := by simp [lens]
theorem lens_snoc (l : List Sp) (p : Sp) : lens (l ++ [p]) = lens l + (p.2 - p.1) := by simp [lens]
/-- How many of the n times from lo on are in a set. -/
def cnt (S : Int → Bool) (lo : Int) : Nat → Int
  | 0 => 0
  | n + 1 => cnt S lo n + if S (lo + n) then 1 else 0
theorem cnt_congr {S T : Int → Bool} (h : ∀ x, S x = T x) (lo : Int) : ∀ n, cnt S lo n = cnt T lo n
  | 0 => rfl
  | n + 1 => by rw [cnt, cnt, cnt_congr h lo n, h]
/-- How many times of a cover are ahead of x. -/
def lenTo (l : List Sp) (x : Int) : Int := (l.map fun p => max 0 (min p.2 x - p.1)).sum
theorem lenTo_cons (p : Sp) (l : List Sp) (x : Int) : lenTo (p :: l) x = max 0 (min p.2 x - p.1) + lenTo l x := by simp [lenTo]
theorem lenTo_step : ∀ (l : List Sp) (x : Int), Cov l → lenTo l (x + 1) = lenTo l x + if memB l x then 1 else 0
  | [], x, _ => by simp [lenTo, memB]
  | p :: l, x, h => by
    have ih := lenTo_step l x h.tail
    have hr := right_yes (h.1 p (by simp))
    have hm : memB (p :: l) x = ((decide (p.1 ≤ x) && decide (x < p.2)) || memB l x) := by
      simp [memB, hasB, h.1 p (by simp)]
    rw [lenTo_cons, lenTo_cons, ih, hm]
    have hn : p.1 ≤ x → x < p.2 → memB l x = false := fun _ h2 => by
      cases hq : memB l x
      · rfl
      · have := ((cov_tail h x).1 ((memB_iff _ _).1 hq)).2
        omega
    by_cases h1 : p.1 ≤ x
    · by_cases h2 : x < p.2
      · rw [hn h1 h2]
        simp only [h1, h2, decide_true, Bool.and_true, Bool.or_false, if_true]
        simp; omega
      · simp only [h1, h2, decide_true, decide_false, Bool.and_false, Bool.false_or]
        omega
    · simp only [h1, decide_false, Bool.false_and, Bool.false_or]
      omega
theorem lenTo_low : ∀ (l : List Sp) (x : Int), Cov l → x ≤ -1099511627776 → lenTo l x = 0
  | [], _, _, _ => rfl
  | p :: l, x, h, hx => by
    have hr := right_yes (h.1 p (by simp))
    rw [lenTo_cons, lenTo_low l x h.tail hx]
    omega
theorem lenTo_high : ∀ (l : List Sp) (x : Int), Cov l → 1099511627776 ≤ x → lenTo l x = lens l
  | [], _, _, _ => rfl
  | p :: l, x, h, hx => by
    have hr := right_yes (h.1 p (by simp))
    rw [lenTo_cons, lens_cons, lenTo_high l x h.tail hx]
    omega
theorem lenTo_cnt {l : List Sp} (h : Cov l) : ∀ n : Nat, lenTo l (-1099511627776 + n) = cnt (memB l) (-1099511627776) n
  | 0 => by simpa [cnt] using lenTo_low l _ h (Int.le_refl _)
  | n + 1 => by
    rw [cnt, ← lenTo_cnt h n, ← lenTo_step l _ h]
    congr 1
    omega
theorem lens_cnt {l : List Sp} (h : Cov l) : lens l = cnt (memB l) (-1099511627776) 2199023255552 := by
  rw [← lenTo_cnt h, ← lenTo_high l _ h (Int.le_refl _)]
  rfl
theorem cnt_add {S T U V : Int → Bool} (h : ∀ x, (if S x then 1 else 0) + (if T x then 1 else 0) + (if U x then 1 else 0) = (if V x then (1 : Int) else 0)) (lo : Int) : ∀ n, cnt S lo n + cnt T lo n + cnt U lo n = cnt V lo n
  | 0 => rfl
  | n + 1 => by
    have ih := cnt_add h lo n
    have := h (lo + n)
    simp only [cnt]
    omega
theorem lens_nonneg {l : List Sp} (h : Cov l) : 0 ≤ lens l ∧ lens l ≤ 2199023255552 := by
  have key : ∀ (S : Int → Bool) (lo : Int) (n : Nat), 0 ≤ cnt S lo n ∧ cnt S lo n ≤ n := fun S lo n => by
    induction n with
    | zero => simp [cnt]
    | succ n ih => rw [cnt]; split <;> omega
  rw [lens_cnt h]
  exact key _ _ _

end Go.Proofs.Ytnopbhlhdecimaa.Co

/-
  Timelines of anything: lists of spans that bear a value: plain facts (as Tpure has them of pieces).
-/
namespace Go.Proofs.Ytnopbhlhdecimaa

/-- A span that bears a value. -/
structure Pg (V : Type) where
  f : Int
  t : Int
  v : V
section
variable {V : Type}
def hasPg (p : Pg V) (x : Int) : Bool := rightP p.f p.t && inP p.f p.t x
theorem hasP_iffg (p : Pg V) (x : Int) : hasPg p x = true ↔ (-1099511627776 ≤ p.f ∧ p.t ≤ 1099511627776 ∧ p.f < p.t) ∧ p.f ≤ x ∧ x < p.t := by
  simp [hasPg, rightP, inP, and_assoc]
/-- The first piece that has a time. -/
def valPg : List (Pg V) → Int → Option (Pg V)
  | [], _ => none
  | p :: l, x => if hasPg p x = true then some p else valPg l x
def fsPg (l : List (Pg V)) (x : Int) : Option V := (valPg l x).map Pg.v
theorem valP_appendg : ∀ (l m : List (Pg V)) (x : Int), valPg (l ++ m) x = match valPg l x with | some p => some p | none => valPg m x
  | [], m, x => rfl
  | p :: l, m, x => by
    rw [List.cons_append, valPg, valPg]
    split
    · rfl
    · exact valP_appendg l m x
theorem fsP_appendg (l m : List (Pg V)) (x : Int) : fsPg (l ++ m) x = match fsPg l x with | some s => some s | none => fsPg m x := by
  unfold fsPg
  rw [valP_appendg]
  cases valPg l x <;> rfl
theorem valP_noneg {l : List (Pg V)} {x : Int} (h : ∀ p ∈ l, ¬ hasPg p x = true) : valPg l x = none := by
  induction l with
  | nil => rfl
  | cons p l ih =>
    rw [valPg, if_neg (h p (by simp))]
    exact ih fun q hq => h q (List.mem_cons_of_mem _ hq)
theorem valP_memg {l : List (Pg V)} {x : Int} {p : Pg V} (h : valPg l x = some p) : p ∈ l ∧ hasPg p x = true := by
  induction l with
  | nil => cases h
  | cons q l ih =>
    rw [valPg] at h
    split at h
    · rename_i hq
      injection h with h
      subst h
      exact ⟨by simp, hq⟩
    · exact ⟨List.mem_cons_of_mem _ (ih h).1, (ih h).2⟩
theorem fsP_noneg {l : List (Pg V)} {x : Int} (h : ∀ p ∈ l, ¬ hasPg p x = true) : fsPg l x = none := by rw [fsPg, valP_noneg h]; rfl
theorem fsP_oneg (p : Pg V) (x : Int) : fsPg [p] x = if hasPg p x = true then some p.v else none := by
  rw [fsPg, valPg]
  split <;> rfl

/-- A timeline. -/
def linkPg (p q : Pg V) : Prop := p.t ≤ q.f ∧ (p.t = q.f → p.v ≠ q.v)
def TLg : List (Pg V) → Prop
  | [] => True
  | [p] => rightP p.f p.t = true
  | p :: q :: l => rightP p.f p.t = true ∧ linkPg p q ∧ TLg (q :: l)
theorem TLg.tail {p : Pg V} : ∀ {l : List (Pg V)}, TLg (p :: l) → TLg l
  | [], _ => trivial
  | _ :: _, h => h.2.2
theorem TLg.head {p : Pg V} : ∀ {l : List (Pg V)}, TLg (p :: l) → rightP p.f p.t = true
  | [], h => h
  | _ :: _, h => h.1
theorem right_ltg {f t : Int} (h : rightP f t = true) : -1099511627776 ≤ f ∧ f < t ∧ t ≤ 1099511627776 := by
  simp only [rightP, Bool.and_eq_true, decide_eq_true_eq] at h
  omega
theorem TLg.behind : ∀ {l : List (Pg V)} {p : Pg V}, TLg (p :: l) → ∀ q ∈ l, p.t ≤ q.f
  | [], _, _, q, hq => by simp at hq
  | r :: l, p, h, q, hq => by
    have h1 := h.2.1.1
    rcases List.mem_cons.1 hq with rfl | hq
    · exact h1
    · have := TLg.behind h.2.2 q hq
      have := right_ltg h.2.2.head
      omega
theorem TLg.rights : ∀ {l : List (Pg V)}, TLg l → ∀ p ∈ l, rightP p.f p.t = true
  | [], _, p, hp => by simp at hp
  | q :: l, h, p, hp => by
    rcases List.mem_cons.1 hp with rfl | hp
    · exact h.head
    · exact TLg.rights h.tail p hp
theorem has_atg {p : Pg V} (h : rightP p.f p.t = true) {x : Int} (h1 : p.f ≤ x) (h2 : x < p.t) : hasPg p x = true := by
  have := right_ltg h
  rw [hasP_iffg]; omega
theorem fs_headg {p : Pg V} {l : List (Pg V)} (h : TLg (p :: l)) {x : Int} (h1 : p.f ≤ x) (h2 : x < p.t) : fsPg (p :: l) x = some p.v := by
  rw [fsPg, valPg, if_pos (has_atg h.head h1 h2)]; rfl
theorem fs_belowg {p : Pg V} {l : List (Pg V)} (h : TLg (p :: l)) {x : Int} (h1 : x < p.f) : fsPg (p :: l) x = none := fsP_noneg fun q hq hh => by
  rw [hasP_iffg] at hh
  have := right_ltg h.head
  rcases List.mem_cons.1 hq with rfl | hq
  · omega
  · have := h.behind q hq
    omega
theorem fs_tailg {p : Pg V} {l : List (Pg V)} (h : TLg (p :: l)) (x : Int) : fsPg l x = if x < p.t then none else fsPg (p :: l) x := by
  split
  · exact fsP_noneg fun q hq hh => by
      rw [hasP_iffg] at hh
      have := h.behind q hq
      omega
  · have : ¬ hasPg p x = true := fun hh => by rw [hasP_iffg] at hh; omega
    rw [fsPg, fsPg, valPg, if_neg this]
/-- At its end the first piece's fields are not told. -/
theorem fs_endg {p : Pg V} {l : List (Pg V)} (h : TLg (p :: l)) : fsPg (p :: l) p.t ≠ some p.v := by
  have hn : ¬ hasPg p p.t = true := fun hh => by rw [hasP_iffg] at hh; omega
  have e : fsPg (p :: l) p.t = fsPg l p.t := by rw [fsPg, fsPg, valPg, if_neg hn]
  rw [e]
  cases l with
  | nil => simp [fsPg, valPg]
  | cons q l =>
    obtain ⟨h1, h2, h3⟩ := h
    have hq := right_ltg h3.head
    by_cases he : p.t = q.f
    · rw [fs_headg h3 (by omega) (by omega)]
      intro e2
      injection e2 with e2
      exact h2.2 he e2.symm
    · rw [fs_belowg h3 (by have := h2.1; omega)]
      simp
/-- A timeline is told by what it has at each time. -/
theorem tl_extg : ∀ {a b : List (Pg V)}, TLg a → TLg b → (∀ x, fsPg a x = fsPg b x) → a = b
  | [], [], _, _, _ => rfl
  | [], q :: m, _, hb, h => by
    have := h q.f
    have hq := right_ltg hb.head
    rw [fs_headg hb (by omega) (by omega)] at this
    simp [fsPg, valPg] at this
  | p :: l, [], ha, _, h => by
    have := h p.f
    have hp := right_ltg ha.head
    rw [fs_headg ha (by omega) (by omega)] at this
    simp [fsPg, valPg] at this
  | p :: l, q :: m, ha, hb, h => by
    have hp := right_ltg ha.head
    have hq := right_ltg hb.head
    have ep := fs_headg ha (x := p.f) (by omega) (by omega)
    have eq := fs_headg hb (x := q.f) (by omega) (by omega)
    have hf : p.f = q.f := by
      rcases Int.lt_trichotomy p.f q.f with hlt | he | hgt
      · rw [h, fs_belowg hb hlt] at ep; cases ep
      · exact he
      · rw [← h, fs_belowg ha hgt] at eq; cases eq
    have hs : p.v = q.v := by
      have := h p.f
      rw [ep, hf, eq] at this
      injection this
    have ht : p.t = q.t := by
      rcases Int.lt_trichotomy p.t q.t with hlt | he | hgt
      · have := fs_endg ha
        rw [h, fs_headg hb (by omega) hlt, hs] at this
        exact absurd rfl this
      · exact he
      · have := fs_endg hb
        rw [← h, fs_headg ha (by omega) hgt, hs] at this
        exact absurd rfl this
    have hpq : p = q := by
      obtain ⟨f, t, v⟩ := p
      obtain ⟨f', t', v'⟩ := q
      simp only at hf hs ht
      rw [hf, hs, ht]
    rw [hpq, tl_extg ha.tail hb.tail (fun x => by rw [fs_tailg ha, fs_tailg hb, ht, h])]
/-- What each piece has is told at its beginning. -/
theorem fs_memg : ∀ {l : List (Pg V)}, TLg l → ∀ p ∈ l, fsPg l p.f = some p.v
  | [], _, p, hp => by simp at hp
  | q :: l, h, p, hp => by
    rcases List.mem_cons.1 hp with rfl | hp
    · have := right_ltg h.head
      exact fs_headg h (by omega) (by omega)
    · have h1 := fs_memg h.tail p hp
      have h2 := h.behind p hp
      rw [fs_tailg h, if_neg (by omega)] at h1
      exact h1

/-- A piece behind a timeline. -/
def putPg [DecidableEq V] (l : List (Pg V)) (p : Pg V) : List (Pg V) := match l.getLast? with
  | none => [p]
  | some q => if q.t = p.f ∧ q.v = p.v then l.dropLast ++ [{ q with t := p.t }] else l ++ [p]
theorem TLg.snoc : ∀ {l : List (Pg V)} {p : Pg V}, TLg l → rightP p.f p.t = true → (∀ q, l.getLast? = some q → linkPg q p) → TLg (l ++ [p])
  | [], _, _, hp, _ => hp
  | [q], p, h, hp, hl => ⟨h, hl q rfl, hp⟩
  | q :: r :: l, p, h, hp, hl => ⟨h.1, h.2.1, TLg.snoc (l := r :: l) h.2.2 hp (fun s hs => hl s (by simpa using hs))⟩
theorem TLg.init : ∀ {l m : List (Pg V)}, TLg (l ++ m) → TLg l
  | [], _, _ => trivial
  | [_], _, h => h.head
  | _ :: q :: l, _, h => ⟨h.1, h.2.1, TLg.init (l := q :: l) h.2.2⟩
theorem TLg.last : ∀ {l : List (Pg V)} {p : Pg V}, TLg (l ++ [p]) → rightP p.f p.t = true ∧ (∀ q ∈ l, q.t ≤ p.f) ∧ ∀ q, l.getLast? = some q → linkPg q p
  | [], _, h => ⟨h, by simp, by simp⟩
  | [q], _, h => ⟨h.2.2, by simpa using h.2.1.1, by simpa using h.2.1⟩
  | q :: r :: l, p, h => by
    obtain ⟨h1, h2, h3⟩ := TLg.last (l := r :: l) (p := p) h.2.2
    refine ⟨h1, fun s hs => ?_, fun s hs => h3 s (by simpa using hs)⟩
    rcases List.mem_cons.1 hs with rfl | hs
    · exact TLg.behind h p (by simp)
    · exact h2 s hs
theorem link_fsg {q q' p : Pg V} (h : linkPg q p) (h1 : q'.t = q.t) (h2 : q'.v = q.v) : linkPg q' p := by
  unfold linkPg at *
  rw [h1, h2]; exact h
/-- What is put behind a timeline. -/
structure PutTog (l : List (Pg V)) (p : Pg V) (m : List (Pg V)) : Prop where
  tl : TLg m
  fs : ∀ x, fsPg m x = if p.f ≤ x ∧ x < p.t then some p.v else fsPg l x
  le : ∀ q ∈ m, q.t ≤ p.t
  len : m.length ≤ l.length + 1
  mem : ∀ q ∈ m, q.v = p.v ∨ ∃ r ∈ l, q.v = r.v
theorem fs_pastg {l : List (Pg V)} {x : Int} (h : ∀ q ∈ l, q.t ≤ x) : fsPg l x = none := fsP_noneg fun q hq hh => by
  rw [hasP_iffg] at hh
  have := h q hq
  omega
theorem put_tog [DecidableEq V] {l : List (Pg V)} {p : Pg V} (hl : TLg l) (hp : rightP p.f p.t = true) (hle : ∀ q ∈ l, q.t ≤ p.f) : PutTog l p (putPg l p) := by
  have hr := right_ltg hp
  rcases List.eq_nil_or_concat l with rfl | ⟨m, q, rfl⟩
  · refine ⟨hp, fun x => ?_, by simp [putPg], by simp [putPg], by simp [putPg]⟩
    show fsPg [p] x = _
    rw [fsP_oneg]
    by_cases hx : p.f ≤ x ∧ x < p.t
    · rw [if_pos hx, if_pos (has_atg hp hx.1 hx.2)]
    · rw [if_neg hx, if_neg (fun hh => by rw [hasP_iffg] at hh; exact hx hh.2)]; rfl
  · rw [List.concat_eq_append] at hl hle ⊢
    obtain ⟨h1, h2, h3⟩ := hl.last
    have hq := hle q (by simp)
    have hqr := right_ltg h1
    unfold putPg
    rw [show (m ++ [q]).getLast? = some q by simp, List.dropLast_concat]
    simp only
    by_cases hj : q.t = p.f ∧ q.v = p.v
    · rw [if_pos hj]
      refine ⟨hl.init.snoc ?_ (fun s hs => ⟨(h3 s hs).1, fun e => (h3 s hs).2 e⟩), fun x => ?_, ?_, by simp, ?_⟩
      · show rightP q.f p.t = true
        simp only [rightP, Bool.and_eq_true, decide_eq_true_eq]; omega
      · rw [fsP_appendg, fsP_appendg, fsP_oneg, fsP_oneg]
        by_cases hx : p.f ≤ x ∧ x < p.t
        · rw [if_pos hx, fs_pastg (fun s hs => by have := h2 s hs; omega)]
          simp only
          rw [if_pos, hj.2]
          rw [hasP_iffg]
          show (-1099511627776 ≤ q.f ∧ p.t ≤ 1099511627776 ∧ q.f < p.t) ∧ q.f ≤ x ∧ x < p.t
          omega
        · rw [if_neg hx]
          have : (hasPg { q with t := p.t } x = true) ↔ (hasPg q x = true) := by
            rw [hasP_iffg, hasP_iffg]
            show ((-1099511627776 ≤ q.f ∧ p.t ≤ 1099511627776 ∧ q.f < p.t) ∧ q.f ≤ x ∧ x < p.t) ↔ _
            omega
          simp only [this]
      · intro s hs
        rcases List.mem_append.1 hs with hs | hs
        · have := h2 s hs; omega
        · obtain rfl := List.mem_singleton.1 hs
          exact Int.le_refl _
      · intro s hs
        rcases List.mem_append.1 hs with hs | hs
        · exact .inr ⟨s, by simp [hs], rfl⟩
        · obtain rfl := List.mem_singleton.1 hs
          exact .inl hj.2
    · rw [if_neg hj]
      refine ⟨hl.snoc hp (fun s hs => ?_), fun x => ?_, ?_, by simp, ?_⟩
      · rw [show (m ++ [q]).getLast? = some q by simp] at hs
        injection hs with hs
        subst hs
        exact ⟨hq, fun e e2 => hj ⟨e, e2⟩⟩
      · rw [fsP_appendg, fsP_oneg]
        by_cases hx : p.f ≤ x ∧ x < p.t
        · rw [if_pos hx, fs_pastg (fun s hs => by have := hle s hs; omega), if_pos (has_atg hp hx.1 hx.2)]
        · rw [if_neg hx, if_neg (fun hh => by rw [hasP_iffg] at hh; exact hx hh.2)]
          cases fsPg (m ++ [q]) x <;> rfl
      · intro s hs
        rcases List.mem_append.1 hs with hs | hs
        · have := hle s hs; omega
        · obtain rfl := List.mem_singleton.1 hs
          exact Int.le_refl _
      · intro s hs
        rcases List.mem_append.1 hs with hs | hs
        · exact .inr ⟨s, hs, rfl⟩
        · obtain rfl := List.mem_singleton.1 hs
          exact .inl rfl

/-- A timeline that is made from end to end. -/
structure MadeTg (ts : List Int) (g : Int → Option V) (i : Nat) (o : List (Pg V)) : Prop where
  tl : TLg o
  le : ∀ e, ts[i]? = some e → ∀ q ∈ o, q.t ≤ e
  fs : ∀ e, ts[i]? = some e → ∀ x, fsPg o x = if x < e then g x else none
  len : o.length ≤ i
/-- What is to be made is the same from one end to the next one, and nothing outside of them. -/
structure Stepsg (ts : List Int) (g : Int → Option V) : Prop where
  up : ts.Pairwise (· < ·)
  lim : ∀ e ∈ ts, -1099511627776 ≤ e ∧ e ≤ 1099511627776
  const : ∀ (i : Nat) (a b x : Int), ts[i]? = some a → ts[i + 1]? = some b → a ≤ x → x < b → g x = g a
  ahead : ∀ x, (∀ e, ts[0]? = some e → x < e) → g x = none
  behind : ∀ x, (∀ e ∈ ts, e ≤ x) → g x = none
theorem MadeTg.start {ts : List Int} {g : Int → Option V} (h : Stepsg ts g) : MadeTg ts g 0 [] :=
  ⟨trivial, fun e _ q hq => by simp at hq, fun e he x => by
    by_cases hx : x < e
    · rw [if_pos hx, h.ahead x (fun e' he' => by rw [he] at he'; injection he' with he'; omega)]; rfl
    · rw [if_neg hx]; rfl, Nat.le_refl _⟩
theorem steps_ltg {ts : List Int} {g : Int → Option V} (h : Stepsg ts g) {i : Nat} {f t : Int} (hf : ts[i]? = some f) (ht : ts[i + 1]? = some t) : f < t ∧ -1099511627776 ≤ f ∧ t ≤ 1099511627776 := by
  obtain ⟨h1, rfl⟩ := List.getElem?_eq_some_iff.1 hf
  obtain ⟨h2, rfl⟩ := List.getElem?_eq_some_iff.1 ht
  exact ⟨List.pairwise_iff_getElem.1 h.up i (i + 1) h1 h2 (by omega), (h.lim _ (List.getElem_mem h1)).1, (h.lim _ (List.getElem_mem h2)).2⟩
theorem MadeTg.skip {ts : List Int} {g : Int → Option V} (h : Stepsg ts g) {i : Nat} {o : List (Pg V)} (k : MadeTg ts g i o) {f t : Int} (hf : ts[i]? = some f) (ht : ts[i + 1]? = some t) (hg : g f = none) : MadeTg ts g (i + 1) o := by
  have hlt := steps_ltg h hf ht
  refine ⟨k.tl, fun e he q hq => ?_, fun e he x => ?_, by have := k.len; omega⟩
  · rw [ht] at he; injection he with he; subst he
    have := k.le f hf q hq; omega
  · rw [ht] at he; injection he with he; subst he
    rw [k.fs f hf]
    by_cases h1 : x < f
    · rw [if_pos h1, if_pos (by omega)]
    · rw [if_neg h1]
      by_cases h2 : x < t
      · rw [if_pos h2, h.const i f t x hf ht (by omega) h2, hg]
      · rw [if_neg h2]
theorem MadeTg.next [DecidableEq V] {ts : List Int} {g : Int → Option V} (h : Stepsg ts g) {i : Nat} {o : List (Pg V)} (k : MadeTg ts g i o) {p : Pg V} (hf : ts[i]? = some p.f) (ht : ts[i + 1]? = some p.t) (hg : g p.f = some p.v) : MadeTg ts g (i + 1) (putPg o p) := by
  have hlt := steps_ltg h hf ht
  have hp : rightP p.f p.t = true := by simp only [rightP, Bool.and_eq_true, decide_eq_true_eq]; omega
  have hpt := put_tog k.tl hp (k.le p.f hf)
  refine ⟨hpt.tl, fun e he q hq => ?_, fun e he x => ?_, by have := k.len; have := hpt.len; omega⟩
  · rw [ht] at he; injection he with he; subst he
    exact hpt.le q hq
  · rw [ht] at he; injection he with he; subst he
    rw [hpt.fs, k.fs p.f hf]
    by_cases h1 : p.f ≤ x ∧ x < p.t
    · rw [if_pos h1, if_pos h1.2, h.const i p.f p.t x hf ht h1.1 h1.2, hg]
    · rw [if_neg h1]
      by_cases h2 : x < p.f
      · rw [if_pos h2, if_pos (by omega)]
      · rw [if_neg h2, if_neg (by omega)]
theorem MadeTg.stop {ts : List Int} {g : Int → Option V} (h : Stepsg ts g) {i : Nat} {o : List (Pg V)} (k : MadeTg ts g i o) (hi : ts.length = i + 1) : TLg o ∧ ∀ x, fsPg o x = g x := by
  refine ⟨k.tl, fun x => ?_⟩
  obtain ⟨e, he⟩ : ∃ e, ts[i]? = some e := ⟨_, List.getElem?_eq_getElem (by omega)⟩
  rw [k.fs e he]
  split
  · rfl
  · rw [h.behind x (fun a ha => by
      obtain ⟨j, hj⟩ := List.mem_iff_getElem?.1 ha
      have hjl := (List.getElem?_eq_some_iff.1 hj).1
      rcases Nat.lt_or_ge j i with hji | hji
      · obtain ⟨h1, rfl⟩ := List.getElem?_eq_some_iff.1 hj
        obtain ⟨h2, rfl⟩ := List.getElem?_eq_some_iff.1 he
        have := List.pairwise_iff_getElem.1 h.up j i h1 h2 hji
        omega
      · obtain rfl : j = i := by omega
        rw [he] at hj; injection hj with hj; omega)]

end
end Go.Proofs.Ytnopbhlhdecimaa

/-
  The world behind a stretch of a walk, named by what is known of it.
-/
namespace Go.Proofs.Ytnopbhlhdecimaa
open Go.RowKit

theorem abstract_worldW {P : Program} {code : Code} {Q : Exit → Act → World → Prop} {a : Act} {w : World} (R : World → Prop) (h0 : R w) (h : ∀ W, R W → Code.wp P code Q a W) : Code.wp P code Q a w := h w h0
theorem abstract_then {next : Act → World → Prop} {Q : Exit → Act → World → Prop} {a : Act} {w : World} (R : World → Prop) (h0 : R w) (h : ∀ W, R W → Exit.then next Q .normal a W) : Exit.then next Q .normal a w := h w h0

end Go.Proofs.Ytnopbhlhdecimaa

/-
  Changes between timelines: what they say at each time; applied: plain facts.
-/
namespace Go.Proofs.Ytnopbhlhdecimaa
open Classical

/-- A change; where its fields lie is no part of what it says. -/
structure Ch where
  f : Int
  t : Int
  had : Bool
  has : Bool
  oa : Option Addr
  oc : Nat
  os : List Fd
  na : Option Addr
  nc : Nat
  ns : List Fd
abbrev VC := Bool × Bool × List Fd × List Fd
abbrev vC (c : Ch) : VC := (c.had, c.has, c.os, c.ns)
abbrev pgC (c : Ch) : Pg VC := ⟨c.f, c.t, vC c⟩
def pgs (l : List Ch) : List (Pg VC) := l.map pgC
/-- Do two changes, two lists of them, say the same? -/
def alikeC (c d : Ch) : Bool := (c.had == d.had) && (c.has == d.has) && sameF c.os d.os && sameF c.ns d.ns
def sameC1 (c d : Ch) : Bool := (decide (c.f = d.f) && decide (c.t = d.t)) && alikeC c d
def sameC : List Ch → List Ch → Bool
  | [], [] => true
  | c :: l, d :: m => sameC1 c d && sameC l m
  | _, _ => false
theorem alikeC_iff (c d : Ch) : alikeC c d = true ↔ vC c = vC d := by
  obtain ⟨f, t, had, has, oa, oc, os, na, nc, ns⟩ := c
  obtain ⟨f', t', had', has', oa', oc', os', na', nc', ns'⟩ := d
  simp only [alikeC, vC, Bool.and_eq_true, beq_iff_eq, Prod.mk.injEq]
  constructor
  · rintro ⟨⟨⟨h1, h2⟩, h3⟩, h4⟩
    exact ⟨h1, h2, sameF_eq _ _ h3, sameF_eq _ _ h4⟩
  · rintro ⟨h1, h2, h3, h4⟩
    rw [h3, h4]
    exact ⟨⟨⟨h1, h2⟩, sameF_self _⟩, sameF_self _⟩
theorem sameC_pgs : ∀ {l m : List Ch}, pgs l = pgs m → sameC l m = true
  | [], [], _ => rfl
  | [], _ :: _, h => by simp [pgs] at h
  | _ :: _, [], h => by simp [pgs] at h
  | c :: l, d :: m, h => by
    unfold pgs at h
    rw [List.map_cons, List.map_cons] at h
    injection h with h1 h2
    injection h1 with h3 h4 h5
    rw [sameC, sameC_pgs h2, sameC1, decide_eq_true h3, decide_eq_true h4, (alikeC_iff c d).2 h5]
    rfl
theorem sameC_len : ∀ (a b : List Ch), a.length ≠ b.length → sameC a b = false
  | [], [], h => absurd rfl h
  | [], _ :: _, _ => rfl
  | _ :: _, [], _ => rfl
  | x :: a, y :: b, h => by
    rw [sameC, sameC_len a b (fun e => h (by simp [e])), Bool.and_false]

/-- What is different at a time. -/
def oldC (c : Ch) : Option (List Fd) := if c.had = true then some c.os else none
def newC (c : Ch) : Option (List Fd) := if c.has = true then some c.ns else none
noncomputable def diffO (p q : Option (List Fd)) : Option VC := if p = q then none else some (p.isSome, q.isSome, p.getD [], q.getD [])
noncomputable def diffV (a b : List Pc) (x : Int) : Option VC := if (rightT a && rightT b) = true then diffO (fsP a x) (fsP b x) else none
def swapV (v : VC) : VC := (v.2.1, v.1, v.2.2.2, v.2.2.1)
theorem diffO_swap (p q : Option (List Fd)) : diffO q p = (diffO p q).map swapV := by
  unfold diffO
  by_cases h : p = q
  · rw [if_pos h, if_pos h.symm]; rfl
  · rw [if_neg h, if_neg (fun e => h e.symm)]; rfl
theorem diffV_swap (a b : List Pc) (x : Int) : diffV b a x = (diffV a b x).map swapV := by
  unfold diffV
  rw [Bool.and_comm, diffO_swap]
  split <;> rfl
/-- The same changes the other way round. -/
def backC (c : Ch) : Ch := ⟨c.f, c.t, c.has, c.had, c.na, c.nc, c.ns, c.oa, c.oc, c.os⟩
theorem swapV_inj {u v : VC} (h : swapV u = swapV v) : u = v := by
  obtain ⟨a, b, c, d⟩ := u
  obtain ⟨a', b', c', d'⟩ := v
  simp only [swapV, Prod.mk.injEq] at h
  obtain ⟨h1, h2, h3, h4⟩ := h
  rw [h1, h2, h3, h4]
theorem back_tl : ∀ {l : List Ch}, TLg (pgs l) → TLg (pgs (l.map backC))
  | [], _ => trivial
  | [c], h => h
  | c :: d :: l, h => by
    obtain ⟨h1, h2, h3⟩ := h
    refine ⟨h1, ⟨h2.1, fun e k => h2.2 e ?_⟩, back_tl (l := d :: l) h3⟩
    exact swapV_inj (u := vC c) (v := vC d) k
theorem back_val : ∀ (l : List Ch) (x : Int), fsPg (pgs (l.map backC)) x = (fsPg (pgs l) x).map swapV
  | [], x => rfl
  | c :: l, x => by
    have ih := back_val l x
    unfold pgs at ih ⊢
    rw [List.map_cons, List.map_cons, List.map_cons, fsPg, fsPg, valPg, valPg]
    have e : hasPg (pgC (backC c)) x = hasPg (pgC c) x := rfl
    rw [e]
    split
    · rfl
    · exact ih

/-- A list of changes that tell what is different between two lists. -/
structure DiffL (a b : List Pc) (l : List Ch) : Prop where
  tl : TLg (pgs l)
  val : ∀ x, fsPg (pgs l) x = diffV a b x
theorem diff_same {a b : List Pc} {l m : List Ch} (hl : DiffL a b l) (hm : DiffL a b m) : sameC l m = true := sameC_pgs (tl_extg hl.tl hm.tl fun x => (hl.val x).trans (hm.val x).symm)
theorem diff_back {a b : List Pc} {l : List Ch} (h : DiffL a b l) : DiffL b a (l.map backC) := ⟨back_tl h.tl, fun x => by rw [back_val, h.val, diffV_swap a b]⟩
theorem diff_nil {a b : List Pc} {l : List Ch} (h : DiffL a b l) (hr : (rightT a && rightT b) = false) : l = [] := by
  have := tl_extg h.tl (b := []) trivial (fun x => by rw [h.val, diffV, hr]; rfl)
  cases l with
  | nil => rfl
  | cons c l => simp [pgs] at this
/-- What a change says of its times. -/
theorem diff_at {a b : List Pc} {l : List Ch} (h : DiffL a b l) (hr : (rightT a && rightT b) = true) {c : Ch} (hc : c ∈ l) {x : Int} (h1 : c.f ≤ x) (h2 : x < c.t) : fsP a x = oldC c ∧ fsP b x = newC c ∧ fsP a x ≠ fsP b x := by
  have hm : pgC c ∈ pgs l := List.mem_map.2 ⟨c, hc, rfl⟩
  have hv : fsPg (pgs l) x = some (vC c) := by
    have htl := h.tl
    clear h
    generalize pgs l = L at *
    induction L with
    | nil => simp at hm
    | cons p L ih =>
      rcases List.mem_cons.1 hm with e | hm
      · rw [← e]
        rw [← e] at htl
        exact fs_headg htl h1 h2
      · have := htl.behind _ hm
        have hh : ¬ hasPg p x = true := fun k => by
          rw [hasP_iffg] at k
          have e : p.t ≤ c.f := this
          omega
        rw [fsPg, valPg, if_neg hh]
        exact ih hm htl.tail
  rw [h.val, diffV, hr, if_pos rfl, diffO] at hv
  split at hv
  · cases hv
  · rename_i hne
    injection hv with hv
    simp only [Prod.mk.injEq] at hv
    obtain ⟨e1, e2, e3, e4⟩ := hv
    refine ⟨?_, ?_, hne⟩
    · unfold oldC
      rw [← e1, ← e3]
      cases fsP a x <;> rfl
    · unfold newC
      rw [← e2, ← e4]
      cases fsP b x <;> rfl
/-- Where no change is the lists are the same. -/
theorem diff_off {a b : List Pc} {l : List Ch} (h : DiffL a b l) (hr : (rightT a && rightT b) = true) {x : Int} (hx : ∀ c ∈ l, ¬ (c.f ≤ x ∧ x < c.t)) : fsP a x = fsP b x := by
  have hv : fsPg (pgs l) x = none := fsP_noneg fun p hp hh => by
    obtain ⟨c, hc, rfl⟩ := List.mem_map.1 hp
    rw [hasP_iffg] at hh
    exact hx c hc hh.2
  rw [h.val, diffV, hr, if_pos rfl, diffO] at hv
  split at hv
  · assumption
  · cases hv

/-- Has a list at each time of a change's span what it says? -/
def SaysC (a : List Pc) (c : Ch) : Prop := ∀ x, c.f ≤ x → x < c.t → fsP a x = oldC c
/-- What is wrong first with changes of a list. -/
noncomputable def wrongC (a : List Pc) : Option Int → List Ch → Nat
  | _, [] => 0
  | e, c :: l => if rightP c.f c.t = false then 3 else if (∃ t, e = some t ∧ c.f < t) then 16 else if ¬ SaysC a c then 15 else wrongC a (some c.t) l
noncomputable def applyE (a : List Pc) (l : List Ch) : Nat := if rightT a = true then wrongC a none l else 2
/-- What is made of a list. -/
def newAt : List Ch → Int → Option Ch
  | [], _ => none
  | c :: l, x => if (decide (c.f ≤ x) && decide (x < c.t)) = true then some c else newAt l x
def appV (a : List Pc) (l : List Ch) (x : Int) : Option (List Fd) := match newAt l x with
  | some c => newC c
  | none => fsP a x
noncomputable def applyG (a : List Pc) (l : List Ch) (x : Int) : Option (List Fd) := if applyE a l = 0 then appV a l x else none
theorem newAt_mem : ∀ {l : List Ch} {x : Int} {c : Ch}, newAt l x = some c → c ∈ l ∧ c.f ≤ x ∧ x < c.t
  | [], _, _, h => by cases h
  | d :: l, x, c, h => by
    rw [newAt] at h
    split at h
    · rename_i hh
      injection h with h
      subst h
      rw [Bool.and_eq_true, decide_eq_true_eq, decide_eq_true_eq] at hh
      exact ⟨by simp, hh⟩
    · obtain ⟨h1, h2⟩ := newAt_mem h
      exact ⟨List.mem_cons_of_mem _ h1, h2⟩
theorem newAt_none : ∀ {l : List Ch} {x : Int}, newAt l x = none → ∀ c ∈ l, ¬ (c.f ≤ x ∧ x < c.t)
  | [], _, _, c, hc => by simp at hc
  | d :: l, x, h, c, hc => by
    rw [newAt] at h
    split at h
    · cases h
    · rename_i hh
      rcases List.mem_cons.1 hc with rfl | hc
      · intro k
        exact hh (by rw [Bool.and_eq_true, decide_eq_true_eq, decide_eq_true_eq]; exact k)
      · exact newAt_none h c hc
/-- The changes from a list to another one turn it into that. -/
theorem diff_wrong0 {a b : List Pc} (hr : (rightT a && rightT b) = true) : ∀ {l : List Ch} (e : Option Int), (∀ c ∈ l, ∀ x, c.f ≤ x → x < c.t → fsP a x = oldC c) → TLg (pgs l) → (∀ t, e = some t → ∀ c ∈ l, t ≤ c.f) → wrongC a e l = 0
  | [], _, _, _, _ => rfl
  | c :: l, e, hs, ht, he => by
    have h1 : rightP c.f c.t = true := TLg.head (p := pgC c) ht
    have h2 : ¬ ∃ t, e = some t ∧ c.f < t := by
      rintro ⟨t, he2, hlt⟩
      have := he t he2 c (by simp)
      omega
    have h3 : SaysC a c := hs c (by simp)
    rw [wrongC, if_neg (by rw [h1]; simp), if_neg h2, if_neg (by simpa using h3)]
    refine diff_wrong0 hr (some c.t) (fun d hd => hs d (List.mem_cons_of_mem _ hd)) (TLg.tail (p := pgC c) ht) (fun t e2 d hd => ?_)
    injection e2 with e2
    subst e2
    exact TLg.behind (p := pgC c) ht (pgC d) (List.mem_map.2 ⟨d, hd, rfl⟩)
theorem diff_applied {a b : List Pc} {l : List Ch} (h : DiffL a b l) (hr : (rightT a && rightT b) = true) : applyE a l = 0 ∧ ∀ x, applyG a l x = fsP b x := by
  have h0 : applyE a l = 0 := by
    rw [Bool.and_eq_true] at hr
    rw [applyE, if_pos hr.1]
    exact diff_wrong0 (b := b) (by rw [hr.1, hr.2]; rfl) none (fun c hc x h1 h2 => (diff_at h (by rw [hr.1, hr.2]; rfl) hc h1 h2).1) h.tl (fun t e => by cases e)
  refine ⟨h0, fun x => ?_⟩
  rw [applyG, if_pos h0, appV]
  cases hn : newAt l x with
  | none => exact diff_off h hr (newAt_none hn)
  | some c =>
    obtain ⟨hc, h1, h2⟩ := newAt_mem hn
    exact (diff_at h hr hc h1 h2).2.1.symm
theorem diff_none_iff {a b : List Pc} {l : List Ch} (h : DiffL a b l) (hr : (rightT a && rightT b) = true) : decide (l.length = 0) = sameP a b := by
  have hr2 := hr
  rw [Bool.and_eq_true, rightT_iff, rightT_iff] at hr2
  cases l with
  | nil =>
    rw [tl_same hr2.1 hr2.2 (fun x => diff_off h hr (fun c hc => by simp at hc))]
    rfl
  | cons c l =>
    have hc := TLg.head (p := pgC c) h.tl
    have hcr := right_lt hc
    have hd := diff_at h hr (c := c) (by simp) (x := c.f) (Int.le_refl _) hcr.2.1
    have hne : sameP a b = false := by
      cases hs : sameP a b with
      | false => rfl
      | true =>
        exfalso
        apply hd.2.2
        have key : ∀ {a b : List Pc}, sameP a b = true → ∀ x, fsP a x = fsP b x := by
          intro a
          induction a with
          | nil =>
            intro b hs x
            cases b with
            | nil => rfl
            | cons q m => cases hs
          | cons p a ih =>
            intro b hs x
            cases b with
            | nil => cases hs
            | cons q m =>
              rw [sameP, Bool.and_eq_true, sameP1, Bool.and_eq_true, Bool.and_eq_true, decide_eq_true_eq, decide_eq_true_eq] at hs
              obtain ⟨⟨⟨h1, h2⟩, h3⟩, h4⟩ := hs
              have e : hasP p x = hasP q x := by rw [hasP, hasP, h1, h2]
              have ih2 := ih h4 x
              unfold fsP at ih2 ⊢
              rw [valP, valP, e]
              split
              · show some p.fs = some q.fs
                rw [sameF_eq _ _ h3]
              · exact ih2
        exact key hs c.f
    rw [hne]
    simp
/-- Applied to what came of them, they are wrong at once. -/
theorem diff_again {a b : List Pc} {c : Ch} {l : List Ch} (h : DiffL a b (c :: l)) (hr : (rightT a && rightT b) = true) : applyE b (c :: l) = 15 := by
  have hr2 := hr
  rw [Bool.and_eq_true] at hr2
  have hc : rightP c.f c.t = true := TLg.head (p := pgC c) h.tl
  have hcr := right_lt hc
  have hd := diff_at h hr (c := c) (by simp) (x := c.f) (Int.le_refl _) hcr.2.1
  have h3 : ¬ SaysC b c := fun k => hd.2.2 (hd.1.trans (k c.f (Int.le_refl _) hcr.2.1).symm)
  rw [applyE, if_pos hr2.2, wrongC, if_neg (by rw [hc]; simp), if_neg (by rintro ⟨t, e, _⟩; cases e), if_pos h3]

end Go.Proofs.Ytnopbhlhdecimaa

/-
  Plain facts on the bytes of fields: what is put is taken, and what is taken is put as the same bytes.
-/
namespace Go.Proofs.Ytnopbhlhdecimaa

theorem zig_range {v : Int} (h : valB v = true) : 0 ≤ zig v ∧ zig v ≤ 4611686018427387903 := by
  unfold valB at h
  simp only [Bool.and_eq_true, decide_eq_true_eq] at h
  unfold zig
  split <;> omega
theorem intS_enc {v : Int} (h : valB v = true) : intS v = encS (zig v).toNat := by
  have h2 := zig_range h
  unfold valB at h
  simp only [Bool.and_eq_true, decide_eq_true_eq] at h
  rw [(int_ok h rfl).1]
  obtain ⟨m, hm⟩ : ∃ m : Nat, zig v = (m : Int) := ⟨(zig v).toNat, by omega⟩
  rw [hm, (num_ok (n := m) (by omega)).1, Int.toNat_natCast]
theorem unzig_zig {v : Int} : unzig (zig v).toNat = v := by
  unfold zig unzig
  by_cases h : v < 0
  · rw [if_pos h, if_pos (by omega)]; omega
  · rw [if_neg h, if_neg (by omega)]; omega
theorem zig_unzig (n : Nat) : zig (unzig n) = (n : Int) := by
  unfold zig unzig
  by_cases h : n % 2 = 1
  · rw [if_pos h, if_pos (by omega)]; omega
  · rw [if_neg h, if_neg (by omega)]; omega
theorem valB_unzig {n : Nat} (h : n < 4611686018427387904) : valB (unzig n) = true := by
  unfold valB unzig
  simp only [Bool.and_eq_true, decide_eq_true_eq]
  split <;> omega
theorem int_takenF {v : Int} (h : valB v = true) (b : ByteArray) : unzig (tkN (intS v ++ b)) = v ∧ tkR (intS v ++ b) = b ∧ tkE (intS v ++ b) = 0 := by
  have h2 := zig_range h
  rw [intS_enc h]
  obtain ⟨k1, k2, k3⟩ := tk_enc (n := (zig v).toNat) (by omega) b
  exact ⟨by rw [k1, unzig_zig], k2, k3⟩
theorem int_againF {s : ByteArray} (h : tkE s = 0) : intS (unzig (tkN s)) ++ tkR s = s := by
  rw [intS_enc (valB_unzig (tkN_lt s)), zig_unzig, Int.toNat_natCast]
  exact tk_again h

/-- The bytes of a field, of fields. -/
def oneS (f : Fd) : ByteArray := textS f.n ++ intS f.v
def manyS : List Fd → ByteArray
  | [] => ⟨#[]⟩
  | f :: l => oneS f ++ manyS l
theorem empty_append (s : ByteArray) : (⟨#[]⟩ : ByteArray) ++ s = s := by
  apply nats_inj
  rw [nats_append]; rfl
theorem append_empty (s : ByteArray) : s ++ (⟨#[]⟩ : ByteArray) = s := by
  apply nats_inj
  rw [nats_append, nats_nil, List.append_nil]
theorem manyS_append : ∀ l m : List Fd, manyS (l ++ m) = manyS l ++ manyS m
  | [], m => by rw [List.nil_append, manyS, empty_append]
  | f :: l, m => by rw [List.cons_append, manyS, manyS, manyS_append l m, ByteArray.append_assoc]
/-- What Put answers. -/
def putS (l : List Fd) : ByteArray := if rightE l = 0 then encS l.length ++ manyS l else ⟨#[]⟩
/-- Is a name one, and behind the one ahead? -/
def behindB : Option ByteArray → ByteArray → Bool
  | none, s => nameB s
  | some p, s => nameB s && aheadB p s
/-- The fields that s begins with, behind a name. -/
def takeG : Nat → Option ByteArray → ByteArray → List Fd × ByteArray × Nat
  | 0, _, s => ([], s, 0)
  | n + 1, o, s =>
    if ttE s 12 ≠ 0 then ([], ⟨#[]⟩, ttE s 12)
    else if behindB o (ttS s 12) = false then ([], ⟨#[]⟩, 8)
    else if tkE (ttR s 12) ≠ 0 then ([], ⟨#[]⟩, tkE (ttR s 12))
    else if (takeG n (some (ttS s 12)) (tkR (ttR s 12))).2.2 ≠ 0 then ([], ⟨#[]⟩, (takeG n (some (ttS s 12)) (tkR (ttR s 12))).2.2)
    else (⟨ttS s 12, unzig (tkN (ttR s 12))⟩ :: (takeG n (some (ttS s 12)) (tkR (ttR s 12))).1, (takeG n (some (ttS s 12)) (tkR (ttR s 12))).2.1, 0)
def takeF (s : ByteArray) : List Fd × ByteArray × Nat :=
  if tkE s ≠ 0 then ([], ⟨#[]⟩, tkE s) else if 8 < tkN s then ([], ⟨#[]⟩, 4) else takeG (tkN s) none (tkR s)
/-- What is behind fields that have been taken. -/
def goOn (acc : List Fd) (t : List Fd × ByteArray × Nat) : List Fd × ByteArray × Nat := if t.2.2 ≠ 0 then ([], ⟨#[]⟩, t.2.2) else (acc ++ t.1, t.2.1, 0)
theorem takeG_err {n : Nat} {o : Option ByteArray} {s : ByteArray} (h : (takeG n o s).2.2 ≠ 0) : takeG n o s = ([], ⟨#[]⟩, (takeG n o s).2.2) := by
  cases n with
  | zero => exact absurd rfl h
  | succ n =>
    rw [takeG] at h ⊢
    by_cases h1 : ttE s 12 ≠ 0
    · rw [if_pos h1]
    · rw [if_neg h1] at h ⊢
      by_cases h2 : behindB o (ttS s 12) = false
      · rw [if_pos h2]
      · rw [if_neg h2] at h ⊢
        by_cases h3 : tkE (ttR s 12) ≠ 0
        · rw [if_pos h3]
        · rw [if_neg h3] at h ⊢
          by_cases h4 : (takeG n (some (ttS s 12)) (tkR (ttR s 12))).2.2 ≠ 0
          · rw [if_pos h4]
          · rw [if_neg h4] at h
            exact absurd rfl h
theorem goOn_start (t : List Fd × ByteArray × Nat) (h : t.2.2 ≠ 0 → t = ([], ⟨#[]⟩, t.2.2)) : goOn [] t = t := by
  unfold goOn
  by_cases h1 : t.2.2 ≠ 0
  · rw [if_pos h1]; exact (h h1).symm
  · rw [if_neg h1]
    have : t.2.2 = 0 := by omega
    rw [List.nil_append]
    obtain ⟨a, b, c⟩ := t
    obtain rfl : c = 0 := this
    rfl
theorem goOn_text {acc : List Fd} {n : Nat} {o : Option ByteArray} {s : ByteArray} (h : ttE s 12 ≠ 0) : goOn acc (takeG (n + 1) o s) = ([], ⟨#[]⟩, ttE s 12) := by
  rw [takeG, if_pos h, goOn, if_pos h]
theorem goOn_form {acc : List Fd} {n : Nat} {o : Option ByteArray} {s : ByteArray} (h : ttE s 12 = 0) (h2 : behindB o (ttS s 12) = false) : goOn acc (takeG (n + 1) o s) = ([], ⟨#[]⟩, 8) := by
  rw [takeG, if_neg (by omega), if_pos h2, goOn, if_pos (by decide)]
theorem goOn_int {acc : List Fd} {n : Nat} {o : Option ByteArray} {s : ByteArray} (h : ttE s 12 = 0) (h2 : behindB o (ttS s 12) = true) (h3 : tkE (ttR s 12) ≠ 0) : goOn acc (takeG (n + 1) o s) = ([], ⟨#[]⟩, tkE (ttR s 12)) := by
  rw [takeG, if_neg (by omega), if_neg (by rw [h2]; simp), if_pos h3, goOn, if_pos h3]
theorem goOn_next {acc : List Fd} {n : Nat} {o : Option ByteArray} {s : ByteArray} (h : ttE s 12 = 0) (h2 : behindB o (ttS s 12) = true) (h3 : tkE (ttR s 12) = 0) :
    goOn acc (takeG (n + 1) o s) = goOn (acc ++ [⟨ttS s 12, unzig (tkN (ttR s 12))⟩]) (takeG n (some (ttS s 12)) (tkR (ttR s 12))) := by
  rw [takeG, if_neg (by omega), if_neg (by rw [h2]; simp), if_neg (by omega)]
  by_cases h4 : (takeG n (some (ttS s 12)) (tkR (ttR s 12))).2.2 ≠ 0
  · rw [if_pos h4, goOn, if_pos h4, goOn, if_pos h4]
  · rw [if_neg h4, goOn, if_neg (by simp), goOn, if_neg h4, List.append_assoc]
    rfl
theorem goOn_end (acc : List Fd) (o : Option ByteArray) (s : ByteArray) : goOn acc (takeG 0 o s) = (acc, s, 0) := by
  rw [takeG, goOn, if_neg (by simp), List.append_nil]

theorem behind_right {o : Option ByteArray} {f : Fd} {l : List Fd} : rightG o (f :: l) = 0 ↔ behindB o f.n = true ∧ valB f.v = true ∧ rightG (some f.n) l = 0 := by
  have e1 : oneE f = 0 ↔ nameB f.n = true ∧ valB f.v = true := by
    unfold oneE
    cases nameB f.n <;> cases valB f.v <;> simp
  cases o with
  | none =>
    rw [rightG_none, behindB]
    by_cases h : oneE f = 0
    · rw [if_pos h]
      have := e1.1 h
      simp [this]
    · rw [if_neg h]
      constructor
      · intro h2; exact absurd h2 h
      · intro h2; exact absurd (e1.2 ⟨h2.1, h2.2.1⟩) h
  | some p =>
    rw [rightG_some, behindB]
    by_cases h : oneE f = 0
    · rw [if_pos h]
      have := e1.1 h
      cases ha : aheadB p f.n <;> simp [this]
    · rw [if_neg h]
      constructor
      · intro h2; exact absurd h2 h
      · intro h2
        rw [Bool.and_eq_true] at h2
        exact absurd (e1.2 ⟨h2.1.1, h2.2.1⟩) h
theorem behind_name {o : Option ByteArray} {s : ByteArray} (h : behindB o s = true) : nameB s = true := by
  cases o with
  | none => exact h
  | some p => rw [behindB, Bool.and_eq_true] at h; exact h.1
theorem name_size {s : ByteArray} (h : nameB s = true) : s.size ≤ 12 := by
  unfold nameB at h
  rw [nameL_pre] at h
  simp only [Bool.and_eq_true, decide_eq_true_eq] at h
  rw [← nats_length]
  exact h.2.2
/-- What is put is taken. -/
theorem take_put : ∀ (l : List Fd) (o : Option ByteArray) (b : ByteArray), rightG o l = 0 → takeG l.length o (manyS l ++ b) = (l, b, 0)
  | [], _, b, _ => by rw [manyS, empty_append]; rfl
  | f :: l, o, b, h => by
    obtain ⟨h1, h2, h3⟩ := behind_right.1 h
    have hz := name_size (behind_name h1)
    have e : manyS (f :: l) ++ b = textS f.n ++ (intS f.v ++ (manyS l ++ b)) := by rw [manyS, oneS, ByteArray.append_assoc, ByteArray.append_assoc]
    obtain ⟨t1, t2, t3⟩ := tt_text (s := f.n) (b := intS f.v ++ (manyS l ++ b)) (most := 12) (by omega) (by omega)
    obtain ⟨i1, i2, i3⟩ := int_takenF h2 (manyS l ++ b)
    have ih := take_put l (some f.n) b h3
    rw [List.length_cons, e, takeG, t1, t2, t3, i1, i2, i3, ih]
    simp [h1]
/-- What is taken is put as the same bytes. -/
theorem put_take : ∀ (n : Nat) (o : Option ByteArray) (s : ByteArray), (takeG n o s).2.2 = 0 → (takeG n o s).1.length = n ∧ rightG o (takeG n o s).1 = 0 ∧ manyS (takeG n o s).1 ++ (takeG n o s).2.1 = s
  | 0, o, s, _ => by
    refine ⟨rfl, ?_, ?_⟩
    · cases o <;> rfl
    · show manyS [] ++ s = s
      rw [manyS, empty_append]
  | n + 1, o, s, h => by
    rw [takeG] at h ⊢
    by_cases h1 : ttE s 12 ≠ 0
    · rw [if_pos h1] at h; exact absurd h h1
    · rw [if_neg h1] at h ⊢
      by_cases h2 : behindB o (ttS s 12) = false
      · rw [if_pos h2] at h; cases h
      · rw [if_neg h2] at h ⊢
        by_cases h3 : tkE (ttR s 12) ≠ 0
        · rw [if_pos h3] at h; exact absurd h h3
        · rw [if_neg h3] at h ⊢
          by_cases h4 : (takeG n (some (ttS s 12)) (tkR (ttR s 12))).2.2 ≠ 0
          · rw [if_pos h4] at h; exact absurd h h4
          · rw [if_neg h4]
            obtain ⟨k1, k2, k3⟩ := put_take n (some (ttS s 12)) (tkR (ttR s 12)) (by omega)
            have hb : behindB o (ttS s 12) = true := by
              cases hh : behindB o (ttS s 12)
              · exact absurd hh h2
              · rfl
            refine ⟨by rw [List.length_cons, k1], behind_right.2 ⟨hb, valB_unzig (tkN_lt _), k2⟩, ?_⟩
            rw [manyS, oneS, ByteArray.append_assoc, ByteArray.append_assoc, k3, int_againF (by omega), tt_again (by omega)]
theorem takeF_put {l : List Fd} (h : rightE l = 0) (b : ByteArray) : takeF (putS l ++ b) = (l, b, 0) := by
  have hr : rightG none l = 0 ∧ l.length ≤ 8 := by
    unfold rightE at h
    by_cases h8 : 8 < l.length
    · rw [if_pos h8] at h; cases h
    · rw [if_neg h8] at h; exact ⟨h, by omega⟩
  unfold putS
  rw [if_pos h, ByteArray.append_assoc]
  obtain ⟨k1, k2, k3⟩ := tk_enc (n := l.length) (by omega) (manyS l ++ b)
  unfold takeF
  rw [k1, k2, k3, if_neg (by simp), if_neg (by omega), take_put l none b hr.1]
theorem putF_take {s : ByteArray} (h : (takeF s).2.2 = 0) : rightE (takeF s).1 = 0 ∧ putS (takeF s).1 ++ (takeF s).2.1 = s := by
  unfold takeF at h ⊢
  by_cases h1 : tkE s ≠ 0
  · rw [if_pos h1] at h; exact absurd h h1
  · rw [if_neg h1] at h ⊢
    by_cases h2 : 8 < tkN s
    · rw [if_pos h2] at h; cases h
    · rw [if_neg h2] at h ⊢
      obtain ⟨k1, k2, k3⟩ := put_take _ _ _ h
      have hr : rightE (takeG (tkN s) none (tkR s)).1 = 0 := by
        unfold rightE
        rw [k1, if_neg h2, k2]
      refine ⟨hr, ?_⟩
      unfold putS
      rw [if_pos hr, k1, ByteArray.append_assoc, k3]
      exact tk_again (by omega)

end Go.Proofs.Ytnopbhlhdecimaa

/-
  The document's Put of fields.
-/
namespace Go.Proofs.Ytnopbhlhdecimaa
open Go.RowKit

theorem text_small {s : ByteArray} (h : s.size ≤ 12) : (textS s).size ≤ 30 := by
  rw [textS, ByteArray.size_append, encS_size]
  have := kN_le s.size
  omega
theorem int_small {v : Int} (h : valB v = true) : (intS v).size ≤ 10 := by
  rw [intS_enc h, encS_size]
  have := kN_le (zig v).toNat
  omega
theorem right_at : ∀ (l : List Fd) (o : Option ByteArray), rightG o l = 0 → ∀ f ∈ l, nameB f.n = true ∧ valB f.v = true
  | [], _, _, f, h => by simp at h
  | g :: l, o, h, f, hf => by
    obtain ⟨h1, h2, h3⟩ := behind_right.1 h
    rcases List.mem_cons.1 hf with rfl | hf
    · exact ⟨behind_name h1, h2⟩
    · exact right_at l _ h3 f hf
theorem right_in {l : List Fd} (h : rightE l = 0) : l.length ≤ 8 ∧ rightG none l = 0 := by
  unfold rightE at h
  by_cases h8 : 8 < l.length
  · rw [if_pos h8] at h; cases h
  · rw [if_neg h8] at h; exact ⟨by omega, h⟩
theorem ret_sie {s t : ByteArray} {a b : Int} (h : s = t) (k : a = b) : Ending.returned (.tuple #[.string s, .int .i64 a]) = .returned (.tuple #[.string t, .int .i64 b]) := by rw [h, k]

end Go.Proofs.Ytnopbhlhdecimaa

/-
  The document's Of, Covers and At of versions.
-/
namespace Go.Proofs.Ytnopbhlhdecimaa
open Go.RowKit

/-- Few enough versions, of few enough fields. -/
def fewV (l : List Vr) : Prop := l.length ≤ 200 ∧ ∀ v ∈ l, v.fs.length ≤ 100
theorem flat_leV {L : List (List Fd)} {m : Nat} (h : ∀ l ∈ L, l.length ≤ m) : L.flatten.length ≤ L.length * m := by
  induction L with
  | nil => simp
  | cons a L ih =>
    rw [List.flatten_cons, List.length_append, List.length_cons, Nat.add_mul, Nat.one_mul]
    have h1 := h a List.mem_cons_self
    have h2 := ih fun l hl => h l (List.mem_cons_of_mem _ hl)
    omega
theorem counts_mem {l : List Vr} {fs : List Fd} (h : fs ∈ countsV l) : ∃ v ∈ l, v.fs = fs := by
  unfold countsV at h
  obtain ⟨v, hv, rfl⟩ := List.mem_map.1 h
  exact ⟨v, (ordL_perm l).mem_iff.1 (List.mem_filter.1 hv).1, rfl⟩
theorem counts_few {l : List Vr} (h : fewV l) : (countsV l).length ≤ 200 ∧ (countsV l).flatten.length ≤ 20000 ∧ ∀ fs ∈ countsV l, fs.length ≤ 100 := by
  have h1 : (countsV l).length ≤ 200 := by
    unfold countsV
    rw [List.length_map]
    have := List.length_filter_le (fun v : Vr => !v.gone) (ordL l)
    rw [ordL_length] at this
    have := h.1
    omega
  have h2 : ∀ fs ∈ countsV l, fs.length ≤ 100 := fun fs hf => by
    obtain ⟨v, hv, rfl⟩ := counts_mem hf
    exact h.2 v hv
  have h3 := flat_leV h2
  have : (countsV l).length * 100 ≤ 200 * 100 := Nat.mul_le_mul_right 100 h1
  exact ⟨h1, by omega, h2⟩
/-- Lists of fields as their values' parts. -/
def slOf (v : Vr) : Sl := ⟨v.fa, v.fs.length, v.fc⟩
end Go.Proofs.Ytnopbhlhdecimaa

/-
  The document's Covers and At of versions.
-/
namespace Go.Proofs.Ytnopbhlhdecimaa
open Go.RowKit

def rightS (f t : Int) : Bool := decide (-1099511627776 ≤ f) && decide (t ≤ 1099511627776) && decide (f < t)
def hasS (f t x : Int) : Bool := decide (f ≤ x) && decide (x < t)
theorem coversB_eq (v : Vr) (t : Int) : coversB v t = (!v.gone && rightS v.sf v.se && hasS v.sf v.se t) := rfl

set_option maxHeartbeats 1000000 in
theorem dright01_any (f t : Int) (w : World) : Ret 30 #[.agg #[.int .i64 f, .int .i64 t]] w (.bool (rightS f t)) := by
  by_cases h1 : -1099511627776 ≤ f
  · by_cases h2 : t ≤ 1099511627776
    · by_cases h3 : f < t
      · have HE := Lib.hid (show rightS f t = true by simp [rightS, h1, h2, h3])
        go_enter Try.func30, Try.ntmps30
        go_wp2_with fail
        go_ret
        exact ⟨ret_bool HE.out.symm, (bl w).alloc (Nat.le_refl _) _⟩
      · have HE := Lib.hid (show rightS f t = false by simp [rightS, h3])
        go_enter Try.func30, Try.ntmps30
        go_wp2_with fail
        go_ret
        exact ⟨ret_bool HE.out.symm, (bl w).alloc (Nat.le_refl _) _⟩
    · have HE := Lib.hid (show rightS f t = false by simp [rightS, h2])
      go_enter Try.func30, Try.ntmps30
      go_wp2_with fail
      go_ret
      exact ⟨ret_bool HE.out.symm, (bl w).alloc (Nat.le_refl _) _⟩
  · have HE := Lib.hid (show rightS f t = false by simp [rightS, h1])
    go_enter Try.func30, Try.ntmps30
    go_wp2_with fail
    go_ret
    exact ⟨ret_bool HE.out.symm, (bl w).alloc (Nat.le_refl _) _⟩
set_option maxHeartbeats 1000000 in
theorem dhas01_any (f t x : Int) (w : World) : Ret 40 #[.agg #[.int .i64 f, .int .i64 t], .int .i64 x] w (.bool (hasS f t x)) := by
  by_cases h1 : f ≤ x
  · by_cases h2 : x < t
    · have HE := Lib.hid (show hasS f t x = true by simp [hasS, h1, h2])
      go_enter Try.func40, Try.ntmps40
      go_wp2_with fail
      go_ret
      exact ⟨ret_bool HE.out.symm, (bl w).alloc (Nat.le_refl _) _⟩
    · have HE := Lib.hid (show hasS f t x = false by simp [hasS, h2])
      go_enter Try.func40, Try.ntmps40
      go_wp2_with fail
      go_ret
      exact ⟨ret_bool HE.out.symm, (bl w).alloc (Nat.le_refl _) _⟩
  · have HE := Lib.hid (show hasS f t x = false by simp [hasS, h1])
    go_enter Try.func40, Try.ntmps40
    go_wp2_with fail
    go_ret
    exact ⟨ret_bool HE.out.symm, (bl w).alloc (Nat.le_refl _) _⟩

theorem few_filter {l : List Vr} (p : Vr → Bool) (h : fewV l) : fewV (l.filter p) := ⟨by have := List.length_filter_le p l; have := h.1; omega, fun v hv => h.2 v (List.mem_filter.1 hv).1⟩

end Go.Proofs.Ytnopbhlhdecimaa

/-
  Plain facts on versions and rows as bytes: what may be recorded, what is put is taken.
-/
namespace Go.Proofs.Ytnopbhlhdecimaa

/-- What is wrong with an entity, a version, a row. -/
def entE (s : ByteArray) : Nat := if s.size = 0 then 2 else if 24 < s.size then 4 else 0
def rightV (v : Vr) : Nat :=
  if v.st < 1 ∨ 1099511627775 < v.st ∨ v.id < 1 ∨ v.st < v.id then 2
  else if entE v.ent ≠ 0 then entE v.ent
  else if v.gone then (if v.id = v.st ∨ 0 < v.fs.length ∨ v.sf ≠ 0 ∨ v.se ≠ 0 then 8 else 0)
  else if rightS v.sf v.se then rightE v.fs else 3
structure Rw where
  v : Vr
  un : Int
def rightR (r : Rw) : Nat := if rightV r.v ≠ 0 then rightV r.v else if r.un ≠ 4611686018427387904 ∧ (r.un ≤ r.v.st ∨ 1099511627775 < r.un) then 2 else 0
def liveB (r : Rw) (x : Int) : Bool := decide (r.v.st ≤ x) && decide (x < r.un) && !r.v.gone
/-- Which of two versions is ahead. -/
def cmpV (a b : Vr) : Int :=
  if lessN (nats a.ent) (nats b.ent) then -1
  else if nats a.ent = nats b.ent then (if a.sf < b.sf then -1 else if a.sf = b.sf then (if a.st < b.st then -1 else if a.st = b.st then 0 else 1) else 1)
  else 1
theorem cmpV_back (a b : Vr) : cmpV b a = 0 - cmpV a b := by
  unfold cmpV
  rcases lessN_or (nats a.ent) (nats b.ent) with h | h | h
  · have h2 : lessN (nats b.ent) (nats a.ent) = false := by
      cases hh : lessN (nats b.ent) (nats a.ent)
      · rfl
      · have := lessN_trans _ _ _ h hh; rw [lessN_self] at this; cases this
    have h3 : nats b.ent ≠ nats a.ent := fun e => by rw [e, lessN_self] at h; cases h
    rw [if_neg (by rw [h2]; simp), if_neg h3, if_pos h]; rfl
  · have h2 : lessN (nats a.ent) (nats b.ent) = false := by
      cases hh : lessN (nats a.ent) (nats b.ent)
      · rfl
      · have := lessN_trans _ _ _ h hh; rw [lessN_self] at this; cases this
    have h3 : nats a.ent ≠ nats b.ent := fun e => by rw [e, lessN_self] at h; cases h
    rw [if_pos h, if_neg (by rw [h2]; simp), if_neg h3]; rfl
  · rw [h, lessN_self]
    simp only [Bool.false_eq_true, if_false, if_true]
    (repeat' split) <;> omega

/-- The bytes of a version that may be. -/
def bodyV (v : Vr) : ByteArray := if v.gone then encS 1 else encS 0 ++ intS v.sf ++ encS (v.se - v.sf).toNat ++ putS v.fs
def bytesV (v : Vr) : ByteArray := encS v.id.toNat ++ encS v.st.toNat ++ textS v.ent ++ bodyV v
def putV (v : Vr) : ByteArray := if rightV v = 0 then bytesV v else ⟨#[]⟩
/-- A version without the place of its fields; none. -/
def contV (v : Vr) : Vr := ⟨v.id, v.st, v.ent, v.sf, v.se, none, 0, v.fs, v.gone⟩
def noV : Vr := ⟨0, 0, ⟨#[]⟩, 0, 0, none, 0, [], false⟩
abbrev TV := Vr × ByteArray × Nat
def badV (e : Nat) : TV := (noV, ⟨#[]⟩, e)
def endV (v : Vr) (r : ByteArray) : TV := if rightV v = 0 then (v, r, 0) else badV 8
def restV (id st : Int) (ent : ByteArray) (s : ByteArray) : TV :=
  if tkE s ≠ 0 then badV (tkE s)
  else if tkE (tkR s) ≠ 0 then badV (tkE (tkR s))
  else if (takeF (tkR (tkR s))).2.2 ≠ 0 then badV (takeF (tkR (tkR s))).2.2
  else endV ⟨id, st, ent, unzig (tkN s), unzig (tkN s) + (tkN (tkR s) : Int), none, 0, (takeF (tkR (tkR s))).1, false⟩ (takeF (tkR (tkR s))).2.1
def goneV (id st : Int) (ent : ByteArray) (s : ByteArray) : TV :=
  if tkE s ≠ 0 then badV (tkE s)
  else if 1 < tkN s then badV 8
  else if tkN s = 1 then endV ⟨id, st, ent, 0, 0, none, 0, [], true⟩ (tkR s)
  else restV id st ent (tkR s)
def entV (id st : Int) (s : ByteArray) : TV := if ttE s 24 ≠ 0 then badV (ttE s 24) else goneV id st (ttS s 24) (ttR s 24)
def takeVs (s : ByteArray) : TV :=
  if tkE s ≠ 0 then badV (tkE s) else if tkE (tkR s) ≠ 0 then badV (tkE (tkR s)) else entV (tkN s) (tkN (tkR s)) (tkR (tkR s))

theorem right_stamps {v : Vr} (h : rightV v = 0) : 1 ≤ v.st ∧ v.st ≤ 1099511627775 ∧ 1 ≤ v.id ∧ v.id ≤ v.st ∧ entE v.ent = 0 := by
  unfold rightV at h
  by_cases h1 : v.st < 1 ∨ 1099511627775 < v.st ∨ v.id < 1 ∨ v.st < v.id
  · rw [if_pos h1] at h; cases h
  · rw [if_neg h1] at h
    by_cases h2 : entE v.ent ≠ 0
    · rw [if_pos h2] at h; exact absurd h h2
    · exact ⟨by omega, by omega, by omega, by omega, by omega⟩
theorem right_gone {v : Vr} (h : rightV v = 0) (hg : v.gone = true) : v.fs = [] ∧ v.sf = 0 ∧ v.se = 0 := by
  have hs := right_stamps h
  unfold rightV at h
  rw [if_neg (by omega), if_neg (by omega), if_pos hg] at h
  by_cases h1 : v.id = v.st ∨ 0 < v.fs.length ∨ v.sf ≠ 0 ∨ v.se ≠ 0
  · rw [if_pos h1] at h; cases h
  · exact ⟨List.eq_nil_of_length_eq_zero (by omega), by omega, by omega⟩
theorem right_here {v : Vr} (h : rightV v = 0) (hg : v.gone = false) : rightS v.sf v.se = true ∧ rightE v.fs = 0 := by
  have hs := right_stamps h
  unfold rightV at h
  rw [if_neg (by omega), if_neg (by omega), if_neg (by rw [hg]; simp)] at h
  cases hr : rightS v.sf v.se with
  | false => rw [hr] at h; cases h
  | true => rw [hr] at h; exact ⟨rfl, h⟩
theorem span_bounds {f t : Int} (h : rightS f t = true) : -1099511627776 ≤ f ∧ t ≤ 1099511627776 ∧ f < t := by
  unfold rightS at h
  simp only [Bool.and_eq_true, decide_eq_true_eq] at h
  exact ⟨h.1.1, h.1.2, h.2⟩
theorem right_cont (v : Vr) : rightV (contV v) = rightV v := rfl
/-- What is put is taken. -/
theorem takeVs_put {v : Vr} (h : rightV v = 0) (b : ByteArray) : takeVs (putV v ++ b) = (contV v, b, 0) := by
  obtain ⟨s1, s2, s3, s4, s5⟩ := right_stamps h
  have hes : v.ent.size ≤ 24 := by
    unfold entE at s5
    by_cases h1 : v.ent.size = 0
    · omega
    · rw [if_neg h1] at s5
      by_cases h2 : 24 < v.ent.size
      · rw [if_pos h2] at s5; cases s5
      · omega
  have e0 : putV v ++ b = encS v.id.toNat ++ (encS v.st.toNat ++ (textS v.ent ++ (bodyV v ++ b))) := by
    unfold putV bytesV
    rw [if_pos h]
    simp only [ByteArray.append_assoc]
  obtain ⟨a1, a2, a3⟩ := tk_enc (n := v.id.toNat) (by omega) (encS v.st.toNat ++ (textS v.ent ++ (bodyV v ++ b)))
  obtain ⟨b1, b2, b3⟩ := tk_enc (n := v.st.toNat) (by omega) (textS v.ent ++ (bodyV v ++ b))
  obtain ⟨c1, c2, c3⟩ := tt_text (s := v.ent) (b := bodyV v ++ b) (most := 24) (by omega) (by omega)
  have fin : endV (contV v) b = (contV v, b, 0) := by unfold endV; rw [right_cont, if_pos h]
  have i1 : ((v.id.toNat : Nat) : Int) = v.id := by omega
  have i2 : ((v.st.toNat : Nat) : Int) = v.st := by omega
  rw [e0, takeVs, a1, a2, a3, b1, b2, b3, if_neg (by simp), if_neg (by simp), entV, c1, c2, c3, if_neg (by simp), i1, i2]
  cases hg : v.gone with
  | true =>
    obtain ⟨g1, g2, g3⟩ := right_gone h hg
    have eb : bodyV v = encS 1 := by unfold bodyV; rw [if_pos hg]
    obtain ⟨d1, d2, d3⟩ := tk_enc (n := 1) (by omega) b
    rw [eb, goneV, d1, d2, d3, if_neg (by simp), if_neg (by omega), if_pos rfl, ← fin]
    congr 1
    unfold contV
    rw [g1, g2, g3, hg]
  | false =>
    obtain ⟨g1, g2⟩ := right_here h hg
    obtain ⟨p1, p2, p3⟩ := span_bounds g1
    have eb : bodyV v ++ b = encS 0 ++ (intS v.sf ++ (encS (v.se - v.sf).toNat ++ (putS v.fs ++ b))) := by
      unfold bodyV
      rw [if_neg (by rw [hg]; simp)]
      simp only [ByteArray.append_assoc]
    obtain ⟨d1, d2, d3⟩ := tk_enc (n := 0) (by omega) (intS v.sf ++ (encS (v.se - v.sf).toNat ++ (putS v.fs ++ b)))
    have hv : valB v.sf = true := by unfold valB; simp only [Bool.and_eq_true, decide_eq_true_eq]; omega
    obtain ⟨q1, q2, q3⟩ := int_takenF hv (encS (v.se - v.sf).toNat ++ (putS v.fs ++ b))
    obtain ⟨r1, r2, r3⟩ := tk_enc (n := (v.se - v.sf).toNat) (by omega) (putS v.fs ++ b)
    have t1 := takeF_put g2 b
    rw [eb, goneV, d1, d2, d3, if_neg (by simp), if_neg (by omega), if_neg (by omega), restV, q1, q2, q3, r1, r2, r3, t1, if_neg (by simp), if_neg (by simp), if_neg (by simp), ← fin]
    congr 1
    unfold contV
    rw [hg, show v.sf + (((v.se - v.sf).toNat : Nat) : Int) = v.se by omega]

/-- Rows. -/
def putR (r : Rw) : ByteArray := if rightR r = 0 then putV r.v ++ encS (if r.un = 4611686018427387904 then 0 else r.un.toNat) else ⟨#[]⟩
abbrev TR := Rw × ByteArray × Nat
def noR : Rw := ⟨noV, 0⟩
def badR (e : Nat) : TR := (noR, ⟨#[]⟩, e)
def endR (r : Rw) (s : ByteArray) : TR := if rightR r = 0 then (r, s, 0) else badR 8
def untilI (n : Nat) : Int := if n = 0 then 4611686018427387904 else (n : Int)
def takeRs (s : ByteArray) : TR :=
  if (takeVs s).2.2 ≠ 0 then badR (takeVs s).2.2
  else if tkE (takeVs s).2.1 ≠ 0 then badR (tkE (takeVs s).2.1)
  else endR ⟨(takeVs s).1, untilI (tkN (takeVs s).2.1)⟩ (tkR (takeVs s).2.1)
def contR (r : Rw) : Rw := ⟨contV r.v, r.un⟩
theorem rightR_v {r : Rw} (h : rightR r = 0) : rightV r.v = 0 ∧ (r.un = 4611686018427387904 ∨ (r.v.st < r.un ∧ r.un ≤ 1099511627775)) := by
  unfold rightR at h
  by_cases h1 : rightV r.v ≠ 0
  · rw [if_pos h1] at h; exact absurd h h1
  · rw [if_neg h1] at h
    by_cases h2 : r.un ≠ 4611686018427387904 ∧ (r.un ≤ r.v.st ∨ 1099511627775 < r.un)
    · rw [if_pos h2] at h; cases h
    · exact ⟨by omega, by omega⟩
theorem takeRs_put {r : Rw} (h : rightR r = 0) (b : ByteArray) : takeRs (putR r ++ b) = (contR r, b, 0) := by
  obtain ⟨h1, h2⟩ := rightR_v h
  have hs := right_stamps h1
  have fin : endR (contR r) b = (contR r, b, 0) := by
    unfold endR
    rw [if_pos (show rightR (contR r) = 0 from h)]
  have e0 : putR r ++ b = putV r.v ++ (encS (if r.un = 4611686018427387904 then 0 else r.un.toNat) ++ b) := by
    unfold putR
    rw [if_pos h, ByteArray.append_assoc]
  have t := takeVs_put h1 (encS (if r.un = 4611686018427387904 then 0 else r.un.toNat) ++ b)
  have hn : (if r.un = 4611686018427387904 then 0 else r.un.toNat) < 4611686018427387904 := by split <;> omega
  obtain ⟨a1, a2, a3⟩ := tk_enc hn b
  rw [e0, takeRs, t]
  simp only [ne_eq, not_true_eq_false, if_false]
  rw [a1, a2, a3, if_neg (by simp), ← fin]
  congr 1
  unfold contR untilI
  congr 1
  by_cases hu : r.un = 4611686018427387904
  · rw [if_pos hu, if_pos rfl, hu]
  · rw [if_neg hu, if_neg (by omega)]; omega

end Go.Proofs.Ytnopbhlhdecimaa

/-
  The document's Live, Compare, Put, PutRow and OneRow.
-/
namespace Go.Proofs.Ytnopbhlhdecimaa
open Go.RowKit

/-- A version in a block of its own. -/
abbrev BoxV (w : World) (g : Nat) (v : Vr) : Prop := w.cell? ⟨g, 0, none⟩ = some (.int .i64 v.id) ∧ w.cell? ⟨g, 1, none⟩ = some (.int .i64 v.st) ∧ w.cell? ⟨g, 2, none⟩ = some (.string v.ent) ∧ w.cell? ⟨g, 3, none⟩ = some (.int .i64 v.sf) ∧
  w.cell? ⟨g, 4, none⟩ = some (.int .i64 v.se) ∧ w.cell? ⟨g, 5, none⟩ = some (.slice v.fa v.fs.length v.fc) ∧ w.cell? ⟨g, 6, none⟩ = some (.bool v.gone)
theorem BoxV.below {w w' : World} {g : Nat} {v : Vr} (h : BoxV w g v) (hb : Below w.heap.size w w') : BoxV w' g v :=
  ⟨keepc hb h.1, keepc hb h.2.1, keepc hb h.2.2.1, keepc hb h.2.2.2.1, keepc hb h.2.2.2.2.1, keepc hb h.2.2.2.2.2.1, keepc hb h.2.2.2.2.2.2⟩
theorem enc_small (n : Nat) : (encS n).size ≤ 10 := by rw [encS_size]; have := kN_le n; omega
theorem ent_small {v : Vr} (h : rightV v = 0) : v.ent.size ≤ 24 := by
  have := (right_stamps h).2.2.2.2
  unfold entE at this
  by_cases h1 : v.ent.size = 0
  · omega
  · rw [if_neg h1] at this
    by_cases h2 : 24 < v.ent.size
    · rw [if_pos h2] at this; cases this
    · omega
theorem text_small24 {s : ByteArray} (h : s.size ≤ 24) : (textS s).size ≤ 40 := by
  rw [textS, ByteArray.size_append, encS_size]
  have := kN_le s.size
  omega
theorem many_size : ∀ (l : List Fd) (o : Option ByteArray), rightG o l = 0 → (manyS l).size ≤ 40 * l.length
  | [], _, _ => Nat.le_refl _
  | f :: l, o, h => by
    obtain ⟨h1, h2, h3⟩ := behind_right.1 h
    have ih := many_size l _ h3
    have t1 := text_small (name_size (behind_name h1))
    have t2 := int_small h2
    rw [manyS, oneS, ByteArray.size_append, ByteArray.size_append, List.length_cons]
    omega
theorem putS_size (l : List Fd) : (putS l).size ≤ 1000 := by
  unfold putS
  by_cases h : rightE l = 0
  · rw [if_pos h, ByteArray.size_append, encS_size]
    obtain ⟨h8, hg⟩ := right_in h
    have := many_size l none hg
    have := kN_le l.length
    omega
  · rw [if_neg h]; exact Nat.zero_le _

end Go.Proofs.Ytnopbhlhdecimaa

/-
  The document's PutRow and OneRow.
-/
namespace Go.Proofs.Ytnopbhlhdecimaa
open Go.RowKit

/-- A row in a block of its own. -/
abbrev BoxR (w : World) (g : Nat) (r : Rw) : Prop := BoxV w g r.v ∧ w.cell? ⟨g, 7, none⟩ = some (.int .i64 r.un)
theorem BoxR.below {w w' : World} {g : Nat} {r : Rw} (h : BoxR w g r) (hb : Below w.heap.size w w') : BoxR w' g r := ⟨h.1.below hb, keepc hb h.2⟩
theorem bytesV_size {v : Vr} (h : rightV v = 0) : (putV v).size ≤ 2000 := by
  unfold putV bytesV bodyV
  rw [if_pos h]
  have h1 := enc_small v.id.toNat
  have h2 := enc_small v.st.toNat
  have h3 := text_small24 (ent_small h)
  have h4 := enc_small 0
  have h5 := enc_small 1
  have h6 := enc_small (v.se - v.sf).toNat
  have h7 := putS_size v.fs
  cases hg : v.gone with
  | true =>
    simp only [if_true, ByteArray.size_append]
    omega
  | false =>
    obtain ⟨g1, g2⟩ := right_here h hg
    obtain ⟨p1, p2, p3⟩ := span_bounds g1
    have hvb : valB v.sf = true := by unfold valB; simp only [Bool.and_eq_true, decide_eq_true_eq]; omega
    have h8 := int_small hvb
    simp only [Bool.false_eq_true, if_false, ByteArray.size_append]
    omega

/-- Are two rows one? -/
def sameR (a b : Rw) : Bool := sameV a.v b.v && decide (a.un = b.un)

end Go.Proofs.Ytnopbhlhdecimaa

/-
  Lists of rows in memory; are two lists of rows one, by the document?
-/
namespace Go.Proofs.Ytnopbhlhdecimaa
open Go.RowKit

abbrev cellsR (r : Rw) : List Value := [.int .i64 r.v.id, .int .i64 r.v.st, .string r.v.ent, .int .i64 r.v.sf, .int .i64 r.v.se, .slice r.v.fa r.v.fs.length r.v.fc, .bool r.v.gone, .int .i64 r.un]
/-- The cells of a row. -/
abbrev Cells8 (w : World) (g o : Nat) (r : Rw) : Prop := w.cell? ⟨g, o, none⟩ = some (.int .i64 r.v.id) ∧ w.cell? ⟨g, o + 1, none⟩ = some (.int .i64 r.v.st) ∧ w.cell? ⟨g, o + 2, none⟩ = some (.string r.v.ent) ∧ w.cell? ⟨g, o + 3, none⟩ = some (.int .i64 r.v.sf) ∧
  w.cell? ⟨g, o + 4, none⟩ = some (.int .i64 r.v.se) ∧ w.cell? ⟨g, o + 5, none⟩ = some (.slice r.v.fa r.v.fs.length r.v.fc) ∧ w.cell? ⟨g, o + 6, none⟩ = some (.bool r.v.gone) ∧ w.cell? ⟨g, o + 7, none⟩ = some (.int .i64 r.un)
theorem Cells8.below {w w' : World} {g o : Nat} {v : Rw} (h : Cells8 w g o v) (hb : Below w.heap.size w w') : Cells8 w' g o v :=
  ⟨keepc hb h.1, keepc hb h.2.1, keepc hb h.2.2.1, keepc hb h.2.2.2.1, keepc hb h.2.2.2.2.1, keepc hb h.2.2.2.2.2.1, keepc hb h.2.2.2.2.2.2.1, keepc hb h.2.2.2.2.2.2.2⟩
def sameRs : List Rw → List Rw → Bool
  | [], [] => true
  | a :: l, b :: m => sameR a b && sameRs l m
  | _, _ => false
theorem sameRs_len : ∀ (a b : List Rw), a.length ≠ b.length → sameRs a b = false
  | [], [], h => absurd rfl h
  | [], _ :: _, _ => rfl
  | _ :: _, [], _ => rfl
  | x :: a, y :: b, h => by
    rw [sameRs, sameRs_len a b (fun e => h (by simp [e])), Bool.and_false]

end Go.Proofs.Ytnopbhlhdecimaa
