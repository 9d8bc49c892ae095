/-
  Plain facts on lists of spans: which times a list has, what a cover is, that a set of times has one cover, how covers grow at their end.
-/
namespace Go.Proofs.Ytmfkcbanjlmmhaa

/-- May the span be? -/
def rightB (f t : Int) : Bool := decide (-1099511627776 ≤ f ∧ f < t ∧ t ≤ 1099511627776)
/-- Has it the time? -/
def hasB (f t x : Int) : Bool := decide (f ≤ x ∧ x < t)
theorem right_yes {f t : Int} (h : rightB f t = true) : -1099511627776 ≤ f ∧ f < t ∧ t ≤ 1099511627776 := by simpa [rightB] using h
theorem right_no {f t : Int} (h : rightB f t = false) : ¬ (-1099511627776 ≤ f ∧ f < t ∧ t ≤ 1099511627776) := by simpa [rightB] using h

abbrev Sp := Int × Int
/-- Has one of the list's right spans the time? -/
def Mem (l : List Sp) (x : Int) : Prop := ∃ p ∈ l, rightB p.1 p.2 = true ∧ p.1 ≤ x ∧ x < p.2
def memB (l : List Sp) (x : Int) : Bool := l.any fun p => rightB p.1 p.2 && hasB p.1 p.2 x
theorem memB_iff (l : List Sp) (x : Int) : memB l x = true ↔ Mem l x := by simp [memB, Mem, hasB]
theorem memB_eq {l m : List Sp} {x : Int} (h : Mem l x ↔ Mem m x) : memB l x = memB m x := by
  rw [Bool.eq_iff_iff, memB_iff, memB_iff]; exact h
instance (l : List Sp) (x : Int) : Decidable (Mem l x) := decidable_of_iff _ (memB_iff l x)

theorem mem_nil (x : Int) : ¬ Mem [] x := by simp [Mem]
theorem mem_cons (p : Sp) (l : List Sp) (x : Int) : Mem (p :: l) x ↔ (rightB p.1 p.2 = true ∧ p.1 ≤ x ∧ x < p.2) ∨ Mem l x := by simp [Mem]
theorem mem_append (l m : List Sp) (x : Int) : Mem (l ++ m) x ↔ Mem l x ∨ Mem m x := by
  simp only [Mem, List.mem_append]
  constructor
  · rintro ⟨p, h | h, r⟩
    · exact .inl ⟨p, h, r⟩
    · exact .inr ⟨p, h, r⟩
  · rintro (⟨p, h, r⟩ | ⟨p, h, r⟩)
    · exact ⟨p, .inl h, r⟩
    · exact ⟨p, .inr h, r⟩
theorem mem_one (p : Sp) (x : Int) : Mem [p] x ↔ (rightB p.1 p.2 = true ∧ p.1 ≤ x ∧ x < p.2) := by simp [Mem]
theorem mem_perm {l m : List Sp} (h : l.Perm m) (x : Int) : Mem l x ↔ Mem m x := by
  constructor
  · rintro ⟨p, hp, r⟩; exact ⟨p, h.mem_iff.1 hp, r⟩
  · rintro ⟨p, hp, r⟩; exact ⟨p, h.mem_iff.2 hp, r⟩
theorem mem_filter (l : List Sp) (x : Int) : Mem (l.filter fun p => rightB p.1 p.2) x ↔ Mem l x := by
  simp only [Mem, List.mem_filter]
  constructor
  · rintro ⟨p, ⟨hp, _⟩, r⟩; exact ⟨p, hp, r⟩
  · rintro ⟨p, hp, r⟩; exact ⟨p, ⟨hp, r.1⟩, r⟩
theorem mem_bounds {l : List Sp} {x : Int} (h : Mem l x) : -1099511627776 ≤ x ∧ x < 1099511627776 := by
  obtain ⟨p, _, hr, h1, h2⟩ := h
  have := right_yes hr
  omega

/-- A cover: right spans, each of which ends ahead of the next one. -/
def Cov (l : List Sp) : Prop := (∀ p ∈ l, rightB p.1 p.2 = true) ∧ l.Pairwise fun p q => p.2 < q.1
instance (l : List Sp) : Decidable (Cov l) := inferInstanceAs (Decidable (_ ∧ _))
theorem Cov.nil : Cov [] := ⟨by simp, List.Pairwise.nil⟩
theorem Cov.tail {p : Sp} {l : List Sp} (h : Cov (p :: l)) : Cov l := ⟨fun q hq => h.1 q (List.mem_cons_of_mem _ hq), (List.pairwise_cons.1 h.2).2⟩
theorem Cov.head {p : Sp} {l : List Sp} (h : Cov (p :: l)) : ∀ q ∈ l, p.2 < q.1 := (List.pairwise_cons.1 h.2).1
theorem Cov.snoc {l : List Sp} {p : Sp} (h : Cov l) (hp : rightB p.1 p.2 = true) (hl : ∀ q ∈ l, q.2 < p.1) : Cov (l ++ [p]) := by
  refine ⟨fun q hq => ?_, ?_⟩
  · rcases List.mem_append.1 hq with h1 | h1
    · exact h.1 q h1
    · obtain rfl := List.mem_singleton.1 h1; exact hp
  · refine List.pairwise_append.2 ⟨h.2, List.pairwise_singleton _ _, fun a ha b hb => ?_⟩
    obtain rfl := List.mem_singleton.1 hb
    exact hl a ha
theorem Cov.left {l m : List Sp} (h : Cov (l ++ m)) : Cov l := ⟨fun p hp => h.1 p (List.mem_append_left _ hp), (List.pairwise_append.1 h.2).1⟩
theorem Cov.last {l : List Sp} {p : Sp} (h : Cov (l ++ [p])) : rightB p.1 p.2 = true ∧ ∀ q ∈ l, q.2 < p.1 :=
  ⟨h.1 p (by simp), fun q hq => (List.pairwise_append.1 h.2).2.2 q hq p (by simp)⟩
/-- All that stand ahead end ahead, if the last one does. -/
theorem Cov.ends {l : List Sp} {q : Sp} (h : Cov (l ++ [q])) {x : Int} (hx : q.2 < x) : ∀ p ∈ l ++ [q], p.2 < x := fun p hp => by
  rcases List.mem_append.1 hp with h1 | h1
  · have := h.last.2 p h1
    have := right_yes h.last.1
    omega
  · obtain rfl := List.mem_singleton.1 h1; exact hx

theorem cov_first {p : Sp} {l : List Sp} (h : Cov (p :: l)) {x : Int} (hx : Mem (p :: l) x) : p.1 ≤ x := by
  obtain ⟨q, hq, hr, h1, h2⟩ := hx
  rcases List.mem_cons.1 hq with rfl | hq
  · exact h1
  · have := h.head q hq
    have := right_yes (h.1 p (by simp))
    omega
theorem cov_first_mem {p : Sp} {l : List Sp} (h : Cov (p :: l)) : Mem (p :: l) p.1 := by
  have := right_yes (h.1 p (by simp))
  exact ⟨p, by simp, h.1 p (by simp), by omega, by omega⟩
theorem cov_end {p : Sp} {l : List Sp} (h : Cov (p :: l)) : ¬ Mem (p :: l) p.2 := by
  rintro ⟨q, hq, hr, h1, h2⟩
  rcases List.mem_cons.1 hq with rfl | hq
  · omega
  · have := h.head q hq
    omega
theorem cov_tail {p : Sp} {l : List Sp} (h : Cov (p :: l)) (x : Int) : Mem l x ↔ Mem (p :: l) x ∧ p.2 ≤ x := by
  constructor
  · intro hm
    obtain ⟨q, hq, hr, h1, h2⟩ := hm
    have := h.head q hq
    exact ⟨⟨q, List.mem_cons_of_mem _ hq, hr, h1, h2⟩, by omega⟩
  · rintro ⟨⟨q, hq, hr, h1, h2⟩, h3⟩
    rcases List.mem_cons.1 hq with rfl | hq
    · omega
    · exact ⟨q, hq, hr, h1, h2⟩

/-- A set of times has one cover. -/
theorem cov_ext : ∀ l m : List Sp, Cov l → Cov m → (∀ x, Mem l x ↔ Mem m x) → l = m
  | [], [], _, _, _ => rfl
  | [], q :: m, _, hm, h => absurd ((h q.1).2 (cov_first_mem hm)) (mem_nil _)
  | p :: l, [], hl, _, h => absurd ((h p.1).1 (cov_first_mem hl)) (mem_nil _)
  | p :: l, q :: m, hl, hm, h => by
    have h1 := cov_first hm ((h p.1).1 (cov_first_mem hl))
    have h2 := cov_first hl ((h q.1).2 (cov_first_mem hm))
    have rp := right_yes (hl.1 p (by simp))
    have rq := right_yes (hm.1 q (by simp))
    have e1 : p.1 = q.1 := by omega
    have e2 : p.2 = q.2 := by
      rcases Int.lt_trichotomy p.2 q.2 with hlt | heq | hgt
      · exact absurd ((h p.2).2 ⟨q, by simp, hm.1 q (by simp), by omega, hlt⟩) (cov_end hl)
      · exact heq
      · exact absurd ((h q.2).1 ⟨p, by simp, hl.1 p (by simp), by omega, hgt⟩) (cov_end hm)
    have e : p = q := Prod.ext e1 e2
    subst e
    rw [cov_ext l m hl.tail hm.tail fun x => by rw [cov_tail hl, cov_tail hm, h x]]

/-- The cover of a set of times. -/
def CovOf (l : List Sp) (S : Int → Prop) : Prop := Cov l ∧ ∀ x, Mem l x ↔ S x
theorem CovOf.eq {l m : List Sp} {S T : Int → Prop} (hl : CovOf l S) (hm : CovOf m T) (h : ∀ x, S x ↔ T x) : l = m :=
  cov_ext l m hl.1 hm.1 fun x => ((hl.2 x).trans (h x)).trans (hm.2 x).symm
theorem CovOf.same {l m : List Sp} {S T : Int → Prop} (hl : CovOf l S) (hm : CovOf m T) (h : ∀ x, S x ↔ T x) : decide (l = m) = true := by
  simpa using hl.eq hm h

/- Is a list a cover, as far as k? -/
theorem cov_take_succ {l : List Sp} {k : Nat} {p : Sp} (hp : l[k]? = some p) (h : Cov (l.take k)) (hr : rightB p.1 p.2 = true) (hq : ∀ q, k ≠ 0 → l[k - 1]? = some q → q.2 < p.1) : Cov (l.take (k + 1)) := by
  rw [List.take_add_one, hp]
  simp only [Option.toList_some]
  rcases Nat.eq_zero_or_pos k with rfl | hk
  · simpa using Cov.snoc (l := []) Cov.nil hr (by simp)
  · obtain ⟨q, hq'⟩ : ∃ q, l[k - 1]? = some q := by
      have : k < l.length := by rcases Nat.lt_or_ge k l.length with h | h; exact h; simp [List.getElem?_eq_none h] at hp
      exact ⟨_, List.getElem?_eq_getElem (by omega)⟩
    have e : l.take k = l.take (k - 1) ++ [q] := by
      have e1 : l.take (k - 1 + 1) = l.take (k - 1) ++ [q] := by rw [List.take_add_one, hq']; rfl
      rwa [show k - 1 + 1 = k from by omega] at e1
    have h' := h
    rw [e] at h'
    refine Cov.snoc h hr ?_
    rw [e]
    exact h'.ends (hq q (by omega) hq')
theorem cov_not_right {l : List Sp} {k : Nat} {p : Sp} (hp : l[k]? = some p) (hr : rightB p.1 p.2 = false) : ¬ Cov l := fun h => by
  have := h.1 p (List.mem_of_getElem? hp)
  rw [hr] at this
  cases this
theorem cov_not_apart {l : List Sp} {k : Nat} {p q : Sp} (hq : l[k]? = some q) (hp : l[k + 1]? = some p) (h : p.1 ≤ q.2) : ¬ Cov l := fun hc => by
  have h1 := List.pairwise_iff_getElem.1 hc.2 k (k + 1)
  obtain ⟨l1, e1⟩ := List.getElem?_eq_some_iff.1 hq
  obtain ⟨l2, e2⟩ := List.getElem?_eq_some_iff.1 hp
  have := h1 l1 l2 (by omega)
  rw [e1, e2] at this
  omega

/- Making a cover of spans that rise. -/
/-- What has been made of the spans so far. -/
structure Made (m d : List Sp) : Prop where
  cov : Cov m
  mem : ∀ x, Mem m x ↔ Mem d x
  len : m.length ≤ d.length
  from_ : ∀ q ∈ m, ∃ p ∈ d, p.1 = q.1
theorem Made.nil : Made [] [] := ⟨Cov.nil, fun _ => Iff.rfl, Nat.le_refl _, by simp⟩
theorem Made.joins {m d : List Sp} {q a : Sp} (h : Made (m ++ [q]) d) (hr : rightB a.1 a.2 = true) (hs : ∀ p ∈ d, p.1 ≤ a.1) (hle : a.1 ≤ q.2) : Made (m ++ [(q.1, max q.2 a.2)]) (d ++ [a]) := by
  have hq := right_yes h.cov.last.1
  have ha := right_yes hr
  obtain ⟨p, hp, he⟩ := h.from_ q (by simp)
  have h1 := hs p hp
  have hr' : rightB q.1 (max q.2 a.2) = true := by simp [rightB]; omega
  refine ⟨Cov.snoc h.cov.left hr' h.cov.last.2, fun x => ?_, by have := h.len; simp at this ⊢; omega, ?_⟩
  · rw [mem_append, mem_append, ← h.mem x, mem_append, mem_one, mem_one, mem_one]
    simp only [hr', hr, h.cov.last.1, true_and]
    constructor
    · rintro (h2 | h2)
      · exact .inl (.inl h2)
      · rcases Int.lt_or_le x q.2 with h3 | h3
        · exact .inl (.inr ⟨h2.1, h3⟩)
        · exact .inr ⟨by omega, by omega⟩
    · rintro ((h2 | h2) | h2)
      · exact .inl h2
      · exact .inr ⟨h2.1, by omega⟩
      · exact .inr ⟨by omega, by omega⟩
  · intro r hr2
    rcases List.mem_append.1 hr2 with h2 | h2
    · obtain ⟨p', hp', e⟩ := h.from_ r (List.mem_append_left _ h2)
      exact ⟨p', List.mem_append_left _ hp', e⟩
    · obtain rfl := List.mem_singleton.1 h2
      exact ⟨p, List.mem_append_left _ hp, he⟩
theorem Made.adds {m d : List Sp} {a : Sp} (h : Made m d) (hr : rightB a.1 a.2 = true) (hl : ∀ q ∈ m, q.2 < a.1) : Made (m ++ [a]) (d ++ [a]) := by
  refine ⟨Cov.snoc h.cov hr hl, fun x => ?_, by have := h.len; simp; omega, ?_⟩
  · rw [mem_append, mem_append, h.mem x]
  · intro r hr2
    rcases List.mem_append.1 hr2 with h2 | h2
    · obtain ⟨p', hp', e⟩ := h.from_ r h2
      exact ⟨p', List.mem_append_left _ hp', e⟩
    · obtain rfl := List.mem_singleton.1 h2
      exact ⟨_, by simp, rfl⟩

/- The document's way: piece by piece between the ends. -/
/-- A piece behind a cover: it is joined to the last one where it touches it. -/
theorem put_joins {m : List Sp} {q : Sp} {t : Int} (h : Cov (m ++ [q])) (hq : q.2 < t) (ht : t ≤ 1099511627776) : Cov (m ++ [(q.1, t)]) ∧ ∀ x, Mem (m ++ [(q.1, t)]) x ↔ Mem (m ++ [q]) x ∨ (q.2 ≤ x ∧ x < t) := by
  have hr := right_yes h.last.1
  have hr' : rightB q.1 t = true := by simp [rightB]; omega
  refine ⟨Cov.snoc h.left hr' h.last.2, fun x => ?_⟩
  rw [mem_append, mem_append, mem_one, mem_one]
  simp only [hr', h.last.1, true_and]
  constructor
  · rintro (h2 | h2)
    · exact .inl (.inl h2)
    · rcases Int.lt_or_le x q.2 with h3 | h3
      · exact .inl (.inr ⟨h2.1, h3⟩)
      · exact .inr ⟨h3, h2.2⟩
  · rintro ((h2 | h2) | h2)
    · exact .inl h2
    · exact .inr ⟨h2.1, by omega⟩
    · exact .inr ⟨by omega, h2.2⟩
theorem put_adds {m : List Sp} {f t : Int} (h : Cov m) (hl : ∀ q ∈ m, q.2 < f) (hr : rightB f t = true) : Cov (m ++ [(f, t)]) ∧ ∀ x, Mem (m ++ [(f, t)]) x ↔ Mem m x ∨ (f ≤ x ∧ x < t) := by
  refine ⟨Cov.snoc h hr hl, fun x => ?_⟩
  rw [mem_append, mem_one]
  simp [hr]

/-- The ends of the right spans of a list. -/
def endsOf (l : List Sp) : List Int := (l.filter fun p => rightB p.1 p.2).flatMap fun p => [p.1, p.2]
theorem mem_ends {l : List Sp} {p : Sp} (hp : p ∈ l) (hr : rightB p.1 p.2 = true) : p.1 ∈ endsOf l ∧ p.2 ∈ endsOf l := by
  unfold endsOf
  simp only [List.mem_flatMap, List.mem_filter]
  exact ⟨⟨p, ⟨hp, hr⟩, by simp⟩, ⟨p, ⟨hp, hr⟩, by simp⟩⟩
theorem ends_bounds {l : List Sp} {x : Int} (h : x ∈ endsOf l) : -1099511627776 ≤ x ∧ x ≤ 1099511627776 := by
  unfold endsOf at h
  simp only [List.mem_flatMap, List.mem_filter] at h
  obtain ⟨p, ⟨_, hr⟩, hx⟩ := h
  have := right_yes hr
  simp at hx
  omega
theorem ends_append (l m : List Sp) : endsOf (l ++ m) = endsOf l ++ endsOf m := by simp [endsOf]
theorem ends_length (l : List Sp) : (endsOf l).length ≤ 2 * l.length := by
  have h : ∀ l : List Sp, (l.flatMap fun p => [p.1, p.2]).length = 2 * l.length := fun l => by
    induction l with
    | nil => rfl
    | cons p l ih => simp only [List.flatMap_cons, List.length_append, ih, List.length_cons, List.length_nil]; omega
  rw [endsOf, h]
  have := List.length_filter_le (fun p : Sp => rightB p.1 p.2) l
  omega
/-- Between two ends that follow on each other all times are alike. -/
theorem mem_between {l : List Sp} {ts : List Int} (hts : ∀ y ∈ endsOf l, y ∈ ts) (hp : ts.Pairwise (· < ·)) {i : Nat} {a b x : Int} (ha : ts[i]? = some a) (hb : ts[i + 1]? = some b) (h1 : a ≤ x) (h2 : x < b) : Mem l x ↔ Mem l a := by
  have key : ∀ y ∈ ts, y < b → y ≤ a := fun y hy hlt => by
    obtain ⟨j, hj⟩ := List.getElem?_of_mem hy
    obtain ⟨lj, ej⟩ := List.getElem?_eq_some_iff.1 hj
    obtain ⟨li, ei⟩ := List.getElem?_eq_some_iff.1 ha
    obtain ⟨lb, eb⟩ := List.getElem?_eq_some_iff.1 hb
    have H := List.pairwise_iff_getElem.1 hp
    rcases Nat.lt_trichotomy j i with h | rfl | h
    · have := H j i lj li h
      omega
    · omega
    · rcases Nat.lt_or_ge (i + 1) j with h3 | h3
      · have := H (i + 1) j lb lj h3
        omega
      · obtain rfl : j = i + 1 := by omega
        omega
  constructor
  · rintro ⟨p, hp', hr, h3, h4⟩
    obtain ⟨e1, e2⟩ := mem_ends hp' hr
    have := key p.1 (hts _ e1) (by omega)
    exact ⟨p, hp', hr, this, by omega⟩
  · rintro ⟨p, hp', hr, h3, h4⟩
    obtain ⟨e1, e2⟩ := mem_ends hp' hr
    refine ⟨p, hp', hr, by omega, ?_⟩
    rcases Int.lt_or_le p.2 b with h5 | h5
    · have := key p.2 (hts _ e2) h5
      omega
    · omega
theorem mem_ahead {l : List Sp} {ts : List Int} (hts : ∀ y ∈ endsOf l, y ∈ ts) (hp : ts.Pairwise (· < ·)) {x : Int} (h : ∀ q, ts[0]? = some q → x < q) : ¬ Mem l x := by
  rintro ⟨p, hp', hr, h3, h4⟩
  obtain ⟨j, hj⟩ := List.getElem?_of_mem (hts _ (mem_ends hp' hr).1)
  obtain ⟨lj, ej⟩ := List.getElem?_eq_some_iff.1 hj
  have h0 := h ts[0] (List.getElem?_eq_getElem (by omega))
  rcases Nat.eq_zero_or_pos j with rfl | h1
  · omega
  · have := List.pairwise_iff_getElem.1 hp 0 j (by omega) lj h1
    omega
theorem mem_behind {l : List Sp} {ts : List Int} (hts : ∀ y ∈ endsOf l, y ∈ ts) (hp : ts.Pairwise (· < ·)) {i : Nat} {a x : Int} (ha : ts[i]? = some a) (hi : ts.length ≤ i + 1) (h : a ≤ x) : ¬ Mem l x := by
  rintro ⟨p, hp', hr, h3, h4⟩
  obtain ⟨j, hj⟩ := List.getElem?_of_mem (hts _ (mem_ends hp' hr).2)
  obtain ⟨lj, ej⟩ := List.getElem?_eq_some_iff.1 hj
  obtain ⟨li, ei⟩ := List.getElem?_eq_some_iff.1 ha
  rcases Nat.lt_or_ge j i with h1 | h1
  · have := List.pairwise_iff_getElem.1 hp j i lj li h1
    omega
  · obtain rfl : j = i := by omega
    omega

/-- Which times of two lists count. -/
def kindB (kind : Int) (x y : Bool) : Bool := (kind == 0 && (x || y)) || (kind == 1 && x && y) || (kind == 2 && x && !y)
def KindP (kind : Int) (a b : List Sp) (x : Int) : Prop := kindB kind (memB a x) (memB b x) = true
/-- What is out when the pieces ahead of place i are through. -/
structure OutTo (a b : List Sp) (kind : Int) (ts : List Int) (i : Nat) (o : List Sp) : Prop where
  cov : Cov o
  mem : ∀ x, (∀ q, ts[i]? = some q → x < q) → i < ts.length → (Mem o x ↔ KindP kind a b x)
  ends : ∀ p ∈ o, ∀ q, ts[i]? = some q → p.2 ≤ q
  len : o.length ≤ i
theorem kind_none {kind : Int} : kindB kind false false = false := by simp [kindB]
theorem OutTo.start {a b : List Sp} {kind : Int} {ts : List Int} (ha : ∀ y ∈ endsOf a, y ∈ ts) (hb : ∀ y ∈ endsOf b, y ∈ ts) (hp : ts.Pairwise (· < ·)) : OutTo a b kind ts 0 [] := by
  refine ⟨Cov.nil, fun x hx _ => ?_, by simp, Nat.le_refl _⟩
  have h1 : memB a x = false := by have := mem_ahead ha hp hx; rw [← memB_iff] at this; simpa using this
  have h2 : memB b x = false := by have := mem_ahead hb hp hx; rw [← memB_iff] at this; simpa using this
  simp [KindP, h1, h2, kind_none, mem_nil]
theorem kind_between {a b : List Sp} {kind : Int} {ts : List Int} (ha : ∀ y ∈ endsOf a, y ∈ ts) (hb : ∀ y ∈ endsOf b, y ∈ ts) (hp : ts.Pairwise (· < ·)) {i : Nat} {f t x : Int} (hf : ts[i]? = some f) (ht : ts[i + 1]? = some t) (h1 : f ≤ x) (h2 : x < t) : KindP kind a b x ↔ KindP kind a b f := by
  unfold KindP
  rw [memB_eq (l := a) (m := a) (x := x), memB_eq (l := b) (m := b) (x := x)]
  · rw [show memB a x = memB a f from by rw [Bool.eq_iff_iff, memB_iff, memB_iff]; exact mem_between ha hp hf ht h1 h2, show memB b x = memB b f from by rw [Bool.eq_iff_iff, memB_iff, memB_iff]; exact mem_between hb hp hf ht h1 h2]
  · exact Iff.rfl
  · exact Iff.rfl
/-- A piece that doesn't count. -/
theorem OutTo.skip {a b : List Sp} {kind : Int} {ts : List Int} {i : Nat} {o : List Sp} (h : OutTo a b kind ts i o) (ha : ∀ y ∈ endsOf a, y ∈ ts) (hb : ∀ y ∈ endsOf b, y ∈ ts) (hp : ts.Pairwise (· < ·)) {f t : Int} (hf : ts[i]? = some f) (ht : ts[i + 1]? = some t) (hn : kindB kind (memB a f) (memB b f) = false) : OutTo a b kind ts (i + 1) o := by
  obtain ⟨li, ei⟩ := List.getElem?_eq_some_iff.1 hf
  obtain ⟨lj, ej⟩ := List.getElem?_eq_some_iff.1 ht
  have hft := List.pairwise_iff_getElem.1 hp i (i + 1) li lj (by omega)
  rw [ei, ej] at hft
  refine ⟨h.cov, fun x hx _ => ?_, fun p hp' q hq => ?_, by have := h.len; omega⟩
  · rcases Int.lt_or_le x f with h1 | h1
    · exact h.mem x (fun q hq => by rw [hf] at hq; injection hq with hq; omega) li
    · rw [kind_between ha hb hp hf ht h1 (hx t ht)]
      constructor
      · rintro ⟨p, hp', hr, h3, h4⟩
        have := h.ends p hp' f hf
        omega
      · intro hk
        rw [KindP, hn] at hk
        cases hk
  · have := h.ends p hp' f hf
    rw [ht] at hq
    injection hq with hq
    omega
theorem OutTo.next {a b : List Sp} {kind : Int} {ts : List Int} {i : Nat} {o o' : List Sp} (h : OutTo a b kind ts i o) (ha : ∀ y ∈ endsOf a, y ∈ ts) (hb : ∀ y ∈ endsOf b, y ∈ ts) (hp : ts.Pairwise (· < ·)) {f t : Int} (hf : ts[i]? = some f) (ht : ts[i + 1]? = some t) (hn : kindB kind (memB a f) (memB b f) = true)
    (hc : Cov o') (hm : ∀ x, Mem o' x ↔ Mem o x ∨ (f ≤ x ∧ x < t)) (he : ∀ p ∈ o', p ∈ o ∨ p.2 = t) (hl : o'.length ≤ o.length + 1) : OutTo a b kind ts (i + 1) o' := by
  obtain ⟨li, ei⟩ := List.getElem?_eq_some_iff.1 hf
  obtain ⟨lj, ej⟩ := List.getElem?_eq_some_iff.1 ht
  have hft := List.pairwise_iff_getElem.1 hp i (i + 1) li lj (by omega)
  rw [ei, ej] at hft
  refine ⟨hc, fun x hx _ => ?_, fun p hp' q hq => ?_, by have := h.len; omega⟩
  · rw [hm x]
    rcases Int.lt_or_le x f with h1 | h1
    · rw [h.mem x (fun q hq => by rw [hf] at hq; injection hq with hq; omega) li]
      constructor
      · rintro (h2 | h2)
        · exact h2
        · omega
      · exact .inl
    · rw [kind_between ha hb hp hf ht h1 (hx t ht)]
      exact ⟨fun _ => hn, fun _ => .inr ⟨h1, hx t ht⟩⟩
  · rw [ht] at hq
    injection hq with hq
    rcases he p hp' with h1 | h1
    · have := h.ends p h1 f hf
      omega
    · omega
theorem OutTo.stop {a b : List Sp} {kind : Int} {ts : List Int} {i : Nat} {o : List Sp} (h : OutTo a b kind ts i o) (ha : ∀ y ∈ endsOf a, y ∈ ts) (hb : ∀ y ∈ endsOf b, y ∈ ts) (hp : ts.Pairwise (· < ·)) (hi : ts.length ≤ i + 1) (hi2 : i = 0 ∨ i < ts.length) : CovOf o (KindP kind a b) := by
  refine ⟨h.cov, fun x => ?_⟩
  rcases Nat.lt_or_ge i ts.length with hl | hl
  · rcases Int.lt_or_le x ts[i] with h1 | h1
    · exact h.mem x (fun q hq => by rw [List.getElem?_eq_getElem hl] at hq; injection hq with hq; omega) hl
    · have e1 : memB a x = false := by have := mem_behind ha hp (List.getElem?_eq_getElem hl) hi h1; rw [← memB_iff] at this; simpa using this
      have e2 : memB b x = false := by have := mem_behind hb hp (List.getElem?_eq_getElem hl) hi h1; rw [← memB_iff] at this; simpa using this
      constructor
      · rintro ⟨p, hp', hr, h3, h4⟩
        have := h.ends p hp' _ (List.getElem?_eq_getElem hl)
        omega
      · intro hk
        rw [KindP, e1, e2, kind_none] at hk
        cases hk
  · obtain rfl : i = 0 := by omega
    have ht : ts = [] := List.eq_nil_of_length_eq_zero (by omega)
    have e0 : o = [] := List.eq_nil_of_length_eq_zero (by have := h.len; omega)
    have e1 : memB a x = false := by have := mem_ahead ha hp (x := x) (by simp [ht]); rw [← memB_iff] at this; simpa using this
    have e2 : memB b x = false := by have := mem_ahead hb hp (x := x) (by simp [ht]); rw [← memB_iff] at this; simpa using this
    rw [e0]
    simp [KindP, e1, e2, kind_none, mem_nil]

end Go.Proofs.Ytmfkcbanjlmmhaa
