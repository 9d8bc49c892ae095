/-
  Plain facts on turns: how many ends of a cover are not behind a time tells whether it has the time; going over the turns of two covers gives the cover of what counts; how long covers are.
-/
import Derived.Test.YtmfkcbanjlmmhaaCpure
namespace Go.Proofs.Ytmfkcbanjlmmhaa

/-- All From and To of a cover. -/
def bord (l : List Sp) : List Int := l.flatMap fun p => [p.1, p.2]
theorem bord_cons (p : Sp) (l : List Sp) : bord (p :: l) = p.1 :: p.2 :: bord l := by simp [bord]
theorem bord_snoc (l : List Sp) (p : Sp) : bord (l ++ [p]) = bord l ++ [p.1, p.2] := by simp [bord]
theorem bord_length (l : List Sp) : (bord l).length = 2 * l.length := by
  induction l with
  | nil => rfl
  | cons p l ih => rw [bord_cons]; simp only [List.length_cons, ih]; omega
theorem bord_bounds {l : List Sp} (h : Cov l) {x : Int} (hx : x ∈ bord l) : -1099511627776 ≤ x ∧ x ≤ 1099511627776 := by
  unfold bord at hx
  simp only [List.mem_flatMap] at hx
  obtain ⟨p, hp, hx⟩ := hx
  have := right_yes (h.1 p hp)
  simp at hx
  omega
theorem bord_behind {p : Sp} {l : List Sp} (h : Cov (p :: l)) {x : Int} (hx : x ∈ bord l) : p.2 < x := by
  unfold bord at hx
  simp only [List.mem_flatMap] at hx
  obtain ⟨q, hq, hx⟩ := hx
  have := right_yes (h.1 q (List.mem_cons_of_mem _ hq))
  have := h.head q hq
  simp at hx
  omega
/-- How many are not behind x. -/
def upTo (l : List Int) (x : Int) : Nat := l.countP fun y => decide (y ≤ x)
theorem upTo_cons (y : Int) (l : List Int) (x : Int) : upTo (y :: l) x = upTo l x + if y ≤ x then 1 else 0 := by
  simp [upTo, List.countP_cons]
theorem cov_odd : ∀ (l : List Sp) (x : Int), Cov l → (Mem l x ↔ upTo (bord l) x % 2 = 1)
  | [], x, _ => by simp [mem_nil, upTo, bord]
  | p :: l, x, h => by
    have ih := cov_odd l x h.tail
    have hr := right_yes (h.1 p (by simp))
    rw [bord_cons, upTo_cons, upTo_cons, mem_cons]
    simp only [h.1 p (by simp), true_and]
    rcases Int.lt_or_le x p.2 with h1 | h1
    · have h0 : upTo (bord l) x = 0 := by
        unfold upTo
        rw [List.countP_eq_zero]
        intro y hy
        have := bord_behind h hy
        simp; omega
      have hn : ¬ Mem l x := by rw [ih, h0]; omega
      rw [h0]
      rcases Int.lt_or_le x p.1 with h2 | h2
      · rw [if_neg (by omega), if_neg (by omega)]
        constructor
        · rintro (h3 | h3)
          · omega
          · exact absurd h3 hn
        · omega
      · rw [if_neg (by omega), if_pos (by omega)]
        exact ⟨fun _ => rfl, fun _ => .inl ⟨h2, h1⟩⟩
    · rw [if_pos (by omega), if_pos (by omega)]
      constructor
      · rintro (h3 | h3)
        · omega
        · have := ih.1 h3
          omega
      · intro h3
        exact .inr (ih.2 (by omega))

/-- A turn: its time, and which list turns. -/
abbrev Tn := Int × Int
/-- The turns of two covers. -/
def tnOf (a b : List Sp) : List Tn := (bord a).map (fun t => (t, 0)) ++ (bord b).map fun t => (t, 1)
theorem tn_bounds {a b : List Sp} (ha : Cov a) (hb : Cov b) {q : Tn} (h : q ∈ tnOf a b) : (q.2 = 0 ∨ q.2 = 1) ∧ -1099511627776 ≤ q.1 ∧ q.1 ≤ 1099511627776 := by
  unfold tnOf at h
  simp only [List.mem_append, List.mem_map] at h
  rcases h with ⟨t, ht, rfl⟩ | ⟨t, ht, rfl⟩
  · exact ⟨.inl rfl, bord_bounds ha ht⟩
  · exact ⟨.inr rfl, bord_bounds hb ht⟩
/-- Has the list with this number turned an odd number of times? -/
def odd (s : List Tn) (n : Int) : Bool := decide ((s.countP fun q => decide (q.2 = n)) % 2 = 1)
theorem odd_nil (n : Int) : odd [] n = false := by simp [odd]
theorem odd_snoc_same (s : List Tn) (q : Tn) {n : Int} (h : q.2 = n) : odd (s ++ [q]) n = !odd s n := by
  unfold odd
  rw [List.countP_append]
  have e : List.countP (fun q : Tn => decide (q.2 = n)) [q] = 1 := by simp [h]
  rw [e]
  rcases Nat.mod_two_eq_zero_or_one (s.countP fun q => decide (q.2 = n)) with h1 | h1
  · rw [decide_eq_true (by omega), decide_eq_false (by omega)]; rfl
  · rw [decide_eq_false (by omega), decide_eq_true (by omega)]; rfl
theorem odd_snoc_other (s : List Tn) (q : Tn) {n : Int} (h : q.2 ≠ n) : odd (s ++ [q]) n = odd s n := by
  unfold odd
  rw [List.countP_append]
  have e : List.countP (fun q : Tn => decide (q.2 = n)) [q] = 0 := by simp [h]
  rw [e, Nat.add_zero]
theorem count_map (l : List Int) (m n : Int) (x : Int) : (l.map fun t => ((t, m) : Tn)).countP (fun q => decide (q.2 = n) && decide (q.1 ≤ x)) = if m = n then upTo l x else 0 := by
  induction l with
  | nil => simp [upTo]
  | cons y l ih =>
    rw [List.map_cons, List.countP_cons, ih, upTo_cons]
    by_cases h : m = n <;> simp [h]
theorem count_tn (a b : List Sp) (x : Int) : (tnOf a b).countP (fun q => decide (q.2 = 0) && decide (q.1 ≤ x)) = upTo (bord a) x ∧ (tnOf a b).countP (fun q => decide (q.2 = 1) && decide (q.1 ≤ x)) = upTo (bord b) x := by
  unfold tnOf
  rw [List.countP_append, List.countP_append, count_map, count_map, count_map, count_map]
  simp
/-- All ahead of place k not behind x, all others behind it: which lists have x. -/
theorem odd_mem {a b : List Sp} (ha : Cov a) (hb : Cov b) {s : List Tn} (hp : s.Perm (tnOf a b)) {k : Nat} {x : Int} (h1 : ∀ q ∈ s.take k, q.1 ≤ x) (h2 : ∀ q ∈ s.drop k, x < q.1) : odd (s.take k) 0 = memB a x ∧ odd (s.take k) 1 = memB b x := by
  have key : ∀ n : Int, (s.take k).countP (fun q => decide (q.2 = n)) = s.countP (fun q => decide (q.2 = n) && decide (q.1 ≤ x)) := fun n => by
    conv => rhs; rw [← List.take_append_drop k s, List.countP_append]
    have e0 : (s.drop k).countP (fun q => decide (q.2 = n) && decide (q.1 ≤ x)) = 0 := by
      rw [List.countP_eq_zero]
      intro q hq
      have := h2 q hq
      simp; omega
    rw [e0, Nat.add_zero]
    apply List.countP_congr
    intro q hq
    have := h1 q hq
    simp [this]
  obtain ⟨c0, c1⟩ := count_tn a b x
  rw [← hp.countP_eq] at c0 c1
  constructor
  · rw [Bool.eq_iff_iff, memB_iff, cov_odd a x ha, odd, key, c0]; simp
  · rw [Bool.eq_iff_iff, memB_iff, cov_odd b x hb, odd, key, c1]; simp

/-- Is the time ahead of the turn at place k? -/
def Ahead (s : List Tn) (k : Nat) (x : Int) : Prop := ∀ q, s[k]? = some q → x < q.1
def CountP (f : Bool → Bool → Bool) (a b : List Sp) (x : Int) : Prop := f (memB a x) (memB b x) = true
/-- What holds when the turns ahead of place k are through. -/
structure Picks (a b : List Sp) (f : Bool → Bool → Bool) (s : List Tn) (k : Nat) (o : List Sp) (fr : Int) (c : Bool) : Prop where
  cov : Cov o
  off : c = false → (∀ x, Ahead s k x → (Mem o x ↔ CountP f a b x)) ∧ ∀ p ∈ o, Ahead s k p.2
  on : c = true → (∀ x, Ahead s k x → ((Mem o x ∨ fr ≤ x) ↔ CountP f a b x)) ∧ (∀ p ∈ o, p.2 < fr) ∧ Ahead s k fr ∧ -1099511627776 ≤ fr ∧ fr ≤ 1099511627776
  len : o.length ≤ k
def Sorted (s : List Tn) : Prop := ∀ (i j : Nat) (p q : Tn), i ≤ j → s[i]? = some p → s[j]? = some q → p.1 ≤ q.1
theorem Sorted.take {s : List Tn} (h : Sorted s) {k : Nat} {t : Tn} (ht : s[k]? = some t) {x : Int} (hx : t.1 ≤ x) : ∀ q ∈ s.take (k + 1), q.1 ≤ x := fun q hq => by
  obtain ⟨i, hi⟩ := List.getElem?_of_mem hq
  rw [List.getElem?_take] at hi
  split at hi
  · have := h i k q t (by omega) hi ht
    omega
  · cases hi
theorem Sorted.drop {s : List Tn} (h : Sorted s) {k : Nat} {x : Int} (hx : Ahead s k x) : ∀ q ∈ s.drop k, x < q.1 := fun q hq => by
  obtain ⟨i, hi⟩ := List.getElem?_of_mem hq
  rw [List.getElem?_drop] at hi
  have hlt : k + i < s.length := by
    rcases Nat.lt_or_ge (k + i) s.length with h1 | h1
    · exact h1
    · simp [List.getElem?_eq_none h1] at hi
  have h0 := hx s[k] (List.getElem?_eq_getElem (by omega))
  have := h k (k + i) _ q (by omega) (List.getElem?_eq_getElem (by omega)) hi
  omega
theorem Picks.start {a b : List Sp} {f : Bool → Bool → Bool} {s : List Tn} (ha : Cov a) (hb : Cov b) (hf : f false false = false) (hp : s.Perm (tnOf a b)) (hs : Sorted s) : Picks a b f s 0 [] 0 false := by
  refine ⟨Cov.nil, fun _ => ⟨fun x hx => ?_, by simp⟩, (fun h => by cases h), Nat.le_refl _⟩
  obtain ⟨e0, e1⟩ := odd_mem ha hb hp (k := 0) (x := x) (by simp) (hs.drop hx)
  simp only [List.take_zero, odd_nil] at e0 e1
  simp [CountP, ← e0, ← e1, hf, mem_nil]
/-- Another turn comes at the same time. -/
theorem Picks.stays {a b : List Sp} {f : Bool → Bool → Bool} {s : List Tn} {k : Nat} {o : List Sp} {fr : Int} {c : Bool} (h : Picks a b f s k o fr c) {t u : Tn} (ht : s[k]? = some t) (hu : s[k + 1]? = some u) (he : u.1 = t.1) : Picks a b f s (k + 1) o fr c := by
  have e : ∀ x, Ahead s (k + 1) x ↔ Ahead s k x := fun x => by
    unfold Ahead
    rw [ht, hu]
    constructor
    · intro h q hq; injection hq with hq; have := h u rfl; subst hq; omega
    · intro h q hq; injection hq with hq; have := h t rfl; subst hq; omega
  refine ⟨h.cov, fun hc => ?_, fun hc => ?_, by have := h.len; omega⟩
  · have := h.off hc
    exact ⟨fun x hx => this.1 x ((e x).1 hx), fun p hp => (e _).2 (this.2 p hp)⟩
  · have := h.on hc
    exact ⟨fun x hx => this.1 x ((e x).1 hx), this.2.1, (e _).2 this.2.2.1, this.2.2.2⟩
theorem ahead_of {s : List Tn} {k : Nat} {t : Tn} (ht : s[k]? = some t) {x : Int} : Ahead s k x ↔ x < t.1 := by
  unfold Ahead
  rw [ht]
  exact ⟨fun h => h t rfl, fun h q hq => by injection hq with hq; subst hq; exact h⟩
/-- The times from a turn on, ahead of the next one, are alike. -/
theorem turn_alike {a b : List Sp} {f : Bool → Bool → Bool} {s : List Tn} (ha : Cov a) (hb : Cov b) (hp : s.Perm (tnOf a b)) (hs : Sorted s) {k : Nat} {t : Tn} (ht : s[k]? = some t) {x : Int} (h1 : t.1 ≤ x) (h2 : Ahead s (k + 1) x) : CountP f a b x ↔ f (odd (s.take (k + 1)) 0) (odd (s.take (k + 1)) 1) = true := by
  obtain ⟨e0, e1⟩ := odd_mem ha hb hp (k := k + 1) (x := x) (hs.take ht h1) (hs.drop h2)
  rw [CountP, e0, e1]
theorem Picks.turns {a b : List Sp} {f : Bool → Bool → Bool} {s : List Tn} {k : Nat} {o : List Sp} {fr : Int} {c : Bool} (h : Picks a b f s k o fr c) (ha : Cov a) (hb : Cov b) (hp : s.Perm (tnOf a b)) (hs : Sorted s) {t : Tn} (ht : s[k]? = some t) (hn : Ahead s (k + 1) t.1) {now : Bool} (hnow : f (odd (s.take (k + 1)) 0) (odd (s.take (k + 1)) 1) = now) :
    (now = true → c = false → Picks a b f s (k + 1) o t.1 true) ∧ (now = false → c = true → Picks a b f s (k + 1) (o ++ [(fr, t.1)]) fr false) ∧ (now = c → Picks a b f s (k + 1) o fr c) := by
  have hb1 := (tn_bounds ha hb (hp.mem_iff.1 (List.mem_of_getElem? ht))).2
  have hlen := h.len
  have low : ∀ x, x < t.1 → Ahead s k x := fun x hx => (ahead_of ht).2 hx
  have up : ∀ x, t.1 ≤ x → Ahead s (k + 1) x → (CountP f a b x ↔ now = true) := fun x h1 h2 => by rw [turn_alike ha hb hp hs ht h1 h2, hnow]
  have far : ∀ x, x < t.1 → Ahead s (k + 1) x := fun x hx q hq => by have := hn q hq; omega
  refine ⟨fun h1 h2 => ?_, fun h1 h2 => ?_, fun h1 => ?_⟩
  · obtain ⟨m1, m2⟩ := h.off h2
    refine ⟨h.cov, (fun h => by cases h), fun _ => ⟨fun x hx => ?_, fun p hp' => (ahead_of ht).1 (m2 p hp'), hn, hb1⟩, by omega⟩
    rcases Int.lt_or_le x t.1 with h3 | h3
    · rw [← m1 x (low x h3)]
      constructor
      · rintro (h4 | h4)
        · exact h4
        · omega
      · exact .inl
    · rw [up x h3 hx]
      exact ⟨fun _ => h1, fun _ => .inr h3⟩
  · obtain ⟨m1, m2, m3, m4⟩ := h.on h2
    have m3' := (ahead_of ht).1 m3
    have hr : rightB fr t.1 = true := by simp [rightB]; omega
    obtain ⟨c1, c2⟩ := put_adds h.cov m2 hr
    refine ⟨c1, fun _ => ⟨fun x hx => ?_, fun p hp' => ?_⟩, (fun h => by cases h), by simp; omega⟩
    · rw [c2 x]
      rcases Int.lt_or_le x t.1 with h3 | h3
      · rw [← m1 x (low x h3)]
        constructor
        · rintro (h4 | h4)
          · exact .inl h4
          · exact .inr h4.1
        · rintro (h4 | h4)
          · exact .inl h4
          · exact .inr ⟨h4, h3⟩
      · rw [up x h3 hx, h1]
        constructor
        · rintro (⟨p, hp', _, h4, h5⟩ | h4)
          · have := m2 p hp'
            omega
          · omega
        · intro h4; cases h4
    · rcases List.mem_append.1 hp' with h3 | h3
      · have := m2 p h3
        exact far _ (by omega)
      · obtain rfl := List.mem_singleton.1 h3
        exact hn
  · refine ⟨h.cov, fun hc => ?_, fun hc => ?_, by omega⟩
    · obtain ⟨m1, m2⟩ := h.off hc
      refine ⟨fun x hx => ?_, fun p hp' => far _ ((ahead_of ht).1 (m2 p hp'))⟩
      rcases Int.lt_or_le x t.1 with h3 | h3
      · exact m1 x (low x h3)
      · rw [up x h3 hx, h1, hc]
        constructor
        · rintro ⟨p, hp', _, h4, h5⟩
          have := (ahead_of ht).1 (m2 p hp')
          omega
        · intro h4; cases h4
    · obtain ⟨m1, m2, m3, m4⟩ := h.on hc
      refine ⟨fun x hx => ?_, m2, far _ ((ahead_of ht).1 m3), m4⟩
      rcases Int.lt_or_le x t.1 with h3 | h3
      · exact m1 x (low x h3)
      · rw [up x h3 hx, h1, hc]
        have := (ahead_of ht).1 m3
        exact ⟨fun _ => rfl, fun _ => .inr (by omega)⟩
theorem Picks.stop {a b : List Sp} {f : Bool → Bool → Bool} {s : List Tn} {k : Nat} {o : List Sp} {fr : Int} {c : Bool} (h : Picks a b f s k o fr c) (hf : f false false = false) (hk : s.length ≤ k) : CovOf o (CountP f a b) := by
  have hA : ∀ x, Ahead s k x := fun x q hq => by rw [List.getElem?_eq_none hk] at hq; cases hq
  cases c with
  | false => exact ⟨h.cov, fun x => (h.off rfl).1 x (hA x)⟩
  | true =>
    exfalso
    obtain ⟨m1, m2, m3, m4, m5⟩ := h.on rfl
    have := (m1 1099511627776 (hA _)).1 (.inr m5)
    have e1 : memB a 1099511627776 = false := by
      cases hm : memB a 1099511627776
      · rfl
      · have := mem_bounds ((memB_iff _ _).1 hm); omega
    have e2 : memB b 1099511627776 = false := by
      cases hm : memB b 1099511627776
      · rfl
      · have := mem_bounds ((memB_iff _ _).1 hm); omega
    rw [CountP, e1, e2, hf] at this
    cases this

/- How long covers are. -/
def lens (l : List Sp) : Int := (l.map fun p => p.2 - p.1).sum
theorem lens_cons (p : Sp) (l : List Sp) : lens (p :: l) = p.2 - p.1 + lens l := by simp [lens]
theorem lens_snoc (l : List Sp) (p : Sp) : lens (l ++ [p]) = lens l + (p.2 - p.1) := by simp [lens]
/-- How many of the n times from lo on are in a set. -/
def cnt (S : Int → Bool) (lo : Int) : Nat → Int
  | 0 => 0
  | n + 1 => cnt S lo n + if S (lo + n) then 1 else 0
theorem cnt_congr {S T : Int → Bool} (h : ∀ x, S x = T x) (lo : Int) : ∀ n, cnt S lo n = cnt T lo n
  | 0 => rfl
  | n + 1 => by rw [cnt, cnt, cnt_congr h lo n, h]
/-- How many times of a cover are ahead of x. -/
def lenTo (l : List Sp) (x : Int) : Int := (l.map fun p => max 0 (min p.2 x - p.1)).sum
theorem lenTo_cons (p : Sp) (l : List Sp) (x : Int) : lenTo (p :: l) x = max 0 (min p.2 x - p.1) + lenTo l x := by simp [lenTo]
theorem lenTo_step : ∀ (l : List Sp) (x : Int), Cov l → lenTo l (x + 1) = lenTo l x + if memB l x then 1 else 0
  | [], x, _ => by simp [lenTo, memB]
  | p :: l, x, h => by
    have ih := lenTo_step l x h.tail
    have hr := right_yes (h.1 p (by simp))
    have hm : memB (p :: l) x = ((decide (p.1 ≤ x) && decide (x < p.2)) || memB l x) := by
      simp [memB, hasB, h.1 p (by simp)]
    rw [lenTo_cons, lenTo_cons, ih, hm]
    have hn : p.1 ≤ x → x < p.2 → memB l x = false := fun _ h2 => by
      cases hq : memB l x
      · rfl
      · have := ((cov_tail h x).1 ((memB_iff _ _).1 hq)).2
        omega
    by_cases h1 : p.1 ≤ x
    · by_cases h2 : x < p.2
      · rw [hn h1 h2]
        simp only [h1, h2, decide_true, Bool.and_true, Bool.or_false, if_true]
        simp; omega
      · simp only [h1, h2, decide_true, decide_false, Bool.and_false, Bool.false_or]
        omega
    · simp only [h1, decide_false, Bool.false_and, Bool.false_or]
      omega
theorem lenTo_low : ∀ (l : List Sp) (x : Int), Cov l → x ≤ -1099511627776 → lenTo l x = 0
  | [], _, _, _ => rfl
  | p :: l, x, h, hx => by
    have hr := right_yes (h.1 p (by simp))
    rw [lenTo_cons, lenTo_low l x h.tail hx]
    omega
theorem lenTo_high : ∀ (l : List Sp) (x : Int), Cov l → 1099511627776 ≤ x → lenTo l x = lens l
  | [], _, _, _ => rfl
  | p :: l, x, h, hx => by
    have hr := right_yes (h.1 p (by simp))
    rw [lenTo_cons, lens_cons, lenTo_high l x h.tail hx]
    omega
theorem lenTo_cnt {l : List Sp} (h : Cov l) : ∀ n : Nat, lenTo l (-1099511627776 + n) = cnt (memB l) (-1099511627776) n
  | 0 => by simpa [cnt] using lenTo_low l _ h (Int.le_refl _)
  | n + 1 => by
    rw [cnt, ← lenTo_cnt h n, ← lenTo_step l _ h]
    congr 1
    omega
theorem lens_cnt {l : List Sp} (h : Cov l) : lens l = cnt (memB l) (-1099511627776) 2199023255552 := by
  rw [← lenTo_cnt h, ← lenTo_high l _ h (Int.le_refl _)]
  rfl
theorem cnt_add {S T U V : Int → Bool} (h : ∀ x, (if S x then 1 else 0) + (if T x then 1 else 0) + (if U x then 1 else 0) = (if V x then (1 : Int) else 0)) (lo : Int) : ∀ n, cnt S lo n + cnt T lo n + cnt U lo n = cnt V lo n
  | 0 => rfl
  | n + 1 => by
    have ih := cnt_add h lo n
    have := h (lo + n)
    simp only [cnt]
    omega
theorem lens_nonneg {l : List Sp} (h : Cov l) : 0 ≤ lens l ∧ lens l ≤ 2199023255552 := by
  have key : ∀ (S : Int → Bool) (lo : Int) (n : Nat), 0 ≤ cnt S lo n ∧ cnt S lo n ≤ n := fun S lo n => by
    induction n with
    | zero => simp [cnt]
    | succ n ih => rw [cnt]; split <;> omega
  rw [lens_cnt h]
  exact key _ _ _

end Go.Proofs.Ytmfkcbanjlmmhaa
