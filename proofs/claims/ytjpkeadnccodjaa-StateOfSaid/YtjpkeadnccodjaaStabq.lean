/-
  Plain facts on a stable sort: insertion by exchanges; blocks that are in order, of one length and of twice that length.
-/
import Derived.Test.YtjpkeadnccodjaaStabp
namespace Go.Proofs.Ytjpkeadnccodjaa
open Go.Sort Go.Shelf

section
variable {α : Type} {lt : α → α → Bool}

theorem ins_inner [Inhabited α] : ∀ (n : Nat) (L P S : List (α × Nat)) (x : α × Nat), L.length = n → ∃ L1 L2, L = L1 ++ L2 ∧
    insInner (ltp lt) P.length (P.length + L.length) (P ++ (L ++ x :: S)).toArray = (P ++ (L1 ++ x :: (L2 ++ S))).toArray ∧
    (L1.length = 0 ∨ ∃ z, L[L1.length - 1]? = some z ∧ lt x.1 z.1 = false) ∧ (L1.length = L.length ∨ ∃ z, L[L1.length]? = some z ∧ lt x.1 z.1 = true)
  | 0, L, P, S, x, h => by
    obtain rfl := List.eq_nil_of_length_eq_zero h
    refine ⟨[], [], rfl, ?_, .inl rfl, .inl rfl⟩
    rw [insInner_stop _ _ _ _ (.inl (by simp))]
    rfl
  | n + 1, L, P, S, x, h => by
    rcases List.eq_nil_or_concat L with rfl | ⟨L', y, rfl⟩
    · cases h
    · rw [List.concat_eq_append] at h ⊢
      have hL : L'.length = n := by rw [List.length_append, List.length_singleton] at h; omega
      have e0 : P ++ (L' ++ [y] ++ x :: S) = (P ++ L') ++ y :: ([] ++ x :: S) := by simp
      have gx : (P ++ (L' ++ [y] ++ x :: S)).toArray[P.length + (L' ++ [y]).length]! = x := getBangT (by
        have := at_len (P ++ (L' ++ [y])) x S
        rw [List.append_assoc, List.length_append] at this
        exact this)
      have gy : (P ++ (L' ++ [y] ++ x :: S)).toArray[P.length + (L' ++ [y]).length - 1]! = y := getBangT (by
        have := at_len (P ++ L') y ([] ++ x :: S)
        rw [← e0, List.length_append] at this
        rw [show P.length + (L' ++ [y]).length - 1 = P.length + L'.length by rw [List.length_append, List.length_singleton]; omega]
        exact this)
      cases hxy : lt x.1 y.1 with
      | false =>
        refine ⟨L' ++ [y], [], by simp, ?_, .inr ⟨y, ?_, hxy⟩, .inl rfl⟩
        · rw [insInner_stop _ _ _ _ (.inr (by rw [gx, gy]; exact hxy))]
          simp
        · rw [List.length_append, List.length_singleton, Nat.add_sub_cancel]
          simp
      | true =>
        obtain ⟨L1, L2, h1, h2, h3, h4⟩ := ins_inner n L' P (y :: S) x hL
        refine ⟨L1, L2 ++ [y], by rw [h1]; simp, ?_, ?_, ?_⟩
        · rw [insInner_go _ _ _ _ (by rw [List.length_append, List.length_singleton]; omega) (by rw [gx, gy]; exact hxy)]
          have hs := swp_list_back (P ++ L') [] S y x
          rw [List.length_nil, Nat.add_zero, List.length_append, ← e0] at hs
          rw [show P.length + (L' ++ [y]).length - 1 = P.length + L'.length by rw [List.length_append, List.length_singleton]; omega,
            show P.length + (L' ++ [y]).length = P.length + L'.length + 1 by rw [List.length_append, List.length_singleton]; omega, hs]
          rw [show P ++ L' ++ x :: ([] ++ y :: S) = P ++ (L' ++ x :: (y :: S)) by simp, h2]
          simp
        · rcases h3 with h3 | ⟨z, h3, h5⟩
          · exact .inl h3
          · refine .inr ⟨z, ?_, h5⟩
            rw [List.getElem?_append_left (List.getElem?_eq_some_iff.1 h3).1]
            exact h3
        · refine .inr ?_
          rcases h4 with h4 | ⟨z, h4, h5⟩
          · refine ⟨y, ?_, hxy⟩
            rw [h4]
            simp
          · refine ⟨z, ?_, h5⟩
            rw [List.getElem?_append_left (List.getElem?_eq_some_iff.1 h4).1]
            exact h4
/-- They stood in this order. -/
abbrev Asc (l : List (α × Nat)) : Prop := l.Pairwise fun x y => x.2 < y.2
theorem ins_outer [Inhabited α] (h : SWO lt) : ∀ (R M P S : List (α × Nat)), Ord lt M → Cross M R → Asc R →
    ∃ M', M'.Perm (M ++ R) ∧ Ord lt M' ∧ insOuter (ltp lt) P.length (P.length + M.length + R.length) (P.length + M.length) (P ++ (M ++ (R ++ S))).toArray = (P ++ (M' ++ S)).toArray
  | [], M, P, S, ho, _, _ => by
    refine ⟨M, by simp, ho, ?_⟩
    rw [insOuter_stop _ _ _ _ _ (by simp)]
    rfl
  | x :: R, M, P, S, ho, hc, ha => by
    obtain ⟨a1, a2⟩ := List.pairwise_cons.1 ha
    obtain ⟨L1, L2, e1, e2, h3, h4⟩ := ins_inner (lt := lt) M.length M P (R ++ S) x rfl
    have ht : M.take L1.length = L1 := by rw [e1]; simp
    have hd : M.drop L1.length = L2 := by rw [e1]; simp
    have hm := merge_right h (y := x) (j := L1.length) ho (fun u hu v hv => by
      obtain rfl := List.mem_singleton.1 hv
      exact hc u hu v List.mem_cons_self) h3 h4
    rw [ht, hd] at hm
    have hp : (L1 ++ x :: L2).Perm (M ++ [x]) := by
      rw [e1]
      refine (List.perm_middle).trans ?_
      exact (List.perm_append_comm (l₁ := [x]) (l₂ := L1 ++ L2))
    have hl : (L1 ++ x :: L2).length = M.length + 1 := by rw [e1]; simp; omega
    obtain ⟨M', p, o, e⟩ := ins_outer h R (L1 ++ x :: L2) P S hm (fun u hu v hv => by
      rcases List.mem_append.1 (hp.mem_iff.1 hu) with hu | hu
      · exact hc u hu v (List.mem_cons_of_mem _ hv)
      · obtain rfl := List.mem_singleton.1 hu
        exact a1 v hv) a2
    refine ⟨M', p.trans ?_, o, ?_⟩
    · have := hp.append_right R
      rw [show M ++ [x] ++ R = M ++ x :: R by simp] at this
      exact this
    · rw [insOuter_go _ _ _ _ _ (by rw [List.length_cons]; omega)]
      rw [List.cons_append, e2]
      rw [hl] at e
      rw [show P.length + M.length + (x :: R).length = P.length + (M.length + 1) + R.length by rw [List.length_cons]; omega, Nat.add_assoc P.length M.length 1]
      rw [show P ++ (L1 ++ x :: (L2 ++ (R ++ S))) = P ++ (L1 ++ x :: L2 ++ (R ++ S)) by simp]
      exact e
theorem insertion_stable [Inhabited α] (h : SWO lt) (B P S : List (α × Nat)) (ha : Asc B) : ∃ M, M.Perm B ∧ Ord lt M ∧ insertionSort (ltp lt) (P ++ (B ++ S)).toArray P.length (P.length + B.length) = (P ++ (M ++ S)).toArray := by
  cases B with
  | nil =>
    refine ⟨[], List.Perm.refl _, List.Pairwise.nil, ?_⟩
    unfold insertionSort
    rw [insOuter_stop _ _ _ _ _ (by simp)]
  | cons x R =>
    obtain ⟨a1, a2⟩ := List.pairwise_cons.1 ha
    obtain ⟨M', p, o, e⟩ := ins_outer h R [x] P S (List.pairwise_singleton _ _) (fun u hu v hv => by
      obtain rfl := List.mem_singleton.1 hu
      exact a1 v hv) a2
    refine ⟨M', p, o, ?_⟩
    unfold insertionSort
    rw [List.length_singleton] at e
    rw [show P.length + (x :: R).length = P.length + 1 + R.length by rw [List.length_cons]; omega]
    exact e

/-! ### blocks -/
/-- Two places: in one block of s they are in order; in two blocks they stood so. -/
def GB (lt : α → α → Bool) (s : Nat) (d : List (α × Nat)) (p q : Nat) : Prop := ∀ x y, d[p]? = some x → d[q]? = some y → (p / s = q / s → TL lt x y) ∧ (p / s < q / s → x.2 < y.2)
/-- Ahead of a the blocks are of s2, behind it of s1. -/
def HB (lt : α → α → Bool) (s1 s2 a : Nat) (d : List (α × Nat)) : Prop := ∀ p q, p < q → (q < a → GB lt s2 d p q) ∧ (a ≤ q → GB lt s1 d p q)
theorem HB.start {s1 s2 : Nat} {d : List (α × Nat)} (h : ∀ p q, p < q → GB lt s1 d p q) : HB lt s1 s2 0 d := fun p q hpq => ⟨fun h0 => by omega, fun _ => h p q hpq⟩
theorem asc_one {d : List (α × Nat)} (h : Asc d) : ∀ p q, p < q → GB lt 1 d p q := fun p q hpq x y hx hy => by
  obtain ⟨h1, rfl⟩ := List.getElem?_eq_some_iff.1 hx
  obtain ⟨h2, rfl⟩ := List.getElem?_eq_some_iff.1 hy
  rw [Nat.div_one, Nat.div_one]
  exact ⟨fun e => by omega, fun _ => List.pairwise_iff_getElem.1 h p q h1 h2 hpq⟩
theorem get_mid {P X S : List (α × Nat)} {p : Nat} {x : α × Nat} (hx : (P ++ (X ++ S))[p]? = some x) : (p < P.length ∧ P[p]? = some x) ∨ (P.length ≤ p ∧ p < P.length + X.length ∧ X[p - P.length]? = some x) ∨ (P.length + X.length ≤ p ∧ S[p - (P.length + X.length)]? = some x) := by
  rcases Nat.lt_or_ge p P.length with h | h
  · rw [List.getElem?_append_left h] at hx
    exact .inl ⟨h, hx⟩
  · rw [List.getElem?_append_right h] at hx
    rcases Nat.lt_or_ge (p - P.length) X.length with h2 | h2
    · rw [List.getElem?_append_left h2] at hx
      exact .inr (.inl ⟨h, by omega, hx⟩)
    · rw [List.getElem?_append_right h2] at hx
      exact .inr (.inr ⟨by omega, by rw [Nat.sub_sub] at hx; exact hx⟩)
theorem put_first {P X S : List (α × Nat)} {p : Nat} {x : α × Nat} (hx : P[p]? = some x) : (P ++ (X ++ S))[p]? = some x := by
  rw [List.getElem?_append_left (List.getElem?_eq_some_iff.1 hx).1]; exact hx
theorem put_mid {P X S : List (α × Nat)} {p : Nat} {x : α × Nat} (hx : X[p]? = some x) : (P ++ (X ++ S))[P.length + p]? = some x := by
  rw [List.getElem?_append_right (by omega), Nat.add_sub_cancel_left, List.getElem?_append_left (List.getElem?_eq_some_iff.1 hx).1]; exact hx
theorem put_last {P X S : List (α × Nat)} {p : Nat} {x : α × Nat} (hx : S[p]? = some x) : (P ++ (X ++ S))[P.length + X.length + p]? = some x := by
  rw [List.getElem?_append_right (by omega), List.getElem?_append_right (by omega), show P.length + X.length + p - P.length - X.length = p by omega]; exact hx
theorem div_same {s k p : Nat} (h : 0 < s) (h1 : k * s ≤ p) (h2 : p < k * s + s) : p / s = k := by
  rw [Nat.div_eq_iff h]
  exact ⟨h1, by rw [Nat.mul_comm k s, Nat.mul_comm s k]; omega⟩
theorem div_lt {s k p : Nat} (h : 0 < s) (h1 : p < k * s) : p / s < k := (Nat.div_lt_iff_lt_mul h).2 h1
theorem div_ge {s k p : Nat} (h : 0 < s) (h1 : k * s ≤ p) : k ≤ p / s := (Nat.le_div_iff_mul_le h).2 h1
/-- One block of s2 more is put in order. -/
theorem HB.step [Inhabited α] {s1 s2 k : Nat} {P X X' S : List (α × Nat)} (h1 : 0 < s1) (h2 : 0 < s2) (hP : P.length = k * s2) {t : Nat} (hs : k * s2 + X.length = t * s1 ∨ S = []) (ht : k * s2 = 0 ∨ ∃ u, k * s2 = u * s1) (hX : X.length ≤ s2) (hsX : S = [] ∨ X.length = s2)
    (h : HB lt s1 s2 P.length (P ++ (X ++ S))) (hp : X'.Perm X) (ho : Ord lt X') : HB lt s1 s2 (P.length + X.length) (P ++ (X' ++ S)) := by
  have hl := hp.length_eq
  have memX : ∀ {i : Nat} {x : α × Nat}, X'[i]? = some x → ∃ j, X[j]? = some x ∧ j < X.length := fun {i x} hx => by
    obtain ⟨j, hj⟩ := List.getElem?_of_mem (hp.mem_iff.1 (List.mem_of_getElem? hx))
    exact ⟨j, hj, (List.getElem?_eq_some_iff.1 hj).1⟩
  intro p q hpq
  constructor
  · intro hq x y hx hy
    rcases get_mid hy with ⟨q1, hy⟩ | ⟨q1, q2, hy⟩ | ⟨q1, hy⟩
    · rcases get_mid hx with ⟨p1, hx⟩ | ⟨p1, p2, hx⟩ | ⟨p1, hx⟩
      · exact (h p q hpq).1 q1 x y (put_first hx) (put_first hy)
      · omega
      · omega
    · rcases get_mid hx with ⟨p1, hx⟩ | ⟨p1, p2, hx⟩ | ⟨p1, hx⟩
      · have e1 := div_lt (p := p) (k := k) h2 (by omega)
        have e2 := div_ge (p := q) (k := k) h2 (by omega)
        refine ⟨fun e => by omega, fun _ => ?_⟩
        obtain ⟨j, hj, hjl⟩ := memX hy
        have := (h p (P.length + j) (by omega)).2 (by omega) x y (put_first hx) (put_mid hj)
        refine this.2 ?_
        rcases ht with h0 | ⟨u, hu⟩
        · omega
        · exact Nat.lt_of_lt_of_le (div_lt (k := u) h1 (by omega)) (div_ge (k := u) h1 (by omega))
      · have e1 := div_same (p := p) (k := k) h2 (by omega) (by omega)
        have e2 := div_same (p := q) (k := k) h2 (by omega) (by omega)
        exact ⟨fun _ => ho.at (by omega) hx hy, fun e => by omega⟩
      · omega
    · omega
  · intro hq x y hx hy
    rcases get_mid hy with ⟨q1, hy⟩ | ⟨q1, q2, hy⟩ | ⟨q1, hy⟩
    · omega
    · omega
    · rw [hl] at q1 hy
      have hy2 := put_last (P := P) (X := X) hy
      rw [show P.length + X.length + (q - (P.length + X.length)) = q by omega] at hy2
      rcases get_mid hx with ⟨p1, hx⟩ | ⟨p1, p2, hx⟩ | ⟨p1, hx⟩
      · exact (h p q hpq).2 (by omega) x y (put_first hx) hy2
      · obtain ⟨j, hj, hjl⟩ := memX hx
        have hne : S ≠ [] := fun e => by rw [e] at hy; simp at hy
        rcases hs with hs | hs
        · have d1 : p / s1 < t := div_lt h1 (by omega)
          have d2 : t ≤ q / s1 := div_ge h1 (by omega)
          have d3 : (P.length + j) / s1 < t := div_lt h1 (by omega)
          have := (h (P.length + j) q (by omega)).2 (by omega) x y (put_mid hj) hy2
          exact ⟨fun e => by omega, fun _ => this.2 (by omega)⟩
        · exact absurd hs hne
      · rw [hl] at p1 hx
        have hx2 := put_last (P := P) (X := X) hx
        rw [show P.length + X.length + (p - (P.length + X.length)) = p by omega] at hx2
        exact (h p q hpq).2 (by omega) x y hx2 hy2
/-- What is behind is one block of s1, too: all blocks are of s2. -/
theorem HB.end {s1 s2 k n : Nat} {d : List (α × Nat)} (h1 : 0 < s1) (h2 : 0 < s2) (hs : s1 ≤ s2) (hd : d.length = n) (hn : n ≤ k * s2 + s1) {u : Nat} (hu : k * s2 = u * s1) (h : HB lt s1 s2 (k * s2) d) : ∀ p q, p < q → GB lt s2 d p q := by
  intro p q hpq x y hx hy
  have hq := (List.getElem?_eq_some_iff.1 hy).1
  rcases Nat.lt_or_ge q (k * s2) with h3 | h3
  · exact (h p q hpq).1 h3 x y hx hy
  · have k1 := (h p q hpq).2 h3 x y hx hy
    have e2 := div_same (p := q) (k := k) h2 h3 (by omega)
    have e3 := div_same (p := q) (k := u) h1 (by omega) (by omega)
    rcases Nat.lt_or_ge p (k * s2) with h4 | h4
    · have e4 := div_lt (p := p) (k := k) h2 h4
      have e5 := div_lt (p := p) (k := u) h1 (by omega)
      exact ⟨fun e => by omega, fun _ => k1.2 (by omega)⟩
    · have e4 := div_same (p := p) (k := k) h2 h4 (by omega)
      have e5 := div_same (p := p) (k := u) h1 (by omega) (by omega)
      exact ⟨fun _ => k1.1 (by omega), fun e => by omega⟩
/-- One block: all in order. -/
theorem GB.all {s : Nat} {d : List (α × Nat)} (h : ∀ p q, p < q → GB lt s d p q) (hn : d.length ≤ s) : Ord lt d := by
  show List.Pairwise _ _
  rw [List.pairwise_iff_getElem]
  intro i j hi hj hij
  refine (h i j hij _ _ (List.getElem?_eq_getElem hi) (List.getElem?_eq_getElem hj)).1 ?_
  rw [Nat.div_eq_of_lt (by omega), Nat.div_eq_of_lt (by omega)]

end

end Go.Proofs.Ytjpkeadnccodjaa
