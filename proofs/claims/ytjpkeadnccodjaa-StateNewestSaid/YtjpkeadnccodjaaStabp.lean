/-
  Plain facts on a stable sort: lists that are put in order by exchanges, merged in place; equals stand as they stood (each bears its place).
-/
import Derived.Shelf.SlSortCmp.NoneTotal
namespace Go.Proofs.Ytjpkeadnccodjaa
open Go.Sort Go.Shelf

section
variable {α : Type} {lt : α → α → Bool}

/-- By the things alone, their places laid aside. -/
def ltp (lt : α → α → Bool) (x y : α × Nat) : Bool := lt x.1 y.1
/-- x stands ahead of y: it is less, or y is not less and x stood ahead. -/
def TL (lt : α → α → Bool) (x y : α × Nat) : Prop := lt x.1 y.1 = true ∨ (lt y.1 x.1 = false ∧ x.2 < y.2)
theorem swo_anti (h : SWO lt) {x y : α} (hx : lt x y = true) : lt y x = false := by
  cases e : lt y x with
  | false => rfl
  | true => have := h.trans _ _ _ hx e; rw [h.irrefl] at this; cases this
theorem lt_of_lt_le (h : SWO lt) {x y z : α} (h1 : lt x y = true) (h2 : lt z y = false) : lt x z = true := by
  cases e : lt x z with
  | true => rfl
  | false => have := h.ntrans _ _ _ e h2; rw [h1] at this; cases this
theorem lt_of_le_lt (h : SWO lt) {x y z : α} (h1 : lt y x = false) (h2 : lt y z = true) : lt x z = true := by
  cases e : lt x z with
  | true => rfl
  | false => have := h.ntrans _ _ _ h1 e; rw [h2] at this; cases this
theorem TL.not [Inhabited α] (h : SWO lt) {x y : α × Nat} (k : TL lt x y) : lt y.1 x.1 = false := by
  rcases k with k | ⟨k, _⟩
  · exact swo_anti h k
  · exact k
theorem TL.trans [Inhabited α] (h : SWO lt) {x y z : α × Nat} (k1 : TL lt x y) (k2 : TL lt y z) : TL lt x z := by
  rcases k1 with k1 | ⟨k1, t1⟩
  · exact .inl (lt_of_lt_le h k1 (k2.not h))
  · rcases k2 with k2 | ⟨k2, t2⟩
    · exact .inl (lt_of_le_lt h k1 k2)
    · exact .inr ⟨h.ntrans _ _ _ k2 k1, by omega⟩
/-- y stood behind and is not less. -/
theorem TL.of_le {x y : α × Nat} (h : lt y.1 x.1 = false) (ht : x.2 < y.2) : TL lt x y := .inr ⟨h, ht⟩
abbrev Ord (lt : α → α → Bool) (l : List (α × Nat)) : Prop := l.Pairwise (TL lt)
/-- All of a stood ahead of all of b. -/
def Cross (a b : List (α × Nat)) : Prop := ∀ x ∈ a, ∀ y ∈ b, x.2 < y.2
theorem Ord.at {l : List (α × Nat)} (h : Ord lt l) {i j : Nat} {x y : α × Nat} (hij : i < j) (hx : l[i]? = some x) (hy : l[j]? = some y) : TL lt x y := by
  obtain ⟨h1, rfl⟩ := List.getElem?_eq_some_iff.1 hx
  obtain ⟨h2, rfl⟩ := List.getElem?_eq_some_iff.1 hy
  exact List.pairwise_iff_getElem.1 h i j h1 h2 hij
theorem mem_takeAt {l : List (α × Nat)} {k : Nat} {x : α × Nat} (h : x ∈ l.take k) : ∃ i, i < k ∧ l[i]? = some x := by
  obtain ⟨i, hi⟩ := List.getElem?_of_mem h
  rw [List.getElem?_take] at hi
  split at hi
  · exact ⟨i, by assumption, hi⟩
  · cases hi
theorem mem_dropAt {l : List (α × Nat)} {k : Nat} {x : α × Nat} (h : x ∈ l.drop k) : ∃ i, k ≤ i ∧ l[i]? = some x := by
  obtain ⟨i, hi⟩ := List.getElem?_of_mem h
  rw [List.getElem?_drop] at hi
  exact ⟨k + i, by omega, hi⟩
/-- What is not less than the last of the first ones is not less than any of them. -/
theorem take_le [Inhabited α] (h : SWO lt) {l : List (α × Nat)} (ho : Ord lt l) {k : Nat} {y : α} (hy : k = 0 ∨ ∃ z, l[k - 1]? = some z ∧ lt y z.1 = false) : ∀ x ∈ l.take k, lt y x.1 = false := fun x hx => by
  obtain ⟨i, hi, hxi⟩ := mem_takeAt hx
  rcases hy with rfl | ⟨z, hz, hyz⟩
  · omega
  · rcases Nat.lt_or_ge i (k - 1) with h1 | h1
    · exact h.ntrans _ _ _ hyz ((ho.at h1 hxi hz).not h)
    · obtain rfl : i = k - 1 := by omega
      rw [hz] at hxi
      obtain rfl := Option.some.inj hxi
      exact hyz
theorem take_lt [Inhabited α] (h : SWO lt) {l : List (α × Nat)} (ho : Ord lt l) {k : Nat} {y : α} (hy : k = 0 ∨ ∃ z, l[k - 1]? = some z ∧ lt z.1 y = true) : ∀ x ∈ l.take k, lt x.1 y = true := fun x hx => by
  obtain ⟨i, hi, hxi⟩ := mem_takeAt hx
  rcases hy with rfl | ⟨z, hz, hyz⟩
  · omega
  · rcases Nat.lt_or_ge i (k - 1) with h1 | h1
    · exact lt_of_le_lt h ((ho.at h1 hxi hz).not h) hyz
    · obtain rfl : i = k - 1 := by omega
      rw [hz] at hxi
      obtain rfl := Option.some.inj hxi
      exact hyz
theorem drop_le [Inhabited α] (h : SWO lt) {l : List (α × Nat)} (ho : Ord lt l) {k : Nat} {y : α} (hy : k = l.length ∨ ∃ z, l[k]? = some z ∧ lt z.1 y = false) : ∀ x ∈ l.drop k, lt x.1 y = false := fun x hx => by
  obtain ⟨i, hi, hxi⟩ := mem_dropAt hx
  rcases hy with rfl | ⟨z, hz, hyz⟩
  · rw [List.getElem?_eq_none hi] at hxi; cases hxi
  · rcases Nat.lt_or_ge k i with h1 | h1
    · exact h.ntrans _ _ _ ((ho.at h1 hz hxi).not h) hyz
    · obtain rfl : i = k := by omega
      rw [hz] at hxi
      obtain rfl := Option.some.inj hxi
      exact hyz
theorem drop_lt [Inhabited α] (h : SWO lt) {l : List (α × Nat)} (ho : Ord lt l) {k : Nat} {y : α} (hy : k = l.length ∨ ∃ z, l[k]? = some z ∧ lt y z.1 = true) : ∀ x ∈ l.drop k, lt y x.1 = true := fun x hx => by
  obtain ⟨i, hi, hxi⟩ := mem_dropAt hx
  rcases hy with rfl | ⟨z, hz, hyz⟩
  · rw [List.getElem?_eq_none hi] at hxi; cases hxi
  · rcases Nat.lt_or_ge k i with h1 | h1
    · exact lt_of_lt_le h hyz ((ho.at h1 hz hxi).not h)
    · obtain rfl : i = k := by omega
      rw [hz] at hxi
      obtain rfl := Option.some.inj hxi
      exact hyz
/-- One thing that stood ahead is laid into a list that is in order. -/
theorem merge_left [Inhabited α] (h : SWO lt) {x : α × Nat} {B : List (α × Nat)} {j : Nat} (ho : Ord lt B) (hc : Cross [x] B) (h1 : j = 0 ∨ ∃ z, B[j - 1]? = some z ∧ lt z.1 x.1 = true) (h2 : j = B.length ∨ ∃ z, B[j]? = some z ∧ lt z.1 x.1 = false) :
    Ord lt (B.take j ++ x :: B.drop j) := by
  refine List.pairwise_append.2 ⟨ho.sublist (List.take_sublist _ _), List.pairwise_cons.2 ⟨fun y hy => ?_, ho.sublist (List.drop_sublist _ _)⟩, fun u hu v hv => ?_⟩
  · exact .inr ⟨drop_le h ho h2 y hy, hc x List.mem_cons_self y (List.mem_of_mem_drop hy)⟩
  · rcases List.mem_cons.1 hv with rfl | hv
    · exact .inl (take_lt h ho h1 u hu)
    · exact TL.trans h (.inl (take_lt h ho h1 u hu)) (.inr ⟨drop_le h ho h2 v hv, hc x List.mem_cons_self v (List.mem_of_mem_drop hv)⟩)
/-- .. that stood behind. -/
theorem merge_right [Inhabited α] (h : SWO lt) {y : α × Nat} {A : List (α × Nat)} {j : Nat} (ho : Ord lt A) (hc : Cross A [y]) (h1 : j = 0 ∨ ∃ z, A[j - 1]? = some z ∧ lt y.1 z.1 = false) (h2 : j = A.length ∨ ∃ z, A[j]? = some z ∧ lt y.1 z.1 = true) :
    Ord lt (A.take j ++ y :: A.drop j) := by
  refine List.pairwise_append.2 ⟨ho.sublist (List.take_sublist _ _), List.pairwise_cons.2 ⟨fun v hv => ?_, ho.sublist (List.drop_sublist _ _)⟩, fun u hu v hv => ?_⟩
  · exact .inl (drop_lt h ho h2 v hv)
  · have hu1 : TL lt u y := .inr ⟨take_le h ho h1 u hu, hc u (List.mem_of_mem_take hu) y List.mem_cons_self⟩
    rcases List.mem_cons.1 hv with rfl | hv
    · exact hu1
    · exact TL.trans h hu1 (.inl (drop_lt h ho h2 v hv))
theorem perm_mid (x : α × Nat) (B : List (α × Nat)) (j : Nat) : (B.take j ++ x :: B.drop j).Perm ([x] ++ B) := by
  have h1 : (B.take j ++ x :: B.drop j).Perm (x :: (B.take j ++ B.drop j)) := List.perm_middle
  rwa [List.take_append_drop] at h1
/-- Two lists cut so that the first parts stand ahead of the last ones. -/
theorem merge_cut [Inhabited α] (h : SWO lt) {A B : List (α × Nat)} {i j : Nat} (hA : Ord lt A) (hB : Ord lt B) (hc : Cross A B)
    (h1 : i = 0 ∨ j = B.length ∨ ∃ u v, A[i - 1]? = some u ∧ B[j]? = some v ∧ lt v.1 u.1 = false) (h2 : i = A.length ∨ j = 0 ∨ ∃ u v, A[i]? = some u ∧ B[j - 1]? = some v ∧ lt v.1 u.1 = true) :
    ∀ u ∈ A.take i ++ B.take j, ∀ v ∈ A.drop i ++ B.drop j, TL lt u v := fun u hu v hv => by
  rcases List.mem_append.1 hu with hu | hu
  · rcases List.mem_append.1 hv with hv | hv
    · obtain ⟨a, ha, hxa⟩ := mem_takeAt hu
      obtain ⟨b, hb, hxb⟩ := mem_dropAt hv
      exact hA.at (by omega) hxa hxb
    · refine .inr ⟨?_, hc u (List.mem_of_mem_take hu) v (List.mem_of_mem_drop hv)⟩
      rcases h1 with rfl | rfl | ⟨a, b, ha, hb, hab⟩
      · simp at hu
      · simp at hv
      · have e1 := take_le h hA (k := i) (y := b.1) (.inr ⟨a, ha, hab⟩) u hu
        have e2 := drop_le h hB (k := j) (y := u.1) (.inr ⟨b, hb, e1⟩) v hv
        exact e2
  · rcases List.mem_append.1 hv with hv | hv
    · rcases h2 with rfl | rfl | ⟨a, b, ha, hb, hab⟩
      · simp at hv
      · simp at hu
      · have e1 := take_lt h hB (k := j) (y := a.1) (.inr ⟨b, hb, hab⟩) u hu
        exact .inl (drop_lt h hA (k := i) (y := u.1) (.inr ⟨a, ha, e1⟩) v hv)
    · obtain ⟨a, ha, hxa⟩ := mem_takeAt hu
      obtain ⟨b, hb, hxb⟩ := mem_dropAt hv
      exact hB.at (by omega) hxa hxb
theorem ord_join {U V M1 M2 : List (α × Nat)} (h : ∀ u ∈ U, ∀ v ∈ V, TL lt u v) (p1 : M1.Perm U) (p2 : M2.Perm V) (o1 : Ord lt M1) (o2 : Ord lt M2) : Ord lt (M1 ++ M2) :=
  List.pairwise_append.2 ⟨o1, o2, fun u hu v hv => h u (p1.mem_iff.1 hu) v (p2.mem_iff.1 hv)⟩
theorem perm_cut {A B M1 M2 : List (α × Nat)} {i j : Nat} (p1 : M1.Perm (A.take i ++ B.take j)) (p2 : M2.Perm (A.drop i ++ B.drop j)) : (M1 ++ M2).Perm (A ++ B) := by
  refine (p1.append p2).trans ?_
  have e : A ++ B = (A.take i ++ A.drop i) ++ (B.take j ++ B.drop j) := by rw [List.take_append_drop, List.take_append_drop]
  rw [e, List.append_assoc, List.append_assoc]
  refine List.Perm.append_left _ ?_
  rw [← List.append_assoc, ← List.append_assoc]
  exact List.Perm.append_right _ List.perm_append_comm

/-! ### exchanges -/
theorem getBangT [Inhabited α] {l : List (α × Nat)} {i : Nat} {x : α × Nat} (h : l[i]? = some x) : l.toArray[i]! = x := by
  obtain ⟨hl, he⟩ := List.getElem?_eq_some_iff.1 h
  rw [getElem!_pos l.toArray i (by simpa using hl)]
  simpa using he
theorem at_len (P : List (α × Nat)) (x : α × Nat) (S : List (α × Nat)) : (P ++ x :: S)[P.length]? = some x := by simp
theorem swp_list [Inhabited α] (P M S : List (α × Nat)) (x y : α × Nat) : swp (P ++ x :: (M ++ y :: S)).toArray P.length (P.length + 1 + M.length) = (P ++ y :: (M ++ x :: S)).toArray := by
  have ex : (P ++ x :: (M ++ y :: S)).toArray[P.length]! = x := getBangT (at_len P x _)
  have ey : (P ++ x :: (M ++ y :: S)).toArray[P.length + 1 + M.length]! = y := getBangT (by
    have := at_len (P ++ x :: M) y S
    rw [List.append_assoc, List.cons_append, List.length_append, List.length_cons] at this
    rw [show P.length + 1 + M.length = P.length + (M.length + 1) by omega]
    exact this)
  unfold swp
  rw [ex, ey, List.setIfInBounds_toArray, List.setIfInBounds_toArray]
  congr 1
  rw [List.set_append_right _ _ (Nat.le_refl _), Nat.sub_self, List.set_cons_zero]
  rw [List.set_append_right _ _ (by omega), show P.length + 1 + M.length - P.length = M.length + 1 by omega, List.set_cons_succ]
  rw [List.set_append_right _ _ (Nat.le_refl _), Nat.sub_self, List.set_cons_zero]
theorem swp_list_back [Inhabited α] (P M S : List (α × Nat)) (x y : α × Nat) : swp (P ++ x :: (M ++ y :: S)).toArray (P.length + 1 + M.length) P.length = (P ++ y :: (M ++ x :: S)).toArray := by
  have ex : (P ++ x :: (M ++ y :: S)).toArray[P.length]! = x := getBangT (at_len P x _)
  have ey : (P ++ x :: (M ++ y :: S)).toArray[P.length + 1 + M.length]! = y := getBangT (by
    have := at_len (P ++ x :: M) y S
    rw [List.append_assoc, List.cons_append, List.length_append, List.length_cons] at this
    rw [show P.length + 1 + M.length = P.length + (M.length + 1) by omega]
    exact this)
  unfold swp
  rw [ex, ey, List.setIfInBounds_toArray, List.setIfInBounds_toArray]
  congr 1
  rw [List.set_append_right _ _ (by omega), show P.length + 1 + M.length - P.length = M.length + 1 by omega, List.set_cons_succ]
  rw [List.set_append_right _ _ (Nat.le_refl _), Nat.sub_self, List.set_cons_zero]
  rw [List.set_append_right _ _ (Nat.le_refl _), Nat.sub_self, List.set_cons_zero]
/-- Two ranges of one length, exchanged as far as i. -/
def mix (P X M Y S : List (α × Nat)) (i : Nat) : List (α × Nat) := P ++ (Y.take i ++ X.drop i) ++ M ++ (X.take i ++ Y.drop i) ++ S
theorem mix_zero (P X M Y S : List (α × Nat)) : mix P X M Y S 0 = P ++ X ++ M ++ Y ++ S := by simp [mix]
theorem mix_all (P X M Y S : List (α × Nat)) {n : Nat} (hx : X.length = n) (hy : Y.length = n) : mix P X M Y S n = P ++ Y ++ M ++ X ++ S := by
  unfold mix
  rw [List.take_of_length_le (by omega), List.drop_of_length_le (by omega), List.take_of_length_le (by omega), List.drop_of_length_le (by omega), List.append_nil, List.append_nil]
theorem mix_length (P X M Y S : List (α × Nat)) {n i : Nat} (hx : X.length = n) (hy : Y.length = n) (hi : i ≤ n) : (mix P X M Y S i).length = P.length + n + M.length + n + S.length := by
  unfold mix
  simp only [List.length_append, List.length_take, List.length_drop]
  omega
theorem mix_next [Inhabited α] (P X M Y S : List (α × Nat)) {n i : Nat} (hx : X.length = n) (hy : Y.length = n) (hi : i < n) : swp (mix P X M Y S i).toArray (P.length + i) (P.length + n + M.length + i) = (mix P X M Y S (i + 1)).toArray := by
  have hX : X = X.take i ++ X[i] :: X.drop (i + 1) := by rw [← List.drop_eq_getElem_cons, List.take_append_drop]
  have hY : Y = Y.take i ++ Y[i] :: Y.drop (i + 1) := by rw [← List.drop_eq_getElem_cons, List.take_append_drop]
  have e0 : mix P X M Y S i = (P ++ Y.take i) ++ X[i] :: ((X.drop (i + 1) ++ M ++ X.take i) ++ Y[i] :: (Y.drop (i + 1) ++ S)) := by
    unfold mix
    rw [List.drop_eq_getElem_cons (l := X) (by omega), List.drop_eq_getElem_cons (l := Y) (by omega)]
    simp only [List.append_assoc, List.cons_append]
  have e1 : mix P X M Y S (i + 1) = (P ++ Y.take i) ++ Y[i] :: ((X.drop (i + 1) ++ M ++ X.take i) ++ X[i] :: (Y.drop (i + 1) ++ S)) := by
    unfold mix
    rw [List.take_add_one, List.take_add_one, List.getElem?_eq_getElem (by omega), List.getElem?_eq_getElem (by omega)]
    simp only [Option.toList_some, List.append_assoc, List.cons_append, List.nil_append]
  have := swp_list (P ++ Y.take i) (X.drop (i + 1) ++ M ++ X.take i) (Y.drop (i + 1) ++ S) X[i] Y[i]
  rw [← e0, ← e1] at this
  rw [← this]
  congr 1
  · rw [List.length_append, List.length_take]; omega
  · simp only [List.length_append, List.length_take, List.length_drop]; omega

end

end Go.Proofs.Ytjpkeadnccodjaa
