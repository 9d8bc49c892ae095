import Derived.Test.YtjpkeadnccodjaaSpure
/-
  Plain facts on fields: names, lists whose names rise, lists laid over lists.
-/
namespace Go.Proofs.Ytjpkeadnccodjaa

/-- A field: its name, its value. -/
structure Fd where
  n : ByteArray
  v : Int
def letterB (c : Nat) : Bool := decide (97 ≤ c) && decide (c ≤ 122)
def innerB (c : Nat) : Bool := letterB c || c == 45 || (decide (48 ≤ c) && decide (c ≤ 57))
/-- Are these a name's bytes? -/
def nameL : List Nat → Bool
  | [] => false
  | c :: r => letterB c && r.all innerB && decide (r.length ≤ 11)
def nameB (s : ByteArray) : Bool := nameL (nats s)
/-- May this be a value? -/
def valB (v : Int) : Bool := decide (-2305843009213693952 ≤ v) && decide (v ≤ 2305843009213693951)
/-- What is wrong with a field alone. -/
def oneE (f : Fd) : Nat := if nameB f.n then (if valB f.v then 0 else 2) else 8
def aheadB (a b : ByteArray) : Bool := lessN (nats a) (nats b)
/-- What is wrong with the fields behind one that is ahead. -/
def rightG : Option ByteArray → List Fd → Nat
  | _, [] => 0
  | none, f :: l => if oneE f = 0 then rightG (some f.n) l else oneE f
  | some p, f :: l => if oneE f = 0 then (if aheadB p f.n then rightG (some f.n) l else 16) else oneE f
def rightE (l : List Fd) : Nat := if 8 < l.length then 4 else rightG none l
/-- The first field that is wrong alone. -/
def firstE : List Fd → Nat
  | [] => 0
  | f :: l => if oneE f = 0 then firstE l else oneE f
/-- A field more, or in the place of that of its name. -/
def layL : List Fd → Fd → List Fd
  | [], f => [f]
  | g :: l, f => if aheadB g.n f.n then g :: layL l f else if nats g.n = nats f.n then f :: l else f :: g :: l
def overL (l : List Fd) : List Fd := l.foldl layL []
def makeF (l : List Fd) : List Fd × Nat :=
  if 8 < l.length then ([], 4) else if firstE l = 0 then (if (overL l).length = l.length then (overL l, 0) else ([], 7)) else ([], firstE l)
def getL : List Fd → ByteArray → Option Int
  | [], _ => none
  | f :: l, s => if nats f.n = nats s then some f.v else getL l s
/-- The last value of a name. -/
def lastL : List Fd → ByteArray → Option Int
  | [], _ => none
  | f :: l, s => match lastL l s with
    | some v => some v
    | none => if nats f.n = nats s then some f.v else none

theorem lessN_trans : ∀ a b c : List Nat, lessN a b = true → lessN b c = true → lessN a c = true
  | _, _, [], _, h => by rw [lessN_nil] at h; cases h
  | _, [], _ :: _, h, _ => by rw [lessN_nil] at h; cases h
  | [], _ :: _, _ :: _, _, _ => rfl
  | a :: l, b :: m, c :: n, h, h' => by
    simp only [lessN, Bool.or_eq_true, decide_eq_true_eq, Bool.and_eq_true, beq_iff_eq] at h h' ⊢
    rcases h with h | ⟨h, h2⟩
    · rcases h' with h' | ⟨h', h3⟩
      · exact .inl (by omega)
      · exact .inl (by omega)
    · rcases h' with h' | ⟨h', h3⟩
      · exact .inl (by omega)
      · exact .inr ⟨by omega, lessN_trans l m n h2 h3⟩
/-- Names rise. -/
def Rises : List Fd → Prop
  | [] => True
  | f :: l => (∀ g ∈ l, aheadB f.n g.n = true) ∧ Rises l
theorem ahead_ne {a b : ByteArray} (h : aheadB a b = true) : nats a ≠ nats b := by
  intro e
  unfold aheadB at h
  rw [e, lessN_self] at h
  cases h
theorem layL_mem : ∀ (l : List Fd) (f g : Fd), g ∈ layL l f → g = f ∨ g ∈ l
  | [], f, g, h => by simp [layL] at h; exact .inl h
  | x :: l, f, g, h => by
    rw [layL] at h
    split at h
    · rcases List.mem_cons.1 h with h | h
      · exact .inr (by rw [h]; exact List.mem_cons_self)
      · rcases layL_mem l f g h with h | h
        · exact .inl h
        · exact .inr (List.mem_cons_of_mem _ h)
    · split at h
      · rcases List.mem_cons.1 h with h | h
        · exact .inl h
        · exact .inr (List.mem_cons_of_mem _ h)
      · rcases List.mem_cons.1 h with h | h
        · exact .inl h
        · exact .inr h
theorem layL_rises : ∀ (l : List Fd) (f : Fd), Rises l → Rises (layL l f)
  | [], f, _ => ⟨by simp, trivial⟩
  | x :: l, f, h => by
    rw [layL]
    by_cases h1 : aheadB x.n f.n = true
    · rw [if_pos h1]
      refine ⟨fun g hg => ?_, layL_rises l f h.2⟩
      rcases layL_mem l f g hg with rfl | hg
      · exact h1
      · exact h.1 g hg
    · rw [if_neg h1]
      by_cases h2 : nats x.n = nats f.n
      · rw [if_pos h2]
        refine ⟨fun g hg => ?_, h.2⟩
        have := h.1 g hg
        unfold aheadB at this ⊢
        rw [← h2]; exact this
      · rw [if_neg h2]
        have h3 : aheadB f.n x.n = true := by
          unfold aheadB at h1 ⊢
          rcases lessN_or (nats f.n) (nats x.n) with h | h | h
          · exact h
          · exact absurd h h1
          · exact absurd h.symm h2
        refine ⟨fun g hg => ?_, h⟩
        rcases List.mem_cons.1 hg with rfl | hg
        · exact h3
        · exact lessN_trans _ _ _ h3 (h.1 g hg)
theorem getL_none {l : List Fd} {s : ByteArray} (h : ∀ g ∈ l, nats g.n ≠ nats s) : getL l s = none := by
  induction l with
  | nil => rfl
  | cons f l ih =>
    rw [getL, if_neg (h f List.mem_cons_self)]
    exact ih fun g hg => h g (List.mem_cons_of_mem _ hg)
theorem layL_get : ∀ (l : List Fd) (f : Fd) (s : ByteArray), Rises l → getL (layL l f) s = if nats f.n = nats s then some f.v else getL l s
  | [], f, s, _ => rfl
  | x :: l, f, s, h => by
    rw [layL]
    by_cases h1 : aheadB x.n f.n = true
    · rw [if_pos h1, getL, getL, layL_get l f s h.2]
      by_cases h2 : nats x.n = nats s
      · have : nats f.n ≠ nats s := fun e => ahead_ne h1 (h2.trans e.symm)
        rw [if_pos h2, if_neg this, if_pos h2]
      · rw [if_neg h2, if_neg h2]
    · rw [if_neg h1]
      by_cases h2 : nats x.n = nats f.n
      · rw [if_pos h2, getL, getL]
        by_cases h3 : nats f.n = nats s
        · rw [if_pos h3, if_pos h3]
        · rw [if_neg h3, if_neg h3, if_neg (by rw [h2]; exact h3)]
      · rw [if_neg h2, getL]
/-- Two lists whose names rise are one, if they give the same of each name. -/
theorem rises_ext : ∀ a b : List Fd, Rises a → Rises b → (∀ s, getL a s = getL b s) → a = b
  | [], [], _, _, _ => rfl
  | [], y :: b, _, _, h => by have := h y.n; rw [getL, getL, if_pos rfl] at this; cases this
  | x :: a, [], _, _, h => by have := h x.n; rw [getL, getL, if_pos rfl] at this; cases this
  | x :: a, y :: b, ha, hb, h => by
    have hxy : nats x.n = nats y.n := by
      rcases lessN_or (nats x.n) (nats y.n) with h1 | h1 | h1
      · have e := h x.n
        rw [getL, if_pos rfl, getL, if_neg (fun e => ahead_ne h1 e.symm), getL_none fun g hg e => ahead_ne (lessN_trans _ _ _ h1 (hb.1 g hg)) e.symm] at e
        cases e
      · have e := h y.n
        rw [getL, if_neg (fun e => ahead_ne h1 e.symm), getL_none (fun g hg e => ahead_ne (lessN_trans _ _ _ h1 (ha.1 g hg)) e.symm), getL, if_pos rfl] at e
        cases e
      · exact h1
    have hv : x.v = y.v := by
      have e := h x.n
      rw [getL, if_pos rfl, getL, if_pos hxy.symm] at e
      exact Option.some.inj e
    have hr : a = b := by
      apply rises_ext a b ha.2 hb.2
      intro s
      have e := h s
      rw [getL, getL] at e
      by_cases hs : nats x.n = nats s
      · rw [getL_none fun g hg e => ahead_ne (ha.1 g hg) (hs.trans e.symm), getL_none fun g hg e => ahead_ne (hb.1 g hg) ((hxy.symm.trans hs).trans e.symm)]
      · rw [if_neg hs, if_neg (by rw [← hxy]; exact hs)] at e
        exact e
    obtain ⟨xn, xv⟩ := x
    obtain ⟨yn, yv⟩ := y
    obtain rfl : xn = yn := nats_inj hxy
    obtain rfl : xv = yv := hv
    rw [hr]
theorem foldl_rises : ∀ (l a : List Fd), Rises a → Rises (l.foldl layL a)
  | [], _, h => h
  | f :: l, a, h => foldl_rises l _ (layL_rises a f h)
theorem overL_rises (l : List Fd) : Rises (overL l) := foldl_rises l [] trivial
theorem foldl_get : ∀ (l a : List Fd) (s : ByteArray), Rises a → getL (l.foldl layL a) s = match lastL l s with | some v => some v | none => getL a s
  | [], _, _, _ => rfl
  | f :: l, a, s, h => by
    rw [List.foldl_cons, foldl_get l _ s (layL_rises a f h), lastL, layL_get a f s h]
    cases lastL l s with
    | some v => rfl
    | none => by_cases hs : nats f.n = nats s <;> simp [hs]
theorem overL_get (l : List Fd) (s : ByteArray) : getL (overL l) s = lastL l s := by
  rw [overL, foldl_get l [] s trivial]
  cases lastL l s <;> rfl
theorem lastL_append : ∀ (l m : List Fd) (s : ByteArray), lastL (l ++ m) s = match lastL m s with | some v => some v | none => lastL l s
  | [], m, s => by cases h : lastL m s <;> simp [lastL, h]
  | f :: l, m, s => by
    rw [List.cons_append, lastL, lastL_append l m s, lastL]
    cases lastL m s <;> rfl
theorem lastL_rises : ∀ (l : List Fd) (s : ByteArray), Rises l → lastL l s = getL l s
  | [], _, _ => rfl
  | f :: l, s, h => by
    rw [lastL, lastL_rises l s h.2, getL]
    by_cases hs : nats f.n = nats s
    · rw [getL_none fun g hg e => ahead_ne (h.1 g hg) (hs.trans e.symm)]
    · simp [hs]
      cases getL l s <;> rfl
theorem over_last (l : List Fd) (s : ByteArray) : lastL (overL l) s = lastL l s := by
  rw [lastL_rises _ s (overL_rises l), overL_get]
/-- Laid over each other first, or all at once. -/
theorem over_left (a b : List Fd) : overL (overL a ++ b) = overL (a ++ b) := by
  apply rises_ext _ _ (overL_rises _) (overL_rises _)
  intro s
  rw [overL_get, overL_get, lastL_append, lastL_append, over_last]
theorem over_right (a b : List Fd) : overL (a ++ overL b) = overL (a ++ b) := by
  apply rises_ext _ _ (overL_rises _) (overL_rises _)
  intro s
  rw [overL_get, overL_get, lastL_append, lastL_append, over_last]
theorem over_self (a : List Fd) : overL (a ++ a) = overL a := by
  apply rises_ext _ _ (overL_rises _) (overL_rises _)
  intro s
  rw [overL_get, overL_get, lastL_append]
  cases lastL a s <;> rfl

theorem layL_length : ∀ (l : List Fd) (f : Fd), (layL l f).length ≤ l.length + 1
  | [], _ => Nat.le_refl _
  | g :: l, f => by
    rw [layL]
    split
    · rw [List.length_cons, List.length_cons]; have := layL_length l f; omega
    · split
      · rw [List.length_cons, List.length_cons]; omega
      · rw [List.length_cons, List.length_cons]; omega
theorem foldl_length : ∀ (l a : List Fd), (l.foldl layL a).length ≤ a.length + l.length
  | [], _ => Nat.le_refl _
  | f :: l, a => by
    rw [List.foldl_cons, List.length_cons]
    have h1 := foldl_length l (layL a f)
    have h2 := layL_length a f
    omega
theorem overL_length (l : List Fd) : (overL l).length ≤ l.length := by have := foldl_length l []; rw [List.length_nil] at this; unfold overL; omega
theorem overL_snoc (l : List Fd) (f : Fd) : overL (l ++ [f]) = layL (overL l) f := by unfold overL; rw [List.foldl_append]; rfl
theorem foldl_mem : ∀ (l a : List Fd) (g : Fd), g ∈ l.foldl layL a → g ∈ a ∨ g ∈ l
  | [], _, _, h => .inl h
  | f :: l, a, g, h => by
    rcases foldl_mem l (layL a f) g h with h | h
    · rcases layL_mem a f g h with rfl | h
      · exact .inr List.mem_cons_self
      · exact .inl h
    · exact .inr (List.mem_cons_of_mem _ h)
theorem overL_mem {l : List Fd} {g : Fd} (h : g ∈ overL l) : g ∈ l := by
  rcases foldl_mem l [] g h with h | h
  · simp at h
  · exact h
end Go.Proofs.Ytjpkeadnccodjaa
