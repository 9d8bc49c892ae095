/-
  Plain facts: lists of fields in another order; names that are not the same; the order of names.
-/
import Derived.Test.YtjpkeadnccodjaaGlist
import Derived.Lib.Bytealg
namespace Go.Proofs.Ytjpkeadnccodjaa

/-- No name stands twice. -/
def Apart (l : List Fd) : Prop := l.Pairwise fun x y => nats x.n ≠ nats y.n
theorem Apart.perm {l m : List Fd} (h : Apart l) (hp : l.Perm m) : Apart m := (hp.pairwise_iff (R := fun x y : Fd => nats x.n ≠ nats y.n) (fun {_ _} h => Ne.symm h)).1 h
theorem rises_apart : ∀ l : List Fd, Rises l → Apart l
  | [], _ => List.Pairwise.nil
  | _ :: l, h => List.Pairwise.cons (fun g hg => ahead_ne (h.1 g hg)) (rises_apart l h.2)
theorem getL_some : ∀ {l : List Fd} {s : ByteArray} {v : Int}, getL l s = some v → ∃ f ∈ l, nats f.n = nats s ∧ f.v = v
  | [], _, _, h => by cases h
  | f :: l, s, v, h => by
    rw [getL] at h
    by_cases hs : nats f.n = nats s
    · rw [if_pos hs] at h
      exact ⟨f, List.mem_cons_self, hs, Option.some.inj h⟩
    · rw [if_neg hs] at h
      obtain ⟨g, hg, h1, h2⟩ := getL_some h
      exact ⟨g, List.mem_cons_of_mem _ hg, h1, h2⟩
theorem getL_mem : ∀ {l : List Fd}, Apart l → ∀ {f : Fd}, f ∈ l → getL l f.n = some f.v
  | [], _, _, h => by simp at h
  | g :: l, ha, f, h => by
    obtain ⟨h1, h2⟩ := List.pairwise_cons.1 ha
    rw [getL]
    rcases List.mem_cons.1 h with rfl | h
    · rw [if_pos rfl]
    · rw [if_neg (h1 f h)]
      exact getL_mem h2 h
theorem getL_perm {l m : List Fd} (ha : Apart l) (hp : l.Perm m) (s : ByteArray) : getL l s = getL m s := by
  have hb := ha.perm hp
  cases h : getL l s with
  | some v =>
    obtain ⟨f, hf, h1, h2⟩ := getL_some h
    have := getL_mem hb (hp.mem_iff.1 hf)
    rw [nats_inj h1, h2] at this
    exact this.symm
  | none =>
    cases h3 : getL m s with
    | none => rfl
    | some v =>
      obtain ⟨f, hf, h1, h2⟩ := getL_some h3
      have := getL_mem ha (hp.mem_iff.2 hf)
      rw [nats_inj h1, h] at this
      cases this
theorem lastL_apart : ∀ {l : List Fd}, Apart l → ∀ s, lastL l s = getL l s
  | [], _, _ => rfl
  | f :: l, h, s => by
    obtain ⟨h1, h2⟩ := List.pairwise_cons.1 h
    rw [lastL, lastL_apart h2, getL]
    by_cases hs : nats f.n = nats s
    · rw [getL_none fun g hg e => h1 g hg (hs.trans e.symm)]
    · simp [hs]
      cases getL l s <;> rfl
/-- Put in order by names, a list without a name twice is what it is laid over itself. -/
theorem over_perm {l m : List Fd} (ha : Apart l) (hp : l.Perm m) (hm : Rises m) : m = overL l := by
  apply rises_ext _ _ hm (overL_rises _)
  intro s
  rw [overL_get, lastL_apart ha, getL_perm ha hp]
theorem layL_long : ∀ (a : List Fd) (f : Fd), (layL a f).length = a.length + 1 → Rises a → getL a f.n = none
  | [], _, _, _ => rfl
  | g :: a, f, h, hr => by
    rw [layL] at h
    rw [getL]
    by_cases h1 : aheadB g.n f.n = true
    · rw [if_pos h1, List.length_cons, List.length_cons] at h
      rw [if_neg (ahead_ne h1)]
      exact layL_long a f (by omega) hr.2
    · rw [if_neg h1] at h
      by_cases h2 : nats g.n = nats f.n
      · rw [if_pos h2, List.length_cons, List.length_cons] at h
        omega
      · rw [if_neg h2]
        have h3 : aheadB f.n g.n = true := by
          unfold aheadB at h1 ⊢
          rcases lessN_or (nats f.n) (nats g.n) with h | h | h
          · exact h
          · exact absurd h h1
          · exact absurd h.symm h2
        exact getL_none fun x hx e => ahead_ne (lessN_trans _ _ _ h3 (hr.1 x hx)) e.symm
theorem lastL_none : ∀ {l : List Fd} {s : ByteArray}, lastL l s = none → ∀ f ∈ l, nats f.n ≠ nats s
  | [], _, _, f, hf => by simp at hf
  | g :: l, s, h, f, hf => by
    rw [lastL] at h
    cases h1 : lastL l s with
    | some v => rw [h1] at h; cases h
    | none =>
      rw [h1] at h
      rcases List.mem_cons.1 hf with rfl | hf
      · intro e
        simp [e] at h
      · exact lastL_none h1 f hf
theorem apart_snoc {l : List Fd} {f : Fd} (h : Apart l) (h2 : ∀ g ∈ l, nats g.n ≠ nats f.n) : Apart (l ++ [f]) := by
  refine List.pairwise_append.2 ⟨h, List.pairwise_singleton _ _, fun a ha b hb => ?_⟩
  obtain rfl := List.mem_singleton.1 hb
  exact h2 a ha
/-- Laid over itself as long as it is: no name stands twice. -/
theorem over_long : ∀ (n : Nat) (l : List Fd), l.length = n → (overL l).length = l.length → Apart l
  | 0, l, h, _ => by rw [List.eq_nil_of_length_eq_zero h]; exact List.Pairwise.nil
  | n + 1, l, h, hl => by
    rcases List.eq_nil_or_concat l with rfl | ⟨m, f, rfl⟩
    · exact List.Pairwise.nil
    · rw [List.concat_eq_append] at h hl ⊢
      rw [overL_snoc, List.length_append, List.length_singleton] at hl
      rw [List.length_append, List.length_singleton] at h
      have h1 := overL_length m
      have h2 := layL_length (overL m) f
      have h3 := layL_long (overL m) f (by omega) (overL_rises m)
      rw [overL_get] at h3
      exact apart_snoc (over_long n m (by omega) (by omega)) (lastL_none h3)
theorem apart_over {l : List Fd} (h : Apart l) : (overL l).length = l.length := by
  have key : ∀ (m a : List Fd), Rises a → Apart m → (∀ x ∈ m, getL a x.n = none) → (m.foldl layL a).length = a.length + m.length := by
    intro m
    induction m with
    | nil => intro a _ _ _; rfl
    | cons f m ih =>
      intro a ha hm hx
      obtain ⟨h1, h2⟩ := List.pairwise_cons.1 hm
      rw [List.foldl_cons, ih _ (layL_rises a f ha) h2 (fun x hxm => by rw [layL_get a f x.n ha, if_neg (h1 x hxm)]; exact hx x (List.mem_cons_of_mem _ hxm))]
      have : (layL a f).length = a.length + 1 := by
        have h0 := hx f List.mem_cons_self
        clear ih hx h1 h2 hm
        induction a with
        | nil => rfl
        | cons g a iha =>
          rw [getL] at h0
          by_cases e : nats g.n = nats f.n
          · rw [if_pos e] at h0; cases h0
          · rw [if_neg e] at h0
            rw [layL]
            by_cases h1 : aheadB g.n f.n = true
            · rw [if_pos h1, List.length_cons, List.length_cons, iha ha.2 h0]
            · rw [if_neg h1, if_neg e]; rfl
      rw [this, List.length_cons]; omega
  have := key l [] trivial h (fun _ _ => rfl)
  rw [List.length_nil, Nat.zero_add] at this
  exact this

/-- Names' order by the library. -/
theorem cmp_lt : ∀ l m : List UInt8, (Lib.compareBytes l m < 0) ↔ lessN (l.map UInt8.toNat) (m.map UInt8.toNat) = true
  | [], [] => by simp [Lib.compareBytes, lessN]
  | [], _ :: _ => by simp [Lib.compareBytes, lessN]
  | _ :: _, [] => by simp [Lib.compareBytes, lessN]
  | a :: l, b :: m => by
    rw [Lib.compareBytes, List.map_cons, List.map_cons, lessN]
    by_cases h1 : a < b
    · rw [if_pos h1]
      have : a.toNat < b.toNat := h1
      simp [this]
    · rw [if_neg h1]
      have h1' : ¬ a.toNat < b.toNat := h1
      by_cases h2 : b < a
      · rw [if_pos h2]
        have h2' : b.toNat < a.toNat := h2
        simp [h1']
        intro e
        omega
      · rw [if_neg h2]
        have h2' : ¬ b.toNat < a.toNat := h2
        have e : a.toNat = b.toNat := by omega
        rw [cmp_lt l m]
        simp [e]

end Go.Proofs.Ytjpkeadnccodjaa
