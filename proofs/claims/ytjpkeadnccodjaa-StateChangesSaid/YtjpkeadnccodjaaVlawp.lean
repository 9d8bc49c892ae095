/-
  Plain facts for the laws of versions: their order does not hang on how they stand; what differs either way round; the newest.
-/
import Derived.Test.YtjpkeadnccodjaaVpure
namespace Go.Proofs.Ytjpkeadnccodjaa

def DistV (l : List Vr) : Prop := l.Pairwise fun a b => a.st ≠ b.st
theorem dist_perm {l m : List Vr} (h : l.Perm m) (hd : DistV l) : DistV m := (List.Perm.pairwise_iff (R := fun a b : Vr => a.st ≠ b.st) (fun h e => h e.symm) h).1 hd
theorem dist_eq {l : List Vr} (hd : DistV l) {x y : Vr} (hx : x ∈ l) (hy : y ∈ l) (h : x.st = y.st) : x = y := by
  induction l with
  | nil => simp at hx
  | cons z l ih =>
    have h' := List.pairwise_cons.1 hd
    rcases List.mem_cons.1 hx with hx1 | hx1
    · rcases List.mem_cons.1 hy with hy1 | hy1
      · rw [hx1, hy1]
      · exact absurd (by rw [← hx1]; exact h) (h'.1 y hy1)
    · rcases List.mem_cons.1 hy with hy1 | hy1
      · exact absurd (by rw [← hy1]; exact h.symm) (h'.1 x hx1)
      · exact ih h'.2 hx1 hy1
theorem sorted_unique : ∀ a b : List Vr, SortedV a → SortedV b → DistV a → a.Perm b → a = b
  | [], b, _, _, _, h => (List.nil_perm.1 h).symm
  | x :: a, [], _, _, _, h => by have := h.length_eq; simp at this
  | x :: a, y :: b, ha, hb, hd, h => by
    have hx : x ∈ y :: b := h.mem_iff.1 List.mem_cons_self
    have hy : y ∈ x :: a := h.mem_iff.2 List.mem_cons_self
    have e : x = y := by
      apply dist_eq hd List.mem_cons_self hy
      have h1 : x.st ≤ y.st := by
        rcases List.mem_cons.1 hy with rfl | hy
        · exact Int.le_refl _
        · exact (List.pairwise_cons.1 ha).1 y hy
      have h2 : y.st ≤ x.st := by
        rcases List.mem_cons.1 hx with rfl | hx
        · exact Int.le_refl _
        · exact (List.pairwise_cons.1 hb).1 x hx
      omega
    subst e
    rw [sorted_unique a b (List.pairwise_cons.1 ha).2 (List.pairwise_cons.1 hb).2 (List.pairwise_cons.1 hd).2 (List.Perm.cons_inv h)]
theorem ord_unique {l m : List Vr} (h : l.Perm m) (hd : DistV l) : ordL l = ordL m :=
  sorted_unique _ _ (ordL_sorted l) (ordL_sorted m) (dist_perm (ordL_perm l).symm hd) (((ordL_perm l).trans h).trans (ordL_perm m).symm)
theorem of_unique {l m : List Vr} (h : l.Perm m) (hd : DistV l) : ofL l = ofL m := by unfold ofL countsV; rw [ord_unique h hd]
theorem dist_filter {l : List Vr} (p : Vr → Bool) (hd : DistV l) : DistV (l.filter p) := List.Pairwise.filter p hd
theorem at_unique {l m : List Vr} (t : Int) (h : l.Perm m) (hd : DistV l) : atL t l = atL t m := of_unique (h.filter _) (dist_filter _ hd)
theorem rot_perm {α : Type} (l : List α) (k : Nat) : l.Perm (l.drop k ++ l.take k) := by
  have := List.perm_append_comm (l₁ := l.take k) (l₂ := l.drop k)
  rwa [List.take_append_drop] at this

/-- The names of two lists that rise are one, if they have the same names. -/
theorem names_ext : ∀ a b : List Fd, Rises a → Rises b → (∀ s, (getL a s).isSome = (getL b s).isSome) → a.map Fd.n = b.map Fd.n
  | [], [], _, _, _ => rfl
  | [], y :: b, _, _, h => by have := h y.n; rw [getL, getL, if_pos rfl] at this; cases this
  | x :: a, [], _, _, h => by have := h x.n; rw [getL, getL, if_pos rfl] at this; cases this
  | x :: a, y :: b, ha, hb, h => by
    have hxy : nats x.n = nats y.n := by
      rcases lessN_or (nats x.n) (nats y.n) with h1 | h1 | h1
      · have e := h x.n
        rw [getL, if_pos rfl, getL, if_neg (fun e => ahead_ne h1 e.symm), getL_none fun g hg e => ahead_ne (lessN_trans _ _ _ h1 (hb.1 g hg)) e.symm] at e
        cases e
      · have e := h y.n
        rw [getL, if_neg (fun e => ahead_ne h1 e.symm), getL_none (fun g hg e => ahead_ne (lessN_trans _ _ _ h1 (ha.1 g hg)) e.symm), getL, if_pos rfl] at e
        cases e
      · exact h1
    have hr : a.map Fd.n = b.map Fd.n := by
      apply names_ext a b ha.2 hb.2
      intro s
      have e := h s
      rw [getL, getL] at e
      by_cases hs : nats x.n = nats s
      · rw [getL_none fun g hg e => ahead_ne (ha.1 g hg) (hs.trans e.symm), getL_none fun g hg e => ahead_ne (hb.1 g hg) ((hxy.symm.trans hs).trans e.symm)]
      · rw [if_neg hs, if_neg (by rw [← hxy]; exact hs)] at e
        exact e
    rw [List.map_cons, List.map_cons, hr, nats_inj hxy]
theorem last_some (a b : List Fd) (s : ByteArray) : (lastL (a ++ b) s).isSome = ((lastL a s).isSome || (lastL b s).isSome) := by
  rw [lastL_append]
  cases lastL b s <;> simp
theorem chg_comm (a b : List Fd) : chgL b a = chgL a b := by
  have e : (overL (b ++ a)).map Fd.n = (overL (a ++ b)).map Fd.n := by
    apply names_ext _ _ (overL_rises _) (overL_rises _)
    intro s
    rw [overL_get, overL_get, last_some, last_some, Bool.or_comm]
  have e2 : (fun s => differB b a s) = fun s => differB a b s := by
    funext s
    unfold differB
    congr 1
    · exact decide_eq_decide.2 ⟨fun h k => h k.symm, fun h k => h k.symm⟩
    · cases (getL a s).isSome <;> cases (getL b s).isSome <;> rfl
  unfold chgL
  rw [e, e2]
theorem chg_self (a : List Fd) : chgL a a = [] := by
  have e : (fun s => differB a a s) = fun _ => false := by funext s; simp [differB]
  unfold chgL
  rw [e, List.filter_eq_nil_iff.2 (by simp)]
theorem chg_length (a b : List Fd) : (chgL a b).length ≤ a.length + b.length := by
  unfold chgL
  have h1 := List.length_filter_le (fun s => differB a b s) ((overL (a ++ b)).map Fd.n)
  have h2 := overL_length (a ++ b)
  rw [List.length_map] at h1
  rw [List.length_append] at h2
  omega

/-! ### The newest -/
/-- No name stands twice with other values: each field's value is what its name gives. -/
def SoleV (v : Vr) : Prop := ∀ f ∈ v.fs, getL v.fs f.n = some f.v
theorem lastL_mem {l : List Fd} {s : ByteArray} {n : Int} (h : lastL l s = some n) : ∃ f ∈ l, nats f.n = nats s ∧ f.v = n := by
  induction l with
  | nil => simp [lastL] at h
  | cons f l ih =>
    rw [lastL] at h
    cases hl : lastL l s with
    | some m =>
      rw [hl] at h
      simp only [Option.some.injEq] at h
      subst h
      obtain ⟨g, hg, h1, h2⟩ := ih hl
      exact ⟨g, List.mem_cons_of_mem _ hg, h1, h2⟩
    | none =>
      rw [hl] at h
      by_cases hs : nats f.n = nats s
      · simp only [if_pos hs, Option.some.injEq] at h
        exact ⟨f, List.mem_cons_self, hs, h⟩
      · simp [if_neg hs] at h
theorem lastL_isSome (l : List Fd) (s : ByteArray) : (lastL l s).isSome = (getL l s).isSome := by
  induction l with
  | nil => rfl
  | cons f l ih =>
    rw [lastL, getL]
    by_cases hs : nats f.n = nats s
    · rw [if_pos hs, if_pos hs]; cases lastL l s <;> rfl
    · rw [if_neg hs, if_neg hs, ← ih]; cases lastL l s <;> rfl
theorem sole_last {v : Vr} (h : SoleV v) (s : ByteArray) : lastL v.fs s = getL v.fs s := by
  cases hl : lastL v.fs s with
  | none =>
    have := lastL_isSome v.fs s
    rw [hl] at this
    cases hg : getL v.fs s with
    | none => rfl
    | some n => rw [hg] at this; cases this
  | some n =>
    obtain ⟨f, hf, h1, h2⟩ := lastL_mem hl
    have := h f hf
    rw [nats_inj h1] at this
    rw [this, h2]
/-- The last version of a list that sets a name. -/
theorem newest : ∀ (O : List Vr) (s : ByteArray) (n : Int), (∀ v ∈ O, SoleV v) → lastL (((O.filter fun v => !v.gone).map Vr.fs).flatten) s = some n →
    ∃ v ∈ O, lastS O s = some v.st ∧ v.gone = false ∧ getL v.fs s = some n
  | [], s, n, _, h => by simp [lastL] at h
  | v :: O, s, n, hs, h => by
    have hs' : ∀ v ∈ O, SoleV v := fun v hv => hs v (List.mem_cons_of_mem _ hv)
    cases hr : lastL (((O.filter fun v => !v.gone).map Vr.fs).flatten) s with
    | some m =>
      obtain ⟨x, hx, h1, h2, h3⟩ := newest O s m hs' hr
      have e : m = n := by
        by_cases hg : v.gone = true
        · rw [List.filter_cons_of_neg (by simp [hg]), hr] at h
          exact Option.some.inj h
        · rw [List.filter_cons_of_pos (by simp [hg]), List.map_cons, List.flatten_cons, lastL_append, hr] at h
          exact Option.some.inj h
      refine ⟨x, List.mem_cons_of_mem _ hx, ?_, h2, by rw [h3, e]⟩
      rw [lastS, h1]
    | none =>
      have hO : lastS O s = none := by
        cases ho : lastS O s with
        | none => rfl
        | some p =>
          exfalso
          clear h
          induction O generalizing p with
          | nil => simp [lastS] at ho
          | cons x O ih =>
            rw [lastS] at ho
            have hr2 : lastL (((O.filter fun v => !v.gone).map Vr.fs).flatten) s = none := by
              by_cases hg : x.gone = true
              · rwa [List.filter_cons_of_neg (by simp [hg])] at hr
              · rw [List.filter_cons_of_pos (by simp [hg]), List.map_cons, List.flatten_cons, lastL_append] at hr
                cases hq : lastL (((O.filter fun v => !v.gone).map Vr.fs).flatten) s with
                | none => rfl
                | some q => rw [hq] at hr; cases hr
            cases hl : lastS O s with
            | some q => exact ih (fun v hv => by
                rcases List.mem_cons.1 hv with rfl | hv
                · exact hs v List.mem_cons_self
                · exact hs v (List.mem_cons_of_mem _ (List.mem_cons_of_mem _ hv))) (fun v hv => hs' v (List.mem_cons_of_mem _ hv)) hr2 q hl
            | none =>
              rw [hl] at ho
              by_cases hb : setsB x s = true
              · unfold setsB at hb
                rw [Bool.and_eq_true] at hb
                have hg : ¬ x.gone = true := by cases hx : x.gone <;> simp_all
                rw [List.filter_cons_of_pos (by simp [hg]), List.map_cons, List.flatten_cons, lastL_append, hr2] at hr
                have hr' : lastL x.fs s = none := hr
                have := lastL_isSome x.fs s
                rw [hr', hb.1] at this
                cases this
              · simp [if_neg hb] at ho
      have hg : ¬ v.gone = true := by
        intro hg
        rw [List.filter_cons_of_neg (by simp [hg]), hr] at h
        cases h
      rw [List.filter_cons_of_pos (by simp [hg]), List.map_cons, List.flatten_cons, lastL_append, hr] at h
      have hv := sole_last (hs v List.mem_cons_self) s
      have h' : lastL v.fs s = some n := h
      rw [h'] at hv
      refine ⟨v, List.mem_cons_self, ?_, by simpa using hg, hv.symm⟩
      rw [lastS, hO]
      have : setsB v s = true := by unfold setsB; rw [← hv]; simp [hg]
      simp [this]

end Go.Proofs.Ytjpkeadnccodjaa
