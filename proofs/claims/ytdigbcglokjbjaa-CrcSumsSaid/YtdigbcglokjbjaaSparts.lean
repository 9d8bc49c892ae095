import Derived.Test.YtdigbcglokjbjaaSafter
/-
  Plain facts on parts: their key, how two lists of them stand, and the parts that bytes are.
-/
namespace Go.Proofs.Ytdigbcglokjbjaa

/-- A part: is it a number, which one, and its text. -/
structure Prt where
  i : Bool
  n : Int
  s : ByteArray
def keyP (p : Prt) : List Nat := if p.i then keyI p.n else keyT (nats p.s)
def joinP : List Prt → List Nat
  | [] => []
  | p :: l => keyP p ++ joinP l
theorem joinP_append : ∀ l m : List Prt, joinP (l ++ m) = joinP l ++ joinP m
  | [], _ => rfl
  | p :: l, m => by rw [List.cons_append, joinP, joinP, joinP_append l m, List.append_assoc]
theorem keyT_lt (s : ByteArray) : ∀ b ∈ keyT (nats s), b < 256 := by
  intro b hb
  rcases List.mem_append.1 hb with h | h
  · exact esc_lt _ (nats_lt s) b h
  · simp at h; omega
theorem keyP_lt (p : Prt) : ∀ b ∈ keyP p, b < 256 := by
  unfold keyP
  split
  · exact keyI_lt _
  · exact keyT_lt _
theorem joinP_lt : ∀ l : List Prt, ∀ b ∈ joinP l, b < 256
  | [], b, h => by simp [joinP] at h
  | p :: l, b, h => by
    rcases List.mem_append.1 h with h | h
    · exact keyP_lt p b h
    · exact joinP_lt l b h
/-- How two parts stand. -/
def cmpP (a b : Prt) : Int :=
  if a.i ≠ b.i then (if a.i then -1 else 1)
  else if a.i then (if a.n < b.n then -1 else if b.n < a.n then 1 else 0)
  else (if lessN (nats a.s) (nats b.s) then -1 else if lessN (nats b.s) (nats a.s) then 1 else 0)
def cmpL : List Prt → List Prt → Int
  | [], [] => 0
  | [], _ :: _ => -1
  | _ :: _, [] => 1
  | a :: l, b :: m => if cmpP a b ≠ 0 then cmpP a b else cmpL l m
/-- Parts whose numbers are ints. -/
def okP (l : List Prt) : Prop := ∀ p ∈ l, isI p.n
theorem cmpP_key {a b : Prt} (ha : isI a.n) (hb : isI b.n) (hk : a.i = b.i) : (cmpP a b = -1 ∧ Diff (keyP a) (keyP b)) ∨ (cmpP a b = 1 ∧ Diff (keyP b) (keyP a)) ∨ (cmpP a b = 0 ∧ keyP a = keyP b) := by
  have hne : ¬ a.i ≠ b.i := fun h => h hk
  unfold cmpP keyP
  rw [if_neg hne, ← hk]
  cases a.i with
  | true =>
    simp only [if_true]
    rcases Int.lt_trichotomy a.n b.n with h | h | h
    · exact .inl ⟨by rw [if_pos h], keyI_diff ha hb h⟩
    · exact .inr (.inr ⟨by rw [if_neg (by omega), if_neg (by omega)], by rw [h]⟩)
    · exact .inr (.inl ⟨by rw [if_neg (by omega), if_pos h], keyI_diff hb ha h⟩)
  | false =>
    simp only [Bool.false_eq_true, if_false]
    rcases lessN_or (nats a.s) (nats b.s) with h | h | h
    · exact .inl ⟨by rw [if_pos h], keyT_diff _ _ h⟩
    · exact .inr (.inl ⟨by rw [if_neg (by rw [lessN_not _ _ h]; simp), if_pos h], keyT_diff _ _ h⟩)
    · exact .inr (.inr ⟨by rw [h, lessN_self]; simp, by rw [h]⟩)
theorem Diff.more {l m : List Nat} (h : Diff l m) (a b : List Nat) : Diff (l ++ a) (m ++ b) := by
  obtain ⟨p, x, y, l', m', rfl, rfl, hxy⟩ := h
  exact ⟨p, x, y, l' ++ a, m' ++ b, by simp, by simp, hxy⟩
theorem Diff.ahead {l m : List Nat} (h : Diff l m) : ∀ a : List Nat, Diff (a ++ l) (a ++ m)
  | [] => h
  | b :: a => (h.ahead a).cons b
/-- Of two lists whose parts are of the same kinds the one that is ahead has the lesser key. -/
theorem cmpL_key : ∀ a b : List Prt, okP a → okP b → a.map (·.i) = b.map (·.i) →
    (cmpL a b = -1 ∧ Diff (joinP a) (joinP b)) ∨ (cmpL a b = 1 ∧ Diff (joinP b) (joinP a)) ∨ (cmpL a b = 0 ∧ joinP a = joinP b)
  | [], [], _, _, _ => .inr (.inr ⟨rfl, rfl⟩)
  | [], _ :: _, _, _, h => by simp at h
  | _ :: _, [], _, _, h => by simp at h
  | p :: a, q :: b, ha, hb, h => by
    simp only [List.map_cons, List.cons.injEq] at h
    have h1 := cmpP_key (ha p List.mem_cons_self) (hb q List.mem_cons_self) h.1
    have h2 := cmpL_key a b (fun x hx => ha x (List.mem_cons_of_mem _ hx)) (fun x hx => hb x (List.mem_cons_of_mem _ hx)) h.2
    rw [cmpL, joinP, joinP]
    rcases h1 with ⟨e, d⟩ | ⟨e, d⟩ | ⟨e, d⟩
    · exact .inl ⟨by rw [e]; simp, d.more _ _⟩
    · exact .inr (.inl ⟨by rw [e]; simp, d.more _ _⟩)
    · rw [e, d]
      simp only [ne_eq, not_true_eq_false, if_false]
      rcases h2 with ⟨e2, d2⟩ | ⟨e2, d2⟩ | ⟨e2, d2⟩
      · exact .inl ⟨e2, d2.ahead _⟩
      · exact .inr (.inl ⟨e2, d2.ahead _⟩)
      · exact .inr (.inr ⟨e2, by rw [d2]⟩)

/-- What bytes begin with, as a number. -/
def takI (s : List Nat) : Int × List Nat × Nat := if s.length < 8 then (0, [], 9) else (downI (s.take 8), s.drop 8, 0)
theorem takI_key {n : Int} (h : isI n) (b : List Nat) : takI (keyI n ++ b) = (n, b, 0) := by
  unfold takI
  rw [if_neg (by rw [List.length_append, keyI_length]; omega), List.take_append_of_le_length (by rw [keyI_length]; omega), List.take_of_length_le (by rw [keyI_length]; omega), downI_key h,
    List.drop_append_of_le_length (by rw [keyI_length]; omega), List.drop_of_length_le (by rw [keyI_length]; omega), List.nil_append]
/-- The parts that bytes are, of these kinds (105: a number; else a text), or the error. -/
def splitP : List Nat → List Nat → List Prt × Nat
  | [], s => if s = [] then ([], 0) else ([], 4)
  | 105 :: ks, s => if (takI s).2.2 = 0 then (if (splitP ks (takI s).2.1).2 = 0 then (⟨true, (takI s).1, ⟨#[]⟩⟩ :: (splitP ks (takI s).2.1).1, 0) else ([], (splitP ks (takI s).2.1).2)) else ([], (takI s).2.2)
  | _ :: ks, s => if (takT s).2.2 = 0 then (if (splitP ks (takT s).2.1).2 = 0 then (⟨false, 0, bytesN (takT s).1⟩ :: (splitP ks (takT s).2.1).1, 0) else ([], (splitP ks (takT s).2.1).2)) else ([], (takT s).2.2)
def kindsOf (l : List Prt) : List Nat := l.map fun p => if p.i then 105 else 116
/-- What does not count set to nought. -/
def bareP (p : Prt) : Prt := if p.i then ⟨true, p.n, ⟨#[]⟩⟩ else ⟨false, 0, p.s⟩
theorem splitP_join : ∀ l : List Prt, okP l → splitP (kindsOf l) (joinP l) = (l.map bareP, 0)
  | [], _ => by simp [kindsOf, joinP, splitP]
  | p :: l, h => by
    have ih := splitP_join l fun x hx => h x (List.mem_cons_of_mem _ hx)
    have hp := h p List.mem_cons_self
    obtain ⟨i, n, s⟩ := p
    cases i with
    | true =>
      have e := takI_key hp (joinP l)
      simp only [kindsOf, List.map_cons, if_true, joinP, keyP, bareP]
      rw [splitP, e, if_pos rfl]
      simp only [kindsOf] at ih
      rw [ih, if_pos rfl]
    | false =>
      have e := takT_key (nats s) (joinP l)
      simp only [kindsOf, List.map_cons, Bool.false_eq_true, if_false, joinP, keyP, bareP]
      rw [splitP, e, if_pos rfl]
      · simp only [kindsOf] at ih
        rw [ih, if_pos rfl, bytes_nats]
      · decide

end Go.Proofs.Ytdigbcglokjbjaa
