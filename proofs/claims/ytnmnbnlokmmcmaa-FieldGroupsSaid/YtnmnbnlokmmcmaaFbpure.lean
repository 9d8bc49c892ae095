/-
  Plain facts on the bytes of fields: what is put is taken, and what is taken is put as the same bytes.
-/
import Derived.Test.YtnmnbnlokmmcmaaFget
namespace Go.Proofs.Ytnmnbnlokmmcmaa

theorem zig_range {v : Int} (h : valB v = true) : 0 ≤ zig v ∧ zig v ≤ 4611686018427387903 := by
  unfold valB at h
  simp only [Bool.and_eq_true, decide_eq_true_eq] at h
  unfold zig
  split <;> omega
theorem intS_enc {v : Int} (h : valB v = true) : intS v = encS (zig v).toNat := by
  have h2 := zig_range h
  unfold valB at h
  simp only [Bool.and_eq_true, decide_eq_true_eq] at h
  rw [(int_ok h rfl).1]
  obtain ⟨m, hm⟩ : ∃ m : Nat, zig v = (m : Int) := ⟨(zig v).toNat, by omega⟩
  rw [hm, (num_ok (n := m) (by omega)).1, Int.toNat_natCast]
theorem unzig_zig {v : Int} : unzig (zig v).toNat = v := by
  unfold zig unzig
  by_cases h : v < 0
  · rw [if_pos h, if_pos (by omega)]; omega
  · rw [if_neg h, if_neg (by omega)]; omega
theorem zig_unzig (n : Nat) : zig (unzig n) = (n : Int) := by
  unfold zig unzig
  by_cases h : n % 2 = 1
  · rw [if_pos h, if_pos (by omega)]; omega
  · rw [if_neg h, if_neg (by omega)]; omega
theorem valB_unzig {n : Nat} (h : n < 4611686018427387904) : valB (unzig n) = true := by
  unfold valB unzig
  simp only [Bool.and_eq_true, decide_eq_true_eq]
  split <;> omega
theorem int_takenF {v : Int} (h : valB v = true) (b : ByteArray) : unzig (tkN (intS v ++ b)) = v ∧ tkR (intS v ++ b) = b ∧ tkE (intS v ++ b) = 0 := by
  have h2 := zig_range h
  rw [intS_enc h]
  obtain ⟨k1, k2, k3⟩ := tk_enc (n := (zig v).toNat) (by omega) b
  exact ⟨by rw [k1, unzig_zig], k2, k3⟩
theorem int_againF {s : ByteArray} (h : tkE s = 0) : intS (unzig (tkN s)) ++ tkR s = s := by
  rw [intS_enc (valB_unzig (tkN_lt s)), zig_unzig, Int.toNat_natCast]
  exact tk_again h

/-- The bytes of a field, of fields. -/
def oneS (f : Fd) : ByteArray := textS f.n ++ intS f.v
def manyS : List Fd → ByteArray
  | [] => ⟨#[]⟩
  | f :: l => oneS f ++ manyS l
theorem empty_append (s : ByteArray) : (⟨#[]⟩ : ByteArray) ++ s = s := by
  apply nats_inj
  rw [nats_append]; rfl
theorem append_empty (s : ByteArray) : s ++ (⟨#[]⟩ : ByteArray) = s := by
  apply nats_inj
  rw [nats_append, nats_nil, List.append_nil]
theorem manyS_append : ∀ l m : List Fd, manyS (l ++ m) = manyS l ++ manyS m
  | [], m => by rw [List.nil_append, manyS, empty_append]
  | f :: l, m => by rw [List.cons_append, manyS, manyS, manyS_append l m, ByteArray.append_assoc]
/-- What Put answers. -/
def putS (l : List Fd) : ByteArray := if rightE l = 0 then encS l.length ++ manyS l else ⟨#[]⟩
/-- Is a name one, and behind the one ahead? -/
def behindB : Option ByteArray → ByteArray → Bool
  | none, s => nameB s
  | some p, s => nameB s && aheadB p s
/-- The fields that s begins with, behind a name. -/
def takeG : Nat → Option ByteArray → ByteArray → List Fd × ByteArray × Nat
  | 0, _, s => ([], s, 0)
  | n + 1, o, s =>
    if ttE s 12 ≠ 0 then ([], ⟨#[]⟩, ttE s 12)
    else if behindB o (ttS s 12) = false then ([], ⟨#[]⟩, 8)
    else if tkE (ttR s 12) ≠ 0 then ([], ⟨#[]⟩, tkE (ttR s 12))
    else if (takeG n (some (ttS s 12)) (tkR (ttR s 12))).2.2 ≠ 0 then ([], ⟨#[]⟩, (takeG n (some (ttS s 12)) (tkR (ttR s 12))).2.2)
    else (⟨ttS s 12, unzig (tkN (ttR s 12))⟩ :: (takeG n (some (ttS s 12)) (tkR (ttR s 12))).1, (takeG n (some (ttS s 12)) (tkR (ttR s 12))).2.1, 0)
def takeF (s : ByteArray) : List Fd × ByteArray × Nat :=
  if tkE s ≠ 0 then ([], ⟨#[]⟩, tkE s) else if 8 < tkN s then ([], ⟨#[]⟩, 4) else takeG (tkN s) none (tkR s)
/-- What is behind fields that have been taken. -/
def goOn (acc : List Fd) (t : List Fd × ByteArray × Nat) : List Fd × ByteArray × Nat := if t.2.2 ≠ 0 then ([], ⟨#[]⟩, t.2.2) else (acc ++ t.1, t.2.1, 0)
theorem takeG_err {n : Nat} {o : Option ByteArray} {s : ByteArray} (h : (takeG n o s).2.2 ≠ 0) : takeG n o s = ([], ⟨#[]⟩, (takeG n o s).2.2) := by
  cases n with
  | zero => exact absurd rfl h
  | succ n =>
    rw [takeG] at h ⊢
    by_cases h1 : ttE s 12 ≠ 0
    · rw [if_pos h1]
    · rw [if_neg h1] at h ⊢
      by_cases h2 : behindB o (ttS s 12) = false
      · rw [if_pos h2]
      · rw [if_neg h2] at h ⊢
        by_cases h3 : tkE (ttR s 12) ≠ 0
        · rw [if_pos h3]
        · rw [if_neg h3] at h ⊢
          by_cases h4 : (takeG n (some (ttS s 12)) (tkR (ttR s 12))).2.2 ≠ 0
          · rw [if_pos h4]
          · rw [if_neg h4] at h
            exact absurd rfl h
theorem goOn_start (t : List Fd × ByteArray × Nat) (h : t.2.2 ≠ 0 → t = ([], ⟨#[]⟩, t.2.2)) : goOn [] t = t := by
  unfold goOn
  by_cases h1 : t.2.2 ≠ 0
  · rw [if_pos h1]; exact (h h1).symm
  · rw [if_neg h1]
    have : t.2.2 = 0 := by omega
    rw [List.nil_append]
    obtain ⟨a, b, c⟩ := t
    obtain rfl : c = 0 := this
    rfl
theorem goOn_text {acc : List Fd} {n : Nat} {o : Option ByteArray} {s : ByteArray} (h : ttE s 12 ≠ 0) : goOn acc (takeG (n + 1) o s) = ([], ⟨#[]⟩, ttE s 12) := by
  rw [takeG, if_pos h, goOn, if_pos h]
theorem goOn_form {acc : List Fd} {n : Nat} {o : Option ByteArray} {s : ByteArray} (h : ttE s 12 = 0) (h2 : behindB o (ttS s 12) = false) : goOn acc (takeG (n + 1) o s) = ([], ⟨#[]⟩, 8) := by
  rw [takeG, if_neg (by omega), if_pos h2, goOn, if_pos (by decide)]
theorem goOn_int {acc : List Fd} {n : Nat} {o : Option ByteArray} {s : ByteArray} (h : ttE s 12 = 0) (h2 : behindB o (ttS s 12) = true) (h3 : tkE (ttR s 12) ≠ 0) : goOn acc (takeG (n + 1) o s) = ([], ⟨#[]⟩, tkE (ttR s 12)) := by
  rw [takeG, if_neg (by omega), if_neg (by rw [h2]; simp), if_pos h3, goOn, if_pos h3]
theorem goOn_next {acc : List Fd} {n : Nat} {o : Option ByteArray} {s : ByteArray} (h : ttE s 12 = 0) (h2 : behindB o (ttS s 12) = true) (h3 : tkE (ttR s 12) = 0) :
    goOn acc (takeG (n + 1) o s) = goOn (acc ++ [⟨ttS s 12, unzig (tkN (ttR s 12))⟩]) (takeG n (some (ttS s 12)) (tkR (ttR s 12))) := by
  rw [takeG, if_neg (by omega), if_neg (by rw [h2]; simp), if_neg (by omega)]
  by_cases h4 : (takeG n (some (ttS s 12)) (tkR (ttR s 12))).2.2 ≠ 0
  · rw [if_pos h4, goOn, if_pos h4, goOn, if_pos h4]
  · rw [if_neg h4, goOn, if_neg (by simp), goOn, if_neg h4, List.append_assoc]
    rfl
theorem goOn_end (acc : List Fd) (o : Option ByteArray) (s : ByteArray) : goOn acc (takeG 0 o s) = (acc, s, 0) := by
  rw [takeG, goOn, if_neg (by simp), List.append_nil]

theorem behind_right {o : Option ByteArray} {f : Fd} {l : List Fd} : rightG o (f :: l) = 0 ↔ behindB o f.n = true ∧ valB f.v = true ∧ rightG (some f.n) l = 0 := by
  have e1 : oneE f = 0 ↔ nameB f.n = true ∧ valB f.v = true := by
    unfold oneE
    cases nameB f.n <;> cases valB f.v <;> simp
  cases o with
  | none =>
    rw [rightG_none, behindB]
    by_cases h : oneE f = 0
    · rw [if_pos h]
      have := e1.1 h
      simp [this]
    · rw [if_neg h]
      constructor
      · intro h2; exact absurd h2 h
      · intro h2; exact absurd (e1.2 ⟨h2.1, h2.2.1⟩) h
  | some p =>
    rw [rightG_some, behindB]
    by_cases h : oneE f = 0
    · rw [if_pos h]
      have := e1.1 h
      cases ha : aheadB p f.n <;> simp [this]
    · rw [if_neg h]
      constructor
      · intro h2; exact absurd h2 h
      · intro h2
        rw [Bool.and_eq_true] at h2
        exact absurd (e1.2 ⟨h2.1.1, h2.2.1⟩) h
theorem behind_name {o : Option ByteArray} {s : ByteArray} (h : behindB o s = true) : nameB s = true := by
  cases o with
  | none => exact h
  | some p => rw [behindB, Bool.and_eq_true] at h; exact h.1
theorem name_size {s : ByteArray} (h : nameB s = true) : s.size ≤ 12 := by
  unfold nameB at h
  rw [nameL_pre] at h
  simp only [Bool.and_eq_true, decide_eq_true_eq] at h
  rw [← nats_length]
  exact h.2.2
/-- What is put is taken. -/
theorem take_put : ∀ (l : List Fd) (o : Option ByteArray) (b : ByteArray), rightG o l = 0 → takeG l.length o (manyS l ++ b) = (l, b, 0)
  | [], _, b, _ => by rw [manyS, empty_append]; rfl
  | f :: l, o, b, h => by
    obtain ⟨h1, h2, h3⟩ := behind_right.1 h
    have hz := name_size (behind_name h1)
    have e : manyS (f :: l) ++ b = textS f.n ++ (intS f.v ++ (manyS l ++ b)) := by rw [manyS, oneS, ByteArray.append_assoc, ByteArray.append_assoc]
    obtain ⟨t1, t2, t3⟩ := tt_text (s := f.n) (b := intS f.v ++ (manyS l ++ b)) (most := 12) (by omega) (by omega)
    obtain ⟨i1, i2, i3⟩ := int_takenF h2 (manyS l ++ b)
    have ih := take_put l (some f.n) b h3
    rw [List.length_cons, e, takeG, t1, t2, t3, i1, i2, i3, ih]
    simp [h1]
/-- What is taken is put as the same bytes. -/
theorem put_take : ∀ (n : Nat) (o : Option ByteArray) (s : ByteArray), (takeG n o s).2.2 = 0 → (takeG n o s).1.length = n ∧ rightG o (takeG n o s).1 = 0 ∧ manyS (takeG n o s).1 ++ (takeG n o s).2.1 = s
  | 0, o, s, _ => by
    refine ⟨rfl, ?_, ?_⟩
    · cases o <;> rfl
    · show manyS [] ++ s = s
      rw [manyS, empty_append]
  | n + 1, o, s, h => by
    rw [takeG] at h ⊢
    by_cases h1 : ttE s 12 ≠ 0
    · rw [if_pos h1] at h; exact absurd h h1
    · rw [if_neg h1] at h ⊢
      by_cases h2 : behindB o (ttS s 12) = false
      · rw [if_pos h2] at h; cases h
      · rw [if_neg h2] at h ⊢
        by_cases h3 : tkE (ttR s 12) ≠ 0
        · rw [if_pos h3] at h; exact absurd h h3
        · rw [if_neg h3] at h ⊢
          by_cases h4 : (takeG n (some (ttS s 12)) (tkR (ttR s 12))).2.2 ≠ 0
          · rw [if_pos h4] at h; exact absurd h h4
          · rw [if_neg h4]
            obtain ⟨k1, k2, k3⟩ := put_take n (some (ttS s 12)) (tkR (ttR s 12)) (by omega)
            have hb : behindB o (ttS s 12) = true := by
              cases hh : behindB o (ttS s 12)
              · exact absurd hh h2
              · rfl
            refine ⟨by rw [List.length_cons, k1], behind_right.2 ⟨hb, valB_unzig (tkN_lt _), k2⟩, ?_⟩
            rw [manyS, oneS, ByteArray.append_assoc, ByteArray.append_assoc, k3, int_againF (by omega), tt_again (by omega)]
theorem takeF_put {l : List Fd} (h : rightE l = 0) (b : ByteArray) : takeF (putS l ++ b) = (l, b, 0) := by
  have hr : rightG none l = 0 ∧ l.length ≤ 8 := by
    unfold rightE at h
    by_cases h8 : 8 < l.length
    · rw [if_pos h8] at h; cases h
    · rw [if_neg h8] at h; exact ⟨h, by omega⟩
  unfold putS
  rw [if_pos h, ByteArray.append_assoc]
  obtain ⟨k1, k2, k3⟩ := tk_enc (n := l.length) (by omega) (manyS l ++ b)
  unfold takeF
  rw [k1, k2, k3, if_neg (by simp), if_neg (by omega), take_put l none b hr.1]
theorem putF_take {s : ByteArray} (h : (takeF s).2.2 = 0) : rightE (takeF s).1 = 0 ∧ putS (takeF s).1 ++ (takeF s).2.1 = s := by
  unfold takeF at h ⊢
  by_cases h1 : tkE s ≠ 0
  · rw [if_pos h1] at h; exact absurd h h1
  · rw [if_neg h1] at h ⊢
    by_cases h2 : 8 < tkN s
    · rw [if_pos h2] at h; cases h
    · rw [if_neg h2] at h ⊢
      obtain ⟨k1, k2, k3⟩ := put_take _ _ _ h
      have hr : rightE (takeG (tkN s) none (tkR s)).1 = 0 := by
        unfold rightE
        rw [k1, if_neg h2, k2]
      refine ⟨hr, ?_⟩
      unfold putS
      rw [if_pos hr, k1, ByteArray.append_assoc, k3]
      exact tk_again (by omega)

end Go.Proofs.Ytnmnbnlokmmcmaa
