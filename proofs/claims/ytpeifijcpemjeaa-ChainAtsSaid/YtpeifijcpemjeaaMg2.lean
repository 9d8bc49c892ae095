/-
  Texts joined into one: what the program's and the document's calls give back, piece by piece.
-/
import Derived.Test.YtpeifijcpemjeaaMg1
import Derived.Test.YtpeifijcpemjeaaRows
import Derived.BigQuiet
import Derived.ChangeAlike
import Derived.ChangeKeysEq
import Derived.Deep.AppendLies
import Derived.Deep.CutBlock
import Derived.Deep.CutRange
import Derived.Deep.Light
import Derived.Deep.QuietTactic
import Derived.Deep.RegionHeld3
import Derived.Deep.RegionLaw
import Derived.Handy
import Derived.Laws.BytesArg
import Derived.Laws.OwnMore
import Derived.Laws.Strings
import Derived.Laws.StructEq
import Derived.Lib.Hide
import Derived.Maps.AppendAt
import Derived.OneCell
import Derived.OwnWalk
import Derived.RegionTactic
import Derived.StillTailTactics
import Derived.WalkArith
import Derived.WalkKit
import Derived.WalkLawsBesides
import Derived.WalkSpells
import Derived.Deep.OwnRows
import Derived.Laws.MakeOwn

/-
  Plain facts on the bytes of fields: what is put is taken, and what is taken is put as the same bytes.
-/
namespace Go.Proofs.Ytpeifijcpemjeaa

theorem zig_range {v : Int} (h : valB v = true) : 0 ≤ zig v ∧ zig v ≤ 4611686018427387903 := by
  unfold valB at h
  simp only [Bool.and_eq_true, decide_eq_true_eq] at h
  unfold zig
  split <;> omega
theorem intS_enc {v : Int} (h : valB v = true) : intS v = encS (zig v).toNat := by
  have h2 := zig_range h
  unfold valB at h
  simp only [Bool.and_eq_true, decide_eq_true_eq] at h
  rw [(int_ok h rfl).1]
  obtain ⟨m, hm⟩ : ∃ m : Nat, zig v = (m : Int) := ⟨(zig v).toNat, by omega⟩
  rw [hm, (num_ok (n := m) (by omega)).1, Int.toNat_natCast]
theorem unzig_zig {v : Int} : unzig (zig v).toNat = v := by
  unfold zig unzig
  by_cases h : v < 0
  · rw [if_pos h, if_pos (by omega)]; omega
  · rw [if_neg h, if_neg (by omega)]; omega
theorem zig_unzig (n : Nat) : zig (unzig n) = (n : Int) := by
  unfold zig unzig
  by_cases h : n % 2 = 1
  · rw [if_pos h, if_pos (by omega)]; omega
  · rw [if_neg h, if_neg (by omega)]; omega
theorem valB_unzig {n : Nat} (h : n < 4611686018427387904) : valB (unzig n) = true := by
  unfold valB unzig
  simp only [Bool.and_eq_true, decide_eq_true_eq]
  split <;> omega
theorem int_takenF {v : Int} (h : valB v = true) (b : ByteArray) : unzig (tkN (intS v ++ b)) = v ∧ tkR (intS v ++ b) = b ∧ tkE (intS v ++ b) = 0 := by
  have h2 := zig_range h
  rw [intS_enc h]
  obtain ⟨k1, k2, k3⟩ := tk_enc (n := (zig v).toNat) (by omega) b
  exact ⟨by rw [k1, unzig_zig], k2, k3⟩
theorem int_againF {s : ByteArray} (h : tkE s = 0) : intS (unzig (tkN s)) ++ tkR s = s := by
  rw [intS_enc (valB_unzig (tkN_lt s)), zig_unzig, Int.toNat_natCast]
  exact tk_again h

/-- The bytes of a field, of fields. -/
def oneS (f : Fd) : ByteArray := textS f.n ++ intS f.v
def manyS : List Fd → ByteArray
  | [] => ⟨#[]⟩
  | f :: l => oneS f ++ manyS l
theorem empty_append (s : ByteArray) : (⟨#[]⟩ : ByteArray) ++ s = s := by
  apply nats_inj
  rw [nats_append]; rfl
theorem append_empty (s : ByteArray) : s ++ (⟨#[]⟩ : ByteArray) = s := by
  apply nats_inj
  rw [nats_append, nats_nil, List.append_nil]
theorem manyS_append : ∀ l m : List Fd, manyS (l ++ m) = manyS l ++ manyS m
  | [], m => by rw [List.nil_append, manyS, empty_append]
  | f :: l, m => by rw [List.cons_append, manyS, manyS, manyS_append l m, ByteArray.append_assoc]
/-- What Put answers. -/
def putS (l : List Fd) : ByteArray := if rightE l = 0 then encS l.length ++ manyS l else ⟨#[]⟩
/-- Is a name one, and behind the one ahead? -/
def behindB : Option ByteArray → ByteArray → Bool
  | none, s => nameB s
  | some p, s => nameB s && aheadB p s
/-- The fields that s begins with, behind a name. -/
def takeG : Nat → Option ByteArray → ByteArray → List Fd × ByteArray × Nat
  | 0, _, s => ([], s, 0)
  | n + 1, o, s =>
    if ttE s 12 ≠ 0 then ([], ⟨#[]⟩, ttE s 12)
    else if behindB o (ttS s 12) = false then ([], ⟨#[]⟩, 8)
    else if tkE (ttR s 12) ≠ 0 then ([], ⟨#[]⟩, tkE (ttR s 12))
    else if (takeG n (some (ttS s 12)) (tkR (ttR s 12))).2.2 ≠ 0 then ([], ⟨#[]⟩, (takeG n (some (ttS s 12)) (tkR (ttR s 12))).2.2)
    else (⟨ttS s 12, unzig (tkN (ttR s 12))⟩ :: (takeG n (some (ttS s 12)) (tkR (ttR s 12))).1, (takeG n (some (ttS s 12)) (tkR (ttR s 12))).2.1, 0)
def takeF (s : ByteArray) : List Fd × ByteArray × Nat :=
  if tkE s ≠ 0 then ([], ⟨#[]⟩, tkE s) else if 8 < tkN s then ([], ⟨#[]⟩, 4) else takeG (tkN s) none (tkR s)
/-- What is behind fields that have been taken. -/
def goOn (acc : List Fd) (t : List Fd × ByteArray × Nat) : List Fd × ByteArray × Nat := if t.2.2 ≠ 0 then ([], ⟨#[]⟩, t.2.2) else (acc ++ t.1, t.2.1, 0)
theorem takeG_err {n : Nat} {o : Option ByteArray} {s : ByteArray} (h : (takeG n o s).2.2 ≠ 0) : takeG n o s = ([], ⟨#[]⟩, (takeG n o s).2.2) := by
  cases n with
  | zero => exact absurd rfl h
  | succ n =>
    rw [takeG] at h ⊢
    by_cases h1 : ttE s 12 ≠ 0
    · rw [if_pos h1]
    · rw [if_neg h1] at h ⊢
      by_cases h2 : behindB o (ttS s 12) = false
      · rw [if_pos h2]
      · rw [if_neg h2] at h ⊢
        by_cases h3 : tkE (ttR s 12) ≠ 0
        · rw [if_pos h3]
        · rw [if_neg h3] at h ⊢
          by_cases h4 : (takeG n (some (ttS s 12)) (tkR (ttR s 12))).2.2 ≠ 0
          · rw [if_pos h4]
          · rw [if_neg h4] at h
            exact absurd rfl h
theorem goOn_start (t : List Fd × ByteArray × Nat) (h : t.2.2 ≠ 0 → t = ([], ⟨#[]⟩, t.2.2)) : goOn [] t = t := by
  unfold goOn
  by_cases h1 : t.2.2 ≠ 0
  · rw [if_pos h1]; exact (h h1).symm
  · rw [if_neg h1]
    have : t.2.2 = 0 := by omega
    rw [List.nil_append]
    obtain ⟨a, b, c⟩ := t
    obtain rfl : c = 0 := this
    rfl
theorem goOn_text {acc : List Fd} {n : Nat} {o : Option ByteArray} {s : ByteArray} (h : ttE s 12 ≠ 0) : goOn acc (takeG (n + 1) o s) = ([], ⟨#[]⟩, ttE s 12) := by
  rw [takeG, if_pos h, goOn, if_pos h]
theorem goOn_form {acc : List Fd} {n : Nat} {o : Option ByteArray} {s : ByteArray} (h : ttE s 12 = 0) (h2 : behindB o (ttS s 12) = false) : goOn acc (takeG (n + 1) o s) = ([], ⟨#[]⟩, 8) := by
  rw [takeG, if_neg (by omega), if_pos h2, goOn, if_pos (by decide)]
theorem goOn_int {acc : List Fd} {n : Nat} {o : Option ByteArray} {s : ByteArray} (h : ttE s 12 = 0) (h2 : behindB o (ttS s 12) = true) (h3 : tkE (ttR s 12) ≠ 0) : goOn acc (takeG (n + 1) o s) = ([], ⟨#[]⟩, tkE (ttR s 12)) := by
  rw [takeG, if_neg (by omega), if_neg (by rw [h2]; simp), if_pos h3, goOn, if_pos h3]
theorem goOn_next {acc : List Fd} {n : Nat} {o : Option ByteArray} {s : ByteArray} (h : ttE s 12 = 0) (h2 : behindB o (ttS s 12) = true) (h3 : tkE (ttR s 12) = 0) :
    goOn acc (takeG (n + 1) o s) = goOn (acc ++ [⟨ttS s 12, unzig (tkN (ttR s 12))⟩]) (takeG n (some (ttS s 12)) (tkR (ttR s 12))) := by
  rw [takeG, if_neg (by omega), if_neg (by rw [h2]; simp), if_neg (by omega)]
  by_cases h4 : (takeG n (some (ttS s 12)) (tkR (ttR s 12))).2.2 ≠ 0
  · rw [if_pos h4, goOn, if_pos h4, goOn, if_pos h4]
  · rw [if_neg h4, goOn, if_neg (by simp), goOn, if_neg h4, List.append_assoc]
    rfl
theorem goOn_end (acc : List Fd) (o : Option ByteArray) (s : ByteArray) : goOn acc (takeG 0 o s) = (acc, s, 0) := by
  rw [takeG, goOn, if_neg (by simp), List.append_nil]

theorem behind_right {o : Option ByteArray} {f : Fd} {l : List Fd} : rightG o (f :: l) = 0 ↔ behindB o f.n = true ∧ valB f.v = true ∧ rightG (some f.n) l = 0 := by
  have e1 : oneE f = 0 ↔ nameB f.n = true ∧ valB f.v = true := by
    unfold oneE
    cases nameB f.n <;> cases valB f.v <;> simp
  cases o with
  | none =>
    rw [rightG_none, behindB]
    by_cases h : oneE f = 0
    · rw [if_pos h]
      have := e1.1 h
      simp [this]
    · rw [if_neg h]
      constructor
      · intro h2; exact absurd h2 h
      · intro h2; exact absurd (e1.2 ⟨h2.1, h2.2.1⟩) h
  | some p =>
    rw [rightG_some, behindB]
    by_cases h : oneE f = 0
    · rw [if_pos h]
      have := e1.1 h
      cases ha : aheadB p f.n <;> simp [this]
    · rw [if_neg h]
      constructor
      · intro h2; exact absurd h2 h
      · intro h2
        rw [Bool.and_eq_true] at h2
        exact absurd (e1.2 ⟨h2.1.1, h2.2.1⟩) h
theorem behind_name {o : Option ByteArray} {s : ByteArray} (h : behindB o s = true) : nameB s = true := by
  cases o with
  | none => exact h
  | some p => rw [behindB, Bool.and_eq_true] at h; exact h.1
theorem name_size {s : ByteArray} (h : nameB s = true) : s.size ≤ 12 := by
  unfold nameB at h
  rw [nameL_pre] at h
  simp only [Bool.and_eq_true, decide_eq_true_eq] at h
  rw [← nats_length]
  exact h.2.2
/-- What is put is taken. -/
theorem take_put : ∀ (l : List Fd) (o : Option ByteArray) (b : ByteArray), rightG o l = 0 → takeG l.length o (manyS l ++ b) = (l, b, 0)
  | [], _, b, _ => by rw [manyS, empty_append]; rfl
  | f :: l, o, b, h => by
    obtain ⟨h1, h2, h3⟩ := behind_right.1 h
    have hz := name_size (behind_name h1)
    have e : manyS (f :: l) ++ b = textS f.n ++ (intS f.v ++ (manyS l ++ b)) := by rw [manyS, oneS, ByteArray.append_assoc, ByteArray.append_assoc]
    obtain ⟨t1, t2, t3⟩ := tt_text (s := f.n) (b := intS f.v ++ (manyS l ++ b)) (most := 12) (by omega) (by omega)
    obtain ⟨i1, i2, i3⟩ := int_takenF h2 (manyS l ++ b)
    have ih := take_put l (some f.n) b h3
    rw [List.length_cons, e, takeG, t1, t2, t3, i1, i2, i3, ih]
    simp [h1]
/-- What is taken is put as the same bytes. -/
theorem put_take : ∀ (n : Nat) (o : Option ByteArray) (s : ByteArray), (takeG n o s).2.2 = 0 → (takeG n o s).1.length = n ∧ rightG o (takeG n o s).1 = 0 ∧ manyS (takeG n o s).1 ++ (takeG n o s).2.1 = s
  | 0, o, s, _ => by
    refine ⟨rfl, ?_, ?_⟩
    · cases o <;> rfl
    · show manyS [] ++ s = s
      rw [manyS, empty_append]
  | n + 1, o, s, h => by
    rw [takeG] at h ⊢
    by_cases h1 : ttE s 12 ≠ 0
    · rw [if_pos h1] at h; exact absurd h h1
    · rw [if_neg h1] at h ⊢
      by_cases h2 : behindB o (ttS s 12) = false
      · rw [if_pos h2] at h; cases h
      · rw [if_neg h2] at h ⊢
        by_cases h3 : tkE (ttR s 12) ≠ 0
        · rw [if_pos h3] at h; exact absurd h h3
        · rw [if_neg h3] at h ⊢
          by_cases h4 : (takeG n (some (ttS s 12)) (tkR (ttR s 12))).2.2 ≠ 0
          · rw [if_pos h4] at h; exact absurd h h4
          · rw [if_neg h4]
            obtain ⟨k1, k2, k3⟩ := put_take n (some (ttS s 12)) (tkR (ttR s 12)) (by omega)
            have hb : behindB o (ttS s 12) = true := by
              cases hh : behindB o (ttS s 12)
              · exact absurd hh h2
              · rfl
            refine ⟨by rw [List.length_cons, k1], behind_right.2 ⟨hb, valB_unzig (tkN_lt _), k2⟩, ?_⟩
            rw [manyS, oneS, ByteArray.append_assoc, ByteArray.append_assoc, k3, int_againF (by omega), tt_again (by omega)]
theorem takeF_put {l : List Fd} (h : rightE l = 0) (b : ByteArray) : takeF (putS l ++ b) = (l, b, 0) := by
  have hr : rightG none l = 0 ∧ l.length ≤ 8 := by
    unfold rightE at h
    by_cases h8 : 8 < l.length
    · rw [if_pos h8] at h; cases h
    · rw [if_neg h8] at h; exact ⟨h, by omega⟩
  unfold putS
  rw [if_pos h, ByteArray.append_assoc]
  obtain ⟨k1, k2, k3⟩ := tk_enc (n := l.length) (by omega) (manyS l ++ b)
  unfold takeF
  rw [k1, k2, k3, if_neg (by simp), if_neg (by omega), take_put l none b hr.1]
theorem putF_take {s : ByteArray} (h : (takeF s).2.2 = 0) : rightE (takeF s).1 = 0 ∧ putS (takeF s).1 ++ (takeF s).2.1 = s := by
  unfold takeF at h ⊢
  by_cases h1 : tkE s ≠ 0
  · rw [if_pos h1] at h; exact absurd h h1
  · rw [if_neg h1] at h ⊢
    by_cases h2 : 8 < tkN s
    · rw [if_pos h2] at h; cases h
    · rw [if_neg h2] at h ⊢
      obtain ⟨k1, k2, k3⟩ := put_take _ _ _ h
      have hr : rightE (takeG (tkN s) none (tkR s)).1 = 0 := by
        unfold rightE
        rw [k1, if_neg h2, k2]
      refine ⟨hr, ?_⟩
      unfold putS
      rw [if_pos hr, k1, ByteArray.append_assoc, k3]
      exact tk_again (by omega)

end Go.Proofs.Ytpeifijcpemjeaa

/-
  The document's Of, Covers and At of versions.
-/
namespace Go.Proofs.Ytpeifijcpemjeaa
open Go.RowKit

/-- Few enough versions, of few enough fields. -/
def fewV (l : List Vr) : Prop := l.length ≤ 200 ∧ ∀ v ∈ l, v.fs.length ≤ 100
theorem flat_leV {L : List (List Fd)} {m : Nat} (h : ∀ l ∈ L, l.length ≤ m) : L.flatten.length ≤ L.length * m := by
  induction L with
  | nil => simp
  | cons a L ih =>
    rw [List.flatten_cons, List.length_append, List.length_cons, Nat.add_mul, Nat.one_mul]
    have h1 := h a List.mem_cons_self
    have h2 := ih fun l hl => h l (List.mem_cons_of_mem _ hl)
    omega
theorem counts_mem {l : List Vr} {fs : List Fd} (h : fs ∈ countsV l) : ∃ v ∈ l, v.fs = fs := by
  unfold countsV at h
  obtain ⟨v, hv, rfl⟩ := List.mem_map.1 h
  exact ⟨v, (ordL_perm l).mem_iff.1 (List.mem_filter.1 hv).1, rfl⟩
theorem counts_few {l : List Vr} (h : fewV l) : (countsV l).length ≤ 200 ∧ (countsV l).flatten.length ≤ 20000 ∧ ∀ fs ∈ countsV l, fs.length ≤ 100 := by
  have h1 : (countsV l).length ≤ 200 := by
    unfold countsV
    rw [List.length_map]
    have := List.length_filter_le (fun v : Vr => !v.gone) (ordL l)
    rw [ordL_length] at this
    have := h.1
    omega
  have h2 : ∀ fs ∈ countsV l, fs.length ≤ 100 := fun fs hf => by
    obtain ⟨v, hv, rfl⟩ := counts_mem hf
    exact h.2 v hv
  have h3 := flat_leV h2
  have : (countsV l).length * 100 ≤ 200 * 100 := Nat.mul_le_mul_right 100 h1
  exact ⟨h1, by omega, h2⟩
/-- Lists of fields as their values' parts. -/
def slOf (v : Vr) : Sl := ⟨v.fa, v.fs.length, v.fc⟩
end Go.Proofs.Ytpeifijcpemjeaa

/-
  The document's Covers and At of versions.
-/
namespace Go.Proofs.Ytpeifijcpemjeaa
open Go.RowKit

def rightS (f t : Int) : Bool := decide (-1099511627776 ≤ f) && decide (t ≤ 1099511627776) && decide (f < t)
def hasS (f t x : Int) : Bool := decide (f ≤ x) && decide (x < t)
theorem coversB_eq (v : Vr) (t : Int) : coversB v t = (!v.gone && rightS v.sf v.se && hasS v.sf v.se t) := rfl

set_option maxHeartbeats 1000000 in
theorem dright01_any (f t : Int) (w : World) : Ret 36 #[.agg #[.int .i64 f, .int .i64 t]] w (.bool (rightS f t)) := by
  by_cases h1 : -1099511627776 ≤ f
  · by_cases h2 : t ≤ 1099511627776
    · by_cases h3 : f < t
      · have HE := Lib.hid (show rightS f t = true by simp [rightS, h1, h2, h3])
        go_enter Try.func36, Try.ntmps36
        go_wp2_with fail
        go_ret
        exact ⟨ret_bool HE.out.symm, (bl w).alloc (Nat.le_refl _) _⟩
      · have HE := Lib.hid (show rightS f t = false by simp [rightS, h3])
        go_enter Try.func36, Try.ntmps36
        go_wp2_with fail
        go_ret
        exact ⟨ret_bool HE.out.symm, (bl w).alloc (Nat.le_refl _) _⟩
    · have HE := Lib.hid (show rightS f t = false by simp [rightS, h2])
      go_enter Try.func36, Try.ntmps36
      go_wp2_with fail
      go_ret
      exact ⟨ret_bool HE.out.symm, (bl w).alloc (Nat.le_refl _) _⟩
  · have HE := Lib.hid (show rightS f t = false by simp [rightS, h1])
    go_enter Try.func36, Try.ntmps36
    go_wp2_with fail
    go_ret
    exact ⟨ret_bool HE.out.symm, (bl w).alloc (Nat.le_refl _) _⟩
set_option maxHeartbeats 1000000 in
theorem dhas01_any (f t x : Int) (w : World) : Ret 37 #[.agg #[.int .i64 f, .int .i64 t], .int .i64 x] w (.bool (hasS f t x)) := by
  by_cases h1 : f ≤ x
  · by_cases h2 : x < t
    · have HE := Lib.hid (show hasS f t x = true by simp [hasS, h1, h2])
      go_enter Try.func37, Try.ntmps37
      go_wp2_with fail
      go_ret
      exact ⟨ret_bool HE.out.symm, (bl w).alloc (Nat.le_refl _) _⟩
    · have HE := Lib.hid (show hasS f t x = false by simp [hasS, h2])
      go_enter Try.func37, Try.ntmps37
      go_wp2_with fail
      go_ret
      exact ⟨ret_bool HE.out.symm, (bl w).alloc (Nat.le_refl _) _⟩
  · have HE := Lib.hid (show hasS f t x = false by simp [hasS, h1])
    go_enter Try.func37, Try.ntmps37
    go_wp2_with fail
    go_ret
    exact ⟨ret_bool HE.out.symm, (bl w).alloc (Nat.le_refl _) _⟩

set_option maxHeartbeats 4000000 in
set_option maxRecDepth 10000 in
theorem dcovers_any (v : Vr) (t : Int) (w : World) : Ret 22 #[vv v, .int .i64 t] w (.bool (coversB v t)) := by
  obtain ⟨id, st, ent, sf, se, fa, fc, fs, gone⟩ := v
  have CR := Lib.hid (fun w => dright01_any sf se w)
  have CH := Lib.hid (fun w => dhas01_any sf se t w)
  cases gone with
  | true =>
    have HE := Lib.hid (show coversB ⟨id, st, ent, sf, se, fa, fc, fs, true⟩ t = false from rfl)
    go_enter Try.func22, Try.ntmps22
    go_wp2_with fail
    go_ret
    exact ⟨ret_bool HE.out.symm, (bl w).alloc (Nat.le_refl _) _⟩
  | false =>
    cases hr : rightS sf se with
    | false =>
      have HE := Lib.hid (show coversB ⟨id, st, ent, sf, se, fa, fc, fs, false⟩ t = false by rw [coversB_eq, hr]; rfl)
      rw [hr] at CR
      clear hr
      go_enter Try.func22, Try.ntmps22
      go_wp2_with (go_at_call 36; (with_reducible refine (CR.out _).mono ?_); rintro e w2 ⟨rfl, hb2⟩)
      go_ret
      exact ⟨ret_bool HE.out.symm, ((bl w).alloc (Nat.le_refl _) _).trans (hb2.mono (by simp))⟩
    | true =>
      have HE := Lib.hid (show coversB ⟨id, st, ent, sf, se, fa, fc, fs, false⟩ t = hasS sf se t by rw [coversB_eq, hr]; rfl)
      rw [hr] at CR
      generalize hasS sf se t = hb at *
      clear hr
      go_enter Try.func22, Try.ntmps22
      go_wp2_with (first
        | (go_at_call 36; (with_reducible refine (CR.out _).mono ?_); rintro e w2 ⟨rfl, hb2⟩; have k3 : w2.cell? ⟨w.heap.size, 3, none⟩ = some (.int .i64 sf) := keepc hb2 (by simp [go_sem]); have k4 : w2.cell? ⟨w.heap.size, 4, none⟩ = some (.int .i64 se) := keepc hb2 (by simp [go_sem]))
        | (go_at_call 37; (with_reducible refine (CH.out _).mono ?_); rintro e w3 ⟨rfl, hb3⟩))
      go_ret
      exact ⟨ret_bool HE.out.symm, (((bl w).alloc (Nat.le_refl _) _).trans (hb2.mono (by simp))).trans (hb3.mono (by have := hb2.size; simp at this; omega))⟩

theorem few_filter {l : List Vr} (p : Vr → Bool) (h : fewV l) : fewV (l.filter p) := ⟨by have := List.length_filter_le p l; have := h.1; omega, fun v hv => h.2 v (List.mem_filter.1 hv).1⟩

end Go.Proofs.Ytpeifijcpemjeaa

/-
  Plain facts on versions and rows as bytes: what may be recorded, what is put is taken.
-/
namespace Go.Proofs.Ytpeifijcpemjeaa

/-- What is wrong with an entity, a version, a row. -/
def entE (s : ByteArray) : Nat := if s.size = 0 then 2 else if 24 < s.size then 4 else 0
def rightV (v : Vr) : Nat :=
  if v.st < 1 ∨ 1099511627775 < v.st ∨ v.id < 1 ∨ v.st < v.id then 2
  else if entE v.ent ≠ 0 then entE v.ent
  else if v.gone then (if v.id = v.st ∨ 0 < v.fs.length ∨ v.sf ≠ 0 ∨ v.se ≠ 0 then 8 else 0)
  else if rightS v.sf v.se then rightE v.fs else 3
structure Rw where
  v : Vr
  un : Int
def rightR (r : Rw) : Nat := if rightV r.v ≠ 0 then rightV r.v else if r.un ≠ 4611686018427387904 ∧ (r.un ≤ r.v.st ∨ 1099511627775 < r.un) then 2 else 0
def liveB (r : Rw) (x : Int) : Bool := decide (r.v.st ≤ x) && decide (x < r.un) && !r.v.gone
/-- Which of two versions is ahead. -/
def cmpV (a b : Vr) : Int :=
  if lessN (nats a.ent) (nats b.ent) then -1
  else if nats a.ent = nats b.ent then (if a.sf < b.sf then -1 else if a.sf = b.sf then (if a.st < b.st then -1 else if a.st = b.st then 0 else 1) else 1)
  else 1
theorem cmpV_back (a b : Vr) : cmpV b a = 0 - cmpV a b := by
  unfold cmpV
  rcases lessN_or (nats a.ent) (nats b.ent) with h | h | h
  · have h2 : lessN (nats b.ent) (nats a.ent) = false := by
      cases hh : lessN (nats b.ent) (nats a.ent)
      · rfl
      · have := lessN_trans _ _ _ h hh; rw [lessN_self] at this; cases this
    have h3 : nats b.ent ≠ nats a.ent := fun e => by rw [e, lessN_self] at h; cases h
    rw [if_neg (by rw [h2]; simp), if_neg h3, if_pos h]; rfl
  · have h2 : lessN (nats a.ent) (nats b.ent) = false := by
      cases hh : lessN (nats a.ent) (nats b.ent)
      · rfl
      · have := lessN_trans _ _ _ h hh; rw [lessN_self] at this; cases this
    have h3 : nats a.ent ≠ nats b.ent := fun e => by rw [e, lessN_self] at h; cases h
    rw [if_pos h, if_neg (by rw [h2]; simp), if_neg h3]; rfl
  · rw [h, lessN_self]
    simp only [Bool.false_eq_true, if_false, if_true]
    (repeat' split) <;> omega

/-- The bytes of a version that may be. -/
def bodyV (v : Vr) : ByteArray := if v.gone then encS 1 else encS 0 ++ intS v.sf ++ encS (v.se - v.sf).toNat ++ putS v.fs
def bytesV (v : Vr) : ByteArray := encS v.id.toNat ++ encS v.st.toNat ++ textS v.ent ++ bodyV v
def putV (v : Vr) : ByteArray := if rightV v = 0 then bytesV v else ⟨#[]⟩
/-- A version without the place of its fields; none. -/
def contV (v : Vr) : Vr := ⟨v.id, v.st, v.ent, v.sf, v.se, none, 0, v.fs, v.gone⟩
def noV : Vr := ⟨0, 0, ⟨#[]⟩, 0, 0, none, 0, [], false⟩
abbrev TV := Vr × ByteArray × Nat
def badV (e : Nat) : TV := (noV, ⟨#[]⟩, e)
def endV (v : Vr) (r : ByteArray) : TV := if rightV v = 0 then (v, r, 0) else badV 8
def restV (id st : Int) (ent : ByteArray) (s : ByteArray) : TV :=
  if tkE s ≠ 0 then badV (tkE s)
  else if tkE (tkR s) ≠ 0 then badV (tkE (tkR s))
  else if (takeF (tkR (tkR s))).2.2 ≠ 0 then badV (takeF (tkR (tkR s))).2.2
  else endV ⟨id, st, ent, unzig (tkN s), unzig (tkN s) + (tkN (tkR s) : Int), none, 0, (takeF (tkR (tkR s))).1, false⟩ (takeF (tkR (tkR s))).2.1
def goneV (id st : Int) (ent : ByteArray) (s : ByteArray) : TV :=
  if tkE s ≠ 0 then badV (tkE s)
  else if 1 < tkN s then badV 8
  else if tkN s = 1 then endV ⟨id, st, ent, 0, 0, none, 0, [], true⟩ (tkR s)
  else restV id st ent (tkR s)
def entV (id st : Int) (s : ByteArray) : TV := if ttE s 24 ≠ 0 then badV (ttE s 24) else goneV id st (ttS s 24) (ttR s 24)
def takeVs (s : ByteArray) : TV :=
  if tkE s ≠ 0 then badV (tkE s) else if tkE (tkR s) ≠ 0 then badV (tkE (tkR s)) else entV (tkN s) (tkN (tkR s)) (tkR (tkR s))

theorem right_stamps {v : Vr} (h : rightV v = 0) : 1 ≤ v.st ∧ v.st ≤ 1099511627775 ∧ 1 ≤ v.id ∧ v.id ≤ v.st ∧ entE v.ent = 0 := by
  unfold rightV at h
  by_cases h1 : v.st < 1 ∨ 1099511627775 < v.st ∨ v.id < 1 ∨ v.st < v.id
  · rw [if_pos h1] at h; cases h
  · rw [if_neg h1] at h
    by_cases h2 : entE v.ent ≠ 0
    · rw [if_pos h2] at h; exact absurd h h2
    · exact ⟨by omega, by omega, by omega, by omega, by omega⟩
theorem right_gone {v : Vr} (h : rightV v = 0) (hg : v.gone = true) : v.fs = [] ∧ v.sf = 0 ∧ v.se = 0 := by
  have hs := right_stamps h
  unfold rightV at h
  rw [if_neg (by omega), if_neg (by omega), if_pos hg] at h
  by_cases h1 : v.id = v.st ∨ 0 < v.fs.length ∨ v.sf ≠ 0 ∨ v.se ≠ 0
  · rw [if_pos h1] at h; cases h
  · exact ⟨List.eq_nil_of_length_eq_zero (by omega), by omega, by omega⟩
theorem right_here {v : Vr} (h : rightV v = 0) (hg : v.gone = false) : rightS v.sf v.se = true ∧ rightE v.fs = 0 := by
  have hs := right_stamps h
  unfold rightV at h
  rw [if_neg (by omega), if_neg (by omega), if_neg (by rw [hg]; simp)] at h
  cases hr : rightS v.sf v.se with
  | false => rw [hr] at h; cases h
  | true => rw [hr] at h; exact ⟨rfl, h⟩
theorem span_bounds {f t : Int} (h : rightS f t = true) : -1099511627776 ≤ f ∧ t ≤ 1099511627776 ∧ f < t := by
  unfold rightS at h
  simp only [Bool.and_eq_true, decide_eq_true_eq] at h
  exact ⟨h.1.1, h.1.2, h.2⟩
theorem right_cont (v : Vr) : rightV (contV v) = rightV v := rfl
/-- What is put is taken. -/
theorem takeVs_put {v : Vr} (h : rightV v = 0) (b : ByteArray) : takeVs (putV v ++ b) = (contV v, b, 0) := by
  obtain ⟨s1, s2, s3, s4, s5⟩ := right_stamps h
  have hes : v.ent.size ≤ 24 := by
    unfold entE at s5
    by_cases h1 : v.ent.size = 0
    · omega
    · rw [if_neg h1] at s5
      by_cases h2 : 24 < v.ent.size
      · rw [if_pos h2] at s5; cases s5
      · omega
  have e0 : putV v ++ b = encS v.id.toNat ++ (encS v.st.toNat ++ (textS v.ent ++ (bodyV v ++ b))) := by
    unfold putV bytesV
    rw [if_pos h]
    simp only [ByteArray.append_assoc]
  obtain ⟨a1, a2, a3⟩ := tk_enc (n := v.id.toNat) (by omega) (encS v.st.toNat ++ (textS v.ent ++ (bodyV v ++ b)))
  obtain ⟨b1, b2, b3⟩ := tk_enc (n := v.st.toNat) (by omega) (textS v.ent ++ (bodyV v ++ b))
  obtain ⟨c1, c2, c3⟩ := tt_text (s := v.ent) (b := bodyV v ++ b) (most := 24) (by omega) (by omega)
  have fin : endV (contV v) b = (contV v, b, 0) := by unfold endV; rw [right_cont, if_pos h]
  have i1 : ((v.id.toNat : Nat) : Int) = v.id := by omega
  have i2 : ((v.st.toNat : Nat) : Int) = v.st := by omega
  rw [e0, takeVs, a1, a2, a3, b1, b2, b3, if_neg (by simp), if_neg (by simp), entV, c1, c2, c3, if_neg (by simp), i1, i2]
  cases hg : v.gone with
  | true =>
    obtain ⟨g1, g2, g3⟩ := right_gone h hg
    have eb : bodyV v = encS 1 := by unfold bodyV; rw [if_pos hg]
    obtain ⟨d1, d2, d3⟩ := tk_enc (n := 1) (by omega) b
    rw [eb, goneV, d1, d2, d3, if_neg (by simp), if_neg (by omega), if_pos rfl, ← fin]
    congr 1
    unfold contV
    rw [g1, g2, g3, hg]
  | false =>
    obtain ⟨g1, g2⟩ := right_here h hg
    obtain ⟨p1, p2, p3⟩ := span_bounds g1
    have eb : bodyV v ++ b = encS 0 ++ (intS v.sf ++ (encS (v.se - v.sf).toNat ++ (putS v.fs ++ b))) := by
      unfold bodyV
      rw [if_neg (by rw [hg]; simp)]
      simp only [ByteArray.append_assoc]
    obtain ⟨d1, d2, d3⟩ := tk_enc (n := 0) (by omega) (intS v.sf ++ (encS (v.se - v.sf).toNat ++ (putS v.fs ++ b)))
    have hv : valB v.sf = true := by unfold valB; simp only [Bool.and_eq_true, decide_eq_true_eq]; omega
    obtain ⟨q1, q2, q3⟩ := int_takenF hv (encS (v.se - v.sf).toNat ++ (putS v.fs ++ b))
    obtain ⟨r1, r2, r3⟩ := tk_enc (n := (v.se - v.sf).toNat) (by omega) (putS v.fs ++ b)
    have t1 := takeF_put g2 b
    rw [eb, goneV, d1, d2, d3, if_neg (by simp), if_neg (by omega), if_neg (by omega), restV, q1, q2, q3, r1, r2, r3, t1, if_neg (by simp), if_neg (by simp), if_neg (by simp), ← fin]
    congr 1
    unfold contV
    rw [hg, show v.sf + (((v.se - v.sf).toNat : Nat) : Int) = v.se by omega]

/-- Rows. -/
def putR (r : Rw) : ByteArray := if rightR r = 0 then putV r.v ++ encS (if r.un = 4611686018427387904 then 0 else r.un.toNat) else ⟨#[]⟩
abbrev TR := Rw × ByteArray × Nat
def noR : Rw := ⟨noV, 0⟩
def badR (e : Nat) : TR := (noR, ⟨#[]⟩, e)
def endR (r : Rw) (s : ByteArray) : TR := if rightR r = 0 then (r, s, 0) else badR 8
def untilI (n : Nat) : Int := if n = 0 then 4611686018427387904 else (n : Int)
def takeRs (s : ByteArray) : TR :=
  if (takeVs s).2.2 ≠ 0 then badR (takeVs s).2.2
  else if tkE (takeVs s).2.1 ≠ 0 then badR (tkE (takeVs s).2.1)
  else endR ⟨(takeVs s).1, untilI (tkN (takeVs s).2.1)⟩ (tkR (takeVs s).2.1)
def contR (r : Rw) : Rw := ⟨contV r.v, r.un⟩
theorem rightR_v {r : Rw} (h : rightR r = 0) : rightV r.v = 0 ∧ (r.un = 4611686018427387904 ∨ (r.v.st < r.un ∧ r.un ≤ 1099511627775)) := by
  unfold rightR at h
  by_cases h1 : rightV r.v ≠ 0
  · rw [if_pos h1] at h; exact absurd h h1
  · rw [if_neg h1] at h
    by_cases h2 : r.un ≠ 4611686018427387904 ∧ (r.un ≤ r.v.st ∨ 1099511627775 < r.un)
    · rw [if_pos h2] at h; cases h
    · exact ⟨by omega, by omega⟩
theorem takeRs_put {r : Rw} (h : rightR r = 0) (b : ByteArray) : takeRs (putR r ++ b) = (contR r, b, 0) := by
  obtain ⟨h1, h2⟩ := rightR_v h
  have hs := right_stamps h1
  have fin : endR (contR r) b = (contR r, b, 0) := by
    unfold endR
    rw [if_pos (show rightR (contR r) = 0 from h)]
  have e0 : putR r ++ b = putV r.v ++ (encS (if r.un = 4611686018427387904 then 0 else r.un.toNat) ++ b) := by
    unfold putR
    rw [if_pos h, ByteArray.append_assoc]
  have t := takeVs_put h1 (encS (if r.un = 4611686018427387904 then 0 else r.un.toNat) ++ b)
  have hn : (if r.un = 4611686018427387904 then 0 else r.un.toNat) < 4611686018427387904 := by split <;> omega
  obtain ⟨a1, a2, a3⟩ := tk_enc hn b
  rw [e0, takeRs, t]
  simp only [ne_eq, not_true_eq_false, if_false]
  rw [a1, a2, a3, if_neg (by simp), ← fin]
  congr 1
  unfold contR untilI
  congr 1
  by_cases hu : r.un = 4611686018427387904
  · rw [if_pos hu, if_pos rfl, hu]
  · rw [if_neg hu, if_neg (by omega)]; omega

end Go.Proofs.Ytpeifijcpemjeaa

/-
  The document's Put of fields.
-/
namespace Go.Proofs.Ytpeifijcpemjeaa
open Go.RowKit

theorem text_small {s : ByteArray} (h : s.size ≤ 12) : (textS s).size ≤ 30 := by
  rw [textS, ByteArray.size_append, encS_size]
  have := kN_le s.size
  omega
theorem int_small {v : Int} (h : valB v = true) : (intS v).size ≤ 10 := by
  rw [intS_enc h, encS_size]
  have := kN_le (zig v).toNat
  omega
theorem right_at : ∀ (l : List Fd) (o : Option ByteArray), rightG o l = 0 → ∀ f ∈ l, nameB f.n = true ∧ valB f.v = true
  | [], _, _, f, h => by simp at h
  | g :: l, o, h, f, hf => by
    obtain ⟨h1, h2, h3⟩ := behind_right.1 h
    rcases List.mem_cons.1 hf with rfl | hf
    · exact ⟨behind_name h1, h2⟩
    · exact right_at l _ h3 f hf
theorem right_in {l : List Fd} (h : rightE l = 0) : l.length ≤ 8 ∧ rightG none l = 0 := by
  unfold rightE at h
  by_cases h8 : 8 < l.length
  · rw [if_pos h8] at h; cases h
  · rw [if_neg h8] at h; exact ⟨by omega, h⟩
theorem ret_sie {s t : ByteArray} {a b : Int} (h : s = t) (k : a = b) : Ending.returned (.tuple #[.string s, .int .i64 a]) = .returned (.tuple #[.string t, .int .i64 b]) := by rw [h, k]

end Go.Proofs.Ytpeifijcpemjeaa

/-
  The document's Live, Compare, Put, PutRow and OneRow.
-/
namespace Go.Proofs.Ytpeifijcpemjeaa
open Go.RowKit

/-- A version in a block of its own. -/
abbrev BoxV (w : World) (g : Nat) (v : Vr) : Prop := w.cell? ⟨g, 0, none⟩ = some (.int .i64 v.id) ∧ w.cell? ⟨g, 1, none⟩ = some (.int .i64 v.st) ∧ w.cell? ⟨g, 2, none⟩ = some (.string v.ent) ∧ w.cell? ⟨g, 3, none⟩ = some (.int .i64 v.sf) ∧
  w.cell? ⟨g, 4, none⟩ = some (.int .i64 v.se) ∧ w.cell? ⟨g, 5, none⟩ = some (.slice v.fa v.fs.length v.fc) ∧ w.cell? ⟨g, 6, none⟩ = some (.bool v.gone)
theorem BoxV.below {w w' : World} {g : Nat} {v : Vr} (h : BoxV w g v) (hb : Below w.heap.size w w') : BoxV w' g v :=
  ⟨keepc hb h.1, keepc hb h.2.1, keepc hb h.2.2.1, keepc hb h.2.2.2.1, keepc hb h.2.2.2.2.1, keepc hb h.2.2.2.2.2.1, keepc hb h.2.2.2.2.2.2⟩
theorem boxV_new (w : World) (v : Vr) : BoxV (w.alloc (ocV v)) w.heap.size v := ⟨by simp [go_sem], by simp [go_sem], by simp [go_sem], by simp [go_sem], by simp [go_sem], by simp [go_sem], by simp [go_sem]⟩
theorem enc_small (n : Nat) : (encS n).size ≤ 10 := by rw [encS_size]; have := kN_le n; omega
theorem ent_small {v : Vr} (h : rightV v = 0) : v.ent.size ≤ 24 := by
  have := (right_stamps h).2.2.2.2
  unfold entE at this
  by_cases h1 : v.ent.size = 0
  · omega
  · rw [if_neg h1] at this
    by_cases h2 : 24 < v.ent.size
    · rw [if_pos h2] at this; cases this
    · omega
theorem text_small24 {s : ByteArray} (h : s.size ≤ 24) : (textS s).size ≤ 40 := by
  rw [textS, ByteArray.size_append, encS_size]
  have := kN_le s.size
  omega
theorem many_size : ∀ (l : List Fd) (o : Option ByteArray), rightG o l = 0 → (manyS l).size ≤ 40 * l.length
  | [], _, _ => Nat.le_refl _
  | f :: l, o, h => by
    obtain ⟨h1, h2, h3⟩ := behind_right.1 h
    have ih := many_size l _ h3
    have t1 := text_small (name_size (behind_name h1))
    have t2 := int_small h2
    rw [manyS, oneS, ByteArray.size_append, ByteArray.size_append, List.length_cons]
    omega
theorem putS_size (l : List Fd) : (putS l).size ≤ 1000 := by
  unfold putS
  by_cases h : rightE l = 0
  · rw [if_pos h, ByteArray.size_append, encS_size]
    obtain ⟨h8, hg⟩ := right_in h
    have := many_size l none hg
    have := kN_le l.length
    omega
  · rw [if_neg h]; exact Nat.zero_le _

end Go.Proofs.Ytpeifijcpemjeaa

/-
  The document's One and Same of versions.
-/
namespace Go.Proofs.Ytpeifijcpemjeaa
open Go.RowKit

theorem Try.noGuardSpan : Try.prog.eqGuardType Try.prog.depth 35 = false := by kernel_rfl
set_option maxRecDepth 100000 in
theorem run_eql_span (a b c d : Int) (w : World) : (binOp .eql 35 (.agg #[.int .i64 a, .int .i64 b]) (.agg #[.int .i64 c, .int .i64 d])).run Try.prog w = .ok (.bool (decide (a = c ∧ b = d))) w := by
  rw [run_eql_struct, run_equalIn_struct w 9999 35 _ _ Try.underlying35 (by kernel_rfl)]
  have h3 := Try.underlying3
  have a3 : ∀ w, (isAgg 3).run Try.prog w = .ok false w := Try.isAgg3
  have c3 : Try.prog.cellsOf 3 = 1 := by kernel_rfl
  simp [Op.eqFields, Program.fieldsOf, Try.underlying35, part, a3, run_equalIn_int w 9998 _ .i64 .i64 _ _ h3]
  by_cases h1 : a = c
  · by_cases h2 : b = d <;> simp [h1, h2]
  · simp [h1]

set_option maxHeartbeats 4000000 in
set_option maxRecDepth 10000 in
theorem done_v (a b : Vr) (w : World) (ha : VF w a) (hb : VF w b) (hn : a.fs.length ≤ 100000) (hm : b.fs.length ≤ 100000) : Ret 17 #[vv a, vv b] w (.bool (sameV a b)) := by
  have CS0 := fun w' (h : Below w.heap.size w w') => dsame_any w' a.fa b.fa a.fc b.fc a.fs b.fs (ha.1.below h) (hb.1.below h) (by omega) (by omega)
  obtain ⟨R, hR⟩ : ∃ R, sameV a b = R := ⟨_, rfl⟩
  have HR : R = (decide (a.id = b.id) && decide (a.st = b.st) && decide (a.ent.toList = b.ent.toList) && (decide (a.sf = b.sf) && decide (a.se = b.se)) && (a.gone == b.gone) && sameF a.fs b.fs) := hR.symm
  rw [hR]
  obtain ⟨id, st, ent, sf, se, fa, fc, fs, gone⟩ := a
  obtain ⟨id', st', ent', sf', se', fa', fc', fs', gone'⟩ := b
  have CS := Lib.hid CS0
  simp only at HR
  clear ha hb hR CS0
  generalize sameF fs fs' = S at *
  have hng := Try.noGuardSpan
  have HB := Lib.hid (((bl w).alloc (Nat.le_refl _) (.cells #[.int .i64 id, .int .i64 st, .string ent, .int .i64 sf, .int .i64 se, .slice fa fs.length fc, .bool gone] 38)).alloc (by simp) (.cells #[.int .i64 id', .int .i64 st', .string ent', .int .i64 sf', .int .i64 se', .slice fa' fs'.length fc', .bool gone'] 38))
  have hsp := run_eql_span sf se sf' se'
  by_cases h1 : id = id'
  · by_cases h2 : st = st'
    · by_cases h3 : ent.toList = ent'.toList
      · have h3b : (ent.toList == ent'.toList) = true := by rw [beq_iff_eq]; exact h3
        by_cases h4 : sf = sf' ∧ se = se'
        · rw [decide_eq_true h4] at hsp
          by_cases h5 : gone = gone'
          · have HE := Lib.hid (show R = S by rw [HR]; simp [h1, h2, h3, h4.1, h4.2, h5])
            have h5b : (gone == gone') = true := by rw [beq_iff_eq]; exact h5
            have C2 := Lib.hid (CS.out _ HB.out)
            subst h1 h2 h5
            clear HR h3 h4
            go_enter Try.func17, Try.ntmps17
            go_wp2_with (go_at_call 28; (with_reducible refine C2.out.mono ?_); rintro e w2 ⟨rfl, hb2⟩)
            go_ret
            exact ⟨ret_bool HE.out.symm, HB.out.trans (hb2.mono HB.out.size)⟩
          · have HE := Lib.hid (show R = false by rw [HR]; simp [h5])
            have h5b : (gone == gone') = false := by rw [beq_eq_false_iff_ne]; exact h5
            subst h1 h2
            clear HR h3 h4
            go_enter Try.func17, Try.ntmps17
            go_wp2_with fail
            go_ret
            exact ⟨ret_bool HE.out.symm, HB.out⟩
        · have HE := Lib.hid (show R = false by
            rw [HR]
            by_cases h6 : sf = sf'
            · have : ¬ se = se' := fun h => h4 ⟨h6, h⟩
              simp [this]
            · simp [h6])
          rw [decide_eq_false h4] at hsp
          subst h1 h2
          clear HR h3 h4
          go_enter Try.func17, Try.ntmps17
          go_wp2_with fail
          go_ret
          exact ⟨ret_bool HE.out.symm, HB.out⟩
      · have HE := Lib.hid (show R = false by rw [HR]; simp [h3])
        have h3b : (ent.toList == ent'.toList) = false := by rw [beq_eq_false_iff_ne]; exact h3
        subst h1 h2
        clear HR h3
        go_enter Try.func17, Try.ntmps17
        go_wp2_with fail
        go_ret
        exact ⟨ret_bool HE.out.symm, HB.out⟩
    · have HE := Lib.hid (show R = false by rw [HR]; simp [h2])
      subst h1
      clear HR
      go_enter Try.func17, Try.ntmps17
      go_wp2_with fail
      go_ret
      exact ⟨ret_bool HE.out.symm, HB.out⟩
  · have HE := Lib.hid (show R = false by rw [HR]; simp [h1])
    clear HR
    go_enter Try.func17, Try.ntmps17
    go_wp2_with fail
    go_ret
    exact ⟨ret_bool HE.out.symm, HB.out⟩

end Go.Proofs.Ytpeifijcpemjeaa

/-
  The document's Entity, Right, RightRow, Live and Compare.
-/
namespace Go.Proofs.Ytpeifijcpemjeaa
open Go.RowKit

theorem dent_any (s : ByteArray) (hs : s.size ≤ 9223372036854775807) (w : World) : Same 40 #[.string s] w (.int .i64 ((entE s : Nat) : Int)) := by
  by_cases h0 : s = ⟨#[]⟩
  · have HE := Lib.hid (show entE s = 2 by rw [h0]; rfl)
    subst h0
    go_enter Try.func40, Try.ntmps40
    go_wp2_with fail
    go_ret
    exact ⟨ret_int (by rw [HE.out]; rfl), rfl⟩
  · have hz : ¬ s.size = 0 := fun h => h0 (nats_inj (a := s) (b := ⟨#[]⟩) (List.eq_nil_of_length_eq_zero (by rw [nats_length]; exact h)))
    have he : (nats s).isEmpty = false := by
      cases h3 : nats s with
      | nil => exact absurd (nats_inj (a := s) (b := ⟨#[]⟩) h3) h0
      | cons => rfl
    have hne : s.toList.isEmpty = false := by
      rw [ByteArray.toList_eq]
      unfold nats at he
      rw [List.isEmpty_map] at he
      exact he
    by_cases h24 : 24 < s.size
    · have h24' : (24 : Int) < (s.size : Int) := by omega
      have HE := Lib.hid (show entE s = 4 by unfold entE; rw [if_neg hz, if_pos h24])
      go_enter Try.func40, Try.ntmps40
      go_wp2_with fail
      go_ret
      exact ⟨ret_int (by rw [HE.out]; rfl), rfl⟩
    · have h24' : ¬ (24 : Int) < (s.size : Int) := by omega
      have HE := Lib.hid (show entE s = 0 by unfold entE; rw [if_neg hz, if_neg h24])
      go_enter Try.func40, Try.ntmps40
      go_wp2_with fail
      go_ret
      exact ⟨ret_int (by rw [HE.out]; rfl), rfl⟩

set_option maxHeartbeats 4000000 in
set_option maxRecDepth 10000 in
theorem drightv_any (v : Vr) (w : World) (hv : VF w v) (hok : okF v.fs) (hn : v.fs.length ≤ 9223372036854775807) (hz : v.ent.size ≤ 9223372036854775807) : Ret 25 #[vv v] w (.int .i64 ((rightV v : Nat) : Int)) := by
  have CF0 := fun w' (h : Below w.heap.size w w') => dright_any w' v.fa v.fc v.fs (hv.1.below h) hok hn
  have CE := Lib.hid (fun w => dent_any v.ent hz w)
  obtain ⟨R, hR⟩ : ∃ R, rightV v = R := ⟨_, rfl⟩
  have HR : R = (if v.st < 1 ∨ 1099511627775 < v.st ∨ v.id < 1 ∨ v.st < v.id then 2
    else if entE v.ent ≠ 0 then entE v.ent
    else if v.gone then (if v.id = v.st ∨ 0 < v.fs.length ∨ v.sf ≠ 0 ∨ v.se ≠ 0 then 8 else 0)
    else if rightS v.sf v.se then rightE v.fs else 3) := hR.symm
  rw [hR]
  clear hR hv hok
  obtain ⟨id, st, ent, sf, se, fa, fc, fs, gone⟩ := v
  simp only at HR CF0 CE hn hz
  have CF := Lib.hid CF0
  have CS := Lib.hid (fun w => dright01_any sf se w)
  have HB := Lib.hid ((bl w).alloc (Nat.le_refl _) (.cells #[.int .i64 id, .int .i64 st, .string ent, .int .i64 sf, .int .i64 se, .slice fa fs.length fc, .bool gone] 38))
  clear CF0 hz
  by_cases a1 : st < 1
  · have HE := Lib.hid (show R = 2 by rw [HR, if_pos (.inl a1)])
    clear HR
    go_enter Try.func25, Try.ntmps25
    go_wp2_with fail
    go_ret
    exact ⟨ret_int (by rw [HE.out]; rfl), HB.out⟩
  by_cases a2 : 1099511627775 < st
  · have HE := Lib.hid (show R = 2 by rw [HR, if_pos (.inr (.inl a2))])
    clear HR
    go_enter Try.func25, Try.ntmps25
    go_wp2_with fail
    go_ret
    exact ⟨ret_int (by rw [HE.out]; rfl), HB.out⟩
  by_cases a3 : id < 1
  · have HE := Lib.hid (show R = 2 by rw [HR, if_pos (.inr (.inr (.inl a3)))])
    clear HR
    go_enter Try.func25, Try.ntmps25
    go_wp2_with fail
    go_ret
    exact ⟨ret_int (by rw [HE.out]; rfl), HB.out⟩
  by_cases a4 : st < id
  · have HE := Lib.hid (show R = 2 by rw [HR, if_pos (.inr (.inr (.inr a4)))])
    clear HR
    go_enter Try.func25, Try.ntmps25
    go_wp2_with fail
    go_ret
    exact ⟨ret_int (by rw [HE.out]; rfl), HB.out⟩
  rw [if_neg (by omega)] at HR
  by_cases b0 : entE ent ≠ 0
  · have HE := Lib.hid (show R = entE ent by rw [HR, if_pos b0])
    have b0' : ¬ ((entE ent : Nat) : Int) = 0 := by omega
    generalize entE ent = z at *
    clear HR b0
    go_enter Try.func25, Try.ntmps25
    go_wp2_with (go_at_call 40; (with_reducible refine (CE.out _).mono ?_); rintro e w2 ⟨rfl, rfl⟩)
    go_ret
    exact ⟨ret_int (by rw [HE.out]), HB.out⟩
  rw [if_neg b0] at HR
  have b1 : entE ent = 0 := by omega
  rw [b1] at CE
  clear b0 b1
  cases gone with
  | true =>
    rw [if_pos rfl] at HR
    by_cases c1 : id = st
    · have HE := Lib.hid (show R = 8 by rw [HR, if_pos (.inl c1)])
      have c1b : (id == st) = true := by rw [beq_iff_eq]; exact c1
      subst c1
      clear HR
      go_enter Try.func25, Try.ntmps25
      go_wp2_with (go_at_call 40; (with_reducible refine (CE.out _).mono ?_); rintro e w2 ⟨rfl, rfl⟩)
      go_ret
      exact ⟨ret_int (by rw [HE.out]; rfl), HB.out⟩
    have c1b : (id == st) = false := by rw [beq_eq_false_iff_ne]; exact c1
    by_cases c2 : 0 < fs.length
    · have HE := Lib.hid (show R = 8 by rw [HR, if_pos (.inr (.inl c2))])
      have c2' : (0 : Int) < (fs.length : Int) := by omega
      clear HR
      go_enter Try.func25, Try.ntmps25
      go_wp2_with (go_at_call 40; (with_reducible refine (CE.out _).mono ?_); rintro e w2 ⟨rfl, rfl⟩)
      go_ret
      exact ⟨ret_int (by rw [HE.out]; rfl), HB.out⟩
    have c2' : ¬ (0 : Int) < (fs.length : Int) := by omega
    by_cases c3 : sf = 0
    · by_cases c4 : se = 0
      · have HE := Lib.hid (show R = 0 by rw [HR, if_neg (by omega)])
        subst c3 c4
        clear HR
        go_enter Try.func25, Try.ntmps25
        go_wp2_with (go_at_call 40; (with_reducible refine (CE.out _).mono ?_); rintro e w2 ⟨rfl, rfl⟩)
        go_ret
        exact ⟨ret_int (by rw [HE.out]; rfl), HB.out⟩
      · have HE := Lib.hid (show R = 8 by rw [HR, if_pos (.inr (.inr (.inr c4)))])
        have c4b : (se != 0) = true := by rw [bne_iff_ne]; exact c4
        subst c3
        clear HR
        go_enter Try.func25, Try.ntmps25
        go_wp2_with (go_at_call 40; (with_reducible refine (CE.out _).mono ?_); rintro e w2 ⟨rfl, rfl⟩)
        go_ret
        exact ⟨ret_int (by rw [HE.out]; rfl), HB.out⟩
    · have HE := Lib.hid (show R = 8 by rw [HR, if_pos (.inr (.inr (.inl c3)))])
      have c3b : (sf != 0) = true := by rw [bne_iff_ne]; exact c3
      clear HR
      go_enter Try.func25, Try.ntmps25
      go_wp2_with (go_at_call 40; (with_reducible refine (CE.out _).mono ?_); rintro e w2 ⟨rfl, rfl⟩)
      go_ret
      exact ⟨ret_int (by rw [HE.out]; rfl), HB.out⟩
  | false =>
    rw [if_neg (by simp)] at HR
    cases hr : rightS sf se with
    | false =>
      have HE := Lib.hid (show R = 3 by rw [HR, hr]; rfl)
      rw [hr] at CS
      clear HR hr
      go_enter Try.func25, Try.ntmps25
      go_wp2_with (first
        | (go_at_call 40; (with_reducible refine (CE.out _).mono ?_); rintro e w2 ⟨rfl, rfl⟩)
        | (go_at_call 36; (with_reducible refine (CS.out _).mono ?_); rintro e w3 ⟨rfl, hb3⟩))
      go_ret
      exact ⟨ret_int (by rw [HE.out]; rfl), HB.out.trans (hb3.mono HB.out.size)⟩
    | true =>
      have HE := Lib.hid (show R = rightE fs by rw [HR, hr]; rfl)
      rw [hr] at CS
      clear HR hr
      go_enter Try.func25, Try.ntmps25
      go_wp2_with (first
        | (go_at_call 40; (with_reducible refine (CE.out _).mono ?_); rintro e w2 ⟨rfl, rfl⟩)
        | (go_at_call 36; (with_reducible refine (CS.out _).mono ?_); rintro e w3 ⟨rfl, hb3⟩; have k5 : w3.cell? ⟨w.heap.size, 5, none⟩ = some (.slice fa fs.length fc) := keepc hb3 (by simp [go_sem]); have hc3 := HB.out.trans (hb3.mono HB.out.size))
        | (go_at_call 41; (with_reducible refine (CF.out _ hc3).mono ?_); rintro e w4 ⟨rfl, hb4⟩; have hc4 := chain hc3 hb4))
      go_ret
      exact ⟨ret_int (by rw [HE.out]), hc4⟩

/-- A row as a value. -/
abbrev rv (r : Rw) : Value := .agg #[.int .i64 r.v.id, .int .i64 r.v.st, .string r.v.ent, .int .i64 r.v.sf, .int .i64 r.v.se, .slice r.v.fa r.v.fs.length r.v.fc, .bool r.v.gone, .int .i64 r.un]

end Go.Proofs.Ytpeifijcpemjeaa

/-
  The document's PutRow and OneRow.
-/
namespace Go.Proofs.Ytpeifijcpemjeaa
open Go.RowKit

/-- A row in a block of its own. -/
abbrev BoxR (w : World) (g : Nat) (r : Rw) : Prop := BoxV w g r.v ∧ w.cell? ⟨g, 7, none⟩ = some (.int .i64 r.un)
theorem BoxR.below {w w' : World} {g : Nat} {r : Rw} (h : BoxR w g r) (hb : Below w.heap.size w w') : BoxR w' g r := ⟨h.1.below hb, keepc hb h.2⟩
abbrev ocR (r : Rw) : Obj := .cells #[.int .i64 r.v.id, .int .i64 r.v.st, .string r.v.ent, .int .i64 r.v.sf, .int .i64 r.v.se, .slice r.v.fa r.v.fs.length r.v.fc, .bool r.v.gone, .int .i64 r.un] 51
theorem boxR_new (w : World) (r : Rw) : BoxR (w.alloc (ocR r)) w.heap.size r := ⟨⟨by simp [go_sem], by simp [go_sem], by simp [go_sem], by simp [go_sem], by simp [go_sem], by simp [go_sem], by simp [go_sem]⟩, by simp [go_sem]⟩
theorem bytesV_size {v : Vr} (h : rightV v = 0) : (putV v).size ≤ 2000 := by
  unfold putV bytesV bodyV
  rw [if_pos h]
  have h1 := enc_small v.id.toNat
  have h2 := enc_small v.st.toNat
  have h3 := text_small24 (ent_small h)
  have h4 := enc_small 0
  have h5 := enc_small 1
  have h6 := enc_small (v.se - v.sf).toNat
  have h7 := putS_size v.fs
  cases hg : v.gone with
  | true =>
    simp only [if_true, ByteArray.size_append]
    omega
  | false =>
    obtain ⟨g1, g2⟩ := right_here h hg
    obtain ⟨p1, p2, p3⟩ := span_bounds g1
    have hvb : valB v.sf = true := by unfold valB; simp only [Bool.and_eq_true, decide_eq_true_eq]; omega
    have h8 := int_small hvb
    simp only [Bool.false_eq_true, if_false, ByteArray.size_append]
    omega

/-- Are two rows one? -/
def sameR (a b : Rw) : Bool := sameV a.v b.v && decide (a.un = b.un)

set_option maxHeartbeats 4000000 in
set_option maxRecDepth 10000 in
theorem donerow_any (a b : Rw) (w : World) (ha : VF w a.v) (hb : VF w b.v) (hn : a.v.fs.length ≤ 100000) (hm : b.v.fs.length ≤ 100000) : Ret 26 #[rv a, rv b] w (.bool (sameR a b)) := by
  have CO := Lib.hid (fun w' (h : Below w.heap.size w w') => done_v a.v b.v w' (ha.below h) (hb.below h) hn hm)
  have HB := Lib.hid (((bl w).alloc (Nat.le_refl _) (ocR a)).alloc (by simp) (ocR b))
  have HXa := Lib.hid (show BoxR ((w.alloc (ocR a)).alloc (ocR b)) w.heap.size a from (boxR_new w a).below ((bl _).alloc (Nat.le_refl _) _))
  have HXb := Lib.hid (show BoxR ((w.alloc (ocR a)).alloc (ocR b)) (w.heap.size + 1) b from by
    have := boxR_new (w.alloc (ocR a)) b
    rwa [show (w.alloc (ocR a)).heap.size = w.heap.size + 1 by simp] at this)
  have HS := Lib.hid (show sameR a b = (sameV a.v b.v && decide (a.un = b.un)) from rfl)
  generalize sameR a b = R at *
  clear ha hb hn hm
  cases hs : sameV a.v b.v with
  | false =>
    have HE := Lib.hid (show R = false by rw [HS.out, hs]; rfl)
    rw [hs] at CO
    clear hs
    go_enter Try.func26, Try.ntmps26
    go_wp2_with (go_at_call 17; (with_reducible refine (CO.out _ HB.out).mono ?_); rintro e w2 ⟨rfl, hb2⟩; have ka := keepc hb2 HXa.out.2; have kb := keepc hb2 HXb.out.2)
    go_ret
    exact ⟨ret_bool HE.out.symm, chain HB.out hb2⟩
  | true =>
    rw [hs] at CO
    by_cases hu : a.un = b.un
    · have HE := Lib.hid (show R = true by rw [HS.out, hs, decide_eq_true hu]; rfl)
      have hub : (a.un == b.un) = true := by rw [beq_iff_eq]; exact hu
      clear hs hu
      go_enter Try.func26, Try.ntmps26
      go_wp2_with (go_at_call 17; (with_reducible refine (CO.out _ HB.out).mono ?_); rintro e w2 ⟨rfl, hb2⟩; have ka := keepc hb2 HXa.out.2; have kb := keepc hb2 HXb.out.2)
      go_ret
      exact ⟨ret_bool HE.out.symm, chain HB.out hb2⟩
    · have HE := Lib.hid (show R = false by rw [HS.out, hs, decide_eq_false hu]; rfl)
      have hub : (a.un == b.un) = false := by rw [beq_eq_false_iff_ne]; exact hu
      clear hs hu
      go_enter Try.func26, Try.ntmps26
      go_wp2_with (go_at_call 17; (with_reducible refine (CO.out _ HB.out).mono ?_); rintro e w2 ⟨rfl, hb2⟩; have ka := keepc hb2 HXa.out.2; have kb := keepc hb2 HXb.out.2)
      go_ret
      exact ⟨ret_bool HE.out.symm, chain HB.out hb2⟩

end Go.Proofs.Ytpeifijcpemjeaa

/-
  Lists of rows in memory; are two lists of rows one, by the document?
-/
namespace Go.Proofs.Ytpeifijcpemjeaa
open Go.RowKit

abbrev cellsR (r : Rw) : List Value := [.int .i64 r.v.id, .int .i64 r.v.st, .string r.v.ent, .int .i64 r.v.sf, .int .i64 r.v.se, .slice r.v.fa r.v.fs.length r.v.fc, .bool r.v.gone, .int .i64 r.un]
def ER : El Rw where
  s := 25
  e := 51
  sz := 8
  bys := 88
  z := .agg #[.int .i64 0, .int .i64 0, .string ⟨#[]⟩, .int .i64 0, .int .i64 0, .slice none 0 0, .bool false, .int .i64 0]
  cells := cellsR
  pos := by decide
  few := by decide
  len := fun _ => rfl
  one := fun x u hu => by
    simp only [cellsR, List.mem_cons, List.not_mem_nil, or_false] at hu
    rcases hu with rfl | rfl | rfl | rfl | rfl | rfl | rfl | rfl <;> rfl
  und := Try.underlying25
  info := by kernel_rfl
  zs := rfl
/-- A list of rows as a value. -/
def RowsR (w : World) (u : Value) (l : List Rw) : Prop := ListE ER w u l ∧ ∀ r ∈ l, VF w r.v
theorem RowsR.below {w w' : World} {u : Value} {l : List Rw} (h : RowsR w u l) (hb : Below w.heap.size w w') : RowsR w' u l := ⟨h.1.below hb, fun v hv => (h.2 v hv).below hb⟩
/-- The cells of a row. -/
abbrev Cells8 (w : World) (g o : Nat) (r : Rw) : Prop := w.cell? ⟨g, o, none⟩ = some (.int .i64 r.v.id) ∧ w.cell? ⟨g, o + 1, none⟩ = some (.int .i64 r.v.st) ∧ w.cell? ⟨g, o + 2, none⟩ = some (.string r.v.ent) ∧ w.cell? ⟨g, o + 3, none⟩ = some (.int .i64 r.v.sf) ∧
  w.cell? ⟨g, o + 4, none⟩ = some (.int .i64 r.v.se) ∧ w.cell? ⟨g, o + 5, none⟩ = some (.slice r.v.fa r.v.fs.length r.v.fc) ∧ w.cell? ⟨g, o + 6, none⟩ = some (.bool r.v.gone) ∧ w.cell? ⟨g, o + 7, none⟩ = some (.int .i64 r.un)
theorem RowE.cells8 {w : World} {A : Option Addr} {l : List Rw} (h : RowE ER w A l) {k : Nat} {v : Rw} (hv : l[k]? = some v) : ∃ g off, A = some ⟨g, off, none⟩ ∧ Cells8 w g (off + k * 8) v := by
  obtain ⟨g, off, rfl, hc⟩ := h k v hv
  exact ⟨g, off, rfl, hc 0 _ rfl, hc 1 _ rfl, hc 2 _ rfl, hc 3 _ rfl, hc 4 _ rfl, hc 5 _ rfl, hc 6 _ rfl, hc 7 _ rfl⟩
theorem Cells8.below {w w' : World} {g o : Nat} {v : Rw} (h : Cells8 w g o v) (hb : Below w.heap.size w w') : Cells8 w' g o v :=
  ⟨keepc hb h.1, keepc hb h.2.1, keepc hb h.2.2.1, keepc hb h.2.2.2.1, keepc hb h.2.2.2.2.1, keepc hb h.2.2.2.2.2.1, keepc hb h.2.2.2.2.2.2.1, keepc hb h.2.2.2.2.2.2.2⟩
def sameRs : List Rw → List Rw → Bool
  | [], [] => true
  | a :: l, b :: m => sameR a b && sameRs l m
  | _, _ => false
theorem sameRs_len : ∀ (a b : List Rw), a.length ≠ b.length → sameRs a b = false
  | [], [], h => absurd rfl h
  | [], _ :: _, _ => rfl
  | _ :: _, [], _ => rfl
  | x :: a, y :: b, h => by
    rw [sameRs, sameRs_len a b (fun e => h (by simp [e])), Bool.and_false]

set_option maxHeartbeats 4000000 in
set_option maxRecDepth 10000 in
theorem drowsame_any (w : World) (ua ub : Value) (a b : List Rw) (ha : RowsR w ua a) (hb : RowsR w ub b) (hn : a.length ≤ 100000) (_hm : b.length ≤ 100000) (ha2 : ∀ v ∈ a, v.v.fs.length ≤ 100000) (hb2 : ∀ v ∈ b, v.v.fs.length ≤ 100000) :
    Ret 14 #[ua, ub] w (.bool (sameRs a b)) := by
  obtain ⟨⟨A, c, rfl, hA, hc1, hc2⟩, hVA⟩ := ha
  obtain ⟨⟨B, d, rfl, hB, hd1, hd2⟩, hVB⟩ := hb
  clear hc1 hc2 hd1 hd2
  by_cases hnm : a.length ≠ b.length
  · have HS := Lib.hid (sameRs_len a b hnm)
    have hne : ((a.length : Int) != (b.length : Int)) = true := by rw [bne_iff_ne]; omega
    clear hA hB hVA hVB ha2 hb2
    generalize a.length = n at *
    generalize b.length = m at *
    go_enter Try.func14, Try.ntmps14
    go_wp2_with fail
    go_ret
    exact ⟨ret_bool HS.out.symm, bl w⟩
  · obtain ⟨n, hn1⟩ : ∃ n, a.length = n := ⟨_, rfl⟩
    have hn2 : b.length = n := by omega
    obtain ⟨t, ht⟩ : ∃ t, sameRs a b = t := ⟨_, rfl⟩
    have HT := Lib.hid ht
    rw [hn1] at hn ⊢
    rw [hn2, ht]
    have HA := Lib.hid hA
    have HB := Lib.hid hB
    have HVA := Lib.hid hVA
    have HVB := Lib.hid hVB
    have HA2 := Lib.hid ha2
    have HB2 := Lib.hid hb2
    have HN1 := Lib.hid hn1
    have HN2 := Lib.hid hn2
    clear hA hB hn1 hn2 hnm ht hVA hVB ha2 hb2
    go_enter Try.func14, Try.ntmps14
    go_wp2_with fail
    go_loopw [5] (fun i wr => ∃ k : Nat, k ≤ n ∧ i = .int .i64 k ∧ t = sameRs (a.drop k) (b.drop k) ∧ Below w.heap.size w wr) (fun i _ => n - (intOf i).toNat)
    case atStart => exact ⟨0, Nat.zero_le _, rfl, HT.out.symm, bl w⟩
    case round =>
      obtain ⟨k, hk, rfl, hg, hW⟩ := hrel
      have HW := Lib.hid hW
      clear hW
      by_cases hlt : k < n
      · have hlt' : (k : Int) < (n : Int) := by omega
        obtain ⟨x, hx⟩ : ∃ x, a[k]? = some x := ⟨_, List.getElem?_eq_getElem (by have := HN1.out; omega)⟩
        obtain ⟨y, hy⟩ : ∃ y, b[k]? = some y := ⟨_, List.getElem?_eq_getElem (by have := HN2.out; omega)⟩
        obtain ⟨g1, off, rfl, hX⟩ := (HA.out.below HW.out).cells8 hx
        obtain ⟨g2, off', rfl, hY⟩ := (HB.out.below HW.out).cells8 hy
        have CO := Lib.hid (fun w' (h : Below wr.heap.size wr w') => donerow_any x y w' ((HVA.out x (List.mem_of_getElem? hx)).below (chain HW.out h)) ((HVB.out y (List.mem_of_getElem? hy)).below (chain HW.out h)) (HA2.out x (List.mem_of_getElem? hx)) (HB2.out y (List.mem_of_getElem? hy)))
        rw [drop_consL hx, drop_consL hy, sameRs] at hg
        have MK := Lib.hid (show ∀ w', Below wr.heap.size wr w' → (Below wr.heap.size wr w' ∧ Cells8 w' g1 (off + k * 8) x ∧ Cells8 w' g2 (off' + k * 8) y) from fun w' h => ⟨h, hX.below h, hY.below h⟩)
        cases hs : sameR x y with
        | true =>
          rw [hs] at hg CO
          have HG := Lib.hid (show t = sameRs (a.drop (k + 1)) (b.drop (k + 1)) by rw [hg, Bool.true_and])
          clear hg hs hx hy hX hY
          go_wp2_with fail
          go_region_held3 (fun w' => Below wr.heap.size wr w' ∧ Cells8 w' g1 (off + k * 8) x ∧ Cells8 w' g2 (off' + k * 8) y)
            (first | exact MK.out _ ((bl wr).drew) | exact MK.out _ hb1 | fail)
            (first | (go_at_call 26; (refine (CO.out _ (by go_split_ands; assumption)).mono ?_); (rintro e w1 ⟨rfl, hb0⟩); (have hb1 := chain (by go_split_ands; assumption) hb0); clear hb0))
          all_goals
            go_wp2_with fail
            exact ⟨⟨k + 1, by omega, by go_num, HG.out, chain HW.out hb1⟩, by simp [intOf] <;> omega⟩
        | false =>
          rw [hs] at hg CO
          have HG := Lib.hid (show t = false by rw [hg, Bool.false_and])
          clear hg hs hx hy hX hY
          go_wp2_with fail
          go_region_held3 (fun w' => Below wr.heap.size wr w' ∧ Cells8 w' g1 (off + k * 8) x ∧ Cells8 w' g2 (off' + k * 8) y)
            (first | exact MK.out _ ((bl wr).drew) | exact MK.out _ hb1 | fail)
            (first | (go_at_call 26; (refine (CO.out _ (by go_split_ands; assumption)).mono ?_); (rintro e w1 ⟨rfl, hb0⟩); (have hb1 := chain (by go_split_ands; assumption) hb0); clear hb0))
          all_goals
            go_wp2_with fail
            go_ret
            exact ⟨ret_bool HG.out.symm, chain HW.out hb1⟩
      · obtain rfl : k = n := by omega
        have hlt' : ¬ (k : Int) < (k : Int) := by omega
        rw [List.drop_of_length_le (by have := HN1.out; omega), List.drop_of_length_le (by have := HN2.out; omega)] at hg
        have HG := Lib.hid (show t = true from hg)
        clear hg
        go_wp2_with fail
        go_ret
        exact ⟨ret_bool HG.out.symm, HW.out⟩

end Go.Proofs.Ytpeifijcpemjeaa

/-
  A version, or a row, stored into a block of the call's own, and read behind a call.
-/
namespace Go.Proofs.Ytpeifijcpemjeaa
open Go.RowKit

/-- Seven cells of one block, stored one behind the other. -/
theorem seven_store {w : World} {b : Nat} {u0 u1 u2 u3 u4 u5 u6 : Value} (x0 x1 x2 x3 x4 x5 x6 : Value) (h0 : w.cell? ⟨b, 0, none⟩ = some u0) (h1 : w.cell? ⟨b, 1, none⟩ = some u1) (h2 : w.cell? ⟨b, 2, none⟩ = some u2) (h3 : w.cell? ⟨b, 3, none⟩ = some u3) (h4 : w.cell? ⟨b, 4, none⟩ = some u4) (h5 : w.cell? ⟨b, 5, none⟩ = some u5) (h6 : w.cell? ⟨b, 6, none⟩ = some u6) :
    (((((((w.setCell ⟨b, 0, none⟩ x0).setCell ⟨b, 1, none⟩ x1).setCell ⟨b, 2, none⟩ x2).setCell ⟨b, 3, none⟩ x3).setCell ⟨b, 4, none⟩ x4).setCell ⟨b, 5, none⟩ x5).setCell ⟨b, 6, none⟩ x6).cell? ⟨b, 0, none⟩ = some x0 ∧ (((((((w.setCell ⟨b, 0, none⟩ x0).setCell ⟨b, 1, none⟩ x1).setCell ⟨b, 2, none⟩ x2).setCell ⟨b, 3, none⟩ x3).setCell ⟨b, 4, none⟩ x4).setCell ⟨b, 5, none⟩ x5).setCell ⟨b, 6, none⟩ x6).cell? ⟨b, 1, none⟩ = some x1 ∧ (((((((w.setCell ⟨b, 0, none⟩ x0).setCell ⟨b, 1, none⟩ x1).setCell ⟨b, 2, none⟩ x2).setCell ⟨b, 3, none⟩ x3).setCell ⟨b, 4, none⟩ x4).setCell ⟨b, 5, none⟩ x5).setCell ⟨b, 6, none⟩ x6).cell? ⟨b, 2, none⟩ = some x2 ∧ (((((((w.setCell ⟨b, 0, none⟩ x0).setCell ⟨b, 1, none⟩ x1).setCell ⟨b, 2, none⟩ x2).setCell ⟨b, 3, none⟩ x3).setCell ⟨b, 4, none⟩ x4).setCell ⟨b, 5, none⟩ x5).setCell ⟨b, 6, none⟩ x6).cell? ⟨b, 3, none⟩ = some x3 ∧ (((((((w.setCell ⟨b, 0, none⟩ x0).setCell ⟨b, 1, none⟩ x1).setCell ⟨b, 2, none⟩ x2).setCell ⟨b, 3, none⟩ x3).setCell ⟨b, 4, none⟩ x4).setCell ⟨b, 5, none⟩ x5).setCell ⟨b, 6, none⟩ x6).cell? ⟨b, 4, none⟩ = some x4 ∧ (((((((w.setCell ⟨b, 0, none⟩ x0).setCell ⟨b, 1, none⟩ x1).setCell ⟨b, 2, none⟩ x2).setCell ⟨b, 3, none⟩ x3).setCell ⟨b, 4, none⟩ x4).setCell ⟨b, 5, none⟩ x5).setCell ⟨b, 6, none⟩ x6).cell? ⟨b, 5, none⟩ = some x5 ∧ (((((((w.setCell ⟨b, 0, none⟩ x0).setCell ⟨b, 1, none⟩ x1).setCell ⟨b, 2, none⟩ x2).setCell ⟨b, 3, none⟩ x3).setCell ⟨b, 4, none⟩ x4).setCell ⟨b, 5, none⟩ x5).setCell ⟨b, 6, none⟩ x6).cell? ⟨b, 6, none⟩ = some x6 := by
  have O := fun (W : World) (i j : Nat) (x : Value) (h : i ≠ j) => World.cell?_setCell_other W ⟨b, i, none⟩ ⟨b, j, none⟩ x (fun e => h (by injection e))
  have a0 : w.cell? ⟨b, 0, none⟩ = some u0 := h0
  have a1 : (w.setCell ⟨b, 0, none⟩ x0).cell? ⟨b, 1, none⟩ = some u1 := ((O _ 0 1 _ (by decide)).trans h1)
  have a2 : ((w.setCell ⟨b, 0, none⟩ x0).setCell ⟨b, 1, none⟩ x1).cell? ⟨b, 2, none⟩ = some u2 := ((O _ 1 2 _ (by decide)).trans ((O _ 0 2 _ (by decide)).trans h2))
  have a3 : (((w.setCell ⟨b, 0, none⟩ x0).setCell ⟨b, 1, none⟩ x1).setCell ⟨b, 2, none⟩ x2).cell? ⟨b, 3, none⟩ = some u3 := ((O _ 2 3 _ (by decide)).trans ((O _ 1 3 _ (by decide)).trans ((O _ 0 3 _ (by decide)).trans h3)))
  have a4 : ((((w.setCell ⟨b, 0, none⟩ x0).setCell ⟨b, 1, none⟩ x1).setCell ⟨b, 2, none⟩ x2).setCell ⟨b, 3, none⟩ x3).cell? ⟨b, 4, none⟩ = some u4 := ((O _ 3 4 _ (by decide)).trans ((O _ 2 4 _ (by decide)).trans ((O _ 1 4 _ (by decide)).trans ((O _ 0 4 _ (by decide)).trans h4))))
  have a5 : (((((w.setCell ⟨b, 0, none⟩ x0).setCell ⟨b, 1, none⟩ x1).setCell ⟨b, 2, none⟩ x2).setCell ⟨b, 3, none⟩ x3).setCell ⟨b, 4, none⟩ x4).cell? ⟨b, 5, none⟩ = some u5 := ((O _ 4 5 _ (by decide)).trans ((O _ 3 5 _ (by decide)).trans ((O _ 2 5 _ (by decide)).trans ((O _ 1 5 _ (by decide)).trans ((O _ 0 5 _ (by decide)).trans h5)))))
  have a6 : ((((((w.setCell ⟨b, 0, none⟩ x0).setCell ⟨b, 1, none⟩ x1).setCell ⟨b, 2, none⟩ x2).setCell ⟨b, 3, none⟩ x3).setCell ⟨b, 4, none⟩ x4).setCell ⟨b, 5, none⟩ x5).cell? ⟨b, 6, none⟩ = some u6 := ((O _ 5 6 _ (by decide)).trans ((O _ 4 6 _ (by decide)).trans ((O _ 3 6 _ (by decide)).trans ((O _ 2 6 _ (by decide)).trans ((O _ 1 6 _ (by decide)).trans ((O _ 0 6 _ (by decide)).trans h6))))))
  refine ⟨?_, ?_, ?_, ?_, ?_, ?_, ?_⟩
  · exact ((O _ 6 0 _ (by decide)).trans ((O _ 5 0 _ (by decide)).trans ((O _ 4 0 _ (by decide)).trans ((O _ 3 0 _ (by decide)).trans ((O _ 2 0 _ (by decide)).trans ((O _ 1 0 _ (by decide)).trans (World.cell?_setCell_same _ _ _ a0)))))))
  · exact ((O _ 6 1 _ (by decide)).trans ((O _ 5 1 _ (by decide)).trans ((O _ 4 1 _ (by decide)).trans ((O _ 3 1 _ (by decide)).trans ((O _ 2 1 _ (by decide)).trans (World.cell?_setCell_same _ _ _ a1))))))
  · exact ((O _ 6 2 _ (by decide)).trans ((O _ 5 2 _ (by decide)).trans ((O _ 4 2 _ (by decide)).trans ((O _ 3 2 _ (by decide)).trans (World.cell?_setCell_same _ _ _ a2)))))
  · exact ((O _ 6 3 _ (by decide)).trans ((O _ 5 3 _ (by decide)).trans ((O _ 4 3 _ (by decide)).trans (World.cell?_setCell_same _ _ _ a3))))
  · exact ((O _ 6 4 _ (by decide)).trans ((O _ 5 4 _ (by decide)).trans (World.cell?_setCell_same _ _ _ a4)))
  · exact ((O _ 6 5 _ (by decide)).trans (World.cell?_setCell_same _ _ _ a5))
  · exact (World.cell?_setCell_same _ _ _ a6)

/-- Eight cells of one block, stored one behind the other. -/
theorem eight_store {w : World} {b : Nat} {u0 u1 u2 u3 u4 u5 u6 u7 : Value} (x0 x1 x2 x3 x4 x5 x6 x7 : Value) (h0 : w.cell? ⟨b, 0, none⟩ = some u0) (h1 : w.cell? ⟨b, 1, none⟩ = some u1) (h2 : w.cell? ⟨b, 2, none⟩ = some u2) (h3 : w.cell? ⟨b, 3, none⟩ = some u3) (h4 : w.cell? ⟨b, 4, none⟩ = some u4) (h5 : w.cell? ⟨b, 5, none⟩ = some u5) (h6 : w.cell? ⟨b, 6, none⟩ = some u6) (h7 : w.cell? ⟨b, 7, none⟩ = some u7) :
    ((((((((w.setCell ⟨b, 0, none⟩ x0).setCell ⟨b, 1, none⟩ x1).setCell ⟨b, 2, none⟩ x2).setCell ⟨b, 3, none⟩ x3).setCell ⟨b, 4, none⟩ x4).setCell ⟨b, 5, none⟩ x5).setCell ⟨b, 6, none⟩ x6).setCell ⟨b, 7, none⟩ x7).cell? ⟨b, 0, none⟩ = some x0 ∧ ((((((((w.setCell ⟨b, 0, none⟩ x0).setCell ⟨b, 1, none⟩ x1).setCell ⟨b, 2, none⟩ x2).setCell ⟨b, 3, none⟩ x3).setCell ⟨b, 4, none⟩ x4).setCell ⟨b, 5, none⟩ x5).setCell ⟨b, 6, none⟩ x6).setCell ⟨b, 7, none⟩ x7).cell? ⟨b, 1, none⟩ = some x1 ∧ ((((((((w.setCell ⟨b, 0, none⟩ x0).setCell ⟨b, 1, none⟩ x1).setCell ⟨b, 2, none⟩ x2).setCell ⟨b, 3, none⟩ x3).setCell ⟨b, 4, none⟩ x4).setCell ⟨b, 5, none⟩ x5).setCell ⟨b, 6, none⟩ x6).setCell ⟨b, 7, none⟩ x7).cell? ⟨b, 2, none⟩ = some x2 ∧ ((((((((w.setCell ⟨b, 0, none⟩ x0).setCell ⟨b, 1, none⟩ x1).setCell ⟨b, 2, none⟩ x2).setCell ⟨b, 3, none⟩ x3).setCell ⟨b, 4, none⟩ x4).setCell ⟨b, 5, none⟩ x5).setCell ⟨b, 6, none⟩ x6).setCell ⟨b, 7, none⟩ x7).cell? ⟨b, 3, none⟩ = some x3 ∧ ((((((((w.setCell ⟨b, 0, none⟩ x0).setCell ⟨b, 1, none⟩ x1).setCell ⟨b, 2, none⟩ x2).setCell ⟨b, 3, none⟩ x3).setCell ⟨b, 4, none⟩ x4).setCell ⟨b, 5, none⟩ x5).setCell ⟨b, 6, none⟩ x6).setCell ⟨b, 7, none⟩ x7).cell? ⟨b, 4, none⟩ = some x4 ∧ ((((((((w.setCell ⟨b, 0, none⟩ x0).setCell ⟨b, 1, none⟩ x1).setCell ⟨b, 2, none⟩ x2).setCell ⟨b, 3, none⟩ x3).setCell ⟨b, 4, none⟩ x4).setCell ⟨b, 5, none⟩ x5).setCell ⟨b, 6, none⟩ x6).setCell ⟨b, 7, none⟩ x7).cell? ⟨b, 5, none⟩ = some x5 ∧ ((((((((w.setCell ⟨b, 0, none⟩ x0).setCell ⟨b, 1, none⟩ x1).setCell ⟨b, 2, none⟩ x2).setCell ⟨b, 3, none⟩ x3).setCell ⟨b, 4, none⟩ x4).setCell ⟨b, 5, none⟩ x5).setCell ⟨b, 6, none⟩ x6).setCell ⟨b, 7, none⟩ x7).cell? ⟨b, 6, none⟩ = some x6 ∧ ((((((((w.setCell ⟨b, 0, none⟩ x0).setCell ⟨b, 1, none⟩ x1).setCell ⟨b, 2, none⟩ x2).setCell ⟨b, 3, none⟩ x3).setCell ⟨b, 4, none⟩ x4).setCell ⟨b, 5, none⟩ x5).setCell ⟨b, 6, none⟩ x6).setCell ⟨b, 7, none⟩ x7).cell? ⟨b, 7, none⟩ = some x7 := by
  have O := fun (W : World) (i j : Nat) (x : Value) (h : i ≠ j) => World.cell?_setCell_other W ⟨b, i, none⟩ ⟨b, j, none⟩ x (fun e => h (by injection e))
  have a0 : w.cell? ⟨b, 0, none⟩ = some u0 := h0
  have a1 : (w.setCell ⟨b, 0, none⟩ x0).cell? ⟨b, 1, none⟩ = some u1 := ((O _ 0 1 _ (by decide)).trans h1)
  have a2 : ((w.setCell ⟨b, 0, none⟩ x0).setCell ⟨b, 1, none⟩ x1).cell? ⟨b, 2, none⟩ = some u2 := ((O _ 1 2 _ (by decide)).trans ((O _ 0 2 _ (by decide)).trans h2))
  have a3 : (((w.setCell ⟨b, 0, none⟩ x0).setCell ⟨b, 1, none⟩ x1).setCell ⟨b, 2, none⟩ x2).cell? ⟨b, 3, none⟩ = some u3 := ((O _ 2 3 _ (by decide)).trans ((O _ 1 3 _ (by decide)).trans ((O _ 0 3 _ (by decide)).trans h3)))
  have a4 : ((((w.setCell ⟨b, 0, none⟩ x0).setCell ⟨b, 1, none⟩ x1).setCell ⟨b, 2, none⟩ x2).setCell ⟨b, 3, none⟩ x3).cell? ⟨b, 4, none⟩ = some u4 := ((O _ 3 4 _ (by decide)).trans ((O _ 2 4 _ (by decide)).trans ((O _ 1 4 _ (by decide)).trans ((O _ 0 4 _ (by decide)).trans h4))))
  have a5 : (((((w.setCell ⟨b, 0, none⟩ x0).setCell ⟨b, 1, none⟩ x1).setCell ⟨b, 2, none⟩ x2).setCell ⟨b, 3, none⟩ x3).setCell ⟨b, 4, none⟩ x4).cell? ⟨b, 5, none⟩ = some u5 := ((O _ 4 5 _ (by decide)).trans ((O _ 3 5 _ (by decide)).trans ((O _ 2 5 _ (by decide)).trans ((O _ 1 5 _ (by decide)).trans ((O _ 0 5 _ (by decide)).trans h5)))))
  have a6 : ((((((w.setCell ⟨b, 0, none⟩ x0).setCell ⟨b, 1, none⟩ x1).setCell ⟨b, 2, none⟩ x2).setCell ⟨b, 3, none⟩ x3).setCell ⟨b, 4, none⟩ x4).setCell ⟨b, 5, none⟩ x5).cell? ⟨b, 6, none⟩ = some u6 := ((O _ 5 6 _ (by decide)).trans ((O _ 4 6 _ (by decide)).trans ((O _ 3 6 _ (by decide)).trans ((O _ 2 6 _ (by decide)).trans ((O _ 1 6 _ (by decide)).trans ((O _ 0 6 _ (by decide)).trans h6))))))
  have a7 : (((((((w.setCell ⟨b, 0, none⟩ x0).setCell ⟨b, 1, none⟩ x1).setCell ⟨b, 2, none⟩ x2).setCell ⟨b, 3, none⟩ x3).setCell ⟨b, 4, none⟩ x4).setCell ⟨b, 5, none⟩ x5).setCell ⟨b, 6, none⟩ x6).cell? ⟨b, 7, none⟩ = some u7 := ((O _ 6 7 _ (by decide)).trans ((O _ 5 7 _ (by decide)).trans ((O _ 4 7 _ (by decide)).trans ((O _ 3 7 _ (by decide)).trans ((O _ 2 7 _ (by decide)).trans ((O _ 1 7 _ (by decide)).trans ((O _ 0 7 _ (by decide)).trans h7)))))))
  refine ⟨?_, ?_, ?_, ?_, ?_, ?_, ?_, ?_⟩
  · exact ((O _ 7 0 _ (by decide)).trans ((O _ 6 0 _ (by decide)).trans ((O _ 5 0 _ (by decide)).trans ((O _ 4 0 _ (by decide)).trans ((O _ 3 0 _ (by decide)).trans ((O _ 2 0 _ (by decide)).trans ((O _ 1 0 _ (by decide)).trans (World.cell?_setCell_same _ _ _ a0))))))))
  · exact ((O _ 7 1 _ (by decide)).trans ((O _ 6 1 _ (by decide)).trans ((O _ 5 1 _ (by decide)).trans ((O _ 4 1 _ (by decide)).trans ((O _ 3 1 _ (by decide)).trans ((O _ 2 1 _ (by decide)).trans (World.cell?_setCell_same _ _ _ a1)))))))
  · exact ((O _ 7 2 _ (by decide)).trans ((O _ 6 2 _ (by decide)).trans ((O _ 5 2 _ (by decide)).trans ((O _ 4 2 _ (by decide)).trans ((O _ 3 2 _ (by decide)).trans (World.cell?_setCell_same _ _ _ a2))))))
  · exact ((O _ 7 3 _ (by decide)).trans ((O _ 6 3 _ (by decide)).trans ((O _ 5 3 _ (by decide)).trans ((O _ 4 3 _ (by decide)).trans (World.cell?_setCell_same _ _ _ a3)))))
  · exact ((O _ 7 4 _ (by decide)).trans ((O _ 6 4 _ (by decide)).trans ((O _ 5 4 _ (by decide)).trans (World.cell?_setCell_same _ _ _ a4))))
  · exact ((O _ 7 5 _ (by decide)).trans ((O _ 6 5 _ (by decide)).trans (World.cell?_setCell_same _ _ _ a5)))
  · exact ((O _ 7 6 _ (by decide)).trans (World.cell?_setCell_same _ _ _ a6))
  · exact (World.cell?_setCell_same _ _ _ a7)

theorem seven_below {w0 w : World} {base b : Nat} {x0 x1 x2 x3 x4 x5 x6 : Value} (h : Below base w0 w) (hg : base ≤ b) : Below base w0 (((((((w.setCell ⟨b, 0, none⟩ x0).setCell ⟨b, 1, none⟩ x1).setCell ⟨b, 2, none⟩ x2).setCell ⟨b, 3, none⟩ x3).setCell ⟨b, 4, none⟩ x4).setCell ⟨b, 5, none⟩ x5).setCell ⟨b, 6, none⟩ x6) := (((((((h.setCell hg _).setCell hg _).setCell hg _).setCell hg _).setCell hg _).setCell hg _).setCell hg _)
theorem eight_below {w0 w : World} {base b : Nat} {x0 x1 x2 x3 x4 x5 x6 x7 : Value} (h : Below base w0 w) (hg : base ≤ b) : Below base w0 ((((((((w.setCell ⟨b, 0, none⟩ x0).setCell ⟨b, 1, none⟩ x1).setCell ⟨b, 2, none⟩ x2).setCell ⟨b, 3, none⟩ x3).setCell ⟨b, 4, none⟩ x4).setCell ⟨b, 5, none⟩ x5).setCell ⟨b, 6, none⟩ x6).setCell ⟨b, 7, none⟩ x7) := ((((((((h.setCell hg _).setCell hg _).setCell hg _).setCell hg _).setCell hg _).setCell hg _).setCell hg _).setCell hg _)

/-- The cells of a version in a block of its own, and that they may be stored into. -/
structure HoldV (w : World) (g : Nat) (v : Vr) : Prop where
  c : Cells7 w g 0 v
  f : w.frozen? ⟨g, 0, none⟩ = false ∧ w.frozen? ⟨g, 1, none⟩ = false ∧ w.frozen? ⟨g, 2, none⟩ = false ∧ w.frozen? ⟨g, 3, none⟩ = false ∧ w.frozen? ⟨g, 4, none⟩ = false ∧ w.frozen? ⟨g, 5, none⟩ = false ∧ w.frozen? ⟨g, 6, none⟩ = false
theorem holdV_new (w : World) (v : Vr) : HoldV (w.alloc (ocV v)) w.heap.size v :=
  ⟨⟨by simp [go_sem], by simp [go_sem], by simp [go_sem], by simp [go_sem], by simp [go_sem], by simp [go_sem], by simp [go_sem]⟩, ⟨by simp [go_sem], by simp [go_sem], by simp [go_sem], by simp [go_sem], by simp [go_sem], by simp [go_sem], by simp [go_sem]⟩⟩
theorem HoldV.below {w w' : World} {g : Nat} {v : Vr} (h : HoldV w g v) (hb : Below w.heap.size w w') : HoldV w' g v := by
  have hg := lt_of_cell h.c.1
  obtain ⟨f0, f1, f2, f3, f4, f5, f6⟩ := h.f
  exact ⟨h.c.below hb, keepf hb hg f0, keepf hb hg f1, keepf hb hg f2, keepf hb hg f3, keepf hb hg f4, keepf hb hg f5, keepf hb hg f6⟩

end Go.Proofs.Ytpeifijcpemjeaa

/-
  Versions and rows with fields of their own: the same but for where the fields lie.
-/
namespace Go.Proofs.Ytpeifijcpemjeaa
open Go.RowKit

/-- The cells of a version that is nothing yet. -/
abbrev ocZ : Obj := .cells #[.int .i64 0, .int .i64 0, .string ⟨#[]⟩, .int .i64 0, .int .i64 0, .slice none 0 0, .bool false] 38
theorem holdV_zero (w : World) : HoldV (w.alloc ocZ) w.heap.size noV := holdV_new w noV
/-- A version whose fields lie elsewhere. -/
abbrev twin (v : Vr) (A : Option Addr) (c : Nat) : Vr := ⟨v.id, v.st, v.ent, v.sf, v.se, A, c, v.fs, v.gone⟩
theorem twin_sameV (v : Vr) (A B : Option Addr) (c d : Nat) : sameV (twin v A c) (twin v B d) = true := by simp [sameV, sameF_self]
theorem twin_same (v : Vr) (A : Option Addr) (c : Nat) : sameV (twin v A c) v = true := by simp [sameV, sameF_self]
def TwinR : List Rw → List Rw → Prop
  | [], [] => True
  | r :: R, s :: S => (∃ A c, r = ⟨twin s.v A c, s.un⟩) ∧ TwinR R S
  | _, _ => False
theorem TwinR.length : ∀ {R S : List Rw}, TwinR R S → R.length = S.length
  | [], [], _ => rfl
  | [], _ :: _, h => h.elim
  | _ :: _, [], h => h.elim
  | _ :: R, _ :: S, h => by rw [List.length_cons, List.length_cons, TwinR.length h.2]
theorem TwinR.get : ∀ {R S : List Rw}, TwinR R S → ∀ (k : Nat) (s : Rw), S[k]? = some s → ∃ A c, R[k]? = some ⟨twin s.v A c, s.un⟩
  | [], [], _, k, s, h => by simp at h
  | [], _ :: _, h, _, _, _ => h.elim
  | _ :: _, [], h, _, _, _ => h.elim
  | r :: R, s :: S, h, 0, s', hs => by
    obtain rfl : s = s' := by simpa using hs
    obtain ⟨⟨A, c, rfl⟩, _⟩ := h
    exact ⟨A, c, rfl⟩
  | r :: R, s :: S, h, k + 1, s', hs => by
    rw [List.getElem?_cons_succ] at hs ⊢
    exact TwinR.get h.2 k s' hs
theorem TwinR.same : ∀ {R S : List Rw}, TwinR R S → sameRs R S = true
  | [], [], _ => rfl
  | [], _ :: _, h => h.elim
  | _ :: _, [], h => h.elim
  | r :: R, s :: S, h => by
    obtain ⟨⟨A, c, rfl⟩, h2⟩ := h
    rw [sameRs, TwinR.same h2]
    unfold sameR
    rw [twin_same, decide_eq_true rfl]; rfl
theorem TwinR.mem : ∀ {R S : List Rw}, TwinR R S → ∀ r ∈ R, ∃ s ∈ S, ∃ A c, r = ⟨twin s.v A c, s.un⟩
  | [], [], _, _, h => by simp at h
  | [], _ :: _, h, _, _ => h.elim
  | _ :: _, [], h, _, _ => h.elim
  | r :: R, s :: S, h, x, hx => by
    obtain ⟨h1, h2⟩ := h
    rcases List.mem_cons.1 hx with rfl | hx
    · exact ⟨s, by simp, h1⟩
    · obtain ⟨s', hs', h3⟩ := TwinR.mem h2 x hx
      exact ⟨s', List.mem_cons_of_mem _ hs', h3⟩

/-- A block of n rows of the call's own, of which the last ones are R. -/
def FillR (w : World) (b n : Nat) (R : List Rw) : Prop := ∃ f, w.rowIs b 51 (n * 8) f ∧ R.length ≤ n ∧ ∀ (i : Nat) (x : Rw), R[i]? = some x → ∀ (j : Nat) (u : Value), (cellsR x)[j]? = some u → f ((n - R.length + i) * 8 + j) = u
theorem FillR.below {w w' : World} {b n : Nat} {R : List Rw} (h : FillR w b n R) (hb : Below w.heap.size w w') : FillR w' b n R := by
  obtain ⟨f, h1, h2⟩ := h
  exact ⟨f, h1.of_block (hb.block _ h1.lt), h2⟩
theorem FillR.lt {w : World} {b n : Nat} {R : List Rw} (h : FillR w b n R) : b < w.heap.size := by
  obtain ⟨f, h1, _⟩ := h
  exact h1.lt
/-- The cells of a place: they are there, and they may be stored into. -/
theorem FillR.cells {w : World} {b n : Nat} {R : List Rw} (h : FillR w b n R) {k : Nat} (hk : k < n) (j : Nat) (hj : j < 8) : ∃ u, w.cell? ⟨b, k * 8 + j, none⟩ = some u := by
  obtain ⟨f, h1, _⟩ := h
  exact ⟨_, h1.cell (by omega)⟩
theorem FillR.frozen {w : World} {b n : Nat} {R : List Rw} (h : FillR w b n R) (i : Nat) : w.frozen? ⟨b, i, none⟩ = false := by
  obtain ⟨f, h1, _⟩ := h
  exact h1.frozen i
/-- One more row, stored ahead of the others. -/
theorem FillR.store {w : World} {b n : Nat} {R : List Rw} (h : FillR w b n R) {k : Nat} (hk : k + 1 + R.length = n) (x : Rw) :
    FillR ((((((((w.setCell ⟨b, k * 8, none⟩ (.int .i64 x.v.id)).setCell ⟨b, k * 8 + 1, none⟩ (.int .i64 x.v.st)).setCell ⟨b, k * 8 + 2, none⟩ (.string x.v.ent)).setCell ⟨b, k * 8 + 3, none⟩ (.int .i64 x.v.sf)).setCell ⟨b, k * 8 + 4, none⟩ (.int .i64 x.v.se)).setCell ⟨b, k * 8 + 5, none⟩ (.slice x.v.fa x.v.fs.length x.v.fc)).setCell ⟨b, k * 8 + 6, none⟩ (.bool x.v.gone)).setCell ⟨b, k * 8 + 7, none⟩ (.int .i64 x.un)) b n (x :: R) := by
  obtain ⟨f, h1, h2, h3⟩ := h
  refine ⟨_, (((((((h1.set _ _).set _ _).set _ _).set _ _).set _ _).set _ _).set _ _).set _ _, by rw [List.length_cons]; omega, fun i y hy j u hu => ?_⟩
  have hj : j < 8 := by
    rcases Nat.lt_or_ge j 8 with hj | hj
    · exact hj
    · rw [List.getElem?_eq_none (by simpa using hj)] at hu; cases hu
  have hbase : n - (x :: R).length = k := by rw [List.length_cons]; omega
  rw [hbase]
  cases i with
  | zero =>
    obtain rfl : x = y := by simpa using hy
    have hj' : j = 0 ∨ j = 1 ∨ j = 2 ∨ j = 3 ∨ j = 4 ∨ j = 5 ∨ j = 6 ∨ j = 7 := by omega
    rcases hj' with rfl | rfl | rfl | rfl | rfl | rfl | rfl | rfl <;> simp at hu <;> subst hu <;> simp
  | succ i =>
    rw [List.getElem?_cons_succ] at hy
    have h4 := h3 i y hy j u hu
    have e : (k + (i + 1)) * 8 + j = (n - R.length + i) * 8 + j := by congr 2; omega
    have n0 : ¬ (k + (i + 1)) * 8 + j = k * 8 := by omega
    have n1 : ∀ m, m < 8 → ¬ (k + (i + 1)) * 8 + j = k * 8 + m := fun m hm => by omega
    simp only [n0, n1 1 (by decide), n1 2 (by decide), n1 3 (by decide), n1 4 (by decide), n1 5 (by decide), n1 6 (by decide), n1 7 (by decide), if_false]
    rw [e]; exact h4
theorem FillR.all {w : World} {b n : Nat} {R : List Rw} (h : FillR w b n R) (hn : R.length = n) : RowE ER w (some ⟨b, 0, none⟩) R := by
  obtain ⟨f, h1, h2, h3⟩ := h
  intro i x hx
  refine ⟨b, 0, rfl, fun j u hu => ?_⟩
  have hi := (List.getElem?_eq_some_iff.1 hx).1
  have hj : j < 8 := by
    rcases Nat.lt_or_ge j 8 with hj | hj
    · exact hj
    · have : (ER.cells x)[j]? = none := List.getElem?_eq_none (by rw [ER.len]; exact hj)
      rw [this] at hu; cases hu
  have := h3 i x hx j u hu
  rw [hn, Nat.sub_self, Nat.zero_add] at this
  show w.cell? ⟨b, 0 + i * 8 + j, none⟩ = some u
  rw [Nat.zero_add, ← this]
  exact h1.cell (by omega)
theorem fillR_new (w : World) (z : Array Value) (n : Nat) (_hz : z.size = 8) : FillR (w.alloc (.cells (madeCells z (n * 8)) 51)) w.heap.size n [] :=
  ⟨fun i => z[i % z.size]!, ⟨_, heap_alloc_new _ _, size_madeCells _ _, fun i hi => by simp [madeCells, hi]⟩, Nat.zero_le _, fun i x hx => by simp at hx⟩
theorem eight_belowAt {w0 w : World} {base b o : Nat} {x0 x1 x2 x3 x4 x5 x6 x7 : Value} (h : Below base w0 w) (hg : base ≤ b) : Below base w0 ((((((((w.setCell ⟨b, o, none⟩ x0).setCell ⟨b, o + 1, none⟩ x1).setCell ⟨b, o + 2, none⟩ x2).setCell ⟨b, o + 3, none⟩ x3).setCell ⟨b, o + 4, none⟩ x4).setCell ⟨b, o + 5, none⟩ x5).setCell ⟨b, o + 6, none⟩ x6).setCell ⟨b, o + 7, none⟩ x7) := ((((((((h.setCell hg _).setCell hg _).setCell hg _).setCell hg _).setCell hg _).setCell hg _).setCell hg _).setCell hg _)

end Go.Proofs.Ytpeifijcpemjeaa

/-
  What a call may turn: some cells, and nothing else; a version that is read into a block, cell by cell.
-/
namespace Go.Proofs.Ytpeifijcpemjeaa
open Go.RowKit

/-- Whatever lay, lies, but for the cells M. -/
structure But (M : Nat → Nat → Prop) (w w' : World) : Prop where
  os : w'.os = w.os
  tape : w'.tape = w.tape
  output : w'.output = w.output
  size : w.heap.size ≤ w'.heap.size
  block : ∀ c, c < w.heap.size → (∀ o, ¬ M c o) → w'.heap[c]? = w.heap[c]?
  cell : ∀ c o, c < w.heap.size → ¬ M c o → w'.cell? ⟨c, o, none⟩ = w.cell? ⟨c, o, none⟩
  frz : ∀ c o, c < w.heap.size → w'.frozen? ⟨c, o, none⟩ = w.frozen? ⟨c, o, none⟩
theorem But.refl (M : Nat → Nat → Prop) (w : World) : But M w w := ⟨rfl, rfl, rfl, Nat.le_refl _, fun _ _ _ => rfl, fun _ _ _ _ => rfl, fun _ _ _ => rfl⟩
theorem But.trans {M : Nat → Nat → Prop} {a b c : World} (h : But M a b) (k : But M b c) : But M a c :=
  ⟨k.os.trans h.os, k.tape.trans h.tape, k.output.trans h.output, Nat.le_trans h.size k.size,
   fun i hi hm => (k.block i (Nat.lt_of_lt_of_le hi h.size) hm).trans (h.block i hi hm),
   fun i o hi hm => (k.cell i o (Nat.lt_of_lt_of_le hi h.size) hm).trans (h.cell i o hi hm),
   fun i o hi => (k.frz i o (Nat.lt_of_lt_of_le hi h.size)).trans (h.frz i o hi)⟩
theorem But.of_below {M : Nat → Nat → Prop} {w w' : World} (h : Below w.heap.size w w') : But M w w' :=
  ⟨h.os, h.tape, h.output, h.size, fun c hc _ => h.block c hc, fun c o hc _ => h.cell (p := ⟨c, o, none⟩) hc, fun c o hc => h.frozen (p := ⟨c, o, none⟩) hc⟩
theorem But.set {M : Nat → Nat → Prop} {a w : World} (h : But M a w) {b o : Nat} (hm : M b o) (u : Value) : But M a (w.setCell ⟨b, o, none⟩ u) :=
  ⟨h.os, h.tape, h.output, by have := h.size; simpa [World.setCell] using this,
   fun c hc hn => (Below.heap_setCell w ⟨b, o, none⟩ u c (fun e => hn o (by simp at e; rw [e]; exact hm))).trans (h.block c hc hn),
   fun c i hc hn => (World.cell?_setCell_other w ⟨b, o, none⟩ ⟨c, i, none⟩ u (fun e => hn (by injection e with e1 e2; subst e1 e2; exact hm))).trans (h.cell c i hc hn),
   fun c i hc => (World.frozen?_setCell _ _ _ _).trans (h.frz c i hc)⟩
theorem But.below {M : Nat → Nat → Prop} {w w' : World} (h : But M w w') {n : Nat} (hn : n ≤ w.heap.size) (hM : ∀ c o, M c o → n ≤ c) : Below n w w' :=
  ⟨h.os, h.tape, h.output, h.size, fun c hc => h.block c (by omega) (fun o hm => by have := hM c o hm; omega)⟩
theorem But.mono {M M' : Nat → Nat → Prop} {w w' : World} (h : But M w w') (hM : ∀ c o, c < w.heap.size → M c o → M' c o) : But M' w w' :=
  ⟨h.os, h.tape, h.output, h.size, fun c hc hn => h.block c hc (fun o hm => hn o (hM c o hc hm)), fun c o hc hn => h.cell c o hc (fun hm => hn (hM c o hc hm)), h.frz⟩
theorem But.keep {M : Nat → Nat → Prop} {w w' : World} (h : But M w w') {c o : Nat} {v : Value} (hc : w.cell? ⟨c, o, none⟩ = some v) (hm : ¬ M c o) : w'.cell? ⟨c, o, none⟩ = some v :=
  (h.cell c o (lt_of_cell hc) hm).trans hc
/-- From an earlier world on. -/
theorem But.ahead {M : Nat → Nat → Prop} {a w w' : World} (hb : Below a.heap.size a w) (h : But M w w') : But M a w' := (But.of_below hb).trans h
/-- The cells of a version in block b. -/
abbrev MV (b : Nat) : Nat → Nat → Prop := fun c o => c = b ∧ o < 7

/-- The fields of a version lie where it says, and from block n on. -/
def FarF (n : Nat) (w : World) (v : Vr) : Prop := VF w v ∧ ∀ a, v.fa = some a → n ≤ a.block
theorem FarF.but {M : Nat → Nat → Prop} {n : Nat} {w w' : World} {v : Vr} (h : FarF n w v) (hb : But M w w') (hM : ∀ c o, M c o → c < n) : FarF n w' v :=
  ⟨⟨fun i f hf => by
    obtain ⟨g, off, he, c0, c1⟩ := h.1.1 i f hf
    have hg : n ≤ g := h.2 _ he
    exact ⟨g, off, he, hb.keep c0 (fun hm => by have := hM _ _ hm; omega), hb.keep c1 (fun hm => by have := hM _ _ hm; omega)⟩, h.1.2⟩, h.2⟩
theorem FarF.below {n : Nat} {w w' : World} {v : Vr} (h : FarF n w v) (hb : Below w.heap.size w w') : FarF n w' v := ⟨h.1.below hb, h.2⟩
theorem FarF.nil {n : Nat} (w : World) (v : Vr) (h : v.fs = []) (h2 : v.fa = none) (h3 : v.fc = 0) : FarF n w v :=
  ⟨⟨by rw [h]; exact Fields.nil _ _, by rw [h]; exact Nat.zero_le _, fun _ => h3⟩, fun a ha => by rw [h2] at ha; cases ha⟩
theorem FarF.same {n : Nat} {w : World} {v v' : Vr} (h : FarF n w v) (h1 : v'.fa = v.fa) (h2 : v'.fc = v.fc) (h3 : v'.fs = v.fs) : FarF n w v' := by
  unfold FarF VF at h ⊢
  rw [h1, h2, h3]; exact h
theorem OF.far {W w : World} {l : List Fd} {u : Value} (h : OF W l u w) : ∃ A c, u = .slice A l.length c ∧ ∀ v : Vr, v.fa = A → v.fc = c → v.fs = l → FarF W.heap.size w v := by
  obtain ⟨A, c, rfl, hF, hc, hn⟩ := h.list
  refine ⟨A, c, rfl, fun v h1 h2 h3 => ?_⟩
  subst h1 h2 h3
  exact ⟨⟨hF, hc, hn⟩, fun a ha => (h.own.lt a.block (by rw [ha]; rfl)).1⟩

theorem HoldV.set0 {w : World} {b : Nat} {v : Vr} (h : HoldV w b v) (n : Int) : HoldV (w.setCell ⟨b, 0, none⟩ (.int .i64 n)) b {v with id := n} :=
  ⟨⟨World.cell?_setCell_same _ ⟨b, 0, none⟩ _ (h.c.1), (World.cell?_setCell_other _ ⟨b, 0, none⟩ ⟨b, 1, none⟩ _ (by simp)).trans (h.c.2.1), (World.cell?_setCell_other _ ⟨b, 0, none⟩ ⟨b, 2, none⟩ _ (by simp)).trans (h.c.2.2.1), (World.cell?_setCell_other _ ⟨b, 0, none⟩ ⟨b, 3, none⟩ _ (by simp)).trans (h.c.2.2.2.1), (World.cell?_setCell_other _ ⟨b, 0, none⟩ ⟨b, 4, none⟩ _ (by simp)).trans (h.c.2.2.2.2.1), (World.cell?_setCell_other _ ⟨b, 0, none⟩ ⟨b, 5, none⟩ _ (by simp)).trans (h.c.2.2.2.2.2.1), (World.cell?_setCell_other _ ⟨b, 0, none⟩ ⟨b, 6, none⟩ _ (by simp)).trans (h.c.2.2.2.2.2.2)⟩, (World.frozen?_setCell _ _ _ _).trans (h.f.1), (World.frozen?_setCell _ _ _ _).trans (h.f.2.1), (World.frozen?_setCell _ _ _ _).trans (h.f.2.2.1), (World.frozen?_setCell _ _ _ _).trans (h.f.2.2.2.1), (World.frozen?_setCell _ _ _ _).trans (h.f.2.2.2.2.1), (World.frozen?_setCell _ _ _ _).trans (h.f.2.2.2.2.2.1), (World.frozen?_setCell _ _ _ _).trans (h.f.2.2.2.2.2.2)⟩
theorem HoldV.set1 {w : World} {b : Nat} {v : Vr} (h : HoldV w b v) (n : Int) : HoldV (w.setCell ⟨b, 1, none⟩ (.int .i64 n)) b {v with st := n} :=
  ⟨⟨(World.cell?_setCell_other _ ⟨b, 1, none⟩ ⟨b, 0, none⟩ _ (by simp)).trans (h.c.1), World.cell?_setCell_same _ ⟨b, 1, none⟩ _ (h.c.2.1), (World.cell?_setCell_other _ ⟨b, 1, none⟩ ⟨b, 2, none⟩ _ (by simp)).trans (h.c.2.2.1), (World.cell?_setCell_other _ ⟨b, 1, none⟩ ⟨b, 3, none⟩ _ (by simp)).trans (h.c.2.2.2.1), (World.cell?_setCell_other _ ⟨b, 1, none⟩ ⟨b, 4, none⟩ _ (by simp)).trans (h.c.2.2.2.2.1), (World.cell?_setCell_other _ ⟨b, 1, none⟩ ⟨b, 5, none⟩ _ (by simp)).trans (h.c.2.2.2.2.2.1), (World.cell?_setCell_other _ ⟨b, 1, none⟩ ⟨b, 6, none⟩ _ (by simp)).trans (h.c.2.2.2.2.2.2)⟩, (World.frozen?_setCell _ _ _ _).trans (h.f.1), (World.frozen?_setCell _ _ _ _).trans (h.f.2.1), (World.frozen?_setCell _ _ _ _).trans (h.f.2.2.1), (World.frozen?_setCell _ _ _ _).trans (h.f.2.2.2.1), (World.frozen?_setCell _ _ _ _).trans (h.f.2.2.2.2.1), (World.frozen?_setCell _ _ _ _).trans (h.f.2.2.2.2.2.1), (World.frozen?_setCell _ _ _ _).trans (h.f.2.2.2.2.2.2)⟩
theorem HoldV.set2 {w : World} {b : Nat} {v : Vr} (h : HoldV w b v) (n : ByteArray) : HoldV (w.setCell ⟨b, 2, none⟩ (.string n)) b {v with ent := n} :=
  ⟨⟨(World.cell?_setCell_other _ ⟨b, 2, none⟩ ⟨b, 0, none⟩ _ (by simp)).trans (h.c.1), (World.cell?_setCell_other _ ⟨b, 2, none⟩ ⟨b, 1, none⟩ _ (by simp)).trans (h.c.2.1), World.cell?_setCell_same _ ⟨b, 2, none⟩ _ (h.c.2.2.1), (World.cell?_setCell_other _ ⟨b, 2, none⟩ ⟨b, 3, none⟩ _ (by simp)).trans (h.c.2.2.2.1), (World.cell?_setCell_other _ ⟨b, 2, none⟩ ⟨b, 4, none⟩ _ (by simp)).trans (h.c.2.2.2.2.1), (World.cell?_setCell_other _ ⟨b, 2, none⟩ ⟨b, 5, none⟩ _ (by simp)).trans (h.c.2.2.2.2.2.1), (World.cell?_setCell_other _ ⟨b, 2, none⟩ ⟨b, 6, none⟩ _ (by simp)).trans (h.c.2.2.2.2.2.2)⟩, (World.frozen?_setCell _ _ _ _).trans (h.f.1), (World.frozen?_setCell _ _ _ _).trans (h.f.2.1), (World.frozen?_setCell _ _ _ _).trans (h.f.2.2.1), (World.frozen?_setCell _ _ _ _).trans (h.f.2.2.2.1), (World.frozen?_setCell _ _ _ _).trans (h.f.2.2.2.2.1), (World.frozen?_setCell _ _ _ _).trans (h.f.2.2.2.2.2.1), (World.frozen?_setCell _ _ _ _).trans (h.f.2.2.2.2.2.2)⟩
theorem HoldV.set3 {w : World} {b : Nat} {v : Vr} (h : HoldV w b v) (n : Int) : HoldV (w.setCell ⟨b, 3, none⟩ (.int .i64 n)) b {v with sf := n} :=
  ⟨⟨(World.cell?_setCell_other _ ⟨b, 3, none⟩ ⟨b, 0, none⟩ _ (by simp)).trans (h.c.1), (World.cell?_setCell_other _ ⟨b, 3, none⟩ ⟨b, 1, none⟩ _ (by simp)).trans (h.c.2.1), (World.cell?_setCell_other _ ⟨b, 3, none⟩ ⟨b, 2, none⟩ _ (by simp)).trans (h.c.2.2.1), World.cell?_setCell_same _ ⟨b, 3, none⟩ _ (h.c.2.2.2.1), (World.cell?_setCell_other _ ⟨b, 3, none⟩ ⟨b, 4, none⟩ _ (by simp)).trans (h.c.2.2.2.2.1), (World.cell?_setCell_other _ ⟨b, 3, none⟩ ⟨b, 5, none⟩ _ (by simp)).trans (h.c.2.2.2.2.2.1), (World.cell?_setCell_other _ ⟨b, 3, none⟩ ⟨b, 6, none⟩ _ (by simp)).trans (h.c.2.2.2.2.2.2)⟩, (World.frozen?_setCell _ _ _ _).trans (h.f.1), (World.frozen?_setCell _ _ _ _).trans (h.f.2.1), (World.frozen?_setCell _ _ _ _).trans (h.f.2.2.1), (World.frozen?_setCell _ _ _ _).trans (h.f.2.2.2.1), (World.frozen?_setCell _ _ _ _).trans (h.f.2.2.2.2.1), (World.frozen?_setCell _ _ _ _).trans (h.f.2.2.2.2.2.1), (World.frozen?_setCell _ _ _ _).trans (h.f.2.2.2.2.2.2)⟩
theorem HoldV.set4 {w : World} {b : Nat} {v : Vr} (h : HoldV w b v) (n : Int) : HoldV (w.setCell ⟨b, 4, none⟩ (.int .i64 n)) b {v with se := n} :=
  ⟨⟨(World.cell?_setCell_other _ ⟨b, 4, none⟩ ⟨b, 0, none⟩ _ (by simp)).trans (h.c.1), (World.cell?_setCell_other _ ⟨b, 4, none⟩ ⟨b, 1, none⟩ _ (by simp)).trans (h.c.2.1), (World.cell?_setCell_other _ ⟨b, 4, none⟩ ⟨b, 2, none⟩ _ (by simp)).trans (h.c.2.2.1), (World.cell?_setCell_other _ ⟨b, 4, none⟩ ⟨b, 3, none⟩ _ (by simp)).trans (h.c.2.2.2.1), World.cell?_setCell_same _ ⟨b, 4, none⟩ _ (h.c.2.2.2.2.1), (World.cell?_setCell_other _ ⟨b, 4, none⟩ ⟨b, 5, none⟩ _ (by simp)).trans (h.c.2.2.2.2.2.1), (World.cell?_setCell_other _ ⟨b, 4, none⟩ ⟨b, 6, none⟩ _ (by simp)).trans (h.c.2.2.2.2.2.2)⟩, (World.frozen?_setCell _ _ _ _).trans (h.f.1), (World.frozen?_setCell _ _ _ _).trans (h.f.2.1), (World.frozen?_setCell _ _ _ _).trans (h.f.2.2.1), (World.frozen?_setCell _ _ _ _).trans (h.f.2.2.2.1), (World.frozen?_setCell _ _ _ _).trans (h.f.2.2.2.2.1), (World.frozen?_setCell _ _ _ _).trans (h.f.2.2.2.2.2.1), (World.frozen?_setCell _ _ _ _).trans (h.f.2.2.2.2.2.2)⟩
theorem HoldV.set6 {w : World} {b : Nat} {v : Vr} (h : HoldV w b v) (n : Bool) : HoldV (w.setCell ⟨b, 6, none⟩ (.bool n)) b {v with gone := n} :=
  ⟨⟨(World.cell?_setCell_other _ ⟨b, 6, none⟩ ⟨b, 0, none⟩ _ (by simp)).trans (h.c.1), (World.cell?_setCell_other _ ⟨b, 6, none⟩ ⟨b, 1, none⟩ _ (by simp)).trans (h.c.2.1), (World.cell?_setCell_other _ ⟨b, 6, none⟩ ⟨b, 2, none⟩ _ (by simp)).trans (h.c.2.2.1), (World.cell?_setCell_other _ ⟨b, 6, none⟩ ⟨b, 3, none⟩ _ (by simp)).trans (h.c.2.2.2.1), (World.cell?_setCell_other _ ⟨b, 6, none⟩ ⟨b, 4, none⟩ _ (by simp)).trans (h.c.2.2.2.2.1), (World.cell?_setCell_other _ ⟨b, 6, none⟩ ⟨b, 5, none⟩ _ (by simp)).trans (h.c.2.2.2.2.2.1), World.cell?_setCell_same _ ⟨b, 6, none⟩ _ (h.c.2.2.2.2.2.2)⟩, (World.frozen?_setCell _ _ _ _).trans (h.f.1), (World.frozen?_setCell _ _ _ _).trans (h.f.2.1), (World.frozen?_setCell _ _ _ _).trans (h.f.2.2.1), (World.frozen?_setCell _ _ _ _).trans (h.f.2.2.2.1), (World.frozen?_setCell _ _ _ _).trans (h.f.2.2.2.2.1), (World.frozen?_setCell _ _ _ _).trans (h.f.2.2.2.2.2.1), (World.frozen?_setCell _ _ _ _).trans (h.f.2.2.2.2.2.2)⟩
theorem HoldV.set5 {w : World} {b : Nat} {v : Vr} (h : HoldV w b v) (A : Option Addr) (c : Nat) (l : List Fd) : HoldV (w.setCell ⟨b, 5, none⟩ (.slice A l.length c)) b {v with fa := A, fc := c, fs := l} :=
  ⟨⟨(World.cell?_setCell_other _ ⟨b, 5, none⟩ ⟨b, 0, none⟩ _ (by simp)).trans (h.c.1), (World.cell?_setCell_other _ ⟨b, 5, none⟩ ⟨b, 1, none⟩ _ (by simp)).trans (h.c.2.1), (World.cell?_setCell_other _ ⟨b, 5, none⟩ ⟨b, 2, none⟩ _ (by simp)).trans (h.c.2.2.1), (World.cell?_setCell_other _ ⟨b, 5, none⟩ ⟨b, 3, none⟩ _ (by simp)).trans (h.c.2.2.2.1), (World.cell?_setCell_other _ ⟨b, 5, none⟩ ⟨b, 4, none⟩ _ (by simp)).trans (h.c.2.2.2.2.1), World.cell?_setCell_same _ ⟨b, 5, none⟩ _ (h.c.2.2.2.2.2.1), (World.cell?_setCell_other _ ⟨b, 5, none⟩ ⟨b, 6, none⟩ _ (by simp)).trans (h.c.2.2.2.2.2.2)⟩, (World.frozen?_setCell _ _ _ _).trans (h.f.1), (World.frozen?_setCell _ _ _ _).trans (h.f.2.1), (World.frozen?_setCell _ _ _ _).trans (h.f.2.2.1), (World.frozen?_setCell _ _ _ _).trans (h.f.2.2.2.1), (World.frozen?_setCell _ _ _ _).trans (h.f.2.2.2.2.1), (World.frozen?_setCell _ _ _ _).trans (h.f.2.2.2.2.2.1), (World.frozen?_setCell _ _ _ _).trans (h.f.2.2.2.2.2.2)⟩
theorem HoldV.other {w : World} {b : Nat} {v : Vr} (h : HoldV w b v) {c o : Nat} (hne : b ≠ c) (u : Value) : HoldV (w.setCell ⟨c, o, none⟩ u) b v :=
  ⟨⟨(World.cell?_setCell_other _ ⟨c, o, none⟩ ⟨b, 0, none⟩ _ (fun e => hne (by injection e with e1 e2; exact e1.symm))).trans (h.c.1), (World.cell?_setCell_other _ ⟨c, o, none⟩ ⟨b, 1, none⟩ _ (fun e => hne (by injection e with e1 e2; exact e1.symm))).trans (h.c.2.1), (World.cell?_setCell_other _ ⟨c, o, none⟩ ⟨b, 2, none⟩ _ (fun e => hne (by injection e with e1 e2; exact e1.symm))).trans (h.c.2.2.1), (World.cell?_setCell_other _ ⟨c, o, none⟩ ⟨b, 3, none⟩ _ (fun e => hne (by injection e with e1 e2; exact e1.symm))).trans (h.c.2.2.2.1), (World.cell?_setCell_other _ ⟨c, o, none⟩ ⟨b, 4, none⟩ _ (fun e => hne (by injection e with e1 e2; exact e1.symm))).trans (h.c.2.2.2.2.1), (World.cell?_setCell_other _ ⟨c, o, none⟩ ⟨b, 5, none⟩ _ (fun e => hne (by injection e with e1 e2; exact e1.symm))).trans (h.c.2.2.2.2.2.1), (World.cell?_setCell_other _ ⟨c, o, none⟩ ⟨b, 6, none⟩ _ (fun e => hne (by injection e with e1 e2; exact e1.symm))).trans (h.c.2.2.2.2.2.2)⟩, (World.frozen?_setCell _ _ _ _).trans (h.f.1), (World.frozen?_setCell _ _ _ _).trans (h.f.2.1), (World.frozen?_setCell _ _ _ _).trans (h.f.2.2.1), (World.frozen?_setCell _ _ _ _).trans (h.f.2.2.2.1), (World.frozen?_setCell _ _ _ _).trans (h.f.2.2.2.2.1), (World.frozen?_setCell _ _ _ _).trans (h.f.2.2.2.2.2.1), (World.frozen?_setCell _ _ _ _).trans (h.f.2.2.2.2.2.2)⟩

end Go.Proofs.Ytpeifijcpemjeaa

/-
  The document's Changed; texts compared; few versions.
-/
namespace Go.Proofs.Ytpeifijcpemjeaa
open Go.RowKit

/-- Are two lists of texts one? -/
def textsB : List ByteArray → List ByteArray → Bool
  | [], [] => true
  | a :: l, b :: m => decide (a.toList = b.toList) && textsB l m
  | _, _ => false
theorem textsB_self : ∀ l : List ByteArray, textsB l l = true
  | [] => rfl
  | a :: l => by rw [textsB, textsB_self l]; simp
theorem textsB_len : ∀ a b : List ByteArray, a.length ≠ b.length → textsB a b = false
  | [], [], h => absurd rfl h
  | [], _ :: _, _ => rfl
  | _ :: _, [], _ => rfl
  | f :: a, g :: b, h => by rw [textsB, textsB_len a b (fun e => h (by rw [List.length_cons, List.length_cons, e])), Bool.and_false]
/-- Are there at most so many versions, of at most 20 fields? -/
def fewB (l : List Vr) (m : Int) : Bool := decide ((l.length : Int) ≤ m) && l.all fun v => decide (v.fs.length ≤ 20)
theorem few_of {l : List Vr} {m : Int} (h : fewB l m = true) (hm : m ≤ 200) : fewV l := by
  unfold fewB at h
  rw [Bool.and_eq_true, decide_eq_true_eq, List.all_eq_true] at h
  refine ⟨by omega, fun v hv => ?_⟩
  have := h.2 v hv
  rw [decide_eq_true_eq] at this
  omega

set_option maxHeartbeats 2000000 in
theorem dfew_any (w : World) (u : Value) (l : List Vr) (m : Int) (hl : ListE EV w u l) (hn : l.length ≤ 9223372036854775807) : Same 8 #[u, .int .i64 m] w (.bool (fewB l m)) := by
  obtain ⟨A, c, rfl, hA, hc, hnc⟩ := hl
  have HA := Lib.hid hA
  obtain ⟨n, hnm⟩ : ∃ n, l.length = n := ⟨_, rfl⟩
  have HFB := Lib.hid (show fewB l m = (decide ((n : Int) ≤ m) && l.all fun v => decide (v.fs.length ≤ 20)) by rw [← hnm]; rfl)
  rw [hnm] at hn ⊢
  have HN := Lib.hid hnm
  clear hA hc hnc hnm
  generalize fewB l m = R at *
  by_cases hm : m < (n : Int)
  · have HE := Lib.hid (show R = false by rw [HFB.out, decide_eq_false (by omega)]; rfl)
    go_enter Try.func8, Try.ntmps8
    go_wp2_with fail
    go_ret
    exact ⟨ret_bool HE.out.symm, rfl⟩
  · have HE := Lib.hid (show R = l.all fun v => decide (v.fs.length ≤ 20) by rw [HFB.out, decide_eq_true (by omega)]; rfl)
    go_enter Try.func8, Try.ntmps8
    go_wp2_with fail
    go_loopw [5] (fun i wr => ∃ k : Nat, k ≤ n ∧ i = .int .i64 k ∧ R = (l.drop k).all (fun v => decide (v.fs.length ≤ 20)) ∧ wr = w) (fun i _ => n - (intOf i).toNat)
    case atStart => exact ⟨0, Nat.zero_le _, rfl, HE.out, rfl⟩
    case round =>
      obtain ⟨k, hk, rfl, hg, hwr⟩ := hrel
      obtain rfl := hwr.symm
      by_cases hlt : k < n
      · have hlt' : (k : Int) < (n : Int) := by omega
        obtain ⟨v, hx⟩ : ∃ v, l[k]? = some v := ⟨_, List.getElem?_eq_getElem (by have := HN.out; omega)⟩
        obtain ⟨g, off, rfl, hX⟩ := HA.out.cells7 hx
        have z5 := hX.2.2.2.2.2.1
        rw [drop_consL hx, List.all_cons] at hg
        clear hX hx
        by_cases h20 : 20 < v.fs.length
        · have h20' : (20 : Int) < (v.fs.length : Int) := by omega
          have NX := Lib.hid (show R = false by rw [hg, decide_eq_false (by omega)]; rfl)
          clear hg
          generalize v.fs.length = q at *
          go_wp2_with fail
          go_ret
          exact ⟨ret_bool NX.out.symm, rfl⟩
        · have h20' : ¬ (20 : Int) < (v.fs.length : Int) := by omega
          have NX := Lib.hid (show R = (l.drop (k + 1)).all (fun v => decide (v.fs.length ≤ 20)) by rw [hg, decide_eq_true (by omega)]; rfl)
          clear hg
          generalize v.fs.length = q at *
          go_wp2_with fail
          exact ⟨⟨k + 1, by omega, by go_num, NX.out, trivial⟩, by simp [intOf] <;> omega⟩
      · obtain rfl : k = n := by omega
        have hlt' : ¬ (k : Int) < (k : Int) := by omega
        rw [List.drop_of_length_le (by have := HN.out; omega)] at hg
        have NX := Lib.hid (show R = true from hg)
        clear hg
        go_wp2_with fail
        go_ret
        exact ⟨ret_bool NX.out.symm, rfl⟩

end Go.Proofs.Ytpeifijcpemjeaa

/-
  Plain facts on chains: what is wrong with one, its rows, which version is there at a stamp.
-/
namespace Go.Proofs.Ytpeifijcpemjeaa

/-- What is wrong with a version behind another one, of a chain that begins with f. -/
def linkE (f p v : Vr) : Nat :=
  if rightV v ≠ 0 then rightV v
  else if p.gone then 6
  else if v.id ≠ f.id then 2
  else if v.ent.toList ≠ f.ent.toList then 8
  else if v.st ≤ p.st then 16 else 0
/-- What is wrong with those behind p. -/
def chainE (f : Vr) : Vr → List Vr → Nat
  | _, [] => 0
  | p, v :: l => if linkE f p v ≠ 0 then linkE f p v else chainE f v l
def headE (f : Vr) : Nat := if rightV f ≠ 0 then rightV f else if f.st ≠ f.id then 2 else 0
def chkL : List Vr → Nat
  | [] => 5
  | f :: l => if headE f ≠ 0 then headE f else chainE f f l
/-- The rows of a chain. -/
def rowsV : List Vr → List Rw
  | [] => []
  | [v] => [⟨v, 4611686018427387904⟩]
  | v :: w :: l => ⟨v, w.st⟩ :: rowsV (w :: l)
def rowsL (l : List Vr) : List Rw := if chkL l = 0 then rowsV l else []
/-- The version that is there at a stamp. -/
def stepA (at_ : Int) (k : Option Vr) (v : Vr) : Option Vr := if v.st ≤ at_ ∧ (∀ u, k = some u → u.st ≤ v.st) then some v else k
def atC (at_ : Int) (l : List Vr) : Option Vr := l.foldl (stepA at_) none
/-- The spans of what is there. -/
def spansO : Option Vr → List (Int × Int)
  | none => []
  | some v => if v.gone then [] else [(v.sf, v.se)]
/-- Is it the same version at both stamps, or none? -/
def likeC (x y : Option Vr) : Bool := match x, y with
  | none, none => true
  | some u, some v => decide (u.st = v.st)
  | _, _ => false
/-- The spans of which the times are that may differ. -/
def chgC (a b : Int) (l : List Vr) : List (Int × Int) := if likeC (atC a l) (atC b l) then [] else spansO (atC a l) ++ spansO (atC b l)

theorem likeC_comm (x y : Option Vr) : likeC x y = likeC y x := by
  cases x <;> cases y <;> simp [likeC, eq_comm]
theorem likeC_self (x : Option Vr) : likeC x x = true := by
  cases x <;> simp [likeC]
theorem chgC_self (a : Int) (l : List Vr) : chgC a a l = [] := by rw [chgC, likeC_self]; rfl
theorem spansO_length (x : Option Vr) : (spansO x).length ≤ 1 := by
  cases x with
  | none => simp [spansO]
  | some v => rw [spansO]; split <;> simp
theorem chgC_length (a b : Int) (l : List Vr) : (chgC a b l).length ≤ 2 := by
  unfold chgC
  split
  · simp
  · have := spansO_length (atC a l)
    have := spansO_length (atC b l)
    rw [List.length_append]; omega
theorem chgC_mem (a b : Int) (l : List Vr) (p : Int × Int) : p ∈ chgC a b l ↔ p ∈ chgC b a l := by
  unfold chgC
  rw [likeC_comm]
  split
  · rfl
  · rw [List.mem_append, List.mem_append, or_comm]

theorem rowsV_length : ∀ l : List Vr, (rowsV l).length = l.length
  | [] => rfl
  | [_] => rfl
  | v :: w :: l => by rw [rowsV, List.length_cons, List.length_cons, rowsV_length (w :: l)]
theorem rowsL_length (l : List Vr) : (rowsL l).length ≤ l.length := by
  unfold rowsL
  split
  · rw [rowsV_length]; omega
  · simp
theorem rowsV_get : ∀ (l : List Vr) (i : Nat) (v : Vr), l[i]? = some v → (rowsV l)[i]? = some ⟨v, match l[i + 1]? with | some w => w.st | none => 4611686018427387904⟩
  | [], _, _, h => by simp at h
  | [u], i, v, h => by
    cases i with
    | zero => simp at h; subst h; rfl
    | succ i => simp at h
  | u :: w :: l, i, v, h => by
    cases i with
    | zero => simp at h; subst h; rfl
    | succ i =>
      rw [rowsV, List.getElem?_cons_succ]
      exact rowsV_get (w :: l) i v (by rwa [List.getElem?_cons_succ] at h)

/-- The one that is there is the last of the greatest. -/
theorem stepA_some {a : Int} {k : Option Vr} {v u : Vr} (h : stepA a k v = some u) : u = v ∧ v.st ≤ a ∨ k = some u := by
  unfold stepA at h
  split at h
  · rename_i hh
    injection h with h
    exact .inl ⟨h.symm, hh.1⟩
  · exact .inr h
theorem foldA_some : ∀ (l : List Vr) (a : Int) (k : Option Vr) (u : Vr), l.foldl (stepA a) k = some u → (u ∈ l ∧ u.st ≤ a) ∨ k = some u
  | [], _, _, _, h => .inr h
  | v :: l, a, k, u, h => by
    rw [List.foldl_cons] at h
    rcases foldA_some l a _ u h with ⟨h1, h2⟩ | h1
    · exact .inl ⟨List.mem_cons_of_mem _ h1, h2⟩
    · rcases stepA_some h1 with ⟨rfl, h2⟩ | h2
      · exact .inl ⟨by simp, h2⟩
      · exact .inr h2
theorem atC_mem {a : Int} {l : List Vr} {u : Vr} (h : atC a l = some u) : u ∈ l ∧ u.st ≤ a := by
  rcases foldA_some l a none u h with h1 | h1
  · exact h1
  · cases h1

/-- A chain: the stamps rise. -/
def Rising : List Vr → Prop := List.Pairwise fun u v => u.st < v.st
theorem link_zero {f p v : Vr} (h : linkE f p v = 0) : rightV v = 0 ∧ p.gone = false ∧ v.id = f.id ∧ v.ent.toList = f.ent.toList ∧ p.st < v.st := by
  unfold linkE at h
  by_cases h1 : rightV v ≠ 0
  · rw [if_pos h1] at h; exact absurd h h1
  · rw [if_neg h1] at h
    cases hg : p.gone with
    | true => rw [hg] at h; simp at h
    | false =>
      rw [hg] at h
      simp only [Bool.false_eq_true, if_false] at h
      split at h
      · cases h
      · split at h
        · cases h
        · split at h
          · cases h
          · rename_i a b c
            exact ⟨by simpa using h1, rfl, by simpa using a, by simpa using b, by omega⟩
theorem chain_zero {f p v : Vr} {r : List Vr} (h : chainE f p (v :: r) = 0) : linkE f p v = 0 ∧ chainE f v r = 0 := by
  rw [chainE] at h
  split at h
  · rename_i hh; exact absurd h hh
  · rename_i hh; exact ⟨by simpa using hh, h⟩
theorem chain_rising {f : Vr} : ∀ (l : List Vr) (p : Vr), chainE f p l = 0 → Rising (p :: l) ∧ ∀ v ∈ l, rightV v = 0 ∧ v.id = f.id
  | [], p, _ => ⟨List.pairwise_singleton _ _, by simp⟩
  | v :: l, p, h => by
    obtain ⟨h1, h2⟩ := chain_zero h
    obtain ⟨hr, hm⟩ := chain_rising l v h2
    have hl := link_zero h1
    refine ⟨List.Pairwise.cons ?_ hr, ?_⟩
    · intro u hu
      rcases List.mem_cons.1 hu with rfl | hu
      · exact hl.2.2.2.2
      · have := (List.pairwise_cons.1 hr).1 u hu
        have := hl.2.2.2.2
        omega
    · intro u hu
      rcases List.mem_cons.1 hu with rfl | hu
      · exact ⟨hl.1, hl.2.2.1⟩
      · exact hm u hu
theorem chk_rising {l : List Vr} (h : chkL l = 0) : Rising l ∧ (∀ v ∈ l, rightV v = 0) ∧ ∃ f r, l = f :: r ∧ f.st = f.id := by
  cases l with
  | nil => simp [chkL] at h
  | cons f r =>
    rw [chkL] at h
    split at h
    · rename_i hh; exact absurd h hh
    · rename_i hh
      have hh : headE f = 0 := by simpa using hh
      obtain ⟨h1, h2⟩ := chain_rising r f h
      unfold headE at hh
      split at hh
      · rename_i h3; exact absurd hh h3
      · rename_i h3
        split at hh
        · cases hh
        · rename_i h4
          refine ⟨h1, ?_, f, r, rfl, by simpa using h4⟩
          intro v hv
          rcases List.mem_cons.1 hv with rfl | hv
          · simpa using h3
          · exact (h2 v hv).1
theorem chain_take {f : Vr} : ∀ (l : List Vr) (p : Vr) (k : Nat), chainE f p l = 0 → chainE f p (l.take k) = 0
  | [], _, _, _ => by rw [List.take_nil]; rfl
  | v :: l, p, 0, _ => rfl
  | v :: l, p, k + 1, h => by
    obtain ⟨h1, h2⟩ := chain_zero h
    rw [List.take_succ_cons, chainE, if_neg (by rw [h1]; simp)]
    exact chain_take l v k h2
theorem chk_take {l : List Vr} {k : Nat} (h : chkL l = 0) (hk : 1 ≤ k) : chkL (l.take k) = 0 := by
  cases l with
  | nil => simp [chkL] at h
  | cons f r =>
    obtain ⟨k, rfl⟩ : ∃ j, k = j + 1 := ⟨k - 1, by omega⟩
    rw [List.take_succ_cons, chkL]
    rw [chkL] at h
    split at h
    · rename_i hh; exact absurd h hh
    · rename_i hh
      rw [if_neg hh]
      exact chain_take r f k h

/-- Of rising stamps the one that is there is the last one that is not above. -/
theorem foldA_rising (a : Int) : ∀ (l : List Vr) (k : Option Vr), (∀ u, k = some u → ∀ v ∈ l, u.st < v.st) → Rising l → l.foldl (stepA a) k = match (l.filter fun v => decide (v.st ≤ a)).getLast? with | some v => some v | none => k
  | [], k, _, _ => by simp
  | v :: l, k, hk, hr => by
    obtain ⟨h1, h2⟩ := List.pairwise_cons.1 hr
    rw [List.foldl_cons, List.filter_cons]
    by_cases hv : v.st ≤ a
    · have hs : stepA a k v = some v := by
        unfold stepA
        rw [if_pos ⟨hv, fun u hu => by have := hk u hu v (by simp); omega⟩]
      rw [hs, foldA_rising a l (some v) (fun u hu w hw => by injection hu with hu; subst hu; exact h1 w hw) h2, if_pos (by simpa using hv), List.getLast?_cons]
      cases (l.filter fun v => decide (v.st ≤ a)).getLast? <;> rfl
    · have hs : stepA a k v = k := by
        unfold stepA
        rw [if_neg (fun h => hv h.1)]
      rw [hs, foldA_rising a l k (fun u hu w hw => hk u hu w (List.mem_cons_of_mem _ hw)) h2, if_neg (by simpa using hv)]
theorem atC_rising {a : Int} {l : List Vr} (h : Rising l) : atC a l = (l.filter fun v => decide (v.st ≤ a)).getLast? := by
  rw [atC, foldA_rising a l none (fun u hu => by cases hu) h]
  cases (l.filter fun v => decide (v.st ≤ a)).getLast? <;> rfl
/-- Stamps above do not count. -/
theorem foldA_above (a : Int) : ∀ (l : List Vr) (k : Option Vr), (∀ v ∈ l, a < v.st) → l.foldl (stepA a) k = k
  | [], _, _ => rfl
  | v :: l, k, h => by
    rw [List.foldl_cons, show stepA a k v = k from if_neg (fun hh => by have := h v (by simp); omega)]
    exact foldA_above a l k fun w hw => h w (List.mem_cons_of_mem _ hw)
theorem atC_ahead {a : Int} {l : List Vr} {k : Nat} {v : Vr} (h : Rising l) (hv : l[k]? = some v) (ha : a < v.st) : atC a (l.take k) = atC a l := by
  conv => rhs; rw [← List.take_append_drop k l]
  rw [atC, atC, List.foldl_append, foldA_above a (l.drop k)]
  intro u hu
  have hd : l.drop k = v :: l.drop (k + 1) := by
    obtain ⟨hlt, he⟩ := List.getElem?_eq_some_iff.1 hv
    rw [← he]; exact List.drop_eq_getElem_cons hlt
  rw [hd] at hu
  have hp : Rising (v :: l.drop (k + 1)) := by rw [← hd]; exact h.sublist (List.drop_sublist _ _)
  rcases List.mem_cons.1 hu with rfl | hu
  · exact ha
  · have := (List.pairwise_cons.1 hp).1 u hu
    omega

end Go.Proofs.Ytpeifijcpemjeaa

/-
  The document's Check and At of chains.
-/
namespace Go.Proofs.Ytpeifijcpemjeaa
open Go.RowKit

/-- What is wrong from a place on. -/
def goE (l : List Vr) : Nat → Nat
  | 0 => match l with
    | [] => 0
    | f :: r => if headE f ≠ 0 then headE f else chainE f f r
  | k + 1 => match l[0]?, l[k]? with
    | some f, some p => chainE f p (l.drop (k + 1))
    | _, _ => 0
theorem goE_zero {l : List Vr} {f : Vr} (h : l[0]? = some f) : goE l 0 = if headE f ≠ 0 then headE f else goE l 1 := by
  cases l with
  | nil => simp at h
  | cons a r => simp at h; subst h; rfl
theorem goE_succ {l : List Vr} {k : Nat} {f p v : Vr} (hf : l[0]? = some f) (hp : l[k]? = some p) (hv : l[k + 1]? = some v) : goE l (k + 1) = if linkE f p v ≠ 0 then linkE f p v else goE l (k + 2) := by
  simp only [goE, hf, hp, hv]
  rw [drop_consL hv, chainE]
theorem goE_end {l : List Vr} (h : 0 < l.length) : goE l l.length = 0 := by
  obtain ⟨k, hk⟩ : ∃ k, l.length = k + 1 := ⟨l.length - 1, by omega⟩
  rw [hk, goE, List.drop_of_length_le (by omega)]
  cases l[0]? <;> cases l[k]? <;> rfl
theorem chk_go {l : List Vr} (h : 0 < l.length) : chkL l = goE l 0 := by
  cases l with
  | nil => simp at h
  | cons f r => rfl

set_option maxHeartbeats 4000000 in
set_option maxRecDepth 10000 in
theorem dchk_any (w : World) (u : Value) (l : List Vr) (hl : VersL w u l) (hok : ∀ v ∈ l, okF v.fs) (hn : l.length ≤ 100000) (hfs : ∀ v ∈ l, v.fs.length ≤ 100000) (hz : ∀ v ∈ l, v.ent.size ≤ 9223372036854775807) :
    Ret 13 #[u] w (.int .i64 ((chkL l : Nat) : Int)) := by
  obtain ⟨⟨A, c, rfl, hA, hc, hnc⟩, hVF⟩ := hl
  have HA := Lib.hid hA
  have CR := Lib.hid (fun (v : Vr) (h : v ∈ l) (w' : World) (hb : Below w.heap.size w w') => drightv_any v w' ((hVF v h).below hb) (hok v h) (by have := hfs v h; omega) (hz v h))
  obtain ⟨n, hnm⟩ : ∃ n, l.length = n := ⟨_, rfl⟩
  obtain ⟨R, hR⟩ : ∃ R, chkL l = R := ⟨_, rfl⟩
  rw [hnm] at hn hc ⊢
  rw [hR]
  have HN := Lib.hid hnm
  have HR := Lib.hid hR
  clear hA hc hnc hVF hok hfs hz hnm hR
  rcases Nat.eq_zero_or_pos n with rfl | hpos
  · have HE := Lib.hid (show R = 5 by
      have := HN.out
      rw [List.length_eq_zero_iff] at this
      subst this
      exact HR.out.symm)
    go_enter Try.func13, Try.ntmps13
    go_wp2_with fail
    go_ret
    exact ⟨ret_int (by rw [HE.out]; rfl), bl w⟩
  · have hne : ((n : Int) == 0) = false := by simp; omega
    have HG := Lib.hid (show R = goE l 0 by rw [← HR.out]; exact chk_go (by have := HN.out; omega))
    obtain ⟨f, hf⟩ : ∃ f, l[0]? = some f := ⟨_, List.getElem?_eq_getElem (by have := HN.out; omega)⟩
    have HF := Lib.hid hf
    clear hf
    go_enter Try.func13, Try.ntmps13
    go_wp2_with fail
    go_loopw [3] (fun i wr => ∃ k : Nat, k ≤ n ∧ i = .int .i64 k ∧ R = goE l k ∧ Below w.heap.size w wr) (fun i _ => n - (intOf i).toNat)
    case atStart => exact ⟨0, Nat.zero_le _, rfl, HG.out, bl w⟩
    case round =>
      obtain ⟨k, hk, rfl, hg, hW⟩ := hrel
      have HGK := Lib.hid hg
      have HW := Lib.hid hW
      clear hW hg
      by_cases hlt : k < n
      · have hlt' : (k : Int) < (n : Int) := by omega
        obtain ⟨v, hx⟩ : ∃ v, l[k]? = some v := ⟨_, List.getElem?_eq_getElem (by have := HN.out; omega)⟩
        obtain ⟨g, off, rfl, hX⟩ := (HA.out.below HW.out).cells7 hx
        have CV := Lib.hid (fun w' hb => CR.out v (List.mem_of_getElem? hx) w' hb)
        have HV := Lib.hid hx
        have HX := Lib.hid hX
        obtain ⟨z0, z1, z2, z3, z4, z5, z6⟩ := hX
        clear hx
        obtain ⟨e, he⟩ : ∃ e, rightV v = e := ⟨_, rfl⟩
        rw [he] at CV
        have HE := Lib.hid he
        clear he
        by_cases h0 : e ≠ 0
        · have NX := Lib.hid (show R = e by
            rw [HGK.out]
            rcases Nat.eq_zero_or_pos k with rfl | hk0
            · rw [goE_zero HV.out, headE, HE.out, if_pos h0, if_pos h0]
            · obtain ⟨j, rfl⟩ : ∃ j, k = j + 1 := ⟨k - 1, by omega⟩
              obtain ⟨p, hp⟩ : ∃ p, l[j]? = some p := ⟨_, List.getElem?_eq_getElem (by have := HN.out; omega)⟩
              rw [goE_succ HF.out hp HV.out, linkE, HE.out, if_pos h0, if_pos h0])
          have h0' : ((e : Int) != 0) = true := by rw [bne_iff_ne]; omega
          have h0n : ¬ (e : Int) = 0 := by omega
          clear h0
          go_wp2_with (go_at_call 25; (with_reducible refine (CV.out _ HW.out).mono ?_); rintro e w2 ⟨rfl, hb2⟩)
          go_ret
          exact ⟨ret_int (by rw [NX.out]), chain HW.out hb2⟩
        · obtain rfl : e = 0 := by omega
          rcases Nat.eq_zero_or_pos k with hk0 | hk0
          · have hkz : ((k : Int) == 0) = true := by simp [hk0]
            have HF0 := Lib.hid (show l[0]? = some v by rw [← hk0]; exact HV.out)
            have HG0 := Lib.hid (show R = goE l 0 by rw [HGK.out, hk0])
            have HK0 := Lib.hid hk0
            clear hk0
            by_cases h1 : v.st = v.id
            · have NX := Lib.hid (show R = goE l (k + 1) by
                have hh : headE v = 0 := by rw [headE, HE.out, if_neg (by omega), if_neg (by omega)]
                rw [HG0.out, goE_zero HF0.out, hh, HK0.out]; rfl)
              have h1' : (v.st != v.id) = false := by simp [h1]
              have H1 := Lib.hid h1
              clear h1
              go_wp2_with (go_at_call 25; (with_reducible refine (CV.out _ HW.out).mono ?_); rintro e w2 ⟨rfl, hb2⟩; obtain ⟨y0, y1, y2, y3, y4, y5, y6⟩ := HX.out.below hb2)
              go_region
              go_wp2_with fail
              go_roundw
              case rel => exact ⟨k + 1, by omega, by go_num, NX.out, belowN (chain HW.out hb2) _⟩
              case measure => simp [intOf]; omega
            · have NX := Lib.hid (show R = 2 by
                have hh : headE v = 2 := by rw [headE, HE.out, if_neg (by omega), if_pos h1]
                rw [HG0.out, goE_zero HF0.out, hh]; rfl)
              have h1' : (v.st != v.id) = true := by rw [bne_iff_ne]; exact h1
              go_wp2_with (go_at_call 25; (with_reducible refine (CV.out _ HW.out).mono ?_); rintro e w2 ⟨rfl, hb2⟩; obtain ⟨y0, y1, y2, y3, y4, y5, y6⟩ := HX.out.below hb2)
              go_region
              go_wp2_with fail
              go_ret
              exact ⟨ret_int (by rw [NX.out]; rfl), belowN (chain HW.out hb2) _⟩
          · obtain ⟨j, rfl⟩ : ∃ j, k = j + 1 := ⟨k - 1, by omega⟩
            obtain ⟨p, hp⟩ : ∃ p, l[j]? = some p := ⟨_, List.getElem?_eq_getElem (by have := HN.out; omega)⟩
            obtain ⟨g', off', he, hP⟩ := (HA.out.below HW.out).cells7 hp
            injection he with he
            injection he with e1 e2 _
            subst e1 e2
            obtain ⟨g', off', he, hF⟩ := (HA.out.below HW.out).cells7 HF.out
            injection he with he
            injection he with e1 e2 _
            subst e1 e2
            have HG1 := Lib.hid (show R = if linkE f p v ≠ 0 then linkE f p v else goE l (j + 2) by rw [HGK.out, goE_succ HF.out hp HV.out])
            have HL := Lib.hid (show linkE f p v = if p.gone then 6 else if v.id ≠ f.id then 2 else if v.ent.toList ≠ f.ent.toList then 8 else if v.st ≤ p.st then 16 else 0 by rw [linkE, HE.out, if_neg (by omega)])
            have HP := Lib.hid hP
            have HFX := Lib.hid (show Cells7 wr g off f by simpa using hF)
            have hkz : (((j + 1 : Nat) : Int) == 0) = false := by simp; omega
            have hj : j < n := by omega
            have hn0 : (0 : Int) < (n : Int) := by omega
            clear hp hP hF hk0 h0
            cases hpg : p.gone with
            | true =>
              have NX := Lib.hid (show R = 6 by rw [HG1.out, HL.out, hpg]; rfl)
              go_wp2_with (go_at_call 25; (with_reducible refine (CV.out _ HW.out).mono ?_); rintro e w2 ⟨rfl, hb2⟩; obtain ⟨y0, y1, y2, y3, y4, y5, y6⟩ := HX.out.below hb2; obtain ⟨p0, p1, p2, p3, p4, p5, p6⟩ := HP.out.below hb2; rw [hpg] at p6; obtain ⟨f0, f1, f2, f3, f4, f5, f6⟩ := HFX.out.below hb2)
              go_ret
              exact ⟨ret_int (by rw [NX.out]; rfl), chain HW.out hb2⟩
            | false =>
              by_cases h1 : v.id = f.id
              · have h1' : (v.id != f.id) = false := by simp [h1]
                have H1 := Lib.hid h1
                clear h1
                by_cases h2 : v.ent.toList = f.ent.toList
                · have h2' : (v.ent.toList != f.ent.toList) = false := by simp [h2]
                  have h2b : (v.ent.toList == f.ent.toList) = true := by simp [h2]
                  have H2 := Lib.hid h2
                  clear h2
                  by_cases h3 : v.st ≤ p.st
                  · have NX := Lib.hid (show R = 16 by rw [HG1.out, HL.out, hpg]; simp [H1.out, H2.out, h3])
                    go_wp2_with (go_at_call 25; (with_reducible refine (CV.out _ HW.out).mono ?_); rintro e w2 ⟨rfl, hb2⟩; obtain ⟨y0, y1, y2, y3, y4, y5, y6⟩ := HX.out.below hb2; obtain ⟨p0, p1, p2, p3, p4, p5, p6⟩ := HP.out.below hb2; rw [hpg] at p6; obtain ⟨f0, f1, f2, f3, f4, f5, f6⟩ := HFX.out.below hb2)
                    go_region
                    go_wp2_with fail
                    go_region
                    go_wp2_with fail
                    go_region
                    go_wp2_with fail
                    go_ret
                    exact ⟨ret_int (by rw [NX.out]; rfl), belowN (belowN (belowN (chain HW.out hb2) _) _) _⟩
                  · have NX := Lib.hid (show R = goE l (j + 1 + 1) by rw [HG1.out, HL.out, hpg]; simp [H1.out, H2.out, h3])
                    go_wp2_with (go_at_call 25; (with_reducible refine (CV.out _ HW.out).mono ?_); rintro e w2 ⟨rfl, hb2⟩; obtain ⟨y0, y1, y2, y3, y4, y5, y6⟩ := HX.out.below hb2; obtain ⟨p0, p1, p2, p3, p4, p5, p6⟩ := HP.out.below hb2; rw [hpg] at p6; obtain ⟨f0, f1, f2, f3, f4, f5, f6⟩ := HFX.out.below hb2)
                    go_region
                    go_wp2_with fail
                    go_region
                    go_wp2_with fail
                    go_region
                    go_wp2_with fail
                    exact ⟨⟨j + 1 + 1, by omega, by go_num, NX.out, belowN (belowN (belowN (chain HW.out hb2) _) _) _⟩, by simp [intOf] <;> omega⟩
                · have h2' : (v.ent.toList != f.ent.toList) = true := by rw [bne_iff_ne]; exact h2
                  have h2b : (v.ent.toList == f.ent.toList) = false := by rw [beq_eq_false_iff_ne]; exact h2
                  have NX := Lib.hid (show R = 8 by rw [HG1.out, HL.out, hpg]; simp [H1.out, h2])
                  go_wp2_with (go_at_call 25; (with_reducible refine (CV.out _ HW.out).mono ?_); rintro e w2 ⟨rfl, hb2⟩; obtain ⟨y0, y1, y2, y3, y4, y5, y6⟩ := HX.out.below hb2; obtain ⟨p0, p1, p2, p3, p4, p5, p6⟩ := HP.out.below hb2; rw [hpg] at p6; obtain ⟨f0, f1, f2, f3, f4, f5, f6⟩ := HFX.out.below hb2)
                  go_region
                  go_wp2_with fail
                  go_region
                  go_wp2_with fail
                  go_ret
                  exact ⟨ret_int (by rw [NX.out]; rfl), belowN (belowN (chain HW.out hb2) _) _⟩
              · have h1' : (v.id != f.id) = true := by rw [bne_iff_ne]; exact h1
                have NX := Lib.hid (show R = 2 by rw [HG1.out, HL.out, hpg]; simp [h1])
                go_wp2_with (go_at_call 25; (with_reducible refine (CV.out _ HW.out).mono ?_); rintro e w2 ⟨rfl, hb2⟩; obtain ⟨y0, y1, y2, y3, y4, y5, y6⟩ := HX.out.below hb2; obtain ⟨p0, p1, p2, p3, p4, p5, p6⟩ := HP.out.below hb2; rw [hpg] at p6; obtain ⟨f0, f1, f2, f3, f4, f5, f6⟩ := HFX.out.below hb2)
                go_region
                go_wp2_with fail
                go_ret
                exact ⟨ret_int (by rw [NX.out]; rfl), belowN (chain HW.out hb2) _⟩
      · obtain rfl : k = n := by omega
        have hlt' : ¬ (k : Int) < (k : Int) := by omega
        have NX := Lib.hid (show R = 0 by rw [HGK.out]; have := @goE_end l (by have := HN.out; omega); rwa [HN.out] at this)
        go_wp2_with fail
        go_ret
        exact ⟨ret_int (by rw [NX.out]; rfl), HW.out⟩

end Go.Proofs.Ytpeifijcpemjeaa

/-
  The document's Rows of a chain.
-/
namespace Go.Proofs.Ytpeifijcpemjeaa
open Go.RowKit

/-- The row of the version at a place. -/
def rowAt (l : List Vr) (k : Nat) (v : Vr) : Rw := ⟨v, match l[k + 1]? with | some w => w.st | none => 4611686018427387904⟩
theorem rowsV_take {l : List Vr} {k : Nat} {v : Vr} (h : l[k]? = some v) : (rowsV l).take (k + 1) = (rowsV l).take k ++ [rowAt l k v] := by
  rw [List.take_add_one, rowsV_get l k v h]; rfl
theorem rowsV_mem : ∀ (l : List Vr) (r : Rw), r ∈ rowsV l → r.v ∈ l
  | [], r, h => by simp [rowsV] at h
  | [v], r, h => by simp [rowsV] at h; subst h; simp
  | v :: w :: l, r, h => by
    rw [rowsV] at h
    rcases List.mem_cons.1 h with rfl | h
    · simp
    · exact List.mem_cons_of_mem _ (rowsV_mem (w :: l) r h)
theorem rowsL_mem {l : List Vr} {r : Rw} (h : r ∈ rowsL l) : r.v ∈ l := by
  unfold rowsL at h
  split at h
  · exact rowsV_mem l r h
  · simp at h

set_option maxHeartbeats 4000000 in
set_option maxRecDepth 100000 in
theorem drowsc_any (w : World) (u : Value) (l : List Vr) (hl : VersL w u l) (hok : ∀ v ∈ l, okF v.fs) (hn : l.length ≤ 100000) (hfs : ∀ v ∈ l, v.fs.length ≤ 100000) (hz : ∀ v ∈ l, v.ent.size ≤ 9223372036854775807) :
    Calls Try.prog 11 #[u] w fun e w' => ∃ x, e = .returned (.tuple #[x, .int .i64 ((chkL l : Nat) : Int)]) ∧ RowsR w' x (rowsL l) ∧ Below w.heap.size w w' := by
  have CC := Lib.hid (dchk_any w u l hl hok hn hfs hz)
  obtain ⟨⟨A, c, rfl, hA, hc, hnc⟩, hVF⟩ := hl
  have HA := Lib.hid hA
  have HVF := Lib.hid hVF
  obtain ⟨n, hnm⟩ : ∃ n, l.length = n := ⟨_, rfl⟩
  rw [hnm] at hn hc CC ⊢
  have HN := Lib.hid hnm
  clear hA hc hnc hVF hok hfs hz hnm
  by_cases h0 : chkL l = 0
  · have HR := Lib.hid (show rowsL l = rowsV l by unfold rowsL; rw [if_pos h0])
    have H0 := Lib.hid h0
    rw [h0] at CC
    clear h0
    go_enter Try.func11, Try.ntmps11
    go_wp2_with (go_at_call 13; (with_reducible refine CC.out.mono ?_); rintro e w1 ⟨rfl, hb1⟩; have HB1 := Lib.hid hb1; clear hb1)
    go_loopw [5, 6] (fun o i wr => ∃ (k : Nat) (acc : List Rw), k ≤ n ∧ i = .int .i64 (k : Nat) ∧ acc = (rowsV l).take k ∧ OE ER w acc o wr) (fun _ i _ => n - (intOf i).toNat)
    case atStart => exact ⟨0, [], Nat.zero_le _, rfl, rfl, (OE.nil w).below HB1.out⟩
    case round =>
      obtain ⟨k, acc, hk, rfl, hacc, hO⟩ := hrel
      have HACC := Lib.hid hacc
      have HO := Lib.hid hO
      clear hacc hO
      by_cases hlt : k < n
      · have hlt' : (k : Int) < (n : Int) := by omega
        obtain ⟨x, hx⟩ : ∃ x, l[k]? = some x := ⟨_, List.getElem?_eq_getElem (by have := HN.out; omega)⟩
        have NX := Lib.hid (show acc ++ [rowAt l k x] = (rowsV l).take (k + 1) by rw [HACC.out, rowsV_take hx])
        have HLEN := Lib.hid (show acc.length ≤ 100000 by rw [HACC.out, List.length_take, rowsV_length]; have := HN.out; omega)
        obtain ⟨g, off, rfl, hX⟩ := (HA.out.below HO.out.bel).cells7 hx
        obtain ⟨x0, x1, x2, x3, x4, x5, x6⟩ := hX
        by_cases hl2 : k + 1 < n
        · obtain ⟨m, hm⟩ : ∃ m, k + 1 = m := ⟨_, rfl⟩
          have hk1 : IntKind.i64.wrap ((k : Int) + 1) = (m : Int) := by rw [IntWalk.i64_in _ (by omega)]; omega
          have hl2' : (m : Int) < (n : Int) := by omega
          obtain ⟨y, hy⟩ : ∃ y, l[m]? = some y := ⟨_, List.getElem?_eq_getElem (by have := HN.out; omega)⟩
          have HRA := Lib.hid (show rowAt l k x = ⟨x, y.st⟩ by unfold rowAt; rw [hm, hy])
          obtain ⟨g', off', he, hY⟩ := (HA.out.below HO.out.bel).cells7 hy
          injection he with he
          injection he with e1 e2 _
          subst e1 e2
          have y1 : (wr.alloc (ocR ⟨x, 4611686018427387904⟩)).cell? ⟨g, off + m * 7 + 1, none⟩ = some (.int .i64 y.st) := keepc ((bl wr).alloc (Nat.le_refl _) _) hY.2.1
          have HM := Lib.hid hm
          have HO2 := Lib.hid (HO.out.below ((bl wr).alloc (Nat.le_refl _) (ocR ⟨x, y.st⟩)))
          have HO3 := Lib.hid (HO2.out.below ((bl _).alloc (Nat.le_refl _) (ocR ⟨x, y.st⟩)))
          clear hx hy hY hm
          generalize y.st = ys at *
          go_wp2_with (first
            | (at_builtin; refine wpList_appE (E := ER) (xs := [⟨x, ys⟩]) rfl (.tmp 36) (.tmp 38) rfl rfl rfl HO3.out.own rfl rfl (by have hrow := rowE_one (E := ER) (wr.alloc (ocR ⟨x, ys⟩)) ⟨x, ys⟩ #[.int .i64 x.id, .int .i64 x.st, .string x.ent, .int .i64 x.sf, .int .i64 x.se, .slice x.fa x.fs.length x.fc, .bool x.gone, .int .i64 ys] rfl 51; first | exact hrow | (simp at hrow ⊢; exact hrow)) (fun h => by cases h) (by have := HLEN.out; simp; omega) HO3.out.bel.size ?_; intro v' w3 hown3 hg3; have HN3 := Lib.hid (HO3.out.grown hg3 hown3); clear hown3 hg3)
            | go_in)
          exact ⟨⟨k + 1, acc ++ [⟨x, ys⟩], by omega, by have := HM.out; go_num, by rw [← NX.out, HRA.out], HN3.out⟩, by have := HM.out; simp [intOf] <;> omega⟩
        · have hl2' : ¬ (k : Int) + 1 < (n : Int) := by omega
          have hk1 : IntKind.i64.wrap ((k : Int) + 1) = (k : Int) + 1 := IntWalk.i64_in _ (by omega)
          have HRA := Lib.hid (show rowAt l k x = ⟨x, 4611686018427387904⟩ by unfold rowAt; rw [List.getElem?_eq_none (by have := HN.out; omega)])
          have HO2 := Lib.hid (HO.out.below ((bl wr).alloc (Nat.le_refl _) (ocR ⟨x, 4611686018427387904⟩)))
          have HO3 := Lib.hid (HO2.out.below ((bl _).alloc (Nat.le_refl _) (ocR ⟨x, 4611686018427387904⟩)))
          clear hx
          go_wp2_with (first
            | (at_builtin; refine wpList_appE (E := ER) (xs := [⟨x, 4611686018427387904⟩]) rfl (.tmp 36) (.tmp 38) rfl rfl rfl HO3.out.own rfl rfl (by have hrow := rowE_one (E := ER) (wr.alloc (ocR ⟨x, 4611686018427387904⟩)) ⟨x, 4611686018427387904⟩ #[.int .i64 x.id, .int .i64 x.st, .string x.ent, .int .i64 x.sf, .int .i64 x.se, .slice x.fa x.fs.length x.fc, .bool x.gone, .int .i64 4611686018427387904] rfl 51; first | exact hrow | (simp at hrow ⊢; exact hrow)) (fun h => by cases h) (by have := HLEN.out; simp; omega) HO3.out.bel.size ?_; intro v' w3 hown3 hg3; have HN3 := Lib.hid (HO3.out.grown hg3 hown3); clear hown3 hg3)
            | go_in)
          exact ⟨⟨k + 1, acc ++ [⟨x, 4611686018427387904⟩], by omega, by go_num, by rw [← NX.out, HRA.out], HN3.out⟩, by simp [intOf] <;> omega⟩
      · obtain rfl : k = n := by omega
        have hlt' : ¬ (k : Int) < (k : Int) := by omega
        have HX := Lib.hid (show acc = rowsL l by rw [HACC.out, HR.out, List.take_of_length_le (by rw [rowsV_length]; have := HN.out; omega)])
        go_wp2_with fail
        go_ret2
        exact ⟨_, by rw [H0.out]; rfl, by rw [← HX.out]; exact ⟨HO.out.list, fun r hr => (HVF.out r.v (rowsL_mem (by rw [← HX.out]; exact hr))).below HO.out.bel⟩, HO.out.bel⟩
  · have HR := Lib.hid (show rowsL l = [] by unfold rowsL; rw [if_neg h0])
    have h0' : ¬ ((chkL l : Nat) : Int) = 0 := by omega
    generalize chkL l = z at *
    clear h0
    go_enter Try.func11, Try.ntmps11
    go_wp2_with (go_at_call 13; (with_reducible refine CC.out.mono ?_); rintro e w1 ⟨rfl, hb1⟩; have HB1 := Lib.hid hb1; clear hb1)
    go_ret2
    exact ⟨_, rfl, by rw [HR.out]; exact ⟨ListE.nil _, fun r hr => by simp at hr⟩, HB1.out⟩

end Go.Proofs.Ytpeifijcpemjeaa

/-
  The program's steps: what takes a thing and keeps it, and steps done one behind the other.
-/
namespace Go.Proofs.Ytpeifijcpemjeaa
open Go.RowKit

/-- Two boxes that a step has captured. -/
structure InBox (w : World) (bt bk : Nat) (tk kp : Value) : Prop where
  t : w.cell? ⟨bt, 0, none⟩ = some tk
  k : w.cell? ⟨bk, 0, none⟩ = some kp
theorem InBox.below {w w' : World} {bt bk : Nat} {tk kp : Value} (h : InBox w bt bk tk kp) (hb : Below w.heap.size w w') : InBox w' bt bk tk kp := ⟨keepc hb h.t, keepc hb h.k⟩
theorem ne_cells {w : World} {b c : Nat} {u v : Value} (hb : w.cell? ⟨b, 0, none⟩ = some u) (hc : w.cell? ⟨c, 0, none⟩ = some v) (h : u ≠ v) : c ≠ b := fun e => by
  subst e
  rw [hb] at hc
  exact h (Option.some.inj hc)
abbrev fnv (f : Nat) : Value := .func (.func f) #[] #[]
abbrev ptr (b o : Nat) : Value := .pointer (some ⟨b, o, none⟩)

end Go.Proofs.Ytpeifijcpemjeaa

/-
  What a text begins with, as a text, by the program: TakeText.
-/
namespace Go.Proofs.Ytpeifijcpemjeaa
open Go.RowKit

def TextPost (s : ByteArray) (most : Int) (w : World) (e : Ending) (w' : World) : Prop := e = .returned (.tuple #[.string (ttS s most), .string (ttR s most), .int .i64 (ttE s most : Int)]) ∧ Below w.heap.size w w'
theorem ret_sse {s t u v : ByteArray} {c d : Int} (h : s = t) (k : u = v) (l : c = d) : Ending.returned (.tuple #[.string s, .string u, .int .i64 c]) = .returned (.tuple #[.string t, .string v, .int .i64 d]) := by rw [h, k, l]
theorem tt_err {s : ByteArray} {most : Int} (h : tkE s ≠ 0) : ttS s most = ⟨#[]⟩ ∧ ttR s most = ⟨#[]⟩ ∧ ttE s most = tkE s := by
  simp only [ttS, ttR, ttE, tt, if_pos h]; exact ⟨trivial, trivial, trivial⟩
theorem tt_most {s : ByteArray} {most : Int} (h : tkE s = 0) (h2 : most < tkN s) : ttS s most = ⟨#[]⟩ ∧ ttR s most = ⟨#[]⟩ ∧ ttE s most = 4 := by
  have h' : ¬ tkE s ≠ 0 := fun k => k h
  simp only [ttS, ttR, ttE, tt, if_neg h', if_pos h2]; exact ⟨trivial, trivial, trivial⟩
theorem tt_end {s : ByteArray} {most : Int} (h : tkE s = 0) (h2 : ¬ most < tkN s) (h3 : (tkR s).size < tkN s) : ttS s most = ⟨#[]⟩ ∧ ttR s most = ⟨#[]⟩ ∧ ttE s most = 9 := by
  have h' : ¬ tkE s ≠ 0 := fun k => k h
  simp only [ttS, ttR, ttE, tt, if_neg h', if_neg h2, if_pos h3]; exact ⟨trivial, trivial, trivial⟩
theorem tt_good {s : ByteArray} {most : Int} (h : tkE s = 0) (h2 : ¬ most < tkN s) (h3 : ¬ (tkR s).size < tkN s) : ttS s most = (tkR s).extract 0 (tkN s) ∧ ttR s most = (tkR s).extract (tkN s) (tkR s).size ∧ ttE s most = 0 := by
  have h' : ¬ tkE s ≠ 0 := fun k => k h
  simp only [ttS, ttR, ttE, tt, if_neg h', if_neg h2, if_neg h3]; exact ⟨trivial, trivial, trivial⟩

end Go.Proofs.Ytpeifijcpemjeaa

/-
  A version as it is read, step by step: plain facts.
-/
namespace Go.Proofs.Ytpeifijcpemjeaa

theorem ttR_small (s : ByteArray) (most : Int) : (ttR s most).size ≤ s.size := by
  have h := tkR_size s
  by_cases h1 : tkE s = 0
  · by_cases h2 : most < tkN s
    · rw [(tt_most h1 h2).2.1]; exact Nat.zero_le _
    · by_cases h3 : (tkR s).size < tkN s
      · rw [(tt_end h1 h2 h3).2.1]; exact Nat.zero_le _
      · rw [(tt_good h1 h2 h3).2.1, ByteArray.size_extract]; omega
  · rw [(tt_err h1).2.1]; exact Nat.zero_le _
theorem takeG_size : ∀ (n : Nat) (o : Option ByteArray) (s : ByteArray), (takeG n o s).2.1.size ≤ s.size
  | 0, _, _ => Nat.le_refl _
  | n + 1, o, s => by
    have ih := takeG_size n (some (ttS s 12)) (tkR (ttR s 12))
    have h1 := ttR_small s 12
    have h2 := tkR_size (ttR s 12)
    rw [takeG]
    repeat' split
    all_goals first | exact Nat.zero_le _ | exact Nat.le_trans ih (Nat.le_trans h2 h1)
theorem takeF_size (s : ByteArray) : (takeF s).2.1.size ≤ s.size := by
  have h1 := tkR_size s
  have h2 := takeG_size (tkN s) none (tkR s)
  unfold takeF
  split
  · exact Nat.zero_le _
  · split
    · exact Nat.zero_le _
    · exact Nat.le_trans h2 h1

def noP (e : Nat) : TV := (noV, ⟨#[]⟩, e)
def rdF (v : Vr) (l : Int) (s : ByteArray) : TV := if (takeF s).2.2 ≠ 0 then noP (takeF s).2.2 else ({v with fs := (takeF s).1, se := v.sf + l}, (takeF s).2.1, 0)
def rdL (v : Vr) (s : ByteArray) : TV := if tkE s ≠ 0 then noP (tkE s) else rdF v (tkN s) (tkR s)
/-- What a version sets. -/
def rdS (v : Vr) (s : ByteArray) : TV := if v.gone = true then (v, s, 0) else if tkE s ≠ 0 then noP (tkE s) else rdL {v with sf := unzig (tkN s)} (tkR s)
/-- What is wrong with the place that tells whether it is gone. -/
def gnE (s : ByteArray) : Nat := if tkE s ≠ 0 then tkE s else if 1 < tkN s then 8 else 0
def rdG (v : Vr) (s : ByteArray) : TV := if gnE s ≠ 0 then noP (gnE s) else rdS {v with gone := decide (tkN s = 1)} (tkR s)
def rdE (v : Vr) (s : ByteArray) : TV := if ttE s 24 ≠ 0 then noP (ttE s 24) else rdG {v with ent := ttS s 24} (ttR s 24)
def rdT (v : Vr) (s : ByteArray) : TV := if tkE s ≠ 0 then noP (tkE s) else rdE {v with st := tkN s} (tkR s)
def rdI (v : Vr) (s : ByteArray) : TV := if tkE s ≠ 0 then noP (tkE s) else rdT {v with id := tkN s} (tkR s)
def rdV (s : ByteArray) : TV := rdI noV s
/-- Read, and then looked at. -/
def lookV (r : TV) : TV := if r.2.2 ≠ 0 then badV r.2.2 else endV r.1 r.2.1
theorem look_no (e : Nat) (h : e ≠ 0) : lookV (noP e) = badV e := by unfold lookV noP; rw [if_pos h]
theorem restV_rd (id st : Int) (ent s : ByteArray) : restV id st ent s = lookV (rdS ⟨id, st, ent, 0, 0, none, 0, [], false⟩ s) := by
  unfold restV rdS
  rw [if_neg (show ¬ (false = true) by simp)]
  by_cases h1 : tkE s ≠ 0
  · rw [if_pos h1, if_pos h1, look_no _ h1]
  · rw [if_neg h1, if_neg h1, rdL]
    by_cases h2 : tkE (tkR s) ≠ 0
    · rw [if_pos h2, if_pos h2, look_no _ h2]
    · rw [if_neg h2, if_neg h2, rdF]
      by_cases h3 : (takeF (tkR (tkR s))).2.2 ≠ 0
      · rw [if_pos h3, if_pos h3, look_no _ h3]
      · rw [if_neg h3, if_neg h3]; rfl
theorem goneV_rd (id st : Int) (ent s : ByteArray) : goneV id st ent s = lookV (rdG ⟨id, st, ent, 0, 0, none, 0, [], false⟩ s) := by
  unfold goneV rdG
  by_cases h1 : tkE s ≠ 0
  · have e : gnE s = tkE s := by unfold gnE; rw [if_pos h1]
    rw [if_pos h1, e, if_pos h1, look_no _ h1]
  · rw [if_neg h1]
    by_cases h2 : 1 < tkN s
    · have e : gnE s = 8 := by unfold gnE; rw [if_neg h1, if_pos h2]
      rw [if_pos h2, e]; rfl
    · have e : gnE s = 0 := by unfold gnE; rw [if_neg h1, if_neg h2]
      rw [if_neg h2, e, if_neg (show ¬ (0 : Nat) ≠ 0 from fun h => h rfl)]
      by_cases h3 : tkN s = 1
      · rw [if_pos h3, decide_eq_true h3]; rfl
      · rw [if_neg h3, decide_eq_false h3, restV_rd]
theorem entV_rd (id st : Int) (s : ByteArray) : entV id st s = lookV (rdE ⟨id, st, ⟨#[]⟩, 0, 0, none, 0, [], false⟩ s) := by
  unfold entV rdE
  by_cases h1 : ttE s 24 ≠ 0
  · rw [if_pos h1, if_pos h1, look_no _ h1]
  · rw [if_neg h1, if_neg h1, goneV_rd]
theorem takeVs_rd (s : ByteArray) : takeVs s = lookV (rdV s) := by
  unfold takeVs rdV rdI
  by_cases h1 : tkE s ≠ 0
  · rw [if_pos h1, if_pos h1, look_no _ h1]
  · rw [if_neg h1, if_neg h1, rdT]
    by_cases h2 : tkE (tkR s) ≠ 0
    · rw [if_pos h2, if_pos h2, look_no _ h2]
    · rw [if_neg h2, if_neg h2, entV_rd]; rfl

/-- A row, as the program reads it: the version is looked at when Until is read, too. -/
def takeRp (s : ByteArray) : TR :=
  if (rdV s).2.2 ≠ 0 then badR (rdV s).2.2
  else if tkE (rdV s).2.1 ≠ 0 then badR (tkE (rdV s).2.1)
  else endR ⟨(rdV s).1, untilI (tkN (rdV s).2.1)⟩ (tkR (rdV s).2.1)
theorem takeRp_put {r : Rw} (h : rightR r = 0) (b : ByteArray) : takeRp (putR r ++ b) = (contR r, b, 0) := by
  have k := takeRs_put h b
  generalize putR r ++ b = s at *
  unfold takeRs at k
  rw [takeVs_rd] at k
  unfold takeRp
  by_cases h1 : (rdV s).2.2 ≠ 0
  · have e : lookV (rdV s) = badV (rdV s).2.2 := by unfold lookV; rw [if_pos h1]
    rw [e, if_pos (show (badV (rdV s).2.2).2.2 ≠ 0 from h1)] at k
    exact absurd (congrArg (fun z : TR => z.2.2) k) h1
  · have e : lookV (rdV s) = endV (rdV s).1 (rdV s).2.1 := by unfold lookV; rw [if_neg h1]
    rw [e] at k
    by_cases h2 : rightV (rdV s).1 = 0
    · have e2 : endV (rdV s).1 (rdV s).2.1 = ((rdV s).1, (rdV s).2.1, 0) := by unfold endV; rw [if_pos h2]
      rw [e2, if_neg (by simp)] at k
      rw [if_neg h1]
      exact k
    · have e2 : endV (rdV s).1 (rdV s).2.1 = badV 8 := by unfold endV; rw [if_neg h2]
      rw [e2, if_pos (show (badV 8).2.2 ≠ 0 by show (8 : Nat) ≠ 0; decide)] at k
      have := congrArg (fun z : TR => z.2.2) k
      exact absurd this (by show (8 : Nat) ≠ 0; decide)

/-- What was read is small enough. -/
def GV (v : Vr) : Prop := okF v.fs ∧ v.fs.length ≤ 1000 ∧ v.ent.size ≤ 9223372036854775807
theorem GV.no : GV noV := ⟨fun f h => by simp [noV] at h, by simp [noV], by show (0 : Nat) ≤ _; exact Nat.zero_le _⟩
theorem ttS_small (s : ByteArray) (most : Int) : (ttS s most).size ≤ s.size := by
  have h := tkR_size s
  by_cases h1 : tkE s = 0
  · by_cases h2 : most < tkN s
    · rw [(tt_most h1 h2).1]; exact Nat.zero_le _
    · by_cases h3 : (tkR s).size < tkN s
      · rw [(tt_end h1 h2 h3).1]; exact Nat.zero_le _
      · rw [(tt_good h1 h2 h3).1, ByteArray.size_extract]; omega
  · rw [(tt_err h1).1]; exact Nat.zero_le _
theorem takeG_small : ∀ (n : Nat) (o : Option ByteArray) (s : ByteArray), (∀ f ∈ (takeG n o s).1, f.n.size ≤ s.size) ∧ (takeG n o s).1.length ≤ n
  | 0, _, _ => ⟨fun f h => by simp [takeG] at h, Nat.le_refl _⟩
  | n + 1, o, s => by
    obtain ⟨i1, i2⟩ := takeG_small n (some (ttS s 12)) (tkR (ttR s 12))
    have h1 := ttR_small s 12
    have h2 := tkR_size (ttR s 12)
    have h3 := ttS_small s 12
    rw [takeG]
    repeat' split
    all_goals first
      | exact ⟨fun f h => by simp at h, Nat.zero_le _⟩
      | (refine ⟨fun f h => ?_, Nat.succ_le_succ i2⟩
         rcases List.mem_cons.1 h with rfl | h
         · exact h3
         · have := i1 f h; omega)
theorem takeF_small (s : ByteArray) : (∀ f ∈ (takeF s).1, f.n.size ≤ s.size) ∧ (takeF s).1.length ≤ 8 := by
  have h1 := tkR_size s
  obtain ⟨i1, i2⟩ := takeG_small (tkN s) none (tkR s)
  unfold takeF
  split
  · exact ⟨fun f h => by simp at h, Nat.zero_le _⟩
  · split
    · exact ⟨fun f h => by simp at h, Nat.zero_le _⟩
    · exact ⟨fun f h => by have := i1 f h; omega, by omega⟩
theorem rdF_gv {v : Vr} (h : GV v) (l : Int) {s : ByteArray} (hs : s.size ≤ 9223372036854775807) : GV (rdF v l s).1 := by
  obtain ⟨i1, i2⟩ := takeF_small s
  unfold rdF
  split
  · exact GV.no
  · exact ⟨fun f hf => Nat.le_trans (i1 f hf) hs, Nat.le_trans i2 (by decide), h.2.2⟩
theorem rdL_gv {v : Vr} (h : GV v) {s : ByteArray} (hs : s.size ≤ 9223372036854775807) : GV (rdL v s).1 := by
  unfold rdL
  split
  · exact GV.no
  · exact rdF_gv h _ (Nat.le_trans (tkR_size s) hs)
theorem rdS_gv {v : Vr} (h : GV v) {s : ByteArray} (hs : s.size ≤ 9223372036854775807) : GV (rdS v s).1 := by
  unfold rdS
  split
  · exact h
  · split
    · exact GV.no
    · exact rdL_gv (v := {v with sf := unzig (tkN s)}) h (Nat.le_trans (tkR_size s) hs)
theorem rdG_gv {v : Vr} (h : GV v) {s : ByteArray} (hs : s.size ≤ 9223372036854775807) : GV (rdG v s).1 := by
  unfold rdG
  split
  · exact GV.no
  · exact rdS_gv (v := {v with gone := decide (tkN s = 1)}) h (Nat.le_trans (tkR_size s) hs)
theorem rdE_gv {v : Vr} (h : GV v) {s : ByteArray} (hs : s.size ≤ 9223372036854775807) : GV (rdE v s).1 := by
  unfold rdE
  split
  · exact GV.no
  · exact rdG_gv (v := {v with ent := ttS s 24}) ⟨h.1, h.2.1, Nat.le_trans (ttS_small s 24) hs⟩ (Nat.le_trans (ttR_small s 24) hs)
theorem rdV_gv {s : ByteArray} (hs : s.size ≤ 9223372036854775807) : GV (rdV s).1 := by
  unfold rdV rdI
  split
  · exact GV.no
  · unfold rdT
    split
    · exact GV.no
    · exact rdE_gv (v := ⟨tkN s, tkN (tkR s), ⟨#[]⟩, 0, 0, none, 0, [], false⟩) GV.no (Nat.le_trans (tkR_size _) (Nat.le_trans (tkR_size s) hs))

end Go.Proofs.Ytpeifijcpemjeaa

/-
  What a version sets, as the program reads it.
-/
namespace Go.Proofs.Ytpeifijcpemjeaa
open Go.RowKit

abbrev Bz (x : Int) : Prop := -4611686018427387904 < x ∧ x < 4611686018427387904
abbrev NilF (v : Vr) : Prop := v.fs = [] ∧ v.fa = none ∧ v.fc = 0
theorem unzig_bz (s : ByteArray) : Bz (unzig (tkN s)) := by
  have := tkN_lt s
  unfold unzig
  split <;> constructor <;> omega
theorem tkN_bz (s : ByteArray) : Bz ((tkN s : Nat) : Int) := by
  have := tkN_lt s
  constructor <;> omega
def rdS0 (v : Vr) (s : ByteArray) : TV := if tkE s ≠ 0 then noP (tkE s) else rdL {v with sf := unzig (tkN s)} (tkR s)
theorem rdS_here {v : Vr} (h : v.gone = false) (s : ByteArray) : rdS v s = rdS0 v s := by unfold rdS rdS0; rw [if_neg (by rw [h]; simp)]
theorem rdS_gone {v : Vr} (h : v.gone = true) (s : ByteArray) : rdS v s = (v, s, 0) := by unfold rdS; rw [if_pos h]

/-- The cells that reading what a version sets may turn. -/
abbrev MStp (b d : Nat) : Nat → Nat → Prop := fun c o => (c = b ∧ o < 7) ∨ c = d
/-- Where it stands behind k steps. -/
structure RStp0 (b d : Nat) (w : World) (r : ByteArray) (v : Vr) (l : Int) (w' : World) : Prop where
  H : HoldV w' b v
  d0 : w'.cell? ⟨d, 0, none⟩ = some (.int .i64 l)
  f0 : w'.frozen? ⟨d, 0, none⟩ = false
  but : But (MStp b d) w w'
  few : r.size ≤ 4611686018427387903
def RStp (b d n : Nat) (w : World) (T : TV) (k : Nat) (r : ByteArray) (w' : World) : Prop := ∃ v l, RStp0 b d w r v l w' ∧
  ((k = 0 ∧ NilF v ∧ rdS0 (contV v) r = T) ∨ (k = 1 ∧ NilF v ∧ Bz v.sf ∧ rdL (contV v) r = T) ∨ (k = 2 ∧ NilF v ∧ Bz v.sf ∧ Bz l ∧ rdF (contV v) l r = T) ∨
   (k = 3 ∧ FarF n w' v ∧ Bz v.sf ∧ Bz l ∧ (contV {v with se := v.sf + l}, r, 0) = T))
def EStp (b d : Nat) (w : World) (T : TV) (n : Nat) (w' : World) : Prop := T.2.2 = n ∧ ∃ v l, HoldV w' b v ∧ w'.cell? ⟨d, 0, none⟩ = some (.int .i64 l) ∧ w'.frozen? ⟨d, 0, none⟩ = false ∧ But (MStp b d) w w'

theorem RStp0.cell {b d : Nat} {w w' w2 : World} {r r' : ByteArray} {v v' : Vr} {l : Int} {o : Nat} {u : Value} (h : RStp0 b d w r v l w') (hb : Below w'.heap.size w' w2) (ho : o < 7) (hd : d ≠ b)
    (hv : HoldV w2 b v → HoldV (w2.setCell ⟨b, o, none⟩ u) b v') (hr : r'.size ≤ r.size) : RStp0 b d w r' v' l (w2.setCell ⟨b, o, none⟩ u) :=
  ⟨hv (h.H.below hb), (World.cell?_setCell_other _ ⟨b, o, none⟩ ⟨d, 0, none⟩ _ (fun e => hd (by injection e with e1 e2; exact e1.symm))).trans (keepc hb h.d0),
   (World.frozen?_setCell _ _ _ _).trans (keepf hb (lt_of_cell h.d0) h.f0), (h.but.trans (But.of_below hb)).set (.inl ⟨rfl, ho⟩) _, Nat.le_trans hr h.few⟩
theorem RStp0.long {b d : Nat} {w w' w2 : World} {r r' : ByteArray} {v : Vr} {l l' : Int} (h : RStp0 b d w r v l w') (hb : Below w'.heap.size w' w2) (hd : d ≠ b) (hr : r'.size ≤ r.size) : RStp0 b d w r' v l' (w2.setCell ⟨d, 0, none⟩ (.int .i64 l')) :=
  ⟨(h.H.below hb).other (fun e => hd e.symm) _, World.cell?_setCell_same _ _ _ (keepc hb h.d0),
   (World.frozen?_setCell _ _ _ _).trans (keepf hb (lt_of_cell h.d0) h.f0), (h.but.trans (But.of_below hb)).set (.inr rfl) _, Nat.le_trans hr h.few⟩

end Go.Proofs.Ytpeifijcpemjeaa

/-
  The step that reads what a version sets.
-/
namespace Go.Proofs.Ytpeifijcpemjeaa
open Go.RowKit

/-- What a step that reads into block b leaves. -/
def SetPost (b d n : Nat) (w : World) (T : TV) (r : ByteArray) (m : Nat) (w' : World) : Prop := ∃ v l, HoldV w' b v ∧ w'.cell? ⟨d, 0, none⟩ = some (.int .i64 l) ∧ But (MStp b d) w w' ∧
  ((m = 0 ∧ r.size ≤ 4611686018427387903 ∧ FarF n w' v ∧ Bz v.sf ∧ Bz l ∧ (contV {v with se := v.sf + l}, r, 0) = T) ∨ (m ≠ 0 ∧ r = ⟨#[]⟩ ∧ T.2.2 = m))
theorem SetPost.of {b d n : Nat} {w w' : World} {T : TV} {r : ByteArray} {m : Nat} (h : (m = 0 ∧ RStp b d n w T 3 r w') ∨ (m ≠ 0 ∧ r = ⟨#[]⟩ ∧ EStp b d w T m w')) : SetPost b d n w T r m w' := by
  rcases h with ⟨h0, v, l, hR, hc⟩ | ⟨h0, hr, hT, v, l, hH, hd, hf, hb⟩
  · rcases hc with ⟨h, _⟩ | ⟨h, _⟩ | ⟨h, _⟩ | ⟨_, hF, hz, hl, hT⟩
    · exact absurd h (by decide)
    · exact absurd h (by decide)
    · exact absurd h (by decide)
    · exact ⟨v, l, hR.H, hR.d0, hR.but, .inl ⟨h0, hR.few, hF, hz, hl, hT⟩⟩
  · exact ⟨v, l, hH, hd, hb, .inr ⟨h0, hr, hT⟩⟩
def StepPost (b n : Nat) (w : World) (T : TV) (r : ByteArray) (m : Nat) (w' : World) : Prop := ∃ v, HoldV w' b v ∧ But (MV b) w w' ∧
  ((m = 0 ∧ r.size ≤ 4611686018427387903 ∧ FarF n w' v ∧ (contV v, r, 0) = T) ∨ (m ≠ 0 ∧ T.2.2 = m))

theorem set_last {b n : Nat} {w w5 : World} {T : TV} {r : ByteArray} {m : Nat} {Z : Int} {v : Vr} {l : Int} (hn : w.heap.size ≤ n) (hbw : b < w.heap.size) (hZ : IntKind.i64.wrap (v.sf + l) = Z) (hH : HoldV w5 b v) (hb : But (MStp b w.heap.size) (w.alloc (.cells #[.int .i64 0] 3)) w5)
    (hc : (m = 0 ∧ r.size ≤ 4611686018427387903 ∧ FarF n w5 v ∧ Bz v.sf ∧ Bz l ∧ (contV {v with se := v.sf + l}, r, 0) = T) ∨ (m ≠ 0 ∧ r = ⟨#[]⟩ ∧ T.2.2 = m)) {w6 : World} (hb6 : Below w5.heap.size w5 w6) :
    StepPost b w.heap.size w T r m (w6.setCell ⟨b, 4, none⟩ (.int .i64 Z)) := by
  refine ⟨{v with se := Z}, (hH.below hb6).set4 Z, ?_, ?_⟩
  · have h1 : But (MStp b w.heap.size) w w5 := But.ahead ((bl w).alloc (Nat.le_refl _) _) hb
    exact ((h1.trans (But.of_below hb6)).set (.inl ⟨rfl, by omega⟩) _).mono (fun c o hc hm => by
      rcases hm with h | h
      · exact h
      · omega)
  · rcases hc with ⟨h0, hr, hF, hz, hl, hT⟩ | ⟨h0, _, hT⟩
    · have hZ2 : Z = v.sf + l := by
        rw [← hZ, IntKind.wrap_i64]
        obtain ⟨a1, a2⟩ := hz
        obtain ⟨a3, a4⟩ := hl
        omega
      have hF6 := (hF.below hb6).but (M := MV b) ((But.refl _ w6).set (b := b) (o := 4) ⟨rfl, by omega⟩ (.int .i64 Z)) (fun c o hm => by have := hm.1; omega)
      exact .inl ⟨h0, hr, ⟨(hF6.same (v' := {v with se := Z}) rfl rfl rfl).1, fun a ha => Nat.le_trans hn (hF6.2 a ha)⟩, by rw [← hT, hZ2]⟩
    · exact .inr ⟨h0, hT⟩

end Go.Proofs.Ytpeifijcpemjeaa

/-
  The step that reads a version.
-/
namespace Go.Proofs.Ytpeifijcpemjeaa
open Go.RowKit

structure RVer0 (b : Nat) (w : World) (r : ByteArray) (v : Vr) (w' : World) : Prop where
  H : HoldV w' b v
  but : But (MV b) w w'
  few : r.size ≤ 4611686018427387903
def RVer (b n : Nat) (w : World) (T : TV) (k : Nat) (r : ByteArray) (w' : World) : Prop := ∃ v, RVer0 b w r v w' ∧
  ((k = 0 ∧ NilF v ∧ rdI (contV v) r = T) ∨ (k = 1 ∧ NilF v ∧ rdT (contV v) r = T) ∨ (k = 2 ∧ NilF v ∧ rdE (contV v) r = T) ∨ (k = 3 ∧ NilF v ∧ rdG (contV v) r = T) ∨ (k = 4 ∧ NilF v ∧ rdS (contV v) r = T) ∨
   (k = 5 ∧ FarF n w' v ∧ (contV v, r, 0) = T))
def EVer (b : Nat) (w : World) (T : TV) (m : Nat) (w' : World) : Prop := T.2.2 = m ∧ But (MV b) w w'
def VerPost (b n : Nat) (w : World) (T : TV) (r : ByteArray) (m : Nat) (w' : World) : Prop := But (MV b) w w' ∧ ((m = 0 ∧ r.size ≤ 4611686018427387903 ∧ ∃ v, HoldV w' b v ∧ FarF n w' v ∧ (contV v, r, 0) = T) ∨ (m ≠ 0 ∧ T.2.2 = m))
theorem VerPost.of {b n : Nat} {w w' : World} {T : TV} {r : ByteArray} {m : Nat} (h : (m = 0 ∧ RVer b n w T 5 r w') ∨ (m ≠ 0 ∧ r = ⟨#[]⟩ ∧ EVer b w T m w')) : VerPost b n w T r m w' := by
  rcases h with ⟨h0, v, hR, hc⟩ | ⟨h0, hr, hT, hb⟩
  · rcases hc with ⟨h, _⟩ | ⟨h, _⟩ | ⟨h, _⟩ | ⟨h, _⟩ | ⟨h, _⟩ | ⟨_, hF, hT⟩
    · exact absurd h (by decide)
    · exact absurd h (by decide)
    · exact absurd h (by decide)
    · exact absurd h (by decide)
    · exact absurd h (by decide)
    · exact ⟨hR.but, .inl ⟨h0, hR.few, v, hR.H, hF, hT⟩⟩
  · exact ⟨hb, .inr ⟨h0, hT⟩⟩
theorem RVer0.cell {b : Nat} {w w' w2 : World} {r r' : ByteArray} {v v' : Vr} {o : Nat} {u : Value} (h : RVer0 b w r v w') (hb : Below w'.heap.size w' w2) (ho : o < 7)
    (hv : HoldV w2 b v → HoldV (w2.setCell ⟨b, o, none⟩ u) b v') (hr : r'.size ≤ r.size) : RVer0 b w r' v' (w2.setCell ⟨b, o, none⟩ u) :=
  ⟨hv (h.H.below hb), (h.but.trans (But.of_below hb)).set ⟨rfl, ho⟩ _, Nat.le_trans hr h.few⟩

end Go.Proofs.Ytpeifijcpemjeaa

/-
  Which version is there at a stamp, found from behind; what is wrong with a chain, place by place: plain facts.
-/
namespace Go.Proofs.Ytpeifijcpemjeaa

/-- One more version, from behind: it counts if nothing is found, or its stamp is greater. -/
def stepB (a : Int) (v : Vr) (k : Option Vr) : Option Vr := if v.st ≤ a ∧ (∀ u, k = some u → u.st < v.st) then some v else k
def backA (a : Int) (l : List Vr) : Option Vr := l.foldr (stepB a) none
def mergeA (k r : Option Vr) : Option Vr := match k, r with
  | k, none => k
  | none, r => r
  | some x, some u => if x.st ≤ u.st then some u else some x
theorem merge_step (a : Int) (k r : Option Vr) (v : Vr) (hr : ∀ u, r = some u → u.st ≤ a) : mergeA (stepA a k v) r = mergeA k (stepB a v r) := by
  cases k with
  | none =>
    cases r with
    | none => by_cases h : v.st ≤ a <;> simp [stepA, stepB, mergeA, h]
    | some u =>
      have hu := hr u rfl
      by_cases h : v.st ≤ a
      · by_cases h1 : u.st < v.st
        · have h2 : ¬ v.st ≤ u.st := by omega
          simp [stepA, stepB, mergeA, h, h1, h2]
        · have h2 : v.st ≤ u.st := by omega
          simp [stepA, stepB, mergeA, h, h1, h2]
      · simp [stepA, stepB, mergeA, h]
  | some x =>
    cases r with
    | none =>
      by_cases h : v.st ≤ a
      · by_cases h1 : x.st ≤ v.st <;> simp [stepA, stepB, mergeA, h, h1]
      · simp [stepA, stepB, mergeA, h]
    | some u =>
      have hu := hr u rfl
      by_cases h : v.st ≤ a
      · by_cases h1 : x.st ≤ v.st
        · by_cases h2 : u.st < v.st
          · have h3 : ¬ v.st ≤ u.st := by omega
            simp [stepA, stepB, mergeA, h, h1, h2, h3]
          · have h3 : v.st ≤ u.st := by omega
            have h4 : x.st ≤ u.st := by omega
            simp [stepA, stepB, mergeA, h, h1, h2, h3, h4]
        · by_cases h2 : u.st < v.st
          · have h3 : ¬ x.st ≤ u.st := by omega
            simp [stepA, stepB, mergeA, h, h1, h2, h3]
          · simp [stepA, stepB, mergeA, h, h1, h2]
      · simp [stepA, stepB, mergeA, h]
theorem back_le (a : Int) : ∀ (l : List Vr) (u : Vr), backA a l = some u → u.st ≤ a
  | [], u, h => by simp [backA] at h
  | v :: l, u, h => by
    rw [backA, List.foldr_cons, stepB] at h
    split at h
    · rename_i hh
      injection h with h
      rw [← h]; exact hh.1
    · exact back_le a l u h
theorem fold_back (a : Int) : ∀ (l : List Vr) (k : Option Vr), l.foldl (stepA a) k = mergeA k (backA a l)
  | [], k => by cases k <;> rfl
  | v :: l, k => by
    rw [List.foldl_cons, fold_back a l, merge_step a k _ v (back_le a l)]; rfl
theorem atC_back (a : Int) (l : List Vr) : atC a l = backA a l := by
  rw [atC, fold_back]
  cases backA a l <;> rfl
theorem back_next {l : List Vr} {m : Nat} {v : Vr} (a : Int) (h : l[m]? = some v) : backA a (l.drop m) = stepB a v (backA a (l.drop (m + 1))) := by
  rw [drop_consL h, backA, List.foldr_cons]; rfl

/-- What is wrong with the version at a place. -/
def stepE (l : List Vr) (k : Nat) : Nat := match k with
  | 0 => match l[0]? with
    | some f => headE f
    | none => 0
  | k + 1 => match l[0]?, l[k]?, l[k + 1]? with
    | some f, some p, some v => linkE f p v
    | _, _, _ => 0
theorem goE_step {l : List Vr} {k : Nat} (h : k < l.length) : goE l k = if stepE l k ≠ 0 then stepE l k else goE l (k + 1) := by
  obtain ⟨f, hf⟩ : ∃ f, l[0]? = some f := ⟨_, List.getElem?_eq_getElem (by omega)⟩
  cases k with
  | zero => rw [goE_zero hf]; simp only [stepE, hf]
  | succ k =>
    obtain ⟨p, hp⟩ : ∃ p, l[k]? = some p := ⟨_, List.getElem?_eq_getElem (by omega)⟩
    obtain ⟨v, hv⟩ : ∃ v, l[k + 1]? = some v := ⟨_, List.getElem?_eq_getElem h⟩
    rw [goE_succ hf hp hv]; simp only [stepE, hf, hp, hv]

end Go.Proofs.Ytpeifijcpemjeaa

/-
  The program's small words of version: when, first, Entity, Live, places and Compare.
-/
namespace Go.Proofs.Ytpeifijcpemjeaa
open Go.RowKit

/-- The error, if it is so. -/
def whenE (b : Bool) (e : Int) : Int := match b with | true => e | false => 0
theorem when_any (b : Bool) (e : Int) (w : World) : Same 46 #[.bool b, .int .i64 e] w (.int .i64 (whenE b e)) := by
  cases b
  all_goals
    go_enter Try.func46, Try.ntmps46
    go_wp2_with fail
    go_ret
    exact ⟨rfl, rfl⟩
theorem whenE_t {b : Bool} {e : Int} (h : b = true) : whenE b e = e := by subst h; rfl
theorem whenE_f {b : Bool} {e : Int} (h : b = false) : whenE b e = 0 := by subst h; rfl

/-- The first number of a list that is not 0. -/
def firstN : List Int → Int
  | [] => 0
  | x :: l => if x = 0 then firstN l else x
theorem firstN_take {l : List Int} {x : Int} {k : Nat} (h : l[k]? = some x) (hz : firstN (l.take k) = 0) : firstN (l.take (k + 1)) = x := by
  induction l generalizing k with
  | nil => simp at h
  | cons y l ih =>
    cases k with
    | zero =>
      obtain rfl : y = x := by simpa using h
      by_cases hy : y = 0 <;> simp [firstN, hy]
    | succ k =>
      rw [List.take_succ_cons, firstN] at hz ⊢
      by_cases hy : y = 0
      · rw [if_pos hy] at hz ⊢
        exact ih (by simpa using h) hz
      · rw [if_neg hy] at hz; exact absurd hz hy
theorem firstN_stop {l : List Int} {x : Int} {k : Nat} (h : l[k]? = some x) (hz : firstN (l.take k) = 0) (hx : x ≠ 0) : firstN l = x := by
  induction l generalizing k with
  | nil => simp at h
  | cons y l ih =>
    cases k with
    | zero =>
      obtain rfl : y = x := by simpa using h
      rw [firstN, if_neg hx]
    | succ k =>
      rw [List.take_succ_cons, firstN] at hz
      rw [firstN]
      by_cases hy : y = 0
      · rw [if_pos hy] at hz ⊢
        exact ih (by simpa using h) hz
      · rw [if_neg hy] at hz; exact absurd hz hy

set_option maxHeartbeats 1000000 in
theorem first_any (w : World) (g : Nat) (l : List Int) (hc : ∀ i x, l[i]? = some x → w.cell? ⟨g, i, none⟩ = some (.int .i64 x)) (hl : l.length ≤ 1000000) :
    Same 45 #[.slice (some ⟨g, 0, none⟩) l.length l.length] w (.int .i64 (firstN l)) := by
  have HC := Lib.hid hc
  obtain ⟨n, hn⟩ : ∃ n, l.length = n := ⟨_, rfl⟩
  rw [hn] at hl ⊢
  have HN := Lib.hid hn
  obtain ⟨R, hR⟩ : ∃ R, firstN l = R := ⟨_, rfl⟩
  rw [hR]
  have HR := Lib.hid hR
  clear hc hn hR
  go_enter Try.func45, Try.ntmps45
  go_wp2_with fail
  go_loopw [7] (fun i wr => ∃ k : Nat, k ≤ n ∧ i = .int .i64 k ∧ firstN (l.take k) = 0 ∧ wr = w) (fun i _ => n - (intOf i).toNat)
  case atStart => exact ⟨0, Nat.zero_le _, rfl, rfl, rfl⟩
  case round =>
    obtain ⟨k, hk, rfl, hz, rfl⟩ := hrel
    have HZ := Lib.hid hz
    clear hz
    by_cases hlt : k < n
    · have hlt' : (k : Int) < (n : Int) := by omega
      obtain ⟨x, hx⟩ : ∃ x, l[k]? = some x := ⟨_, List.getElem?_eq_getElem (by have := HN.out; omega)⟩
      have c0 := HC.out k x hx
      have HX := Lib.hid hx
      clear hx
      by_cases h0 : x = 0
      · have HF := Lib.hid ((firstN_take HX.out HZ.out).trans h0)
        subst h0
        go_wp2_with fail
        exact ⟨⟨k + 1, by omega, by go_num, HF.out, trivial⟩, by simp [intOf]; omega⟩
      · have HF := Lib.hid (firstN_stop HX.out HZ.out h0)
        go_wp2_with fail
        go_ret
        exact ⟨ret_int (by rw [← HR.out, HF.out]), rfl⟩
    · have hlt' : ¬ (k : Int) < (n : Int) := by omega
      go_wp2_with fail
      go_ret
      refine ⟨ret_int ?_, rfl⟩
      rw [← HR.out, ← HZ.out, List.take_of_length_le (by have := HN.out; omega)]
theorem first2 (w : World) (a b : Int) (T : TypeId) : Same 45 #[.slice (some ⟨w.heap.size, 0, none⟩) 2 2] (w.alloc (.cells #[.int .i64 a, .int .i64 b] T)) (.int .i64 (firstN [a, b])) :=
  first_any _ w.heap.size [a, b] (fun i x h => by
    rcases i with _ | _ | i
    · obtain rfl : a = x := by simpa using h
      simp [go_sem]
    · obtain rfl : b = x := by simpa using h
      simp [go_sem]
    · simp at h) (by simp)
theorem first4 (w : World) (a b c d : Int) (T : TypeId) : Same 45 #[.slice (some ⟨w.heap.size, 0, none⟩) 4 4] (w.alloc (.cells #[.int .i64 a, .int .i64 b, .int .i64 c, .int .i64 d] T)) (.int .i64 (firstN [a, b, c, d])) :=
  first_any _ w.heap.size [a, b, c, d] (fun i x h => by
    rcases i with _ | _ | _ | _ | i
    · obtain rfl : a = x := by simpa using h
      simp [go_sem]
    · obtain rfl : b = x := by simpa using h
      simp [go_sem]
    · obtain rfl : c = x := by simpa using h
      simp [go_sem]
    · obtain rfl : d = x := by simpa using h
      simp [go_sem]
    · simp at h) (by simp)

set_option maxHeartbeats 1000000 in
theorem pent_any (s : ByteArray) (hs : s.size ≤ 9223372036854775807) (w : World) : Ret 47 #[.string s] w (.int .i64 ((entE s : Nat) : Int)) := by
  have W1 := Lib.hid when_any
  have FI := Lib.hid first2
  by_cases h0 : s = ⟨#[]⟩
  · have HE := Lib.hid (show entE s = 2 by rw [h0]; rfl)
    subst h0
    go_enter Try.func47, Try.ntmps47
    go_wp2_with (first
      | (go_at_call 46; (with_reducible refine (W1.out _ _ _).mono ?_); rintro e w2 ⟨rfl, hw2⟩; obtain rfl := hw2.symm)
      | (go_at_call 45; (with_reducible refine (FI.out _ _ _ _).mono ?_); rintro e w2 ⟨rfl, hw2⟩; obtain rfl := hw2.symm))
    go_ret
    exact ⟨ret_int (by rw [HE.out]; rfl), (bl w).alloc (Nat.le_refl _) _⟩
  · have hz : ¬ s.size = 0 := fun h => h0 (nats_inj (a := s) (b := ⟨#[]⟩) (List.eq_nil_of_length_eq_zero (by rw [nats_length]; exact h)))
    have he : (nats s).isEmpty = false := by
      cases h3 : nats s with
      | nil => exact absurd (nats_inj (a := s) (b := ⟨#[]⟩) h3) h0
      | cons => rfl
    have hne : s.toList.isEmpty = false := by
      rw [ByteArray.toList_eq]
      unfold nats at he
      rw [List.isEmpty_map] at he
      exact he
    by_cases h24 : 24 < s.size
    · have h24' : (24 : Int) < (s.size : Int) := by omega
      have HE := Lib.hid (show entE s = 4 by unfold entE; rw [if_neg hz, if_pos h24])
      go_enter Try.func47, Try.ntmps47
      go_wp2_with (first
        | (go_at_call 46; (with_reducible refine (W1.out _ _ _).mono ?_); rintro e w2 ⟨rfl, hw2⟩; obtain rfl := hw2.symm)
        | (go_at_call 45; (with_reducible refine (FI.out _ _ _ _).mono ?_); rintro e w2 ⟨rfl, hw2⟩; obtain rfl := hw2.symm))
      go_ret
      exact ⟨ret_int (by rw [HE.out]; simp [firstN, whenE]), (bl w).alloc (Nat.le_refl _) _⟩
    · have h24' : ¬ (24 : Int) < (s.size : Int) := by omega
      have HE := Lib.hid (show entE s = 0 by unfold entE; rw [if_neg hz, if_neg h24])
      go_enter Try.func47, Try.ntmps47
      go_wp2_with (first
        | (go_at_call 46; (with_reducible refine (W1.out _ _ _).mono ?_); rintro e w2 ⟨rfl, hw2⟩; obtain rfl := hw2.symm)
        | (go_at_call 45; (with_reducible refine (FI.out _ _ _ _).mono ?_); rintro e w2 ⟨rfl, hw2⟩; obtain rfl := hw2.symm))
      go_ret
      exact ⟨ret_int (by rw [HE.out]; rw [whenE_f (b := decide _) (decide_eq_false (by omega))]; rfl), (bl w).alloc (Nat.le_refl _) _⟩

end Go.Proofs.Ytpeifijcpemjeaa

/-
  The program's letter, digit, Name, alone: is a text a name, what is wrong with a field alone.
-/
namespace Go.Proofs.Ytpeifijcpemjeaa
open Go.RowKit

def digitB (c : Nat) : Bool := decide (48 ≤ c) && decide (c ≤ 57)
set_option maxHeartbeats 1000000 in
theorem letter_any (c : Nat) (w : World) : Same 82 #[.int .u8 (c : Int)] w (.bool (letterB c)) := by
  by_cases a1 : 97 ≤ c
  · have a1' : (97 : Int) ≤ (c : Int) := by omega
    by_cases a2 : c ≤ 122
    · have a2' : (c : Int) ≤ 122 := by omega
      have HE := Lib.hid (show letterB c = true by unfold letterB; simp [a1, a2])
      go_enter Try.func82, Try.ntmps82
      go_wp2_with fail
      go_ret
      exact ⟨ret_bool HE.out.symm, rfl⟩
    · have a2' : ¬ (c : Int) ≤ 122 := by omega
      have HE := Lib.hid (show letterB c = false by unfold letterB; simp [a2])
      go_enter Try.func82, Try.ntmps82
      go_wp2_with fail
      go_ret
      exact ⟨ret_bool HE.out.symm, rfl⟩
  · have a1' : ¬ (97 : Int) ≤ (c : Int) := by omega
    have HE := Lib.hid (show letterB c = false by unfold letterB; simp [a1])
    go_enter Try.func82, Try.ntmps82
    go_wp2_with fail
    go_ret
    exact ⟨ret_bool HE.out.symm, rfl⟩
set_option maxHeartbeats 1000000 in
theorem digit_any (c : Nat) (w : World) : Same 83 #[.int .u8 (c : Int)] w (.bool (digitB c)) := by
  by_cases a1 : 48 ≤ c
  · have a1' : (48 : Int) ≤ (c : Int) := by omega
    by_cases a2 : c ≤ 57
    · have a2' : (c : Int) ≤ 57 := by omega
      have HE := Lib.hid (show digitB c = true by unfold digitB; simp [a1, a2])
      go_enter Try.func83, Try.ntmps83
      go_wp2_with fail
      go_ret
      exact ⟨ret_bool HE.out.symm, rfl⟩
    · have a2' : ¬ (c : Int) ≤ 57 := by omega
      have HE := Lib.hid (show digitB c = false by unfold digitB; simp [a2])
      go_enter Try.func83, Try.ntmps83
      go_wp2_with fail
      go_ret
      exact ⟨ret_bool HE.out.symm, rfl⟩
  · have a1' : ¬ (48 : Int) ≤ (c : Int) := by omega
    have HE := Lib.hid (show digitB c = false by unfold digitB; simp [a1])
    go_enter Try.func83, Try.ntmps83
    go_wp2_with fail
    go_ret
    exact ⟨ret_bool HE.out.symm, rfl⟩

set_option maxHeartbeats 4000000 in
set_option maxRecDepth 10000 in
theorem pname_same (s : ByteArray) (hs : s.size ≤ 9223372036854775807) (w : World) : Same 75 #[.string s] w (.bool (nameB s)) := by
  obtain ⟨n, hn⟩ : ∃ n, s.size = n := ⟨_, rfl⟩
  have NE : preOk (nats s) = true → nameB s = (!(nats s).isEmpty && decide (n ≤ 12)) := fun hp => by
    unfold nameB
    rw [nameL_pre, hp, Bool.true_and, nats_length, hn]
  have HN := Lib.hid hn
  by_cases h0 : s = ⟨#[]⟩
  · have NB := Lib.hid (show nameB s = false by rw [h0]; rfl)
    subst h0
    clear NE
    go_enter Try.func75, Try.ntmps75
    go_wp2_with fail
    go_ret
    exact ⟨ret_bool NB.out.symm, rfl⟩
  · have he : (nats s).isEmpty = false := by
      cases h3 : nats s with
      | nil => exact absurd (nats_inj (a := s) (b := ⟨#[]⟩) h3) h0
      | cons => rfl
    have hne : s.toList.isEmpty = false := by
      rw [ByteArray.toList_eq]
      unfold nats at he
      rw [List.isEmpty_map] at he
      exact he
    have hpos : 0 < n := by
      rcases Nat.eq_zero_or_pos n with h | h
      · rw [← nats_length] at hn
        rw [List.eq_nil_of_length_eq_zero (hn.trans h)] at he
        cases he
      · exact h
    by_cases h12 : n ≤ 12
    · have h12' : ¬ (12 : Int) < (n : Int) := by omega
      obtain ⟨c0, hc0⟩ : ∃ c, (nats s)[0]? = some c := ⟨_, List.getElem?_eq_getElem (by rw [nats_length]; omega)⟩
      have hi0 : ∀ w, (Instr.index 9 (.string s) (.int .i64 0)).run Try.prog w = .ok (.int .u8 (c0 : Int)) w := index_run hc0
      have CL0 := Lib.hid (fun w => letter_any c0 w)
      have hg : decide (12 < n) = false := by rw [decide_eq_false_iff_not]; omega
      cases hl0 : letterB c0 with
      | false =>
        rw [hl0] at CL0
        have NB := Lib.hid (name_bad (s := s) (k := 0) hc0 (by simp [preOk]) (by rw [if_pos rfl, hl0]))
        clear NE hc0 hl0 he h0
        go_enter Try.func75, Try.ntmps75
        go_wp2_with (go_at_call 82; with_reducible refine (CL0.out _).mono ?_; rintro e w2 ⟨rfl, hw2⟩; obtain rfl := hw2.symm)
        go_ret
        exact ⟨ret_bool NB.out.symm, rfl⟩
      | true =>
        rw [hl0] at CL0
        have HC0 := Lib.hid hc0
        have HL0 := Lib.hid hl0
        have HNE := Lib.hid NE
        have HE := Lib.hid he
        clear NE hc0 hl0 he h0
        go_enter Try.func75, Try.ntmps75
        go_wp2_with (go_at_call 82; with_reducible refine (CL0.out _).mono ?_; rintro e w2 ⟨rfl, hw2⟩; obtain rfl := hw2.symm)
        go_loopw [19] (fun i wr => ∃ k : Nat, k ≤ n ∧ i = .int .i64 k ∧ preOk ((nats s).take k) = true ∧ wr = w) (fun i _ => n - (intOf i).toNat)
        case atStart => exact ⟨0, Nat.zero_le _, rfl, rfl, rfl⟩
        case round =>
          obtain ⟨k, hk, rfl, hp, hwr⟩ := hrel
          obtain rfl := hwr.symm
          by_cases hlt : k < n
          · have hlt' : (k : Int) < (n : Int) := by omega
            obtain ⟨c, hc⟩ : ∃ c, (nats s)[k]? = some c := ⟨_, List.getElem?_eq_getElem (by have := HN.out; rw [nats_length]; omega)⟩
            have hi := index_run hc
            have NEX := Lib.hid (name_next hc hp)
            have BAD := Lib.hid (name_bad hc hp)
            have CL := Lib.hid (fun w => letter_any c w)
            have CD := Lib.hid (fun w => digit_any c w)
            have K0 := Lib.hid (show letterB c = false → k ≠ 0 by
              intro h e
              subst e
              rw [HC0.out] at hc
              injection hc with hc
              subst hc
              rw [HL0.out] at h
              cases h)
            clear hp hc
            cases hl : letterB c with
            | true =>
              rw [hl] at CL
              have NX := Lib.hid (NEX.out (letter_inner hl))
              clear hl
              go_wp2_with (go_at_call 82; with_reducible refine (CL.out _).mono ?_; rintro e w2 ⟨rfl, hw2⟩; obtain rfl := hw2.symm)
              exact ⟨⟨k + 1, by omega, by go_num, NX.out, trivial⟩, by simp [intOf] <;> omega⟩
            | false =>
              rw [hl] at CL
              have hk0 := K0.out hl
              cases hd : digitB c with
              | true =>
                rw [hd] at CD
                have NX := Lib.hid (NEX.out (by rw [if_neg hk0]; unfold innerB; unfold digitB at hd; rw [hd]; simp))
                clear hl hd hk0
                go_wp2_with (first
                  | (go_at_call 82; with_reducible refine (CL.out _).mono ?_; rintro e w2 ⟨rfl, hw2⟩; obtain rfl := hw2.symm)
                  | (go_at_call 83; with_reducible refine (CD.out _).mono ?_; rintro e w2 ⟨rfl, hw2⟩; obtain rfl := hw2.symm))
                exact ⟨⟨k + 1, by omega, by go_num, NX.out, trivial⟩, by simp [intOf] <;> omega⟩
              | false =>
                rw [hd] at CD
                by_cases c1 : c = 45
                · subst c1
                  have hi : ∀ w, (Instr.index 9 (.string s) (.int .i64 (k : Int))).run Try.prog w = .ok (.int .u8 45) w := hi
                  have CL' := Lib.hid (show ∀ w, Same 82 #[.int .u8 45] w (.bool false) from CL.out)
                  have CD' := Lib.hid (show ∀ w, Same 83 #[.int .u8 45] w (.bool false) from CD.out)
                  have NX := Lib.hid (NEX.out (by rw [if_neg hk0]; rfl))
                  clear hl hd hk0 CL CD
                  go_wp2_with (first
                    | (go_at_call 82; with_reducible refine (CL'.out _).mono ?_; rintro e w2 ⟨rfl, hw2⟩; obtain rfl := hw2.symm)
                    | (go_at_call 83; with_reducible refine (CD'.out _).mono ?_; rintro e w2 ⟨rfl, hw2⟩; obtain rfl := hw2.symm))
                  exact ⟨⟨k + 1, by omega, by go_num, NX.out, trivial⟩, by simp [intOf] <;> omega⟩
                · have b1 : ((c : Int) != 45) = true := by rw [bne_iff_ne]; omega
                  have BD := Lib.hid (BAD.out (by rw [if_neg hk0]; unfold innerB; unfold digitB at hd; rw [hd, hl]; simp [c1]))
                  clear hl hd hk0
                  go_wp2_with (first
                    | (go_at_call 82; with_reducible refine (CL.out _).mono ?_; rintro e w2 ⟨rfl, hw2⟩; obtain rfl := hw2.symm)
                    | (go_at_call 83; with_reducible refine (CD.out _).mono ?_; rintro e w2 ⟨rfl, hw2⟩; obtain rfl := hw2.symm))
                  go_ret
                  exact ⟨ret_bool BD.out.symm, rfl⟩
          · obtain rfl : k = n := by omega
            have hlt' : ¬ (k : Int) < (k : Int) := by omega
            rw [List.take_of_length_le (by have := HN.out; rw [nats_length]; omega)] at hp
            have NB := Lib.hid (show nameB s = true by rw [HNE.out hp, HE.out]; simp [h12])
            clear hp
            go_wp2_with fail
            go_ret
            exact ⟨ret_bool NB.out.symm, rfl⟩
    · have h12' : (12 : Int) < (n : Int) := by omega
      have NB := Lib.hid (show nameB s = false by
        cases hp : preOk (nats s) with
        | true => rw [NE hp]; simp [h12]
        | false => unfold nameB; rw [nameL_pre, hp]; rfl)
      have hg : decide (12 < n) = true := by rw [decide_eq_true_eq]; omega
      clear NE he h0
      go_enter Try.func75, Try.ntmps75
      go_wp2_with fail
      go_ret
      exact ⟨ret_bool NB.out.symm, rfl⟩
theorem pname_any (s : ByteArray) (hs : s.size ≤ 9223372036854775807) (w : World) : Ret 75 #[.string s] w (.bool (nameB s)) := by
  refine (pname_same s hs w).mono ?_
  rintro e _ ⟨rfl, rfl⟩
  exact ⟨rfl, bl _⟩

end Go.Proofs.Ytpeifijcpemjeaa
