/-
  Plain facts on versions: their order by stamps, what they make of the fields.
-/
import Derived.Test.YtjpkeadnccodjaaGget
namespace Go.Proofs.Ytjpkeadnccodjaa

/-- A version; where its fields lie (fa, fc) is no part of what it says. -/
structure Vr where
  id : Int
  st : Int
  ent : ByteArray
  sf : Int
  se : Int
  fa : Option Addr
  fc : Nat
  fs : List Fd
  gone : Bool
/-- A version behind those whose stamps are not greater. -/
def insV : List Vr → Vr → List Vr
  | [], x => [x]
  | y :: l, x => if y.st ≤ x.st then y :: insV l x else x :: y :: l
def ordL (l : List Vr) : List Vr := l.foldl insV []
def SortedV (l : List Vr) : Prop := l.Pairwise fun a b => a.st ≤ b.st
theorem insV_perm : ∀ (l : List Vr) (x : Vr), (insV l x).Perm (x :: l)
  | [], x => .refl _
  | y :: l, x => by
    rw [insV]
    split
    · exact ((insV_perm l x).cons y).trans (List.Perm.swap x y l)
    · exact .refl _
theorem insV_sorted : ∀ (l : List Vr) (x : Vr), SortedV l → SortedV (insV l x)
  | [], x, _ => by simp [insV, SortedV]
  | y :: l, x, h => by
    have h' := List.pairwise_cons.1 h
    rw [insV]
    split
    · refine List.pairwise_cons.2 ⟨fun z hz => ?_, insV_sorted l x h'.2⟩
      rcases List.mem_cons.1 ((insV_perm l x).mem_iff.1 hz) with rfl | hz
      · assumption
      · exact h'.1 z hz
    · refine List.pairwise_cons.2 ⟨fun z hz => ?_, h⟩
      rcases List.mem_cons.1 hz with rfl | hz
      · omega
      · have := h'.1 z hz; omega
theorem foldl_perm : ∀ (l a : List Vr), (l.foldl insV a).Perm (a ++ l)
  | [], a => by rw [List.append_nil]; exact .refl _
  | x :: l, a => by
    refine (foldl_perm l (insV a x)).trans ?_
    refine ((insV_perm a x).append_right l).trans ?_
    rw [List.cons_append]
    exact (List.perm_middle (a := x) (l₁ := a) (l₂ := l)).symm
theorem foldl_sorted : ∀ (l a : List Vr), SortedV a → SortedV (l.foldl insV a)
  | [], _, h => h
  | x :: l, a, h => foldl_sorted l _ (insV_sorted a x h)
theorem ordL_perm (l : List Vr) : (ordL l).Perm l := foldl_perm l []
theorem ordL_sorted (l : List Vr) : SortedV (ordL l) := foldl_sorted l [] List.Pairwise.nil
theorem ordL_length (l : List Vr) : (ordL l).length = l.length := (ordL_perm l).length_eq
theorem ordL_snoc (l : List Vr) (x : Vr) : ordL (l ++ [x]) = insV (ordL l) x := by unfold ordL; rw [List.foldl_append]; rfl
/-- The place of a version among those that are in order. -/
theorem insV_at : ∀ (l : List Vr) (x : Vr) (k : Nat), k ≤ l.length → (∀ j y, j < k → l[j]? = some y → y.st ≤ x.st) → (∀ y, l[k]? = some y → x.st < y.st) → insV l x = l.take k ++ x :: l.drop k
  | [], x, k, hk, _, _ => by
    obtain rfl : k = 0 := by simpa using hk
    rfl
  | y :: l, x, 0, _, _, h => by
    have := h y rfl
    rw [insV, if_neg (by omega)]; rfl
  | y :: l, x, k + 1, hk, h1, h2 => by
    have := h1 0 y (by omega) rfl
    rw [insV, if_pos this, insV_at l x k (by simpa using hk) (fun j z hj hz => h1 (j + 1) z (by omega) (by simpa using hz)) (fun z hz => h2 z (by simpa using hz))]
    rfl
theorem sorted_le {l : List Vr} (h : SortedV l) {i j : Nat} {a b : Vr} (ha : l[i]? = some a) (hb : l[j]? = some b) (hij : i ≤ j) : a.st ≤ b.st := by
  rcases Nat.lt_or_ge i j with hlt | hge
  · have hi : i < l.length := (List.getElem?_eq_some_iff.1 ha).1
    have hj : j < l.length := (List.getElem?_eq_some_iff.1 hb).1
    have := List.pairwise_iff_getElem.1 h i j hi hj hlt
    rw [List.getElem?_eq_getElem hi] at ha
    rw [List.getElem?_eq_getElem hj] at hb
    rw [← Option.some.inj ha, ← Option.some.inj hb]
    exact this
  · obtain rfl : i = j := by omega
    rw [ha] at hb
    rw [Option.some.inj hb]
    exact Int.le_refl _
/-- Seen from the end: all from place k on are greater, the one ahead of it is not. -/
theorem insV_from {l : List Vr} (hs : SortedV l) (x : Vr) (k : Nat) (hk : k ≤ l.length) (h1 : ∀ j y, k ≤ j → l[j]? = some y → x.st < y.st) (h2 : k = 0 ∨ ∃ j y, k = j + 1 ∧ l[j]? = some y ∧ y.st ≤ x.st) : insV l x = l.take k ++ x :: l.drop k := by
  refine insV_at l x k hk (fun j y hj hy => ?_) (fun y hy => h1 k y (Nat.le_refl _) hy)
  rcases h2 with rfl | ⟨j', z, rfl, hz, hle⟩
  · omega
  · have := sorted_le hs hy hz (by omega)
    omega

/-- What versions make of the fields. -/
def countsV (l : List Vr) : List (List Fd) := ((ordL l).filter fun v => !v.gone).map Vr.fs
def ofL (l : List Vr) : List Fd := overL (countsV l).flatten
def coversB (v : Vr) (t : Int) : Bool := !v.gone && (decide (-1099511627776 ≤ v.sf) && decide (v.se ≤ 1099511627776) && decide (v.sf < v.se)) && (decide (v.sf ≤ t) && decide (t < v.se))
def atL (t : Int) (l : List Vr) : List Fd := ofL (l.filter fun v => coversB v t)
/-- The stamp of the last one that has a field of that name. -/
def setsB (v : Vr) (s : ByteArray) : Bool := (getL v.fs s).isSome && !v.gone
def lastS : List Vr → ByteArray → Option Int
  | [], _ => none
  | v :: l, s => match lastS l s with
    | some n => some n
    | none => if setsB v s then some v.st else none
def setL (s : ByteArray) (l : List Vr) : Option Int := lastS (ordL l) s
theorem lastS_snoc : ∀ (l : List Vr) (v : Vr) (s : ByteArray), lastS (l ++ [v]) s = if setsB v s then some v.st else lastS l s
  | [], v, s => by simp [lastS]
  | x :: l, v, s => by
    rw [List.cons_append, lastS, lastS_snoc l v s, lastS]
    by_cases h : setsB v s = true
    · rw [if_pos h, if_pos h]
    · rw [if_neg h, if_neg h]
/-- The names of which two lists do not say the same. -/
def differB (a b : List Fd) (s : ByteArray) : Bool := decide ((getL a s).getD 0 ≠ (getL b s).getD 0) || ((getL a s).isSome != (getL b s).isSome)
def chgL (a b : List Fd) : List ByteArray := ((overL (a ++ b)).map Fd.n).filter fun s => differB a b s
/-- Do two versions say the same? -/
def sameV (a b : Vr) : Bool := decide (a.id = b.id) && decide (a.st = b.st) && decide (a.ent.toList = b.ent.toList) && (decide (a.sf = b.sf) && decide (a.se = b.se)) && (a.gone == b.gone) && sameF a.fs b.fs
def sameVs : List Vr → List Vr → Bool
  | [], [] => true
  | a :: l, b :: m => sameV a b && sameVs l m
  | _, _ => false
theorem sameV_self (a : Vr) : sameV a a = true := by simp [sameV, sameF_self]
theorem sameVs_self : ∀ l : List Vr, sameVs l l = true
  | [] => rfl
  | a :: l => by rw [sameVs, sameV_self, sameVs_self l]; rfl
theorem sameVs_len : ∀ a b : List Vr, a.length ≠ b.length → sameVs a b = false
  | [], [], h => absurd rfl h
  | [], _ :: _, _ => rfl
  | _ :: _, [], _ => rfl
  | f :: a, g :: b, h => by rw [sameVs, sameVs_len a b (fun e => h (by rw [List.length_cons, List.length_cons, e])), Bool.and_false]

end Go.Proofs.Ytjpkeadnccodjaa
