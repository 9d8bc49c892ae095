/-
  Numbers one behind the other, as plain facts: their bytes, and what is taken of a text.
-/
import Derived.Test.YtlpcpmnahijgkaaPnums
namespace Go.Proofs.Ytlpcpmnahijgkaa

def okN (x : Int) : Prop := 0 ≤ x ∧ x ≤ 4611686018427387903
instance (x : Int) : Decidable (okN x) := by unfold okN; infer_instance
/-- The bytes of numbers one behind the other. -/
def concS : List Int → ByteArray
  | [] => ⟨#[]⟩
  | x :: l => numS x ++ concS l
theorem nil_bytes (a : ByteArray) : ByteArray.mk #[] ++ a = a ∧ a ++ ByteArray.mk #[] = a := by
  constructor <;> (apply nats_inj; rw [nats_append]; simp [nats_nil])
theorem concS_append : ∀ l m : List Int, concS (l ++ m) = concS l ++ concS m
  | [], m => (nil_bytes _).1.symm
  | x :: l, m => by rw [List.cons_append, concS, concS, concS_append l m, ByteArray.append_assoc]
theorem concS_snoc (l : List Int) (x : Int) : concS (l ++ [x]) = concS l ++ numS x := by rw [concS_append, concS, concS, (nil_bytes _).2]
theorem concS_size : ∀ l : List Int, (concS l).size ≤ 9 * l.length
  | [] => Nat.le_refl _
  | x :: l => by
    have h1 := num_size x
    have h2 := concS_size l
    rw [concS, ByteArray.size_append, List.length_cons]
    omega
def okL (l : List Int) : Prop := ∀ x ∈ l, okN x
instance (l : List Int) : Decidable (okL l) := by unfold okL; infer_instance
def numsS (l : List Int) : ByteArray := if okL l then concS l else ⟨#[]⟩
def numsE (l : List Int) : Int := if okL l then 0 else 2
theorem nums_ok {l : List Int} (h : okL l) : numsS l = concS l ∧ numsE l = 0 := by
  unfold numsS numsE
  rw [if_pos h, if_pos h]
  exact ⟨rfl, rfl⟩
theorem nums_bad {l : List Int} {x : Int} (hx : x ∈ l) (h : ¬ okN x) : numsS l = ⟨#[]⟩ ∧ numsE l = 2 := by
  have h' : ¬ okL l := fun k => h (k x hx)
  unfold numsS numsE
  rw [if_neg h', if_neg h']
  exact ⟨rfl, rfl⟩
theorem numE_ok {x : Int} (h : okN x) : numE x = 0 := by unfold numE; exact if_pos h
theorem numE_bad {x : Int} (h : ¬ okN x) : numE x = 2 := by unfold numE; exact if_neg h

/-- What is taken of s, k times. -/
def tks : Nat → ByteArray → List Int × ByteArray × Nat
  | 0, s => ([], s, 0)
  | k + 1, s =>
    if tkE s = 0 then (if (tks k (tkR s)).2.2 = 0 then ((tkN s : Int) :: (tks k (tkR s)).1, (tks k (tkR s)).2.1, 0) else ([], ⟨#[]⟩, (tks k (tkR s)).2.2))
    else ([], ⟨#[]⟩, tkE s)
/-- What has been taken already, and what the rest gives. -/
def glue (acc : List Int) (t : List Int × ByteArray × Nat) : List Int × ByteArray × Nat := if t.2.2 = 0 then (acc ++ t.1, t.2.1, 0) else ([], ⟨#[]⟩, t.2.2)
theorem glue_nil (k : Nat) (s : ByteArray) : glue [] (tks k s) = tks k s := by
  unfold glue
  cases k with
  | zero => simp [tks]
  | succ k =>
    unfold tks
    by_cases h : tkE s = 0
    · rw [if_pos h]
      by_cases h2 : (tks k (tkR s)).2.2 = 0
      · rw [if_pos h2]; simp
      · rw [if_neg h2]; simp [h2]
    · rw [if_neg h]; simp [h]
theorem glue_step {acc : List Int} {k : Nat} {s : ByteArray} (h : tkE s = 0) : glue acc (tks (k + 1) s) = glue (acc ++ [(tkN s : Int)]) (tks k (tkR s)) := by
  unfold glue
  rw [tks, if_pos h]
  by_cases h2 : (tks k (tkR s)).2.2 = 0
  · rw [if_pos h2]; simp [h2]
  · rw [if_neg h2]; simp [h2]
theorem glue_err {acc : List Int} {k : Nat} {s : ByteArray} (h : tkE s ≠ 0) : glue acc (tks (k + 1) s) = ([], ⟨#[]⟩, tkE s) := by
  unfold glue
  rw [tks, if_neg h]
  simp [h]
theorem glue_end {acc : List Int} {s : ByteArray} : glue acc (tks 0 s) = (acc, s, 0) := by simp [glue, tks]
/-- Numbers' bytes are taken as they. -/
theorem tks_conc : ∀ (l : List Int) (s : ByteArray), okL l → tks l.length (concS l ++ s) = (l, s, 0)
  | [], s, _ => by rw [concS, (nil_bytes _).1]; rfl
  | x :: l, s, h => by
    have hx : okN x := h x List.mem_cons_self
    have ih := tks_conc l s fun y hy => h y (List.mem_cons_of_mem _ hy)
    obtain ⟨h1, h2, h3⟩ := num_taken hx.1 hx.2 (concS l ++ s)
    rw [concS, ByteArray.append_assoc, List.length_cons, tks, h3, if_pos rfl, h2, ih, h1]
    rfl

/-- TakeNums of any number. -/
def tksI (s : ByteArray) (k : Int) : List Int × ByteArray × Nat := if 0 ≤ k ∧ k ≤ 1000 then tks k.toNat s else ([], ⟨#[]⟩, 2)
theorem tksI_bad {s : ByteArray} {k : Int} (h : ¬ (0 ≤ k ∧ k ≤ 1000)) : tksI s k = ([], ⟨#[]⟩, 2) := by unfold tksI; rw [if_neg h]
theorem tksI_ok {s : ByteArray} {k : Nat} (h : k ≤ 1000) : tksI s k = tks k s := by unfold tksI; rw [if_pos (by omega), Int.toNat_natCast]
theorem tks_len : ∀ (k : Nat) (s : ByteArray), (tks k s).1.length ≤ k
  | 0, _ => Nat.le_refl _
  | k + 1, s => by
    have := tks_len k (tkR s)
    unfold tks
    split
    · split
      · simp; omega
      · simp
    · simp

end Go.Proofs.Ytlpcpmnahijgkaa
