import Derived.Test.YtjpkeadnccodjaaPbits
/-
  Plain facts on taking: a first byte's ones counted and taken off bit by bit, and the number gathered byte by byte, as long as it is not too great.
-/
namespace Go.Proofs.Ytjpkeadnccodjaa

theorem val_append : ∀ l m : List Nat, val (l ++ m) = val l * 256 ^ m.length + val m
  | [], m => by simp [val]
  | b :: l, m => by
    rw [List.cons_append, val, val, val_append l m, List.length_append, Nat.pow_add, Nat.add_mul, ← Nat.mul_assoc]
    omega
theorem val_snoc (l : List Nat) (c : Nat) : val (l ++ [c]) = 256 * val l + c := by
  rw [val_append]
  simp [val]
  omega
/-- The first byte's ones, counted from the top. -/
theorem ones_bits {c : Nat} (hc : c < 256) : ones c ≤ 8 ∧ (∀ j, j < ones c → c / 2 ^ (7 - j) % 2 = 1) ∧ (ones c < 8 → c / 2 ^ (7 - ones c) % 2 = 0) := by
  have key : ∀ c, c < 256 → (ones c ≤ 8 ∧ (∀ j, j < ones c → c / 2 ^ (7 - j) % 2 = 1) ∧ (ones c < 8 → c / 2 ^ (7 - ones c) % 2 = 0)) := by decide +kernel
  exact key c hc
/-- A byte of which the bits from 7 down to 8 - t have been taken off, where they are there. -/
def strip (c : Nat) : Nat → Nat
  | 0 => c
  | t + 1 => if 2 ^ (7 - t) ≤ strip c t then strip c t - 2 ^ (7 - t) else strip c t
theorem strip_all {c : Nat} (hc : c < 256) : strip c (min (ones c + 1) 8) = c - mark (ones c) := by
  have key : ∀ c, c < 256 → strip c (min (ones c + 1) 8) = c - mark (ones c) := by decide +kernel
  exact key c hc
theorem strip_le (c : Nat) : ∀ t, strip c t ≤ c
  | 0 => Nat.le_refl _
  | t + 1 => by
    have := strip_le c t
    unfold strip
    split
    · exact Nat.le_trans (Nat.sub_le _ _) this
    · exact this
/-- The bytes without the mark. -/
def bare (c : Nat) (r : List Nat) : List Nat := (c - mark (ones c)) :: r.take (ones c)
theorem bare_val {c : Nat} {r : List Nat} (hl : ones c ≤ r.length) : val (bare c r) = takeV c r := by
  rw [bare, val, takeV, List.length_take, Nat.min_eq_left hl]
theorem bare_length {c : Nat} {r : List Nat} (hl : ones c ≤ r.length) : (bare c r).length = ones c + 1 := by
  rw [bare, List.length_cons, List.length_take, Nat.min_eq_left hl]
/-- What has been gathered of the first i bytes: their number, or it is too great already. -/
structure Gath (L : List Nat) (i n : Nat) (big : Bool) : Prop where
  not : big = false → n = val (L.take i)
  yes : big = true → 4611686018427387904 ≤ val L
  low : n < 4611686018427387904 * 256
theorem Gath.start (L : List Nat) : Gath L 0 0 false := ⟨fun _ => by simp [val], (fun h => by cases h), by omega⟩
theorem Gath.great {L : List Nat} {i n : Nat} (h : Gath L i n false) (hi : i < L.length) (hn : 18014398509481984 ≤ n) : Gath L (i + 1) n true := by
  refine ⟨(fun h => by cases h), fun _ => ?_, h.low⟩
  have e := val_append (L.take i) (L.drop i)
  rw [List.take_append_drop, ← h.not rfl, List.length_drop] at e
  have h1 : 256 ^ 1 ≤ 256 ^ (L.length - i) := Nat.pow_le_pow_right (by decide) (by omega)
  have h2 := Nat.mul_le_mul hn h1
  simp only [Nat.pow_one] at h2
  omega
theorem Gath.stays {L : List Nat} {i n : Nat} (h : Gath L i n true) : Gath L (i + 1) n true := ⟨(fun h => by cases h), h.yes, h.low⟩
theorem Gath.next {L : List Nat} {i n c : Nat} (h : Gath L i n false) (hc : L[i]? = some c) (hb : c < 256) (hn : n < 18014398509481984) : Gath L (i + 1) (256 * n + c) false := by
  refine ⟨fun _ => ?_, (fun h => by cases h), by omega⟩
  rw [List.take_add_one, hc, Option.toList_some, val_snoc, ← h.not rfl]

end Go.Proofs.Ytjpkeadnccodjaa
