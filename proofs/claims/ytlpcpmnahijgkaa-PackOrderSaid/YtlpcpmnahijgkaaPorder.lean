/-
  PackOrder gives back true for any two numbers: the lesser one's bytes are less, and neither begins with the other one's.
-/
import Derived.Test.YtlpcpmnahijgkaaPnums
namespace Go.Proofs.Ytlpcpmnahijgkaa
open Go.RowKit

theorem toList_bytes (l : List Nat) : (bytesN l).toList = l.map UInt8.ofNat := by rw [ByteArray.toList_eq]; rfl
theorem ofNat_lt {a b : Nat} (ha : a < 256) (hb : b < 256) : UInt8.ofNat a < UInt8.ofNat b ↔ a < b := by
  rw [UInt8.lt_iff_toNat_lt, UInt8.toNat_ofNat', UInt8.toNat_ofNat']
  omega
theorem less_self : ∀ l : List UInt8, Op.bytesLess l l = false
  | [] => rfl
  | a :: l => by
    rw [Op.bytesLess, less_self l]
    simp
theorem less_diff {l m : List Nat} (hl : ∀ b ∈ l, b < 256) (hm : ∀ b ∈ m, b < 256) (h : Diff l m) : Op.bytesLess (l.map UInt8.ofNat) (m.map UInt8.ofNat) = true ∧ Op.bytesLess (m.map UInt8.ofNat) (l.map UInt8.ofNat) = false := by
  obtain ⟨p, x, y, l', m', rfl, rfl, hxy⟩ := h
  induction p with
  | nil =>
    have hx := hl x (by simp)
    have hy := hm y (by simp)
    have h1 : UInt8.ofNat x < UInt8.ofNat y := (ofNat_lt hx hy).2 hxy
    have h2 : ¬ UInt8.ofNat y < UInt8.ofNat x := fun h => by have := (ofNat_lt hy hx).1 h; omega
    have h3 : ¬ UInt8.ofNat y = UInt8.ofNat x := fun h => by
      have := congrArg UInt8.toNat h
      rw [UInt8.toNat_ofNat', UInt8.toNat_ofNat'] at this
      omega
    simp only [List.nil_append, List.map_cons, Op.bytesLess]
    simp [h1, h2, h3]
  | cons b p ih =>
    have hp := ih (fun c hc => hl c (List.mem_cons_of_mem _ hc)) (fun c hc => hm c (List.mem_cons_of_mem _ hc))
    simp only [List.cons_append, List.map_cons, Op.bytesLess, hp.1, hp.2]
    simp
theorem take_diff {l m : List Nat} (h : Diff l m) : l.take (min l.length m.length) ≠ m.take (min l.length m.length) := by
  obtain ⟨p, x, y, l', m', rfl, rfl, hxy⟩ := h
  intro e
  have e2 := congrArg (fun z => z[p.length]?) e
  simp only [List.length_append, List.length_cons] at e2
  rw [List.getElem?_take_of_lt (by omega), List.getElem?_take_of_lt (by omega), List.getElem?_append_right (Nat.le_refl _), List.getElem?_append_right (Nat.le_refl _)] at e2
  simp at e2
  omega

/-- The lesser number's bytes are less; the bytes up to the shorter one's length are the same just if the numbers are. -/
theorem enc_order {n m : Nat} (hn : n < 4611686018427387904) (hm : m < 4611686018427387904) :
    Op.bytesLess (encS n).toList (encS m).toList = decide (n < m) ∧
    ∀ k, k = min (encS n).size (encS m).size → (((encS n).extract 0 k).toList == ((encS m).extract 0 k).toList) = decide (n = m) := by
  have ln := enc_lt hn
  have lm := enc_lt hm
  have hne : ∀ {a b : Nat}, a < 4611686018427387904 → b < 4611686018427387904 → a < b → ∀ k, k = min (encS a).size (encS b).size → (((encS a).extract 0 k).toList == ((encS b).extract 0 k).toList) = false := by
    intro a b ha hb hab k hk
    have hd := take_diff (enc_diff hab hb)
    refine beq_eq_false_iff_ne.2 fun e => hd ?_
    have e2 := congrArg (fun z => z.map UInt8.toNat) e
    simp only [ByteArray.toList_eq] at e2
    have e3 : nats ((encS a).extract 0 k) = nats ((encS b).extract 0 k) := e2
    rw [nats_extract, nats_extract, nats_encS ha, nats_encS hb, List.drop_zero, List.drop_zero, Nat.sub_zero] at e3
    rw [hk, encS, encS, size_bytes, size_bytes] at e3
    exact e3
  rcases Nat.lt_trichotomy n m with h | h | h
  · refine ⟨?_, fun k hk => ?_⟩
    · rw [encS, encS, toList_bytes, toList_bytes, (less_diff ln lm (enc_diff h hm)).1]
      simp [h]
    · rw [hne hn hm h k hk]
      have : ¬ n = m := by omega
      simp [this]
  · subst h
    refine ⟨?_, fun k hk => ?_⟩
    · rw [less_self]; simp
    · simp
  · refine ⟨?_, fun k hk => ?_⟩
    · rw [encS, encS, toList_bytes, toList_bytes, (less_diff lm ln (enc_diff h hn)).2]
      have : ¬ n < m := by omega
      simp [this]
    · have := hne hm hn h k (by rw [hk, Nat.min_comm])
      have e : (((encS n).extract 0 k).toList == ((encS m).extract 0 k).toList) = false := by
        rw [beq_eq_false_iff_ne] at this ⊢
        exact fun h => this h.symm
      rw [e]
      have : ¬ n = m := by omega
      simp [this]

end Go.Proofs.Ytlpcpmnahijgkaa
