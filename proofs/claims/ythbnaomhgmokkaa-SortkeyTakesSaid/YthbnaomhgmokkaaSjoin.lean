/-
  Parts in memory; the document's Join.
-/
import Derived.Test.YthbnaomhgmokkaaStakt
namespace Go.Proofs.Ythbnaomhgmokkaa
open Go.RowKit

/-- A part as a value. -/
abbrev pv (p : Prt) : Value := .agg #[.bool p.i, .int .i64 p.n, .string p.s]
/-- From A on the parts of l lie, one behind the other. -/
def Parts (w : World) (A : Option Addr) (l : List Prt) : Prop := ∀ i p, l[i]? = some p → ∃ g off, A = some ⟨g, off, none⟩ ∧ w.cell? ⟨g, off + i * 3, none⟩ = some (.bool p.i) ∧ w.cell? ⟨g, off + i * 3 + 1, none⟩ = some (.int .i64 p.n) ∧ w.cell? ⟨g, off + i * 3 + 2, none⟩ = some (.string p.s)
theorem lt_of_cell {w : World} {g o : Nat} {u : Value} (h : w.cell? ⟨g, o, none⟩ = some u) : g < w.heap.size := by
  rcases Nat.lt_or_ge g w.heap.size with hlt | hge
  · exact hlt
  · simp [World.cell?, Array.getElem?_eq_none hge] at h
theorem Parts.below {w w' : World} {A : Option Addr} {l : List Prt} (h : Parts w A l) (hb : Below w.heap.size w w') : Parts w' A l := fun i p hp => by
  obtain ⟨g, off, rfl, c0, c1, c2⟩ := h i p hp
  have := lt_of_cell c0
  exact ⟨g, off, rfl, (hb.cell (p := ⟨g, _, none⟩) this).trans c0, (hb.cell (p := ⟨g, _, none⟩) this).trans c1, (hb.cell (p := ⟨g, _, none⟩) this).trans c2⟩
theorem Parts.nil (w : World) (A : Option Addr) : Parts w A [] := fun i p h => by simp at h

/-- The key of a part, and of parts. -/
def keyPS (p : Prt) : ByteArray := bytesN (keyP p)
def joinS (l : List Prt) : ByteArray := bytesN (joinP l)
theorem take_snocP {l : List Prt} {k : Nat} {p : Prt} (h : l[k]? = some p) : l.take (k + 1) = l.take k ++ [p] := by rw [List.take_add_one, h]; rfl
theorem join_next {l : List Prt} {k : Nat} {p : Prt} (h : l[k]? = some p) : joinP (l.take (k + 1)) = joinP (l.take k) ++ keyP p := by
  rw [take_snocP h, joinP_append]
  simp [joinP]
/-- How many bytes a key may have. -/
theorem keyP_length (p : Prt) : (keyP p).length ≤ 8 + 2 * p.s.size := by
  unfold keyP
  split
  · rw [keyI_length]; omega
  · rw [keyT, List.length_append]
    have := (esc_length (nats p.s)).2
    rw [nats_length] at this
    simp; omega
theorem keyPS_int {p : Prt} (h : p.i = true) : keyPS p = keyIS p.n := by unfold keyPS keyP keyIS; rw [if_pos h]
theorem keyPS_text {p : Prt} (h : p.i = false) : keyPS p = keyTS p.s := by unfold keyPS keyP keyTS; rw [if_neg (by rw [h]; simp)]
/-- Parts whose numbers are ints and whose texts are not too long. -/
def okL (l : List Prt) : Prop := ∀ p ∈ l, isI p.n ∧ p.s.size ≤ 1048576
theorem join_length : ∀ l : List Prt, okL l → (joinP l).length ≤ l.length * 2097160
  | [], _ => by simp [joinP]
  | p :: l, h => by
    have h1 := join_length l fun q hq => h q (List.mem_cons_of_mem _ hq)
    have h2 := keyP_length p
    have h3 := (h p List.mem_cons_self).2
    rw [joinP, List.length_append, List.length_cons]
    omega
theorem okL_take {l : List Prt} (h : okL l) (k : Nat) : okL (l.take k) := fun p hp => h p (List.mem_of_mem_take hp)

set_option maxHeartbeats 4000000 in
set_option maxRecDepth 10000 in
theorem djoin_any (w : World) (A : Option Addr) (c : Nat) (l : List Prt) (hl : Parts w A l) (hok : okL l) (hn : l.length ≤ 1048576) :
    Ret 23 #[.slice A l.length c] w (.string (joinS l)) := by
  have HL := Lib.hid hl
  have HO := Lib.hid hok
  obtain ⟨n, hnm⟩ : ∃ n, l.length = n := ⟨_, rfl⟩
  rw [hnm] at hn ⊢
  have HN := Lib.hid hnm
  clear hl hnm hok
  go_enter Try.func23, Try.ntmps23
  go_wp2_with fail
  go_loopw [3, 4] (fun o i wr => ∃ (k : Nat) (t : List Nat), k ≤ n ∧ i = .int .i64 k ∧ joinP (l.take k) = t ∧ o = .string (bytesN t) ∧ Below w.heap.size w wr) (fun _ i _ => n - (intOf i).toNat)
  case atStart => exact ⟨0, [], Nat.zero_le _, rfl, rfl, rfl, bl w⟩
  case round =>
    obtain ⟨k, t, hk, rfl, ht, rfl, hB⟩ := hrel
    have HB := Lib.hid hB
    clear hB
    by_cases hlt : k < n
    · have hlt' : (k : Int) < (n : Int) := by omega
      obtain ⟨p, hp⟩ : ∃ p, l[k]? = some p := ⟨_, List.getElem?_eq_getElem (by have := HN.out; omega)⟩
      have hpo := HO.out p (List.mem_of_getElem? hp)
      obtain ⟨g, off, rfl, c0, c1, c2⟩ := (HL.out.below HB.out) k p hp
      have NX := Lib.hid (show joinP (l.take (k + 1)) = t ++ keyP p by rw [join_next hp, ht])
      have E2 := Lib.hid (show bytesN t ++ keyPS p = bytesN (t ++ keyP p) from (bytes_append _ _).symm)
      have hz : t.length ≤ n * 2097160 := by
        have h1 := join_length (l.take k) (okL_take HO.out k)
        rw [ht] at h1
        have h3 : (l.take k).length ≤ n := by rw [List.length_take, HN.out]; exact Nat.min_le_right _ _
        exact Nat.le_trans h1 (Nat.mul_le_mul h3 (Nat.le_refl _))
      have hz2 : (keyPS p).size ≤ 2097160 := by
        have := keyP_length p
        rw [keyPS, size_bytes]; omega
      have z1 : ¬ (bytesN t).size + (keyPS p).size > 9223372036854775807 := by rw [size_bytes]; omega
      obtain ⟨hpn, hps⟩ := hpo
      cases hi : p.i with
      | true =>
        rw [hi] at c0
        have CI := Lib.hid (fun w => dint_any p.n hpn w)
        have EK := Lib.hid (keyPS_int hi)
        rw [EK.out] at z1 E2
        clear hp hz hz2 ht hi
        go_wp2_with (go_at_call 11; refine (CI.out _).mono ?_; rintro e w2 ⟨rfl, hb2⟩)
        exact ⟨⟨k + 1, _, by omega, by go_num, NX.out, by rw [E2.out], chain HB.out hb2⟩, by simp [intOf] <;> omega⟩
      | false =>
        rw [hi] at c0
        have CT := Lib.hid (fun w => dtext_any p.s (by omega) w)
        have EK := Lib.hid (keyPS_text hi)
        rw [EK.out] at z1 E2
        clear hp hz hz2 ht hi
        go_wp2_with (go_at_call 15; refine (CT.out _).mono ?_; rintro e w2 ⟨rfl, hb2⟩)
        exact ⟨⟨k + 1, _, by omega, by go_num, NX.out, by rw [E2.out], chain HB.out hb2⟩, by simp [intOf] <;> omega⟩
    · obtain rfl : k = n := by omega
      have hlt' : ¬ (k : Int) < (k : Int) := by omega
      have hall : l.take k = l := List.take_of_length_le (by have := HN.out; omega)
      have E2 := Lib.hid (show joinS l = bytesN t by rw [joinS, ← ht, hall])
      clear ht hall
      go_wp2_with fail
      go_ret
      exact ⟨ret_s E2.out.symm, HB.out⟩

end Go.Proofs.Ythbnaomhgmokkaa
