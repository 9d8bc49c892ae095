/-
  The key of parts by the program: its Join.
-/
import Derived.Test.YthbnaomhgmokkaaSptakt
namespace Go.Proofs.Ythbnaomhgmokkaa
open Go.RowKit

set_option maxHeartbeats 4000000 in
set_option maxRecDepth 10000 in
theorem join_any (w : World) (A : Option Addr) (c : Nat) (l : List Prt) (hl : Parts w A l) (hok : okL l) (hn : l.length ≤ 1048576) :
    Ret 22 #[.slice A l.length c] w (.string (joinS l)) := by
  have HL := Lib.hid hl
  have HO := Lib.hid hok
  have B0 := Lib.hid (Bld.new w)
  obtain ⟨n, hnm⟩ : ∃ n, l.length = n := ⟨_, rfl⟩
  rw [hnm] at hn ⊢
  have HN := Lib.hid hnm
  clear hl hnm hok
  go_enter Try.func22, Try.ntmps22
  go_wp2_with fail
  go_loopw [8] (fun i wr => ∃ (k : Nat) (t : List Nat), k ≤ n ∧ i = .int .i64 k ∧ joinP (l.take k) = t ∧ Bld w w.heap.size t wr) (fun i _ => n - (intOf i).toNat)
  case atStart => exact ⟨0, [], Nat.zero_le _, rfl, rfl, B0.out⟩
  case round =>
    obtain ⟨k, t, hk, rfl, ht, hb⟩ := hrel
    have HB := Lib.hid hb
    clear hb
    by_cases hlt : k < n
    · have hlt' : (k : Int) < (n : Int) := by omega
      obtain ⟨p, hp⟩ : ∃ p, l[k]? = some p := ⟨_, List.getElem?_eq_getElem (by have := HN.out; omega)⟩
      have hpo := HO.out p (List.mem_of_getElem? hp)
      obtain ⟨g, off, rfl, c0, c1, c2⟩ := (HL.out.below HB.out.bel) k p hp
      have NX := Lib.hid (show joinP (l.take (k + 1)) = t ++ keyP p by rw [join_next hp, ht])
      have hz : t.length ≤ n * 2097160 := by
        have h1 := join_length (l.take k) (okL_take HO.out k)
        rw [ht] at h1
        have h3 : (l.take k).length ≤ n := by rw [List.length_take, HN.out]; exact Nat.min_le_right _ _
        exact Nat.le_trans h1 (Nat.mul_le_mul h3 (Nat.le_refl _))
      have hz2 : (keyPS p).size ≤ 2097160 := by
        have := keyP_length p
        rw [keyPS, size_bytes]; omega
      have NK := Lib.hid (show nats (keyPS p) = keyP p from nats_bytes (keyP_lt p))
      obtain ⟨hpn, hps⟩ := hpo
      cases hi : p.i with
      | true =>
        rw [hi] at c0
        have CI := Lib.hid (fun w => int_any p.n hpn w)
        have EK := Lib.hid (keyPS_int hi)
        rw [EK.out] at hz2 NK
        clear hp ht hi
        go_wp2_with (first
          | (go_at_call 9; with_reducible refine (CI.out _).mono ?_; rintro e w2 ⟨rfl, hb2⟩; have HB2 := Lib.hid ((HB.out.below ((bl wr).alloc (Nat.le_refl _) _)).below hb2); clear hb2)
          | (go_at_call 32; with_reducible refine (HB2.out.text (keyIS p.n) (by omega)).mono ?_; rintro e w3 ⟨rfl, hb3⟩; have HB3 := Lib.hid hb3; clear hb3))
        exact ⟨⟨k + 1, _, by omega, by go_num, NX.out, by rw [← NK.out]; exact HB3.out⟩, by simp [intOf] <;> omega⟩
      | false =>
        rw [hi] at c0
        have CI := Lib.hid (fun w => text_any p.s (by omega) w)
        have EK := Lib.hid (keyPS_text hi)
        rw [EK.out] at hz2 NK
        clear hp ht hi
        go_wp2_with (first
          | (go_at_call 13; with_reducible refine (CI.out _).mono ?_; rintro e w2 ⟨rfl, hb2⟩; have HB2 := Lib.hid ((HB.out.below ((bl wr).alloc (Nat.le_refl _) _)).below hb2); clear hb2)
          | (go_at_call 32; with_reducible refine (HB2.out.text (keyTS p.s) (by omega)).mono ?_; rintro e w3 ⟨rfl, hb3⟩; have HB3 := Lib.hid hb3; clear hb3))
        exact ⟨⟨k + 1, _, by omega, by go_num, NX.out, by rw [← NK.out]; exact HB3.out⟩, by simp [intOf] <;> omega⟩
    · obtain rfl : k = n := by omega
      have hlt' : ¬ (k : Int) < (k : Int) := by omega
      have hall : l.take k = l := List.take_of_length_le (by have := HN.out; omega)
      have E2 := Lib.hid (show joinS l = bytesN t by rw [joinS, ← ht, hall])
      clear ht hall
      go_wp2_with (go_at_call 29; with_reducible refine HB.out.read.mono ?_; rintro e w4 ⟨rfl, hb4⟩)
      go_ret
      exact ⟨ret_s E2.out.symm, hb4⟩

end Go.Proofs.Ythbnaomhgmokkaa
