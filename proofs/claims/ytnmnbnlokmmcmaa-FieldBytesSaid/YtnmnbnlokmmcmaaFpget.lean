/-
  The program's Get and Same.
-/
import Derived.Test.YtnmnbnlokmmcmaaFpright
namespace Go.Proofs.Ytnmnbnlokmmcmaa
open Go.RowKit

set_option maxHeartbeats 2000000 in
theorem pget_any (w : World) (v : Value) (l : List Fd) (s : ByteArray) (hl : ListF w v l) (hn : l.length ≤ 9223372036854775807) :
    Ret 17 #[v, .string s] w (.tuple #[.int .i64 ((getL l s).getD 0), .bool (getL l s).isSome]) := by
  obtain ⟨A, c, rfl, hl, _, _⟩ := hl
  have HL := Lib.hid hl
  obtain ⟨n, hnm⟩ : ∃ n, l.length = n := ⟨_, rfl⟩
  obtain ⟨t, ht⟩ : ∃ t, getL l s = t := ⟨_, rfl⟩
  have HT := Lib.hid ht
  rw [hnm] at hn ⊢
  rw [ht]
  have HN := Lib.hid hnm
  clear hl hnm ht
  go_enter Try.func17, Try.ntmps17
  go_wp2_with fail
  go_loopw [10] (fun i wr => ∃ k : Nat, k ≤ n ∧ i = .int .i64 k ∧ t = getL (l.drop k) s ∧ Below w.heap.size w wr) (fun i _ => n - (intOf i).toNat)
  case atStart => exact ⟨0, Nat.zero_le _, rfl, HT.out.symm, bl w⟩
  case round =>
    obtain ⟨k, hk, rfl, hg, hB⟩ := hrel
    have HB := Lib.hid hB
    clear hB
    by_cases hlt : k < n
    · have hlt' : (k : Int) < (n : Int) := by omega
      obtain ⟨f, hf⟩ : ∃ f, l[k]? = some f := ⟨_, List.getElem?_eq_getElem (by have := HN.out; omega)⟩
      obtain ⟨g, off, rfl, c0, c1⟩ := HL.out.below HB.out k f hf
      rw [drop_consF hf, getL] at hg
      by_cases h : nats f.n = nats s
      · rw [if_pos h] at hg
        have HG := Lib.hid hg
        have he : (f.n.toList == s.toList) = true := by rw [beq_iff_eq]; exact bytes_is.2 h
        clear hg hf h
        go_wp2_with fail
        go_ret2
        exact ⟨ret_ib (by rw [HG.out]; rfl) (by rw [HG.out]; rfl), chain HB.out ((bl wr).alloc (Nat.le_refl _) _)⟩
      · rw [if_neg h] at hg
        have HG := Lib.hid hg
        have he : (f.n.toList == s.toList) = false := by rw [beq_eq_false_iff_ne]; exact fun e => h (bytes_is.1 e)
        clear hg hf h
        go_wp2_with fail
        exact ⟨⟨k + 1, by omega, by go_num, HG.out, chain HB.out ((bl wr).alloc (Nat.le_refl _) _)⟩, by simp [intOf] <;> omega⟩
    · obtain rfl : k = n := by omega
      have hlt' : ¬ (k : Int) < (k : Int) := by omega
      rw [List.drop_of_length_le (by have := HN.out; omega)] at hg
      have HG := Lib.hid (show t = none from hg)
      clear hg
      go_wp2_with fail
      go_ret2
      exact ⟨ret_ib (by rw [HG.out]; rfl) (by rw [HG.out]; rfl), HB.out⟩

set_option maxHeartbeats 2000000 in
theorem equal_any (w : World) (A B : Option Addr) (c d : Nat) (a b : List Fd) (ha : Fields w A a) (hb : Fields w B b) (hn : a.length ≤ 9223372036854775807) (hm : b.length ≤ 9223372036854775807) :
    Ret 33 #[.slice A a.length c, .slice B b.length d] w (.bool (sameF a b)) := by
  by_cases hnm : a.length ≠ b.length
  · have HS := Lib.hid (sameF_len a b hnm)
    have hne : ((a.length : Int) != (b.length : Int)) = true := by rw [bne_iff_ne]; omega
    clear ha hb
    generalize a.length = n at *
    generalize b.length = m at *
    go_enter Try.func33, Try.ntmps33
    go_wp2_with fail
    go_ret
    exact ⟨ret_bool HS.out.symm, bl w⟩
  · obtain ⟨n, hn1⟩ : ∃ n, a.length = n := ⟨_, rfl⟩
    have hn2 : b.length = n := by omega
    obtain ⟨t, ht⟩ : ∃ t, sameF a b = t := ⟨_, rfl⟩
    have HT := Lib.hid ht
    rw [hn1] at hn ⊢
    rw [hn2, ht]
    have HA := Lib.hid ha
    have HB := Lib.hid hb
    have HN1 := Lib.hid hn1
    have HN2 := Lib.hid hn2
    clear ha hb hn1 hn2 hnm hm ht
    have hng := Try.noGuardField
    go_enter Try.func33, Try.ntmps33
    go_wp2_with fail
    go_loopw [13] (fun i wr => ∃ k : Nat, k ≤ n ∧ i = .int .i64 k ∧ t = sameF (a.drop k) (b.drop k) ∧ Below w.heap.size w wr) (fun i _ => n - (intOf i).toNat)
    case atStart => exact ⟨0, Nat.zero_le _, rfl, HT.out.symm, bl w⟩
    case round =>
      obtain ⟨k, hk, rfl, hg, hW⟩ := hrel
      have HW := Lib.hid hW
      clear hW
      by_cases hlt : k < n
      · have hlt' : (k : Int) < (n : Int) := by omega
        obtain ⟨f, hf⟩ : ∃ f, a[k]? = some f := ⟨_, List.getElem?_eq_getElem (by have := HN1.out; omega)⟩
        obtain ⟨g, hgg⟩ : ∃ g, b[k]? = some g := ⟨_, List.getElem?_eq_getElem (by have := HN2.out; omega)⟩
        obtain ⟨g1, off, rfl, c0, c1⟩ := (HA.out.below HW.out) k f hf
        obtain ⟨g2, off', rfl, d0, d1⟩ := (HB.out.below HW.out) k g hgg
        rw [drop_consF hf, drop_consF hgg, sameF] at hg
        have hq := run_neq_field f g
        by_cases h : f.n.toList = g.n.toList ∧ f.v = g.v
        · rw [decide_eq_true h] at hq hg
          have HG := Lib.hid (show t = sameF (a.drop (k + 1)) (b.drop (k + 1)) by rw [hg, Bool.true_and])
          have hq : ∀ w, (binOp .neq 48 (fv f) (fv g)).run Try.prog w = .ok (.bool false) w := hq
          clear hg hf hgg h
          go_wp2_with fail
          go_quiet (fail)
          go_wp2_with fail
          exact ⟨⟨k + 1, by omega, by go_num, HG.out, belowN HW.out _⟩, by simp [intOf] <;> omega⟩
        · rw [decide_eq_false h] at hq hg
          have HG := Lib.hid (show t = false by rw [hg, Bool.false_and])
          have hq : ∀ w, (binOp .neq 48 (fv f) (fv g)).run Try.prog w = .ok (.bool true) w := hq
          clear hg hf hgg h
          go_wp2_with fail
          go_quiet (fail)
          go_wp2_with fail
          go_ret
          exact ⟨ret_bool HG.out.symm, belowN HW.out _⟩
      · obtain rfl : k = n := by omega
        have hlt' : ¬ (k : Int) < (k : Int) := by omega
        rw [List.drop_of_length_le (by have := HN1.out; omega), List.drop_of_length_le (by have := HN2.out; omega)] at hg
        have HG := Lib.hid (show t = true from hg)
        clear hg
        go_wp2_with fail
        go_ret
        exact ⟨ret_bool HG.out.symm, HW.out⟩
set_option maxHeartbeats 1000000 in
theorem psame_any (w : World) (v u : Value) (a b : List Fd) (ha : ListF w v a) (hb : ListF w u b) (hn : a.length ≤ 9223372036854775807) (hm : b.length ≤ 9223372036854775807) : Ret 19 #[v, u] w (.bool (sameF a b)) := by
  obtain ⟨A, c, rfl, hA, _, _⟩ := ha
  obtain ⟨B, d, rfl, hB, _, _⟩ := hb
  have CE := Lib.hid (equal_any w A B c d a b hA hB hn hm)
  generalize sameF a b = t at *
  generalize a.length = n at *
  generalize b.length = m at *
  clear hA hB
  go_enter Try.func19, Try.ntmps19
  go_wp2_with (go_at_call 33; with_reducible refine CE.out.mono ?_; rintro e w1 ⟨rfl, hb1⟩)
  go_ret
  exact ⟨rfl, hb1⟩

end Go.Proofs.Ytnmnbnlokmmcmaa
