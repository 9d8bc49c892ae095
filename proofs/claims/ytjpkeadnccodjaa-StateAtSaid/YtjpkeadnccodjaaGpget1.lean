/-
  The program's Get.
-/
import Derived.Test.YtjpkeadnccodjaaGlist
namespace Go.Proofs.Ytjpkeadnccodjaa
open Go.RowKit

set_option maxHeartbeats 2000000 in
theorem pget_any (w : World) (v : Value) (l : List Fd) (s : ByteArray) (hl : ListF w v l) (hn : l.length ≤ 9223372036854775807) :
    Ret 31 #[v, .string s] w (.tuple #[.int .i64 ((getL l s).getD 0), .bool (getL l s).isSome]) := by
  obtain ⟨A, c, rfl, hl, _, _⟩ := hl
  have HL := Lib.hid hl
  obtain ⟨n, hnm⟩ : ∃ n, l.length = n := ⟨_, rfl⟩
  obtain ⟨t, ht⟩ : ∃ t, getL l s = t := ⟨_, rfl⟩
  have HT := Lib.hid ht
  rw [hnm] at hn ⊢
  rw [ht]
  have HN := Lib.hid hnm
  clear hl hnm ht
  go_enter Try.func31, Try.ntmps31
  go_wp2_with fail
  go_loopw [10] (fun i wr => ∃ k : Nat, k ≤ n ∧ i = .int .i64 k ∧ t = getL (l.drop k) s ∧ Below w.heap.size w wr) (fun i _ => n - (intOf i).toNat)
  case atStart => exact ⟨0, Nat.zero_le _, rfl, HT.out.symm, bl w⟩
  case round =>
    obtain ⟨k, hk, rfl, hg, hB⟩ := hrel
    have HB := Lib.hid hB
    clear hB
    by_cases hlt : k < n
    · have hlt' : (k : Int) < (n : Int) := by omega
      obtain ⟨f, hf⟩ : ∃ f, l[k]? = some f := ⟨_, List.getElem?_eq_getElem (by have := HN.out; omega)⟩
      obtain ⟨g, off, rfl, c0, c1⟩ := HL.out.below HB.out k f hf
      rw [drop_consF hf, getL] at hg
      by_cases h : nats f.n = nats s
      · rw [if_pos h] at hg
        have HG := Lib.hid hg
        have he : (f.n.toList == s.toList) = true := by rw [beq_iff_eq]; exact bytes_is.2 h
        clear hg hf h
        go_wp2_with fail
        go_ret2
        exact ⟨ret_ib (by rw [HG.out]; rfl) (by rw [HG.out]; rfl), chain HB.out ((bl wr).alloc (Nat.le_refl _) _)⟩
      · rw [if_neg h] at hg
        have HG := Lib.hid hg
        have he : (f.n.toList == s.toList) = false := by rw [beq_eq_false_iff_ne]; exact fun e => h (bytes_is.1 e)
        clear hg hf h
        go_wp2_with fail
        exact ⟨⟨k + 1, by omega, by go_num, HG.out, chain HB.out ((bl wr).alloc (Nat.le_refl _) _)⟩, by simp [intOf] <;> omega⟩
    · obtain rfl : k = n := by omega
      have hlt' : ¬ (k : Int) < (k : Int) := by omega
      rw [List.drop_of_length_le (by have := HN.out; omega)] at hg
      have HG := Lib.hid (show t = none from hg)
      clear hg
      go_wp2_with fail
      go_ret2
      exact ⟨ret_ib (by rw [HG.out]; rfl) (by rw [HG.out]; rfl), HB.out⟩


end Go.Proofs.Ytjpkeadnccodjaa
