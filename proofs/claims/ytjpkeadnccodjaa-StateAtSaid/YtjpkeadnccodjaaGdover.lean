/-
  The document's Over of fields.
-/
import Derived.Test.YtjpkeadnccodjaaGlay
import Derived.Test.YtjpkeadnccodjaaGlist
namespace Go.Proofs.Ytjpkeadnccodjaa
open Go.RowKit

set_option maxHeartbeats 4000000 in
set_option maxRecDepth 10000 in
theorem dover_any (w : World) (A : Option Addr) (c : Nat) (L : List (List Fd)) (hL : RowsF w A L) (hT : L.flatten.length ≤ 100000) (hn : L.length ≤ 9223372036854775807) (hrow : ∀ l ∈ L, l.length ≤ 9223372036854775807) :
    Calls Try.prog 29 #[.slice A L.length c] w fun e w' => ∃ v, e = .returned v ∧ ListF w' v (overL L.flatten) ∧ Below w.heap.size w w' := by
  have HL := Lib.hid hL
  have HT := Lib.hid hT
  have HR := Lib.hid hrow
  obtain ⟨n, hnm⟩ : ∃ n, L.length = n := ⟨_, rfl⟩
  rw [hnm] at hn ⊢
  have HN := Lib.hid hnm
  clear hL hT hnm hrow
  go_enter Try.func29, Try.ntmps29
  go_wp2_with fail
  go_loopw [3, 4] (fun o i wr => ∃ k acc, k ≤ n ∧ i = .int .i64 (k : Nat) ∧ acc = overL (L.take k).flatten ∧ ListF wr o acc ∧ Below w.heap.size w wr) (fun _ i _ => n - (intOf i).toNat)
  case atStart => exact ⟨0, [], Nat.zero_le _, rfl, rfl, ListF.nil w, bl w⟩
  case round =>
    obtain ⟨k, acc0, hk, rfl, ha0, hA0, hB0⟩ := hrel
    have HA0 := Lib.hid ha0
    have HO0 := Lib.hid hA0
    have HB0 := Lib.hid hB0
    clear ha0 hA0 hB0
    by_cases hlt : k < n
    · have hlt' : (k : Int) < (n : Int) := by omega
      obtain ⟨row, hrow⟩ : ∃ row, L[k]? = some row := ⟨_, List.getElem?_eq_getElem (by have := HN.out; omega)⟩
      obtain ⟨g, off, v, rfl, cv, B, d, rfl, hF, hcd, hnd⟩ := HL.out k row hrow
      have HCV := Lib.hid cv
      have HF := Lib.hid hF
      have HROW := Lib.hid hrow
      obtain ⟨m, hm⟩ : ∃ m, row.length = m := ⟨_, rfl⟩
      have hm63 : m ≤ 9223372036854775807 := by rw [← hm]; exact HR.out row (List.mem_of_getElem? hrow)
      have HM := Lib.hid hm
      rw [hm] at HCV
      clear cv hF hrow hm hcd hnd
      go_wp2_with fail
      go_loopw [3, 5] (fun o j wr' => ∃ t acc, t ≤ m ∧ j = .int .i64 (t : Nat) ∧ acc = overL ((L.take k).flatten ++ row.take t) ∧ ListF wr' o acc ∧ Below w.heap.size w wr') (fun _ j _ => m - (intOf j).toNat)
      case atStart => exact ⟨0, acc0, Nat.zero_le _, rfl, by rw [HA0.out, List.take_zero, List.append_nil], HO0.out, HB0.out⟩
      case round =>
        obtain ⟨t, acc, ht, rfl, ha, hA, hB⟩ := hrel
        have HAC := Lib.hid ha
        obtain ⟨C, e, rfl, hFa, hce, hne⟩ := hA
        have HFA := Lib.hid hFa
        have HNE := Lib.hid hne
        have HCE := Lib.hid hce
        have HB := Lib.hid hB
        have cv1 := keepc (hB) HCV.out
        clear ha hFa hne hB hce
        by_cases hlt2 : t < m
        · have hlt2' : (t : Int) < (m : Int) := by omega
          obtain ⟨f, hf⟩ : ∃ f, row[t]? = some f := ⟨_, List.getElem?_eq_getElem (by have := HM.out; omega)⟩
          obtain ⟨g2, off2, rfl, c0, c1⟩ := (HF.out.below HB.out) t f hf
          have HX := Lib.hid (show layL acc f = overL ((L.take k).flatten ++ row.take (t + 1)) by
            rw [List.take_add_one, hf, Option.toList_some, ← List.append_assoc, overL_snoc, HAC.out])
          have HLEN := Lib.hid (show acc.length ≤ 100000 by
            rw [HAC.out]
            have h1 := overL_length ((L.take k).flatten ++ row.take t)
            have h2 := flat_pre HROW.out t
            have := HT.out
            omega)
          have CL := Lib.hid (dlay_any wr C e acc f HFA.out HCE.out HNE.out HLEN.out)
          clear hf
          go_wp2_with (go_at_call 42; (with_reducible refine CL.out.mono ?_); rintro e2 w2 ⟨v2, rfl, hown2, hb2⟩)
          exact ⟨⟨t + 1, _, by omega, by go_num, HX.out, ListF.own hown2, chain HB.out hb2⟩, by simp [intOf] <;> omega⟩
        · obtain rfl : t = m := by omega
          have hlt2' : ¬ (t : Int) < (t : Int) := by omega
          have HX := Lib.hid (show acc = overL (L.take (k + 1)).flatten by
            rw [HAC.out, flat_next HROW.out, List.take_of_length_le (l := row) (by have := HM.out; omega)])
          go_wp2_with fail
          exact ⟨⟨k + 1, acc, by omega, by go_num, HX.out, ⟨C, e, rfl, HFA.out, HCE.out, HNE.out⟩, HB.out⟩, by simp [intOf] <;> omega⟩
    · obtain rfl : k = n := by omega
      have hlt' : ¬ (k : Int) < (k : Int) := by omega
      have HX := Lib.hid (show acc0 = overL L.flatten by rw [HA0.out, List.take_of_length_le (by have := HN.out; omega)])
      go_wp2_with fail
      go_ret
      exact ⟨_, rfl, by rw [← HX.out]; exact HO0.out, HB0.out⟩

end Go.Proofs.Ytjpkeadnccodjaa
