/-
  The document's Make of fields.
-/
import Derived.Test.YtnmnbnlokmmcmaaFdover
namespace Go.Proofs.Ytnmnbnlokmmcmaa
open Go.RowKit

theorem ret_le {u : Value} {a b : Int} (h : a = b) : Ending.returned (.tuple #[u, .int .i64 a]) = .returned (.tuple #[u, .int .i64 b]) := by rw [h]
theorem rows_one {w : World} {A : Option Addr} {c : Nat} {l : List Fd} (T : TypeId) (hF : Fields w A l) (hc : l.length ≤ c) (hn : A = none → c = 0) : RowsF (w.alloc (.cells #[.slice A l.length c] T)) (some ⟨w.heap.size, 0, none⟩) [l] := fun i r hr => by
  rcases i with _ | i
  · obtain rfl : l = r := by simpa using hr
    exact ⟨w.heap.size, 0, .slice A l.length c, rfl, by simp [go_sem], A, c, rfl, hF.below ((bl w).alloc (Nat.le_refl _) _), hc, hn⟩
  · simp at hr
theorem flat_one (l : List Fd) : ([l] : List (List Fd)).flatten = l := by simp

set_option maxHeartbeats 4000000 in
set_option maxRecDepth 10000 in
theorem dmake_any (w : World) (v : Value) (l : List Fd) (hl : ListF w v l) (hok : okF l) (hn : l.length ≤ 9223372036854775807) :
    Calls Try.prog 11 #[v] w fun e w' => ∃ u, e = .returned (.tuple #[u, .int .i64 (((makeF l).2 : Nat) : Int)]) ∧ ListF w' u (makeF l).1 ∧ Below w.heap.size w w' := by
  obtain ⟨A, c, rfl, hF, hc, hnc⟩ := hl
  by_cases h8 : 8 < l.length
  · have h8' : (8 : Int) < (l.length : Int) := by omega
    have HE := Lib.hid (make_big h8)
    go_enter Try.func11, Try.ntmps11
    go_wp2_with fail
    go_ret2
    rw [HE.out]
    exact ⟨_, rfl, ListF.nil w, bl w⟩
  · have h8' : ¬ (8 : Int) < (l.length : Int) := by omega
    have HB8 := Lib.hid (make_bad h8)
    have HT8 := Lib.hid (make_twice h8)
    have HG8 := Lib.hid (make_good h8)
    have HF := Lib.hid hF
    have HO := Lib.hid hok
    have HC := Lib.hid hc
    have HNC := Lib.hid hnc
    have CO0 : ∀ w1, Below w.heap.size w w1 → Calls Try.prog 21 #[.slice (some ⟨w1.heap.size, 0, none⟩) 1 1] (w1.alloc (.cells #[.slice A l.length c] 22)) fun e w' => ∃ v, e = .returned v ∧ ListF w' v (overL l) ∧ Below (w1.heap.size + 1) (w1.alloc (.cells #[.slice A l.length c] 22)) w' := fun w1 h => by
      have k := dover_any (w1.alloc (.cells #[.slice A l.length c] 22)) (some ⟨w1.heap.size, 0, none⟩) 1 [l] (rows_one _ (hF.below h) hc hnc) (by rw [flat_one]; omega) (by simp) (by simp; omega)
      rw [flat_one] at k
      simpa using k
    have CO := Lib.hid CO0
    clear CO0
    obtain ⟨n, hnm⟩ : ∃ n, l.length = n := ⟨_, rfl⟩
    rw [hnm] at h8 h8' HT8 HG8 CO ⊢
    have HN := Lib.hid hnm
    clear hF hok hc hnc hnm hn
    go_enter Try.func11, Try.ntmps11
    go_wp2_with fail
    go_loopw [4] (fun i wr => ∃ k : Nat, k ≤ n ∧ i = .int .i64 k ∧ firstE l = firstE (l.drop k) ∧ Below w.heap.size w wr) (fun i _ => n - (intOf i).toNat)
    case atStart => exact ⟨0, Nat.zero_le _, rfl, rfl, bl w⟩
    case round =>
      obtain ⟨k, hk, rfl, hg, hB⟩ := hrel
      have HB := Lib.hid hB
      clear hB
      by_cases hlt : k < n
      · have hlt' : (k : Int) < (n : Int) := by omega
        obtain ⟨f, hf⟩ : ∃ f, l[k]? = some f := ⟨_, List.getElem?_eq_getElem (by have := HN.out; omega)⟩
        obtain ⟨g, off, rfl, c0, c1⟩ := (HF.out.below HB.out) k f hf
        have CE := Lib.hid (fun w => done_any f (HO.out f (List.mem_of_getElem? hf)) w)
        rw [drop_consF hf, firstE] at hg
        by_cases h0 : oneE f = 0
        · rw [if_pos h0] at hg
          have E0 := Lib.hid h0
          have HG := Lib.hid hg
          clear hg hf h0
          go_wp2_with (go_at_call 30; with_reducible refine (CE.out _).mono ?_; rintro e w2 ⟨rfl, hb⟩; rw [E0.out])
          exact ⟨⟨k + 1, by omega, by go_num, HG.out, chain HB.out hb⟩, by simp [intOf] <;> omega⟩
        · rw [if_neg h0] at hg
          have NX := Lib.hid (HB8.out (by rw [hg]; exact h0))
          have HG := Lib.hid hg
          have h0' : ¬ ((oneE f : Nat) : Int) = 0 := by omega
          clear hg hf h0
          generalize oneE f = z at *
          go_wp2_with (go_at_call 30; with_reducible refine (CE.out _).mono ?_; rintro e w2 ⟨rfl, hb⟩)
          go_ret2
          rw [NX.out]
          exact ⟨_, ret_le (by rw [HG.out]), ListF.nil _, chain HB.out hb⟩
      · obtain rfl : k = n := by omega
        have hlt' : ¬ (k : Int) < (k : Int) := by omega
        rw [List.drop_of_length_le (by have := HN.out; omega)] at hg
        have HG := Lib.hid hg
        have CO2 := Lib.hid (CO.out wr HB.out)
        clear hg CO
        by_cases hq : (overL l).length = k
        · have hne : (((overL l).length : Int) != (k : Int)) = false := by rw [bne_eq_false_iff_eq]; omega
          have NX := Lib.hid (HG8.out HG.out hq)
          have HQ := Lib.hid hq
          clear hq
          generalize overL l = R at *
          go_wp2_with (go_at_call 21; (with_reducible refine CO2.out.mono ?_); rintro e w2 ⟨u2, rfl, ⟨A2, c2, rfl, hF2, hc2, hnc2⟩, hb2⟩; have HF2 := Lib.hid hF2; have HC2 := Lib.hid hc2; have HNC2 := Lib.hid hnc2; have HB2 := Lib.hid (((HB.out.alloc HB.out.size (.cells #[.slice A k c] 22))).trans (hb2.mono (Nat.le_succ_of_le HB.out.size))); clear hF2 hc2 hnc2 hb2)
          go_ret2
          rw [NX.out]
          exact ⟨_, rfl, ⟨A2, c2, rfl, HF2.out, HC2.out, HNC2.out⟩, HB2.out⟩
        · have hne : (((overL l).length : Int) != (k : Int)) = true := by rw [bne_iff_ne]; omega
          have NX := Lib.hid (HT8.out HG.out hq)
          clear hq
          go_wp2_with (go_at_call 21; (with_reducible refine CO2.out.mono ?_); rintro e w2 ⟨u2, rfl, ⟨A2, c2, rfl, hF2, hc2, hnc2⟩, hb2⟩; have HF2 := Lib.hid hF2; have HC2 := Lib.hid hc2; have HNC2 := Lib.hid hnc2; have HB2 := Lib.hid (((HB.out.alloc HB.out.size (.cells #[.slice A k c] 22))).trans (hb2.mono (Nat.le_succ_of_le HB.out.size))); clear hF2 hc2 hnc2 hb2)
          go_ret2
          rw [NX.out]
          exact ⟨_, rfl, ListF.nil _, HB2.out⟩

end Go.Proofs.Ytnmnbnlokmmcmaa
