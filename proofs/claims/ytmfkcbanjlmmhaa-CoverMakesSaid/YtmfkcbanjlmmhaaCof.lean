/-
  The document's Of: the cover of the times of two lists that count.
-/
import Derived.Test.YtmfkcbanjlmmhaaCapps
import Derived.Test.YtmfkcbanjlmmhaaCdkept
import Derived.IntWalk
namespace Go.Proofs.Ytmfkcbanjlmmhaa
open Go.RowKit

/-- What put makes of what is out. -/
theorem OutTo.put_nil {a b : List Sp} {kind : Int} {ts : List Int} {i : Nat} (h : OutTo a b kind ts i []) (ha : ∀ y ∈ endsOf a, y ∈ ts) (hb : ∀ y ∈ endsOf b, y ∈ ts) (hp : ts.Pairwise (· < ·)) (hbd : ∀ y ∈ ts, -1099511627776 ≤ y ∧ y ≤ 1099511627776) {f t : Int} (hf : ts[i]? = some f) (ht : ts[i + 1]? = some t) (hn : kindB kind (memB a f) (memB b f) = true) : OutTo a b kind ts (i + 1) [(f, t)] := by
  have hft : f < t := by
    obtain ⟨li, ei⟩ := List.getElem?_eq_some_iff.1 hf
    obtain ⟨lj, ej⟩ := List.getElem?_eq_some_iff.1 ht
    have := List.pairwise_iff_getElem.1 hp i (i + 1) li lj (by omega)
    rwa [ei, ej] at this
  have h1 := hbd f (List.mem_of_getElem? hf)
  have h2 := hbd t (List.mem_of_getElem? ht)
  obtain ⟨c1, c2⟩ := put_adds (m := []) (f := f) (t := t) Cov.nil (by simp) (by simp [rightB]; omega)
  exact h.next ha hb hp hf ht hn c1 c2 (by simp) (by simp)
theorem OutTo.put_more {a b : List Sp} {kind : Int} {ts : List Int} {i : Nat} {m : List Sp} {q1 q2 : Int} (h : OutTo a b kind ts i (m ++ [(q1, q2)])) (ha : ∀ y ∈ endsOf a, y ∈ ts) (hb : ∀ y ∈ endsOf b, y ∈ ts) (hp : ts.Pairwise (· < ·)) (hbd : ∀ y ∈ ts, -1099511627776 ≤ y ∧ y ≤ 1099511627776) {f t : Int} (hf : ts[i]? = some f) (ht : ts[i + 1]? = some t) (hn : kindB kind (memB a f) (memB b f) = true) : OutTo a b kind ts (i + 1) (if q2 = f then m ++ [(q1, t)] else m ++ [(q1, q2)] ++ [(f, t)]) := by
  have hft : f < t := by
    obtain ⟨li, ei⟩ := List.getElem?_eq_some_iff.1 hf
    obtain ⟨lj, ej⟩ := List.getElem?_eq_some_iff.1 ht
    have := List.pairwise_iff_getElem.1 hp i (i + 1) li lj (by omega)
    rwa [ei, ej] at this
  have h1 := hbd f (List.mem_of_getElem? hf)
  have h2 := hbd t (List.mem_of_getElem? ht)
  have h3 := h.ends (q1, q2) (by simp) f hf
  simp only at h3
  split
  · rename_i e
    obtain ⟨c1, c2⟩ := put_joins (t := t) h.cov (by simp only; omega) h2.2
    simp only [e] at c2
    refine h.next ha hb hp hf ht hn c1 ?_ (fun p hp' => ?_) (by simp)
    · simpa [e] using c2
    · rcases List.mem_append.1 hp' with h4 | h4
      · exact .inl (List.mem_append_left _ h4)
      · obtain rfl := List.mem_singleton.1 h4
        exact .inr rfl
  · rename_i e
    obtain ⟨c1, c2⟩ := put_adds (f := f) (t := t) h.cov (h.cov.ends (x := f) (by simp only; omega)) (by simp [rightB]; omega)
    refine h.next ha hb hp hf ht hn c1 c2 (fun p hp' => ?_) (by simp)
    rcases List.mem_append.1 hp' with h4 | h4
    · exact .inl h4
    · obtain rfl := List.mem_singleton.1 h4
      exact .inr rfl

theorem own_emptyS {w : World} {b base : Nat} (h : w.heap[b]? = some (.cells #[] 36 (0, 0))) (hb : base ≤ b) : ownS w base (.slice (some ⟨b, 0, none⟩) 0 0) [] :=
  ⟨by simp [flat], .inr ⟨b, 0, #[], rfl, hb, h, by simp, by simp [maxLen], by simp, by simp [flat]⟩⟩

/-- What holds at the head of each round. -/
def OfRel (W : World) (a b : List Sp) (kind : Int) (ts : List Int) (k : Nat) (v : Value) (wr : World) : Prop :=
  (k = 0 ∨ k < ts.length) ∧ ∃ o, OutTo a b kind ts k o ∧ SpRel W o v wr

set_option maxHeartbeats 8000000 in
set_option maxRecDepth 10000 in
theorem of_any (w : World) (A B : Option Addr) (c d : Nat) (a b : List Sp) (kind : Int) (hk : kind = 0 ∨ kind = 1 ∨ kind = 2) (ha : Spans w A a) (hb : Spans w B b) (hA : A = none → c = 0) (hB : B = none → d = 0) (hn : a.length + b.length ≤ 400) :
    Calls Try.prog 16 #[.slice A a.length c, .slice B b.length d, .int .i64 kind] w (CovPost (KindP kind a b) 1000 w) := by
  have HA := Lib.hid ha
  have HB := Lib.hid hb
  have HK := Lib.hid hk
  clear ha hb hk
  obtain ⟨n, hnm⟩ : ∃ n, n = a.length := ⟨_, rfl⟩
  obtain ⟨n', hnm'⟩ : ∃ n, n = b.length := ⟨_, rfl⟩
  rw [← hnm, ← hnm'] at hn ⊢
  have HN := Lib.hid hnm
  have HN' := Lib.hid hnm'
  clear hnm hnm'
  have hown0 : ownS (w.alloc (.cells #[] 36)) w.heap.size (.slice (some ⟨w.heap.size, 0, none⟩) 0 0) [] := own_emptyS (heap_alloc_new w _) (Nat.le_refl _)
  have hbel0 : Below w.heap.size w (w.alloc (.cells #[] 36)) := (bl w).alloc (Nat.le_refl _) _
  have hlt0 := hown0.lt w.heap.size rfl
  go_enter Try.func16, Try.ntmps16
  go_wp2_with (first
    | (at_builtin; refine wpList_apps rfl (.tmp 12) (.tmp 13) rfl (base := w.heap.size) (ts := []) (xs := a) rfl hown0 rfl HN.out (HA.out.below hbel0) hA (by have := HN.out; simp; omega) (by simp) ?_; intro v1 w1 hown1 hg1; have hbel1 : Below w.heap.size w w1 := below_grown hbel0 hg1 (fun r hr => (hown0.lt r hr).1); clear hown0 hbel0 hg1 hlt0)
    | (at_builtin; refine wpList_apps rfl (.tmp 14) (.tmp 15) rfl (base := w.heap.size) (ts := [] ++ a) (xs := b) rfl hown1 rfl HN'.out (HB.out.below hbel1) hB (by have := HN.out; have := HN'.out; simp; omega) hbel1.size ?_; intro v2 w2 hown2 hg2; have hbel2 : Below w.heap.size w w2 := below_grown hbel1 hg2 (fun r hr => (hown1.lt r hr).1); clear hown1 hbel1 hg2)
    | fail)
  simp only [List.nil_append] at hown2
  obtain ⟨A2, c2, rfl, hsp2⟩ := own_spans hown2
  go_wp2_with (go_at_call 33; refine (ends_any _ _ _ _ hsp2 (by have := HN.out; have := HN'.out; simp; omega)).mono ?_; rintro e w3 ⟨v3, rfl, hown3, hb3⟩)
  clear hsp2 hown2
  obtain ⟨ts, hts⟩ : ∃ ts, riseL (endsOf (a ++ b)) = ts := ⟨_, rfl⟩
  rw [hts] at hown3
  have htl : ts.length ≤ 800 := by
    rw [← hts]
    have h1 := riseL_length (endsOf (a ++ b))
    have h2 := ends_length (a ++ b)
    have := HN.out
    have := HN'.out
    simp at h2
    omega
  have EA := Lib.hid (show ∀ y ∈ endsOf a, y ∈ ts from fun y hy => by rw [← hts, mem_riseL, ends_append]; exact List.mem_append_left _ hy)
  have EB := Lib.hid (show ∀ y ∈ endsOf b, y ∈ ts from fun y hy => by rw [← hts, mem_riseL, ends_append]; exact List.mem_append_right _ hy)
  have EP := Lib.hid (show ts.Pairwise (· < ·) from by rw [← hts]; exact riseL_pw _)
  have ED := Lib.hid (show ∀ y ∈ ts, -1099511627776 ≤ y ∧ y ≤ 1099511627776 from fun y hy => by rw [← hts, mem_riseL] at hy; exact ends_bounds hy)
  clear hts
  obtain ⟨At, ct, rfl, hin3⟩ := own_ints hown3
  have HIN := Lib.hid hin3
  have HB3 := Lib.hid (hbel2.trans (hb3.mono hbel2.size))
  have HA3 := Lib.hid (HA.out.below HB3.out)
  have HBB3 := Lib.hid (HB.out.below HB3.out)
  clear hin3 hown3 hbel2 hb3
  obtain ⟨N, hN⟩ : ∃ N, N = ts.length := ⟨_, rfl⟩
  rw [← hN] at htl ⊢
  have HT := Lib.hid hN
  clear hN
  go_wp2_with fail
  go_loopw [8, 9] (fun v i wr => ∃ k : Nat, k ≤ N ∧ i = .int .i64 k ∧ OfRel w3 a b kind ts k v wr) (fun _ i _ => N - (intOf i).toNat)
  case atStart => exact ⟨0, Nat.zero_le _, rfl, .inl rfl, [], OutTo.start EA.out EB.out EP.out, SpRel.nil w3⟩
  case round =>
    obtain ⟨k, hkN, rfl, hk0, o, hO, hR⟩ := hrel
    have HO := Lib.hid hO
    have HR := Lib.hid hR
    have HK0 := Lib.hid hk0
    have hsz := hR.2.size
    have hle := hO.len
    clear hO hR hk0
    by_cases hlt : k + 1 < N
    · obtain ⟨f, hf⟩ : ∃ f, ts[k]? = some f := ⟨_, List.getElem?_eq_getElem (by have := HT.out; omega)⟩
      obtain ⟨t, ht⟩ : ∃ t, ts[k + 1]? = some t := ⟨_, List.getElem?_eq_getElem (by have := HT.out; omega)⟩
      obtain ⟨g, off, rfl, c0⟩ := HIN.out k f hf
      obtain ⟨g', off', he, c1⟩ := HIN.out (k + 1) t ht
      injection he with he
      injection he with e1 e2 _
      subst e1 e2
      have HF := Lib.hid hf
      have HTT := Lib.hid ht
      have d0 := keepc HR.out.2 c0
      have d1 := keepc HR.out.2 c1
      have hltI : (k : Int) + 1 < (N : Int) := by omega
      have hkI : (k : Int) < (N : Int) := by omega
      have hk0' : (0 : Int) ≤ (k : Int) := by omega
      have hkS : (0 : Int) ≤ (k : Int) + 1 := by omega
      have hkT : ((k : Int) + 1).toNat = k + 1 := by omega
      have hkW : IntKind.i64.wrap ((k : Int) + 1) = (k : Int) + 1 := IntWalk.i64_in _ (by omega)
      clear hf ht
      obtain ⟨X, hX⟩ : ∃ X, memB a f = X := ⟨_, rfl⟩
      obtain ⟨Y, hY⟩ : ∃ Y, memB b f = Y := ⟨_, rfl⟩
      have CA : ∀ w4, Spans w4 A a → Calls Try.prog 20 #[.slice A n c, .int .i64 f] w4 (fun e w' => e = .returned (.bool X) ∧ Below w4.heap.size w4 w') := fun w4 h => by
        rw [HN.out, ← hX]; exact dhasl_any _ _ _ a f h (by have := HN.out; omega)
      have CB : ∀ w4, Spans w4 B b → Calls Try.prog 20 #[.slice B n' d, .int .i64 f] w4 (fun e w' => e = .returned (.bool Y) ∧ Below w4.heap.size w4 w') := fun w4 h => by
        rw [HN'.out, ← hY]; exact dhasl_any _ _ _ b f h (by have := HN'.out; omega)
      go_wp2_with fail
      go_at_call 20
      refine (CA _ (HA3.out.below HR.out.2)).mono ?_
      rintro e w4 ⟨rfl, hb4⟩
      have HR4 := Lib.hid (HR.out.step hb4)
      have d0 := keepc HR4.out.2 c0
      go_wp2_with fail
      go_at_call 20
      refine (CB _ (HBB3.out.below HR4.out.2)).mono ?_
      rintro e w5 ⟨rfl, hb5⟩
      have HR5 := Lib.hid (HR4.out.step hb5)
      have d0 := keepc HR5.out.2 c0
      have d1 := keepc HR5.out.2 c1
      clear CA CB
      have HX := Lib.hid hX
      have HY := Lib.hid hY
      have hsz5 := HR5.out.2.size
      clear hX hY hb4 hb5 HR HR4
      have HN1 := Lib.hid (show k + 1 = 0 ∨ k + 1 < ts.length from .inr (by have := HT.out; omega))
      have HD := Lib.hid (SpRel.step HR5.out (belowN (bl w5) 1))
      have b0 : w5.drew.cell? ⟨g, off + k, none⟩ = some (.int .i64 f) := d0
      have b1 : w5.drew.cell? ⟨g, off + (k + 1), none⟩ = some (.int .i64 t) := d1
      have HKB := Lib.hid (show ∀ r, kindB kind X Y = r → kindB kind (memB a f) (memB b f) = r from fun r h => by rw [HX.out, HY.out]; exact h)
      rcases HK.out with rfl | rfl | rfl
      all_goals
        cases X
        all_goals
          cases Y
          all_goals
            first
              | (have hkb := HKB.out false rfl
                 have NX := Lib.hid (HO.out.skip EA.out EB.out EP.out HF.out HTT.out hkb)
                 clear hkb
                 go_wp2_with fail
                 go_roundw
                 case rel => exact ⟨k + 1, by omega, by go_num, HN1.out, o, NX.out, HR5.out⟩
                 case measure => simp [intOf]; omega)
              | (have hkb := HKB.out true rfl
                 rcases List.eq_nil_or_concat o with rfl | ⟨m, ⟨q1, q2⟩, hmq⟩
                 · have NX := Lib.hid (HO.out.put_nil EA.out EB.out EP.out ED.out HF.out HTT.out hkb)
                   clear hkb
                   go_wp2_with fail
                   go_still_tail 11, (by kernel_rfl)
                   change wpList _ _ _ _ _ w5.drew
                   go_wp2_with (go_at_call 34; refine (put_nil w3 _ _ f t HD.out).mono ?_; rintro e w6 ⟨v6, rfl, h6⟩; have HP := Lib.hid h6; clear h6)
                   go_roundw
                   case rel => exact ⟨k + 1, by omega, by go_num, HN1.out, _, NX.out, HP.out⟩
                   case measure => simp [intOf]; omega
                 · obtain rfl : o = m ++ [(q1, q2)] := by rw [hmq]; simp
                   clear hmq
                   have NX := Lib.hid (HO.out.put_more EA.out EB.out EP.out ED.out HF.out HTT.out hkb)
                   simp only [List.length_append, List.length_cons, List.length_nil] at hle
                   clear hkb
                   go_wp2_with fail
                   go_still_tail 11, (by kernel_rfl)
                   change wpList _ _ _ _ _ w5.drew
                   go_wp2_with (go_at_call 34; refine (put_more w3 _ _ m q1 q2 f t HD.out (by omega)).mono ?_; rintro e w6 ⟨v6, rfl, h6⟩; have HP := Lib.hid h6; clear h6)
                   go_roundw
                   case rel => exact ⟨k + 1, by omega, by go_num, HN1.out, _, NX.out, HP.out⟩
                   case measure => simp [intOf]; omega)
    · go_wp2_with fail
      obtain ⟨A3, c3, rfl, hsp3⟩ := own_spans HR.out.1
      have HSP3 := Lib.hid hsp3
      clear hsp3
      go_wp2_with fail
      go_ret
      exact ⟨A3, c3, o, rfl, HSP3.out, HO.out.stop EA.out EB.out EP.out (by have := HT.out; omega) (by have := HK0.out; have := HT.out; omega), by omega, chain HB3.out HR.out.2⟩

end Go.Proofs.Ytmfkcbanjlmmhaa
