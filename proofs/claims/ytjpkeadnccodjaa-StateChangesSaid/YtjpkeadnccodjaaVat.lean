/-
  The document's Covers and At of versions.
-/
import Derived.Test.YtjpkeadnccodjaaVof
namespace Go.Proofs.Ytjpkeadnccodjaa
open Go.RowKit

def rightS (f t : Int) : Bool := decide (-1099511627776 ≤ f) && decide (t ≤ 1099511627776) && decide (f < t)
def hasS (f t x : Int) : Bool := decide (f ≤ x) && decide (x < t)
theorem coversB_eq (v : Vr) (t : Int) : coversB v t = (!v.gone && rightS v.sf v.se && hasS v.sf v.se t) := rfl

set_option maxHeartbeats 1000000 in
theorem dright01_any (f t : Int) (w : World) : Ret 43 #[.agg #[.int .i64 f, .int .i64 t]] w (.bool (rightS f t)) := by
  by_cases h1 : -1099511627776 ≤ f
  · by_cases h2 : t ≤ 1099511627776
    · by_cases h3 : f < t
      · have HE := Lib.hid (show rightS f t = true by simp [rightS, h1, h2, h3])
        go_enter Try.func43, Try.ntmps43
        go_wp2_with fail
        go_ret
        exact ⟨ret_bool HE.out.symm, (bl w).alloc (Nat.le_refl _) _⟩
      · have HE := Lib.hid (show rightS f t = false by simp [rightS, h3])
        go_enter Try.func43, Try.ntmps43
        go_wp2_with fail
        go_ret
        exact ⟨ret_bool HE.out.symm, (bl w).alloc (Nat.le_refl _) _⟩
    · have HE := Lib.hid (show rightS f t = false by simp [rightS, h2])
      go_enter Try.func43, Try.ntmps43
      go_wp2_with fail
      go_ret
      exact ⟨ret_bool HE.out.symm, (bl w).alloc (Nat.le_refl _) _⟩
  · have HE := Lib.hid (show rightS f t = false by simp [rightS, h1])
    go_enter Try.func43, Try.ntmps43
    go_wp2_with fail
    go_ret
    exact ⟨ret_bool HE.out.symm, (bl w).alloc (Nat.le_refl _) _⟩
set_option maxHeartbeats 1000000 in
theorem dhas01_any (f t x : Int) (w : World) : Ret 44 #[.agg #[.int .i64 f, .int .i64 t], .int .i64 x] w (.bool (hasS f t x)) := by
  by_cases h1 : f ≤ x
  · by_cases h2 : x < t
    · have HE := Lib.hid (show hasS f t x = true by simp [hasS, h1, h2])
      go_enter Try.func44, Try.ntmps44
      go_wp2_with fail
      go_ret
      exact ⟨ret_bool HE.out.symm, (bl w).alloc (Nat.le_refl _) _⟩
    · have HE := Lib.hid (show hasS f t x = false by simp [hasS, h2])
      go_enter Try.func44, Try.ntmps44
      go_wp2_with fail
      go_ret
      exact ⟨ret_bool HE.out.symm, (bl w).alloc (Nat.le_refl _) _⟩
  · have HE := Lib.hid (show hasS f t x = false by simp [hasS, h1])
    go_enter Try.func44, Try.ntmps44
    go_wp2_with fail
    go_ret
    exact ⟨ret_bool HE.out.symm, (bl w).alloc (Nat.le_refl _) _⟩

set_option maxHeartbeats 4000000 in
set_option maxRecDepth 10000 in
theorem dcovers_any (v : Vr) (t : Int) (w : World) : Ret 35 #[vv v, .int .i64 t] w (.bool (coversB v t)) := by
  obtain ⟨id, st, ent, sf, se, fa, fc, fs, gone⟩ := v
  have CR := Lib.hid (fun w => dright01_any sf se w)
  have CH := Lib.hid (fun w => dhas01_any sf se t w)
  cases gone with
  | true =>
    have HE := Lib.hid (show coversB ⟨id, st, ent, sf, se, fa, fc, fs, true⟩ t = false from rfl)
    go_enter Try.func35, Try.ntmps35
    go_wp2_with fail
    go_ret
    exact ⟨ret_bool HE.out.symm, (bl w).alloc (Nat.le_refl _) _⟩
  | false =>
    cases hr : rightS sf se with
    | false =>
      have HE := Lib.hid (show coversB ⟨id, st, ent, sf, se, fa, fc, fs, false⟩ t = false by rw [coversB_eq, hr]; rfl)
      rw [hr] at CR
      clear hr
      go_enter Try.func35, Try.ntmps35
      go_wp2_with (go_at_call 43; (with_reducible refine (CR.out _).mono ?_); rintro e w2 ⟨rfl, hb2⟩)
      go_ret
      exact ⟨ret_bool HE.out.symm, ((bl w).alloc (Nat.le_refl _) _).trans (hb2.mono (by simp))⟩
    | true =>
      have HE := Lib.hid (show coversB ⟨id, st, ent, sf, se, fa, fc, fs, false⟩ t = hasS sf se t by rw [coversB_eq, hr]; rfl)
      rw [hr] at CR
      generalize hasS sf se t = hb at *
      clear hr
      go_enter Try.func35, Try.ntmps35
      go_wp2_with (first
        | (go_at_call 43; (with_reducible refine (CR.out _).mono ?_); rintro e w2 ⟨rfl, hb2⟩; have k3 : w2.cell? ⟨w.heap.size, 3, none⟩ = some (.int .i64 sf) := keepc hb2 (by simp [go_sem]); have k4 : w2.cell? ⟨w.heap.size, 4, none⟩ = some (.int .i64 se) := keepc hb2 (by simp [go_sem]))
        | (go_at_call 44; (with_reducible refine (CH.out _).mono ?_); rintro e w3 ⟨rfl, hb3⟩))
      go_ret
      exact ⟨ret_bool HE.out.symm, (((bl w).alloc (Nat.le_refl _) _).trans (hb2.mono (by simp))).trans (hb3.mono (by have := hb2.size; simp at this; omega))⟩

theorem few_filter {l : List Vr} (p : Vr → Bool) (h : fewV l) : fewV (l.filter p) := ⟨by have := List.length_filter_le p l; have := h.1; omega, fun v hv => h.2 v (List.mem_filter.1 hv).1⟩

set_option maxHeartbeats 4000000 in
set_option maxRecDepth 10000 in
theorem dat_any (w : World) (x : Int) (u : Value) (l : List Vr) (hl : VersL w u l) (hf : fewV l) :
    Calls Try.prog 19 #[.int .i64 x, u] w fun e w' => ∃ y, e = .returned y ∧ ListF w' y (atL x l) ∧ Below w.heap.size w w' := by
  obtain ⟨⟨A, c, rfl, hA, hc, hnc⟩, hVF⟩ := hl
  have HA := Lib.hid hA
  have HVF := Lib.hid hVF
  have HF := Lib.hid hf
  obtain ⟨n, hnm⟩ : ∃ n, l.length = n := ⟨_, rfl⟩
  have hn2 : n ≤ 200 := by rw [← hnm]; exact hf.1
  rw [hnm] at hc ⊢
  have HN := Lib.hid hnm
  clear hA hc hnc hVF hnm hf
  go_enter Try.func19, Try.ntmps19
  go_wp2_with fail
  go_loopw [5, 6] (fun o i wr => ∃ t vs, t ≤ n ∧ i = .int .i64 (t : Nat) ∧ vs = (l.take t).filter (fun v => coversB v x) ∧ OE EV w vs o wr) (fun _ i _ => n - (intOf i).toNat)
  case atStart => exact ⟨0, [], Nat.zero_le _, rfl, rfl, OE.nil w⟩
  case round =>
    obtain ⟨t, vs, ht, rfl, hvs, hO⟩ := hrel
    have HVS := Lib.hid hvs
    have HO2 := Lib.hid hO
    have hlen : vs.length ≤ 200 := by
      rw [hvs]
      have := List.length_filter_le (fun v : Vr => coversB v x) (l.take t)
      rw [List.length_take] at this
      omega
    clear hvs hO
    by_cases hlt : t < n
    · have hlt' : (t : Int) < (n : Int) := by omega
      obtain ⟨v, hx⟩ : ∃ v, l[t]? = some v := ⟨_, List.getElem?_eq_getElem (by have := HN.out; omega)⟩
      obtain ⟨g, off, rfl, hX⟩ := (HA.out.below HO2.out.bel).cells7 hx
      have CC := Lib.hid (fun w => dcovers_any v x w)
      have HX := Lib.hid hX
      obtain ⟨z0, z1, z2, z3, z4, z5, z6⟩ := hX
      cases hg : coversB v x with
      | false =>
        have NX := Lib.hid (show vs = (l.take (t + 1)).filter (fun v => coversB v x) by rw [List.take_add_one, hx, Option.toList_some, List.filter_append, HVS.out]; simp [hg])
        rw [hg] at CC
        clear hx hg
        go_wp2_with (go_at_call 35; (with_reducible refine (CC.out _).mono ?_); rintro e w2 ⟨rfl, hb2⟩)
        exact ⟨⟨t + 1, vs, by omega, by go_num, NX.out, HO2.out.below hb2⟩, by simp [intOf] <;> omega⟩
      | true =>
        have NX := Lib.hid (show vs ++ [v] = (l.take (t + 1)).filter (fun v => coversB v x) by rw [List.take_add_one, hx, Option.toList_some, List.filter_append, HVS.out]; simp [hg])
        rw [hg] at CC
        have HLEN := Lib.hid hlen
        clear hx hg hlen
        go_wp2_with (first
          | (go_at_call 35; (with_reducible refine (CC.out _).mono ?_); rintro e w2 ⟨rfl, hb2⟩; have HO3 := Lib.hid (HO2.out.below hb2); obtain ⟨y0, y1, y2, y3, y4, y5, y6⟩ := HX.out.below hb2)
          | (at_builtin; refine wpList_appE (E := EV) rfl (.tmp 19) (.tmp 24) rfl rfl (base := w.heap.size) rfl (World.ownsRow.alloc HO3.out.own _) rfl rfl (rowE_one w2 v _ rfl _) (by simp) (by have := HLEN.out; simp; omega) (by have := HO3.out.bel.size; simp; omega) ?_; intro v2 w4 hown4 hg4; have HO4 := Lib.hid ((HO3.out.below ((bl w2).alloc (Nat.le_refl _) _)).grown hg4 hown4)))
        exact ⟨⟨t + 1, _, by omega, by go_num, NX.out, HO4.out⟩, by simp [intOf] <;> omega⟩
    · obtain rfl : t = n := by omega
      have hlt' : ¬ (t : Int) < (t : Int) := by omega
      have HE := Lib.hid (show vs = l.filter (fun v => coversB v x) by rw [HVS.out, List.take_of_length_le (by have := HN.out; omega)])
      have CO := Lib.hid (dof_any wr _ vs ⟨HO2.out.list, fun v hv => (HVF.out v (by
        rw [HE.out] at hv
        exact (List.mem_filter.1 hv).1)).below HO2.out.bel⟩ (by rw [HE.out]; exact few_filter _ HF.out))
      have HAT := Lib.hid (show atL x l = ofL vs by rw [HE.out]; rfl)
      clear hlen
      go_wp2_with (go_at_call 15; (with_reducible refine CO.out.mono ?_); rintro e w5 ⟨x5, rfl, hl5, hb5⟩)
      go_ret
      exact ⟨_, rfl, by rw [HAT.out]; exact hl5, chain HO2.out.bel hb5⟩

end Go.Proofs.Ytjpkeadnccodjaa
