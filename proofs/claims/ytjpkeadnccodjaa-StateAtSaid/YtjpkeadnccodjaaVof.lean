/-
  The document's Of, Covers and At of versions.
-/
import Derived.Test.YtjpkeadnccodjaaVorder
import Derived.Test.YtjpkeadnccodjaaGdover
namespace Go.Proofs.Ytjpkeadnccodjaa
open Go.RowKit

/-- Few enough versions, of few enough fields. -/
def fewV (l : List Vr) : Prop := l.length ≤ 200 ∧ ∀ v ∈ l, v.fs.length ≤ 100
theorem flat_leV {L : List (List Fd)} {m : Nat} (h : ∀ l ∈ L, l.length ≤ m) : L.flatten.length ≤ L.length * m := by
  induction L with
  | nil => simp
  | cons a L ih =>
    rw [List.flatten_cons, List.length_append, List.length_cons, Nat.add_mul, Nat.one_mul]
    have h1 := h a List.mem_cons_self
    have h2 := ih fun l hl => h l (List.mem_cons_of_mem _ hl)
    omega
theorem counts_mem {l : List Vr} {fs : List Fd} (h : fs ∈ countsV l) : ∃ v ∈ l, v.fs = fs := by
  unfold countsV at h
  obtain ⟨v, hv, rfl⟩ := List.mem_map.1 h
  exact ⟨v, (ordL_perm l).mem_iff.1 (List.mem_filter.1 hv).1, rfl⟩
theorem counts_few {l : List Vr} (h : fewV l) : (countsV l).length ≤ 200 ∧ (countsV l).flatten.length ≤ 20000 ∧ ∀ fs ∈ countsV l, fs.length ≤ 100 := by
  have h1 : (countsV l).length ≤ 200 := by
    unfold countsV
    rw [List.length_map]
    have := List.length_filter_le (fun v : Vr => !v.gone) (ordL l)
    rw [ordL_length] at this
    have := h.1
    omega
  have h2 : ∀ fs ∈ countsV l, fs.length ≤ 100 := fun fs hf => by
    obtain ⟨v, hv, rfl⟩ := counts_mem hf
    exact h.2 v hv
  have h3 := flat_leV h2
  have : (countsV l).length * 100 ≤ 200 * 100 := Nat.mul_le_mul_right 100 h1
  exact ⟨h1, by omega, h2⟩
/-- Lists of fields as their values' parts. -/
def slOf (v : Vr) : Sl := ⟨v.fa, v.fs.length, v.fc⟩
theorem rows_of {w : World} {A : Option Addr} {vs : List Vr} (h : RowE EL w A (vs.map slOf)) (hv : ∀ v ∈ vs, VF w v) : RowsF w A (vs.map Vr.fs) := fun i l hl => by
  rw [List.getElem?_map] at hl
  cases hx : vs[i]? with
  | none => rw [hx] at hl; cases hl
  | some v =>
    rw [hx] at hl
    obtain rfl : v.fs = l := by simpa using hl
    obtain ⟨g, off, e, hc⟩ := h i (slOf v) (by rw [List.getElem?_map, hx]; rfl)
    refine ⟨g, off, _, e, ?_, (hv v (List.mem_of_getElem? hx)).list⟩
    have := hc 0 _ rfl
    have e1 : EL.sz = 1 := rfl
    rw [e1, Nat.mul_one, Nat.add_zero] at this
    exact this

set_option maxHeartbeats 4000000 in
set_option maxRecDepth 10000 in
theorem dof_any (w : World) (u : Value) (l : List Vr) (hl : VersL w u l) (hf : fewV l) :
    Calls Try.prog 15 #[u] w fun e w' => ∃ x, e = .returned x ∧ ListF w' x (ofL l) ∧ Below w.heap.size w w' := by
  have CO := Lib.hid (dorder_any w u l hl (by have := hf.1; omega))
  have HF := Lib.hid hf
  have HCF := Lib.hid (counts_few hf)
  obtain ⟨O, hO⟩ : ∃ O, ordL l = O := ⟨_, rfl⟩
  have HO := Lib.hid hO
  rw [hO] at CO
  have hOn : O.length ≤ 200 := by rw [← hO, ordL_length]; exact hf.1
  have HCNT := Lib.hid (show countsV l = (O.filter fun v => !v.gone).map Vr.fs by unfold countsV; rw [hO])
  clear hl hO hf
  go_enter Try.func15, Try.ntmps15
  go_wp2_with (go_at_call 12; (with_reducible refine CO.out.mono ?_); rintro e w1 ⟨x1, rfl, ⟨⟨A1, c1, rfl, hr1, hc1, hn1⟩, hvf1⟩, hb1⟩; have HR1 := Lib.hid hr1; have HV1 := Lib.hid hvf1; have HB1 := Lib.hid hb1; clear hr1 hc1 hn1 hvf1 hb1)
  obtain ⟨n, hnm⟩ : ∃ n, O.length = n := ⟨_, rfl⟩
  rw [hnm] at hOn ⊢
  have HN := Lib.hid hnm
  clear hnm
  go_loopw [3, 4] (fun o i wr => ∃ t vs, t ≤ n ∧ i = .int .i64 (t : Nat) ∧ vs = (O.take t).filter (fun v => !v.gone) ∧ OE EL w1 (vs.map slOf) o wr) (fun _ i _ => n - (intOf i).toNat)
  case atStart => exact ⟨0, [], Nat.zero_le _, rfl, rfl, OE.nil w1⟩
  case round =>
    obtain ⟨t, vs, ht, rfl, hvs, hO⟩ := hrel
    have HVS := Lib.hid hvs
    have HO2 := Lib.hid hO
    have hlen : vs.length ≤ 200 := by
      rw [hvs]
      have := List.length_filter_le (fun v : Vr => !v.gone) (O.take t)
      rw [List.length_take] at this
      omega
    clear hvs hO
    by_cases hlt : t < n
    · have hlt' : (t : Int) < (n : Int) := by omega
      obtain ⟨x, hx⟩ : ∃ x, O[t]? = some x := ⟨_, List.getElem?_eq_getElem (by have := HN.out; omega)⟩
      obtain ⟨g, off, rfl, hX⟩ := (HR1.out.below HO2.out.bel).cells7 hx
      have z5 := hX.2.2.2.2.2.1
      have z6 := hX.2.2.2.2.2.2
      cases hg : x.gone with
      | true =>
        have NX := Lib.hid (show vs = (O.take (t + 1)).filter (fun v => !v.gone) by rw [List.take_add_one, hx, Option.toList_some, List.filter_append, HVS.out]; simp [hg])
        rw [hg] at z6
        clear hX hx hg z5
        go_wp2_with fail
        exact ⟨⟨t + 1, vs, by omega, by go_num, NX.out, HO2.out⟩, by simp [intOf] <;> omega⟩
      | false =>
        have NX := Lib.hid (show vs ++ [x] = (O.take (t + 1)).filter (fun v => !v.gone) by rw [List.take_add_one, hx, Option.toList_some, List.filter_append, HVS.out]; simp [hg])
        rw [hg] at z6
        have HLEN := Lib.hid hlen
        clear hX hx hg hlen
        go_wp2_with (first
          | (at_builtin; refine wpList_appE (E := EL) rfl (.tmp 19) (.tmp 25) rfl rfl (base := w1.heap.size) rfl (World.ownsRow.alloc HO2.out.own _) rfl rfl (rowE_one wr (slOf x) _ rfl _) (by simp) (by have := HLEN.out; simp; omega) (by have := HO2.out.bel.size; simp; omega) ?_; intro v2 w4 hown4 hg4; have HO4 := Lib.hid ((HO2.out.below ((bl wr).alloc (Nat.le_refl _) _)).grown hg4 hown4)))
        exact ⟨⟨t + 1, _, by omega, by go_num, NX.out, by rw [List.map_append]; exact HO4.out⟩, by simp [intOf] <;> omega⟩
    · obtain rfl : t = n := by omega
      have hlt' : ¬ (t : Int) < (t : Int) := by omega
      have HE := Lib.hid (show vs.map Vr.fs = countsV l by rw [HCNT.out, HVS.out, List.take_of_length_le (by have := HN.out; omega)])
      have hmem : ∀ v ∈ vs, VF w1 v := fun v hv => HV1.out v (by
        rw [HVS.out] at hv
        exact List.mem_of_mem_take (List.mem_filter.1 hv).1)
      obtain ⟨A2, c2, rfl, hr2, hc2, hn2⟩ := HO2.out.list
      have hc := HCF.out
      rw [← HE.out] at hc
      have CV := dover_any wr A2 c2 (vs.map Vr.fs) (rows_of hr2 fun v hv => (hmem v hv).below HO2.out.bel) (by omega) (by omega) (fun f hf => by have := hc.2.2 f hf; omega)
      rw [HE.out, show (countsV l).length = (vs.map slOf).length by rw [← HE.out, List.length_map, List.length_map]] at CV
      have CV2 := Lib.hid CV
      have HB2 := Lib.hid (chain HB1.out HO2.out.bel)
      clear CV hmem hc hr2 hc2 hn2 hlen HCF
      generalize (vs.map slOf).length = m at *
      go_wp2_with (go_at_call 29; (with_reducible refine CV2.out.mono ?_); rintro e w5 ⟨x5, rfl, hl5, hb5⟩)
      go_ret
      exact ⟨_, rfl, hl5, chain HB2.out hb5⟩

end Go.Proofs.Ytjpkeadnccodjaa
