/-
  The program's over, Of and At: the fields of the versions that count and that are meant, laid over each other in order.
-/
import Derived.Test.YtjpkeadnccodjaaVprise
import Derived.Test.YtjpkeadnccodjaaGpover
import Derived.Test.YtjpkeadnccodjaaVpset
import Derived.Test.YtjpkeadnccodjaaVat
namespace Go.Proofs.Ytjpkeadnccodjaa
open Go.RowKit

theorem insV_filter (p : Vr → Bool) : ∀ (a : List Vr) (x : Vr), SortedV a → (insV a x).filter p = if p x then insV (a.filter p) x else a.filter p
  | [], x, _ => by cases h : p x <;> simp [insV, h]
  | y :: a, x, hs => by
    obtain ⟨h1, h2⟩ := List.pairwise_cons.1 hs
    rw [insV]
    split
    · rename_i hle
      rw [List.filter_cons, insV_filter p a x h2]
      cases hy : p y
      · simp [hy]
      · cases hx : p x
        · simp [hy]
        · simp [hy, insV, hle]
    · rename_i hgt
      rw [List.filter_cons]
      cases hx : p x
      · simp
      · have hall : ∀ z ∈ (y :: a).filter p, x.st < z.st := fun z hz => by
          rcases List.mem_cons.1 (List.mem_filter.1 hz).1 with rfl | hz
          · omega
          · have := h1 z hz; omega
        simp only [if_true]
        revert hall
        generalize (y :: a).filter p = b
        intro hall
        cases b with
        | nil => rfl
        | cons z b =>
          have := hall z List.mem_cons_self
          rw [insV, if_neg (by omega)]
theorem foldl_filter (p : Vr → Bool) : ∀ (l a : List Vr), SortedV a → (l.foldl insV a).filter p = (l.filter p).foldl insV (a.filter p)
  | [], _, _ => rfl
  | x :: l, a, hs => by
    rw [List.foldl_cons, foldl_filter p l _ (insV_sorted a x hs), insV_filter p a x hs, List.filter_cons]
    cases hx : p x <;> simp
theorem ordL_filter (p : Vr → Bool) (l : List Vr) : ordL (l.filter p) = (ordL l).filter p := (foldl_filter p l [] List.Pairwise.nil).symm
/-- The fields of those that count and are meant. -/
def meantV (p : Vr → Bool) (l : List Vr) : List (List Fd) := ((ordL l).filter fun v => !v.gone && p v).map Vr.fs
theorem meant_all (l : List Vr) : overL (meantV (fun _ => true) l).flatten = ofL l := by
  unfold ofL countsV meantV
  simp only [Bool.and_true]
theorem meant_at (t : Int) (l : List Vr) : overL (meantV (fun v => rightS v.sf v.se && hasS v.sf v.se t) l).flatten = atL t l := by
  unfold atL ofL countsV meantV
  rw [ordL_filter, List.filter_filter]
  have e : (fun v : Vr => !v.gone && (rightS v.sf v.se && hasS v.sf v.se t)) = fun v => !v.gone && coversB v t := by
    funext v
    rw [coversB_eq]
    cases v.gone <;> simp
  rw [e]

set_option maxHeartbeats 4000000 in
set_option maxRecDepth 10000 in
theorem pover_meant {g : Nat} {cb : Array Value} {p : Vr → Bool} (eg : ∀ args w, (callFunc g args).run Try.prog w = .ok (.enter g args) w) (w : World) (u : Value) (l : List Vr) (hl : VersL w u l) (hf : fewV l) (hok : ∀ v ∈ l, okF v.fs)
    (hm : ∀ (v : Vr) (w' : World), Below w.heap.size w w' → Calls Try.prog g (#[vv v] ++ cb) w' fun e w'' => e = .returned (.bool (p v)) ∧ Below w'.heap.size w' w'') :
    Calls Try.prog 27 #[u, .func (.func g) #[] cb] w fun e w' => ∃ x, e = .returned x ∧ ListF w' x (overL (meantV p l).flatten) ∧ Below w.heap.size w w' := by
  have CR := Lib.hid (prising_any w u l hl (by have := hf.1; omega))
  have HM := Lib.hid hm
  obtain ⟨O, hO⟩ : ∃ O, ordL l = O := ⟨_, rfl⟩
  have HMV := Lib.hid (show meantV p l = (O.filter fun v => !v.gone && p v).map Vr.fs by unfold meantV; rw [hO])
  rw [hO] at CR
  have hOn : O.length ≤ 200 := by rw [← hO, ordL_length]; exact hf.1
  have HVF := Lib.hid (show ∀ v ∈ O, VF w v ∧ v.fs.length ≤ 100 ∧ okF v.fs from fun v hv => by
    rw [← hO] at hv
    have hv := (ordL_perm l).mem_iff.1 hv
    exact ⟨hl.2 v hv, hf.2 v hv, hok v hv⟩)
  clear hl hf hO hok hm
  obtain ⟨n, hnm⟩ : ∃ n, O.length = n := ⟨_, rfl⟩
  have HN := Lib.hid hnm
  rw [hnm] at hOn
  go_enter Try.func27, Try.ntmps27
  go_wp2_with (go_at_call 25; (with_reducible refine CR.out.mono ?_); rintro e w1 ⟨x1, rfl, hO1⟩; obtain ⟨A1, c1, rfl, hR1, _⟩ := hO1.list; rw [HN.out]; have HB1 := Lib.hid hO1.bel; have HR1 := Lib.hid hR1; clear hO1 hR1)
  clear hnm CR
  go_loopw [5, 11] (fun o i wr => ∃ t vs, t ≤ n ∧ i = .int .i64 (t : Nat) ∧ vs = (O.take t).filter (fun v => !v.gone && p v) ∧ OE EL w1 (vs.map slOf) o wr) (fun _ i _ => n - (intOf i).toNat)
  case atStart => exact ⟨0, [], Nat.zero_le _, rfl, rfl, OE.nil w1⟩
  case round =>
    obtain ⟨t, vs, ht, rfl, hvs, hO⟩ := hrel
    have HVS := Lib.hid hvs
    have HO2 := Lib.hid hO
    have hlen : vs.length ≤ 200 := by
      rw [hvs]
      have := List.length_filter_le (fun v : Vr => !v.gone && p v) (O.take t)
      rw [List.length_take] at this
      omega
    clear hvs hO
    by_cases hlt : t < n
    · have hlt' : (t : Int) < (n : Int) := by omega
      obtain ⟨v, hx⟩ : ∃ v, O[t]? = some v := ⟨_, List.getElem?_eq_getElem (by have := HN.out; omega)⟩
      obtain ⟨b, off, rfl, hX⟩ := (HR1.out.below HO2.out.bel).cells7 hx
      have CC := Lib.hid (fun w' => counts_any v w')
      have CM := Lib.hid (fun w' (h : Below wr.heap.size wr w') => HM.out v w' (chain HB1.out (chain HO2.out.bel h)))
      have HFI := Lib.hid (show (if !v.gone && p v then vs ++ [v] else vs) = (O.take (t + 1)).filter (fun v => !v.gone && p v) by
        rw [List.take_add_one, hx, Option.toList_some, List.filter_append, HVS.out]
        rw [List.filter_cons, List.filter_nil]
        by_cases h : (!v.gone && p v) = true
        · rw [if_pos h, if_pos h]
        · rw [if_neg h, if_neg h, List.append_nil])
      obtain ⟨z0, z1, z2, z3, z4, z5, z6⟩ := hX
      have HRW := Lib.hid (fun w3 : World => rowE_one (E := EL) w3 (slOf v) #[.slice v.fa v.fs.length v.fc] rfl 29)
      have HLEN := Lib.hid hlen
      clear hx hlen
      cases hg : v.gone with
      | true =>
        have NX := Lib.hid (show vs = (O.take (t + 1)).filter (fun v => !v.gone && p v) by rw [← HFI.out, hg]; rfl)
        rw [hg] at CC
        clear hg
        go_wp2_with (go_at_call 30; (with_reducible refine (CC.out _).mono ?_); rintro e w2 ⟨rfl, rfl⟩)
        exact ⟨⟨t + 1, vs, by omega, by go_num, NX.out, HO2.out.below (by (repeat (first | exact (bl wr) | refine belowN ?_ _ | refine Below.alloc ?_ (by have hsz := Below.size (bl wr); first | omega | (simp; done) | (simp; omega) | (simp at hsz ⊢; omega)) _)))⟩, by simp [intOf] <;> omega⟩
      | false =>
        cases hp : p v with
        | false =>
          have NX := Lib.hid (show vs = (O.take (t + 1)).filter (fun v => !v.gone && p v) by rw [← HFI.out, hg, hp]; rfl)
          rw [hg] at CC
          clear hg
          rw [hp] at CM
          go_wp2_with (first
            | (go_at_fn g; (with_reducible refine (CM.out _ (by (repeat (first | exact (bl wr) | refine belowN ?_ _ | refine Below.alloc ?_ (by have hsz := Below.size (bl wr); first | omega | (simp; done) | (simp; omega) | (simp at hsz ⊢; omega)) _)))).mono ?_); rintro e w3 ⟨rfl, hb3⟩)
            | (go_at_call 30; (with_reducible refine (CC.out _).mono ?_); rintro e w2 ⟨rfl, rfl⟩))
          exact ⟨⟨t + 1, vs, by omega, by go_num, NX.out, HO2.out.below (chain (by (repeat (first | exact (bl wr) | refine belowN ?_ _ | refine Below.alloc ?_ (by have hsz := Below.size (bl wr); first | omega | (simp; done) | (simp; omega) | (simp at hsz ⊢; omega)) _))) hb3)⟩, by simp [intOf] <;> omega⟩
        | true =>
          have NX := Lib.hid (show vs ++ [v] = (O.take (t + 1)).filter (fun v => !v.gone && p v) by rw [← HFI.out, hg, hp]; rfl)
          rw [hg] at CC
          clear hg
          rw [hp] at CM
          go_wp2_with (first
            | (go_at_fn g; (with_reducible refine (CM.out _ (by (repeat (first | exact (bl wr) | refine belowN ?_ _ | refine Below.alloc ?_ (by have hsz := Below.size (bl wr); first | omega | (simp; done) | (simp; omega) | (simp at hsz ⊢; omega)) _)))).mono ?_); rintro e w3 ⟨rfl, hb3⟩; have k5 : w3.cell? ⟨wr.heap.size, 5, none⟩ = some (.slice v.fa v.fs.length v.fc) := keepc hb3 (by simp [go_sem]); have HO3 := Lib.hid (HO2.out.below (chain (by (repeat (first | exact (bl wr) | refine belowN ?_ _ | refine Below.alloc ?_ (by have hsz := Below.size (bl wr); first | omega | (simp; done) | (simp; omega) | (simp at hsz ⊢; omega)) _))) hb3)))
            | (go_at_call 30; (with_reducible refine (CC.out _).mono ?_); rintro e w2 ⟨rfl, rfl⟩)
            | (at_builtin; refine wpList_appE (E := EL) rfl (.tmp 22) (.tmp 25) rfl rfl (base := w1.heap.size) rfl (World.ownsRow.alloc HO3.out.own _) rfl rfl (HRW.out w3) (by simp) (by have := HLEN.out; simp; omega) (by have := HO3.out.bel.size; simp; omega) ?_; intro v2 w4 hown4 hg4; have HO4 := Lib.hid ((HO3.out.below ((bl w3).alloc (Nat.le_refl _) _)).grown hg4 hown4)))
          exact ⟨⟨t + 1, _, by omega, by go_num, NX.out, by rw [List.map_append]; exact HO4.out⟩, by simp [intOf] <;> omega⟩
    · obtain rfl : t = n := by omega
      have hlt' : ¬ (t : Int) < (t : Int) := by omega
      have HE := Lib.hid (show vs.map Vr.fs = meantV p l by rw [HMV.out, HVS.out, List.take_of_length_le (by have := HN.out; omega)])
      have hmem : ∀ v ∈ vs, v ∈ O := fun v hv => by
        rw [HVS.out] at hv
        exact List.mem_of_mem_take (List.mem_filter.1 hv).1
      obtain ⟨A2, c2, rfl, hr2, hc2, hn2⟩ := HO2.out.list
      have hT : (vs.map Vr.fs).flatten.length ≤ 20000 := by
        have h3 := flat_leV (L := vs.map Vr.fs) (m := 100) (fun fs hfs => by
          obtain ⟨v, hv, rfl⟩ := List.mem_map.1 hfs
          exact (HVF.out v (hmem v hv)).2.1)
        rw [List.length_map] at h3
        have : vs.length * 100 ≤ 200 * 100 := Nat.mul_le_mul_right 100 hlen
        omega
      have CV := pover_any wr A2 c2 (vs.map Vr.fs) (rows_of hr2 fun v hv => (HVF.out v (hmem v hv)).1.below (chain HB1.out HO2.out.bel)) hT (by rw [List.length_map]; exact hlen) (fun fs hfs => by
        obtain ⟨v, hv, rfl⟩ := List.mem_map.1 hfs
        exact (HVF.out v (hmem v hv)).2.2)
      rw [HE.out, show (meantV p l).length = (vs.map slOf).length by rw [← HE.out, List.length_map, List.length_map]] at CV
      have CV2 := Lib.hid CV
      have HB2 := Lib.hid (chain HB1.out HO2.out.bel)
      clear CV hmem hr2 hc2 hn2 hlen hT
      generalize (vs.map slOf).length = m at *
      go_wp2_with (go_at_call 37; (with_reducible refine CV2.out.mono ?_); rintro e w5 ⟨x5, rfl, hl5, hb5⟩)
      go_ret
      exact ⟨_, rfl, hl5, chain HB2.out hb5⟩

end Go.Proofs.Ytjpkeadnccodjaa
