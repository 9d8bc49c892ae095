/-
  Texts joined into one: what the program's and the document's calls give back, piece by piece.
-/
import Derived.Test.YtaoobliajgcdmaaGreatMg1
import Derived.Test.YtaoobliajgcdmaaGreatMg2
import Derived.Test.YtaoobliajgcdmaaGreatMg3
import Derived.Test.YtaoobliajgcdmaaGreatMg4
import Derived.Test.YtaoobliajgcdmaaGreatMg5
import Derived.Test.YtaoobliajgcdmaaGreatProg
import Derived.Test.YtaoobliajgcdmaaGreatRows
import Derived.BigQuiet
import Derived.ChangeAlike
import Derived.ChangeKeysEq
import Derived.Deep.AppendLies
import Derived.Deep.CutBlock
import Derived.Deep.CutRange
import Derived.Deep.Light
import Derived.Deep.LoopGhost
import Derived.Deep.QuietTactic
import Derived.Deep.RegionHeld3
import Derived.Deep.RegionLaw
import Derived.Handy
import Derived.Laws.BytesArg
import Derived.Laws.OwnMore
import Derived.Laws.Strings
import Derived.Laws.StructEq
import Derived.Lib.Bytealg
import Derived.Lib.Hide
import Derived.Maps.AppendAt
import Derived.Maps.RangeWalk
import Derived.OneCell
import Derived.OwnWalk
import Derived.RegionTactic
import Derived.Shelf.SlSortCmp.KitK
import Derived.Shelf.SlSortCmp.NoneTotal
import Derived.Sort.KeysCollected
import Derived.Sort.WalkB12
import Derived.Sort.WalkB2
import Derived.StillTailTactics
import Derived.WalkArith
import Derived.WalkKit
import Derived.WalkLawsBesides
import Derived.WalkSpells
import Derived.Deep.Upon
import Derived.Lib.OwnBridge
import Derived.Maps.OwnSet
import Derived.Sort.OwnSortedInts
import Derived.Lib.SmallJoins
import Derived.ProofKit
import Derived.RangeFuncOwn
import Derived.Lib.QuietBelow
import Derived.IntWalk

/-
  The program's over, Of and At: the fields of the versions that count and that are meant, laid over each other in order.
-/
namespace Go.Proofs.YtaoobliajgcdmaaGreat
open Go.RowKit

theorem insV_filter (p : Vr → Bool) : ∀ (a : List Vr) (x : Vr), SortedV a → (insV a x).filter p = if p x then insV (a.filter p) x else a.filter p
  | [], x, _ => by cases h : p x <;> simp [insV, h]
  | y :: a, x, hs => by
    obtain ⟨h1, h2⟩ := List.pairwise_cons.1 hs
    rw [insV]
    split
    · rename_i hle
      rw [List.filter_cons, insV_filter p a x h2]
      cases hy : p y
      · simp [hy]
      · cases hx : p x
        · simp [hy]
        · simp [hy, insV, hle]
    · rename_i hgt
      rw [List.filter_cons]
      cases hx : p x
      · simp
      · have hall : ∀ z ∈ (y :: a).filter p, x.st < z.st := fun z hz => by
          rcases List.mem_cons.1 (List.mem_filter.1 hz).1 with rfl | hz
          · omega
          · have := h1 z hz; omega
        simp only [if_true]
        revert hall
        generalize (y :: a).filter p = b
        intro hall
        cases b with
        | nil => rfl
        | cons z b =>
          have := hall z List.mem_cons_self
          rw [insV, if_neg (by omega)]
theorem foldl_filter (p : Vr → Bool) : ∀ (l a : List Vr), SortedV a → (l.foldl insV a).filter p = (l.filter p).foldl insV (a.filter p)
  | [], _, _ => rfl
  | x :: l, a, hs => by
    rw [List.foldl_cons, foldl_filter p l _ (insV_sorted a x hs), insV_filter p a x hs, List.filter_cons]
    cases hx : p x <;> simp
theorem ordL_filter (p : Vr → Bool) (l : List Vr) : ordL (l.filter p) = (ordL l).filter p := (foldl_filter p l [] List.Pairwise.nil).symm
/-- The fields of those that count and are meant. -/
def meantV (p : Vr → Bool) (l : List Vr) : List (List Fd) := ((ordL l).filter fun v => !v.gone && p v).map Vr.fs
theorem meant_all (l : List Vr) : overL (meantV (fun _ => true) l).flatten = ofL l := by
  unfold ofL countsV meantV
  simp only [Bool.and_true]
theorem meant_at (t : Int) (l : List Vr) : overL (meantV (fun v => rightS v.sf v.se && hasS v.sf v.se t) l).flatten = atL t l := by
  unfold atL ofL countsV meantV
  rw [ordL_filter, List.filter_filter]
  have e : (fun v : Vr => !v.gone && (rightS v.sf v.se && hasS v.sf v.se t)) = fun v => !v.gone && coversB v t := by
    funext v
    rw [coversB_eq]
    cases v.gone <;> simp
  rw [e]

set_option maxHeartbeats 4000000 in
set_option maxRecDepth 10000 in
theorem pover_meant {g : Nat} {cb : Array Value} {p : Vr → Bool} (eg : ∀ args w, (callFunc g args).run Tryz.prog w = .ok (.enter g args) w) (w : World) (u : Value) (l : List Vr) (hl : VersL w u l) (hf : fewV l) (hok : ∀ v ∈ l, okF v.fs)
    (hm : ∀ (v : Vr) (w' : World), Below w.heap.size w w' → Calls Tryz.prog g (#[vv v] ++ cb) w' fun e w'' => e = .returned (.bool (p v)) ∧ Below w'.heap.size w' w'') :
    Calls Tryz.prog 63 #[u, .func (.func g) #[] cb] w fun e w' => ∃ x, e = .returned x ∧ ListF w' x (overL (meantV p l).flatten) ∧ Below w.heap.size w w' := by
  have CR := Lib.hid (prising_any w u l hl (by have := hf.1; omega))
  have HM := Lib.hid hm
  obtain ⟨O, hO⟩ : ∃ O, ordL l = O := ⟨_, rfl⟩
  have HMV := Lib.hid (show meantV p l = (O.filter fun v => !v.gone && p v).map Vr.fs by unfold meantV; rw [hO])
  rw [hO] at CR
  have hOn : O.length ≤ 200 := by rw [← hO, ordL_length]; exact hf.1
  have HVF := Lib.hid (show ∀ v ∈ O, VF w v ∧ v.fs.length ≤ 100 ∧ okF v.fs from fun v hv => by
    rw [← hO] at hv
    have hv := (ordL_perm l).mem_iff.1 hv
    exact ⟨hl.2 v hv, hf.2 v hv, hok v hv⟩)
  clear hl hf hO hok hm
  obtain ⟨n, hnm⟩ : ∃ n, O.length = n := ⟨_, rfl⟩
  have HN := Lib.hid hnm
  rw [hnm] at hOn
  go_enter Tryz.func63, Tryz.ntmps63
  go_wp2_with (go_at_call 58; (with_reducible refine CR.out.mono ?_); rintro e w1 ⟨x1, rfl, hO1⟩; obtain ⟨A1, c1, rfl, hR1, _⟩ := hO1.list; rw [HN.out]; have HB1 := Lib.hid hO1.bel; have HR1 := Lib.hid hR1; clear hO1 hR1)
  clear hnm CR
  go_loopw [5, 11] (fun o i wr => ∃ t vs, t ≤ n ∧ i = .int .i64 (t : Nat) ∧ vs = (O.take t).filter (fun v => !v.gone && p v) ∧ OE EL w1 (vs.map slOf) o wr) (fun _ i _ => n - (intOf i).toNat)
  case atStart => exact ⟨0, [], Nat.zero_le _, rfl, rfl, OE.nil w1⟩
  case round =>
    obtain ⟨t, vs, ht, rfl, hvs, hO⟩ := hrel
    have HVS := Lib.hid hvs
    have HO2 := Lib.hid hO
    have hlen : vs.length ≤ 200 := by
      rw [hvs]
      have := List.length_filter_le (fun v : Vr => !v.gone && p v) (O.take t)
      rw [List.length_take] at this
      omega
    clear hvs hO
    by_cases hlt : t < n
    · have hlt' : (t : Int) < (n : Int) := by omega
      obtain ⟨v, hx⟩ : ∃ v, O[t]? = some v := ⟨_, List.getElem?_eq_getElem (by have := HN.out; omega)⟩
      obtain ⟨b, off, rfl, hX⟩ := (HR1.out.below HO2.out.bel).cells7 hx
      have CC := Lib.hid (fun w' => counts_any v w')
      have CM := Lib.hid (fun w' (h : Below wr.heap.size wr w') => HM.out v w' (chain HB1.out (chain HO2.out.bel h)))
      have HFI := Lib.hid (show (if !v.gone && p v then vs ++ [v] else vs) = (O.take (t + 1)).filter (fun v => !v.gone && p v) by
        rw [List.take_add_one, hx, Option.toList_some, List.filter_append, HVS.out]
        rw [List.filter_cons, List.filter_nil]
        by_cases h : (!v.gone && p v) = true
        · rw [if_pos h, if_pos h]
        · rw [if_neg h, if_neg h, List.append_nil])
      obtain ⟨z0, z1, z2, z3, z4, z5, z6⟩ := hX
      have HRW := Lib.hid (fun w3 : World => rowE_one (E := EL) w3 (slOf v) #[.slice v.fa v.fs.length v.fc] rfl 34)
      have HLEN := Lib.hid hlen
      clear hx hlen
      cases hg : v.gone with
      | true =>
        have NX := Lib.hid (show vs = (O.take (t + 1)).filter (fun v => !v.gone && p v) by rw [← HFI.out, hg]; rfl)
        rw [hg] at CC
        clear hg
        go_wp2_with (go_at_call 82; (with_reducible refine (CC.out _).mono ?_); rintro e w2 ⟨rfl, rfl⟩)
        exact ⟨⟨t + 1, vs, by omega, by go_num, NX.out, HO2.out.below (by (repeat (first | exact (bl wr) | refine belowN ?_ _ | refine Below.alloc ?_ (by have hsz := Below.size (bl wr); first | omega | (simp; done) | (simp; omega) | (simp at hsz ⊢; omega)) _)))⟩, by simp [intOf] <;> omega⟩
      | false =>
        cases hp : p v with
        | false =>
          have NX := Lib.hid (show vs = (O.take (t + 1)).filter (fun v => !v.gone && p v) by rw [← HFI.out, hg, hp]; rfl)
          rw [hg] at CC
          clear hg
          rw [hp] at CM
          go_wp2_with (first
            | (go_at_fn g; (with_reducible refine (CM.out _ (by (repeat (first | exact (bl wr) | refine belowN ?_ _ | refine Below.alloc ?_ (by have hsz := Below.size (bl wr); first | omega | (simp; done) | (simp; omega) | (simp at hsz ⊢; omega)) _)))).mono ?_); rintro e w3 ⟨rfl, hb3⟩)
            | (go_at_call 82; (with_reducible refine (CC.out _).mono ?_); rintro e w2 ⟨rfl, rfl⟩))
          exact ⟨⟨t + 1, vs, by omega, by go_num, NX.out, HO2.out.below (chain (by (repeat (first | exact (bl wr) | refine belowN ?_ _ | refine Below.alloc ?_ (by have hsz := Below.size (bl wr); first | omega | (simp; done) | (simp; omega) | (simp at hsz ⊢; omega)) _))) hb3)⟩, by simp [intOf] <;> omega⟩
        | true =>
          have NX := Lib.hid (show vs ++ [v] = (O.take (t + 1)).filter (fun v => !v.gone && p v) by rw [← HFI.out, hg, hp]; rfl)
          rw [hg] at CC
          clear hg
          rw [hp] at CM
          go_wp2_with (first
            | (go_at_fn g; (with_reducible refine (CM.out _ (by (repeat (first | exact (bl wr) | refine belowN ?_ _ | refine Below.alloc ?_ (by have hsz := Below.size (bl wr); first | omega | (simp; done) | (simp; omega) | (simp at hsz ⊢; omega)) _)))).mono ?_); rintro e w3 ⟨rfl, hb3⟩; have k5 : w3.cell? ⟨wr.heap.size, 5, none⟩ = some (.slice v.fa v.fs.length v.fc) := keepc hb3 (by simp [go_sem]); have HO3 := Lib.hid (HO2.out.below (chain (by (repeat (first | exact (bl wr) | refine belowN ?_ _ | refine Below.alloc ?_ (by have hsz := Below.size (bl wr); first | omega | (simp; done) | (simp; omega) | (simp at hsz ⊢; omega)) _))) hb3)))
            | (go_at_call 82; (with_reducible refine (CC.out _).mono ?_); rintro e w2 ⟨rfl, rfl⟩)
            | (at_builtin; refine wpList_appE (E := EL) rfl (.tmp 22) (.tmp 25) rfl rfl (base := w1.heap.size) rfl (World.ownsRow.alloc HO3.out.own _) rfl rfl (HRW.out w3) (by simp) (by have := HLEN.out; simp; omega) (by have := HO3.out.bel.size; simp; omega) ?_; intro v2 w4 hown4 hg4; have HO4 := Lib.hid ((HO3.out.below ((bl w3).alloc (Nat.le_refl _) _)).grown hg4 hown4)))
          exact ⟨⟨t + 1, _, by omega, by go_num, NX.out, by rw [List.map_append]; exact HO4.out⟩, by simp [intOf] <;> omega⟩
    · obtain rfl : t = n := by omega
      have hlt' : ¬ (t : Int) < (t : Int) := by omega
      have HE := Lib.hid (show vs.map Vr.fs = meantV p l by rw [HMV.out, HVS.out, List.take_of_length_le (by have := HN.out; omega)])
      have hmem : ∀ v ∈ vs, v ∈ O := fun v hv => by
        rw [HVS.out] at hv
        exact List.mem_of_mem_take (List.mem_filter.1 hv).1
      obtain ⟨A2, c2, rfl, hr2, hc2, hn2⟩ := HO2.out.list
      have hT : (vs.map Vr.fs).flatten.length ≤ 20000 := by
        have h3 := flat_leV (L := vs.map Vr.fs) (m := 100) (fun fs hfs => by
          obtain ⟨v, hv, rfl⟩ := List.mem_map.1 hfs
          exact (HVF.out v (hmem v hv)).2.1)
        rw [List.length_map] at h3
        have : vs.length * 100 ≤ 200 * 100 := Nat.mul_le_mul_right 100 hlen
        omega
      have CV := pover_any wr A2 c2 (vs.map Vr.fs) (rows_of hr2 fun v hv => (HVF.out v (hmem v hv)).1.below (chain HB1.out HO2.out.bel)) hT (by rw [List.length_map]; exact hlen) (fun fs hfs => by
        obtain ⟨v, hv, rfl⟩ := List.mem_map.1 hfs
        exact (HVF.out v (hmem v hv)).2.2)
      rw [HE.out, show (meantV p l).length = (vs.map slOf).length by rw [← HE.out, List.length_map, List.length_map]] at CV
      have CV2 := Lib.hid CV
      have HB2 := Lib.hid (chain HB1.out HO2.out.bel)
      clear CV hmem hr2 hc2 hn2 hlen hT
      generalize (vs.map slOf).length = m at *
      go_wp2_with (go_at_call 68; (with_reducible refine CV2.out.mono ?_); rintro e w5 ⟨x5, rfl, hl5, hb5⟩)
      go_ret
      exact ⟨_, rfl, hl5, chain HB2.out hb5⟩

end Go.Proofs.YtaoobliajgcdmaaGreat

/-
  Plain facts on Make from turn to turn: what those that set a field last make is what all make.
-/
namespace Go.Proofs.YtaoobliajgcdmaaGreat

abbrev hasN (f : List Fd) (s : ByteArray) : Bool := (lastL f s).isSome
/-- What lists of fields, told by their places, say last of a name. -/
def valP2 (F : Nat → List Fd) (C : List Nat) (s : ByteArray) : Option Int := lastL (C.map F).flatten s
theorem valP2_cons (F : Nat → List Fd) (c : Nat) (C : List Nat) (s : ByteArray) : valP2 F (c :: C) s = match valP2 F C s with | some v => some v | none => lastL (F c) s := by
  unfold valP2
  rw [List.map_cons, List.flatten_cons, lastL_append]
  cases lastL (List.map F C).flatten s <;> rfl
theorem valP2_none (F : Nat → List Fd) (s : ByteArray) : ∀ C : List Nat, valP2 F C s = none ↔ ∀ i ∈ C, lastL (F i) s = none
  | [] => by simp [valP2, lastL]
  | c :: C => by
    rw [valP2_cons]
    have ih := valP2_none F s C
    cases h : valP2 F C s with
    | some v =>
      simp only
      refine ⟨fun e => (by cases e), fun e => ?_⟩
      have := ih.2 (fun i hi => e i (List.mem_cons_of_mem _ hi))
      rw [h] at this; cases this
    | none =>
      simp only
      have := ih.1 h
      exact ⟨fun e i hi => (List.mem_cons.1 hi).elim (fun k => k ▸ e) (fun k => this i k), fun e => e c (by simp)⟩
theorem valP2_some (F : Nat → List Fd) (s : ByteArray) : ∀ {C : List Nat} {n : Int}, Up C → valP2 F C s = some n → ∃ i ∈ C, lastL (F i) s = some n ∧ ∀ j ∈ C, i < j → lastL (F j) s = none
  | [], n, _, h => by simp [valP2, lastL] at h
  | c :: C, n, hu, h => by
    have hu' := List.pairwise_cons.1 hu
    rw [valP2_cons] at h
    cases hc : valP2 F C s with
    | some v =>
      rw [hc] at h
      obtain ⟨i, hi, h1, h2⟩ := valP2_some F s hu'.2 hc
      refine ⟨i, List.mem_cons_of_mem _ hi, by rw [h1]; exact h, fun j hj hij => ?_⟩
      rcases List.mem_cons.1 hj with rfl | hj
      · have := hu'.1 i hi; omega
      · exact h2 j hj hij
    | none =>
      rw [hc] at h
      refine ⟨c, by simp, h, fun j hj hij => ?_⟩
      rcases List.mem_cons.1 hj with rfl | hj
      · omega
      · exact (valP2_none F s C).1 hc j hj
/-- Those that set a field last say all that is said last. -/
theorem valP2_sub (F : Nat → List Fd) {C P : List Nat} (hC : Up C) (hP : Up P) (hsub : ∀ i ∈ P, i ∈ C) {s : ByteArray} (hlast : ∀ i ∈ C, hasN (F i) s = true → (∀ j ∈ C, i < j → hasN (F j) s = false) → i ∈ P) : valP2 F P s = valP2 F C s := by
  cases hc : valP2 F C s with
  | none => exact (valP2_none F s P).2 fun i hi => (valP2_none F s C).1 hc i (hsub i hi)
  | some n =>
    obtain ⟨i, hi, h1, h2⟩ := valP2_some F s hC hc
    have hiP := hlast i hi (by simp [hasN, h1]) (fun j hj hij => by simp [hasN, h2 j hj hij])
    cases hp : valP2 F P s with
    | none => have := (valP2_none F s P).1 hp i hiP; rw [h1] at this; cases this
    | some m =>
      obtain ⟨i', hi', k1, k2⟩ := valP2_some F s hP hp
      rcases Nat.lt_trichotomy i i' with hlt | rfl | hgt
      · have := h2 i' (hsub i' hi') hlt; rw [k1] at this; cases this
      · rw [← k1, h1]
      · have := k2 i hiP hgt; rw [h1] at this; cases this

/-- The fields of the version at a place. -/
def fsAt (L : List Vr) (i : Nat) : List Fd := match L[i]? with | some v => v.fs | none => []
/-- The versions at places. -/
def thoseL (L : List Vr) (P : List Nat) : List Vr := P.filterMap (fun i => L[i]?)
theorem thoseL_snoc (L : List Vr) (P : List Nat) {i : Nat} {v : Vr} (h : L[i]? = some v) : thoseL L (P ++ [i]) = thoseL L P ++ [v] := by
  unfold thoseL
  rw [List.filterMap_append]
  simp [h]
theorem thoseL_length {L : List Vr} : ∀ {P : List Nat}, (∀ i ∈ P, i < L.length) → (thoseL L P).length = P.length
  | [], _ => rfl
  | i :: P, h => by
    have hi := h i (by simp)
    have ih := thoseL_length (P := P) (fun j hj => h j (List.mem_cons_of_mem _ hj))
    unfold thoseL at ih ⊢
    rw [List.filterMap_cons, List.getElem?_eq_getElem hi]
    simp only [List.length_cons, ih]
theorem thoseL_mem {L : List Vr} {P : List Nat} {v : Vr} (h : v ∈ thoseL L P) : ∃ i ∈ P, L[i]? = some v := by
  obtain ⟨i, hi, h⟩ := List.mem_filterMap.1 h
  exact ⟨i, hi, h⟩
theorem thoseL_fs {L : List Vr} : ∀ {P : List Nat}, (∀ i ∈ P, i < L.length) → (thoseL L P).map Vr.fs = P.map (fsAt L)
  | [], _ => rfl
  | i :: P, h => by
    have hi := h i (by simp)
    have ih := thoseL_fs (P := P) (fun j hj => h j (List.mem_cons_of_mem _ hj))
    unfold thoseL at ih ⊢
    rw [List.filterMap_cons, List.getElem?_eq_getElem hi]
    simp only [List.map_cons, ih, fsAt, List.getElem?_eq_getElem hi]
theorem thoseL_sorted {L : List Vr} (hL : SortedV L) : ∀ {P : List Nat}, Up P → SortedV (thoseL L P)
  | [], _ => List.Pairwise.nil
  | i :: P, h => by
    have h' := List.pairwise_cons.1 h
    have ih := thoseL_sorted hL h'.2
    unfold thoseL at ih ⊢
    rw [List.filterMap_cons]
    cases hv : L[i]? with
    | none => exact ih
    | some v =>
      refine List.pairwise_cons.2 ⟨fun u hu => ?_, ih⟩
      obtain ⟨j, hj, hu⟩ := List.mem_filterMap.1 hu
      exact sorted_le hL hv hu (Nat.le_of_lt (h'.1 j hj))
/-- Versions that are in order stay as they are. -/
theorem insV_last : ∀ (l : List Vr) (x : Vr), (∀ y ∈ l, y.st ≤ x.st) → insV l x = l ++ [x]
  | [], _, _ => rfl
  | y :: l, x, h => by
    rw [insV, if_pos (h y (by simp)), insV_last l x (fun z hz => h z (List.mem_cons_of_mem _ hz))]; rfl
theorem foldl_ord : ∀ (l a : List Vr), SortedV (a ++ l) → l.foldl insV a = a ++ l
  | [], a, _ => by simp
  | x :: l, a, h => by
    have h1 : ∀ y ∈ a, y.st ≤ x.st := fun y hy => (List.pairwise_append.1 h).2.2 y hy x (by simp)
    rw [List.foldl_cons, insV_last a x h1, foldl_ord l (a ++ [x]) (by rw [List.append_assoc]; exact h), List.append_assoc]; rfl
theorem ordL_self {l : List Vr} (h : SortedV l) : ordL l = l := foldl_ord l [] h

theorem alike_covers {L O : List Vr} (h : Alike L O) (x : Int) : (L.filter fun v => coversB v x).map Vr.fs = (O.filter fun v => coversB v x).map Vr.fs ∧ (L.any fun v => coversB v x) = O.any fun v => coversB v x := by
  induction L generalizing O with
  | nil =>
    cases O with
    | nil => exact ⟨rfl, rfl⟩
    | cons y O => simp [Alike] at h
  | cons v L ih =>
    cases O with
    | nil => simp [Alike] at h
    | cons u O =>
      unfold Alike at h ih
      rw [List.map_cons, List.map_cons] at h
      injection h with h1 h2
      obtain ⟨i1, i2⟩ := ih h2
      simp only [sayV, Prod.mk.injEq] at h1
      obtain ⟨_, _, _, e1, e2, e3, e4⟩ := h1
      have hc : coversB v x = coversB u x := by unfold coversB; rw [e1, e2, e4]
      rw [List.filter_cons, List.filter_cons, List.any_cons, List.any_cons, hc, i2]
      refine ⟨?_, rfl⟩
      split
      · rw [List.map_cons, List.map_cons, i1, e3]
      · exact i1
theorem alike_sorted {L O : List Vr} (h : Alike L O) (hs : SortedV O) : SortedV L := by
  have e : L.map Vr.st = O.map Vr.st := by
    have := congrArg (List.map (fun y : Int × Int × ByteArray × Int × Int × List Fd × Bool => y.2.1)) h
    rw [List.map_map, List.map_map] at this
    exact this
  have h1 : (O.map Vr.st).Pairwise (· ≤ ·) := List.pairwise_map.2 hs
  rw [← e] at h1
  exact List.pairwise_map.1 h1
/-- What versions make at a time, by those in order that cover it. -/
theorem at_said {l L : List Vr} (h : Alike L (ordL l)) (x : Int) : atL x l = overL ((L.filter fun v => coversB v x).map Vr.fs).flatten := by
  rw [(alike_covers h x).1, atL, ofL, countsV, ordL_filter, List.filter_filter]
  congr 3
  apply List.filter_congr
  intro v _
  cases hc : coversB v x with
  | false => simp
  | true =>
    rw [covers_iff] at hc
    simp [hc.1]
theorem any_said {l L : List Vr} (h : Alike L (ordL l)) (x : Int) : (l.any fun v => coversB v x) = L.any fun v => coversB v x := by
  rw [(alike_covers h x).2, Bool.eq_iff_iff, List.any_eq_true, List.any_eq_true]
  exact ⟨fun ⟨v, hv, k⟩ => ⟨v, (ordL_perm l).mem_iff.2 hv, k⟩, fun ⟨v, hv, k⟩ => ⟨v, (ordL_perm l).mem_iff.1 hv, k⟩⟩

/-- The places of the versions that cover a time. -/
def covP (L : List Vr) (x : Int) : List Nat := (List.range L.length).filter fun i => match L[i]? with | some v => coversB v x | none => false
theorem covP_up (L : List Vr) (x : Int) : Up (covP L x) := List.Pairwise.filter _ List.pairwise_lt_range
theorem covP_mem (L : List Vr) (x : Int) (i : Nat) : i ∈ covP L x ↔ ∃ v, L[i]? = some v ∧ coversB v x = true := by
  unfold covP
  rw [List.mem_filter, List.mem_range]
  constructor
  · rintro ⟨h1, h2⟩
    rw [List.getElem?_eq_getElem h1] at h2 ⊢
    exact ⟨_, rfl, h2⟩
  · rintro ⟨v, h1, h2⟩
    refine ⟨(List.getElem?_eq_some_iff.1 h1).1, ?_⟩
    rw [h1]; exact h2
theorem those_range : ∀ (L : List Vr), thoseL L (List.range L.length) = L := by
  intro L
  apply List.ext_getElem?
  intro j
  have : ∀ (n : Nat), n ≤ L.length → thoseL L (List.range n) = L.take n := by
    intro n
    induction n with
    | zero => intro _; rfl
    | succ n ih =>
      intro h
      have hn : n < L.length := by omega
      rw [List.range_succ, thoseL_snoc L _ (List.getElem?_eq_getElem hn), ih (by omega), List.take_succ_eq_append_getElem hn]
  rw [this _ (Nat.le_refl _), List.take_length]
theorem those_filter (L : List Vr) (p : Vr → Bool) : ∀ P : List Nat, (thoseL L P).filter p = thoseL L (P.filter fun i => match L[i]? with | some v => p v | none => false)
  | [] => rfl
  | i :: P => by
    have ih := those_filter L p P
    unfold thoseL at ih ⊢
    rw [List.filterMap_cons, List.filter_cons]
    cases hv : L[i]? with
    | none => simpa using ih
    | some v =>
      simp only
      rw [List.filter_cons]
      split
      · rename_i hp
        rw [List.filterMap_cons, hv]
        simp only [ih]
      · exact ih
theorem filter_covP (L : List Vr) (x : Int) : (L.filter fun v => coversB v x) = thoseL L (covP L x) := by
  rw [show (L.filter fun v => coversB v x) = (thoseL L (List.range L.length)).filter fun v => coversB v x by rw [those_range], those_filter]; rfl
/-- At a time, those that set a field last make what all make. -/
theorem at_those {l L : List Vr} (h : Alike L (ordL l)) {x : Int} {C P : List Nat} (hC : Up C) (hCm : ∀ i, i ∈ C ↔ ∃ v, L[i]? = some v ∧ coversB v x = true) (hP : Up P) (hsub : ∀ i ∈ P, i ∈ C)
    (hlast : ∀ s, ∀ i ∈ C, hasN (fsAt L i) s = true → (∀ j ∈ C, i < j → hasN (fsAt L j) s = false) → i ∈ P) : atL x (thoseL L P) = atL x l := by
  have hCe : C = covP L x := up_ext hC (covP_up L x) (fun q => (hCm q).trans (covP_mem L x q).symm)
  have hlt : ∀ i ∈ C, i < L.length := fun i hi => by
    obtain ⟨v, hv, _⟩ := (hCm i).1 hi
    exact (List.getElem?_eq_some_iff.1 hv).1
  have hLs := alike_sorted h (ordL_sorted l)
  have hPs := thoseL_sorted hLs hP
  rw [at_said (l := l) h, at_said (l := thoseL L P) (L := thoseL L P) (by rw [ordL_self hPs]; rfl), filter_covP L x, ← hCe]
  have e : (thoseL L P).filter (fun v => coversB v x) = thoseL L P := List.filter_eq_self.2 fun v hv => by
    obtain ⟨i, hi, hv⟩ := thoseL_mem hv
    obtain ⟨u, hu, hc⟩ := (hCm i).1 (hsub i hi)
    rw [hv] at hu
    cases hu
    exact hc
  rw [e, thoseL_fs hlt, thoseL_fs (fun i hi => hlt i (hsub i hi))]
  apply rises_ext _ _ (overL_rises _) (overL_rises _)
  intro s
  rw [overL_get, overL_get]
  exact valP2_sub (fsAt L) hC hP hsub (hlast s)

/-! ### From turn to turn -/
/-- What has been made up to a time. -/
structure MadeTo (g : Int → Option (List Fd)) (e : Int) (o : List Pc) : Prop where
  tl : TL o
  le : ∀ q ∈ o, q.t ≤ e
  fs : ∀ x, fsP o x = if x < e then g x else none
theorem MadeTo.start {g : Int → Option (List Fd)} {e : Int} (h : ∀ x, x < e → g x = none) : MadeTo g e [] := ⟨trivial, by simp, fun x => by
  split
  · rename_i hx; rw [h x hx]; rfl
  · rfl⟩
theorem MadeTo.skip {g : Int → Option (List Fd)} {e e' : Int} {o : List Pc} (h : MadeTo g e o) (hee : e ≤ e') (hg : ∀ x, e ≤ x → x < e' → g x = none) : MadeTo g e' o := ⟨h.tl, fun q hq => Int.le_trans (h.le q hq) hee, fun x => by
  rw [h.fs]
  by_cases h1 : x < e
  · rw [if_pos h1, if_pos (by omega)]
  · rw [if_neg h1]
    by_cases h2 : x < e'
    · rw [if_pos h2, hg x (by omega) h2]
    · rw [if_neg h2]⟩
theorem MadeTo.put {g : Int → Option (List Fd)} {o : List Pc} {p : Pc} (h : MadeTo g p.f o) (hp : rightP p.f p.t = true) (hg : ∀ x, p.f ≤ x → x < p.t → g x = some p.fs) : MadeTo g p.t (putP o p) := by
  have hpt := put_to h.tl hp h.le
  have hr := right_lt hp
  refine ⟨hpt.tl, hpt.le, fun x => ?_⟩
  rw [hpt.fs, h.fs]
  by_cases h1 : p.f ≤ x ∧ x < p.t
  · rw [if_pos h1, if_pos h1.2, hg x h1.1 h1.2]
  · rw [if_neg h1]
    by_cases h2 : x < p.f
    · rw [if_pos h2, if_pos (by omega)]
    · rw [if_neg h2, if_neg (by omega)]
theorem MadeTo.done {g : Int → Option (List Fd)} {e : Int} {o : List Pc} (h : MadeTo g e o) (hg : ∀ x, e ≤ x → g x = none) : TL o ∧ ∀ x, fsP o x = g x := ⟨h.tl, fun x => by
  rw [h.fs]
  split
  · rfl
  · rw [hg x (by omega)]⟩

/-- The time from which on the next turn's piece goes. -/
def fromT (a : Int × Int) (T : List (Int × Nat)) : Nat → Int
  | 0 => a.1
  | k + 1 => match T[k]? with | some t => t.1 | none => a.1
theorem Trn.took {a : Int × Int} {L : List Vr} {T : List (Int × Nat)} (h : Trn a L T) {k : Nat} (hk : k ≤ T.length) : ∀ t ∈ T.take k, t.1 ≤ fromT a T k := by
  intro t ht
  obtain ⟨j, hj⟩ := List.mem_iff_getElem?.1 ht
  have hjk : j < k := by have := (List.getElem?_eq_some_iff.1 hj).1; rw [List.length_take] at this; omega
  rw [List.getElem?_take_of_lt hjk] at hj
  cases k with
  | zero => omega
  | succ k =>
    rw [fromT, List.getElem?_eq_getElem (by omega)]
    simp only
    obtain ⟨h1, rfl⟩ := List.getElem?_eq_some_iff.1 hj
    rcases Nat.lt_or_ge j k with h2 | h2
    · exact List.pairwise_iff_getElem.1 h.up j k h1 (by omega) h2
    · obtain rfl : j = k := by omega
      exact Int.le_refl _
theorem Trn.left {a : Int × Int} {L : List Vr} {T : List (Int × Nat)} (h : Trn a L T) {k : Nat} {t : Int × Nat} (ht : T[k]? = some t) : ∀ u ∈ T.drop k, t.1 ≤ u.1 := by
  intro u hu
  obtain ⟨j, hj⟩ := List.mem_iff_getElem?.1 hu
  rw [List.getElem?_drop] at hj
  obtain ⟨h1, rfl⟩ := List.getElem?_eq_some_iff.1 ht
  obtain ⟨h2, rfl⟩ := List.getElem?_eq_some_iff.1 hj
  rcases Nat.eq_zero_or_pos j with rfl | hj0
  · exact Int.le_refl _
  · exact List.pairwise_iff_getElem.1 h.up k (k + j) h1 h2 (by omega)
theorem Trn.from_le {a : Int × Int} {L : List Vr} {T : List (Int × Nat)} (h : Trn a L T) {k : Nat} {t : Int × Nat} (ht : T[k]? = some t) : a.1 ≤ fromT a T k ∧ fromT a T k ≤ t.1 ∧ t.1 ≤ a.2 ∧ rightP a.1 a.2 = true ∧ t.2 < L.length := by
  have hm := h.mem (List.mem_of_getElem? ht)
  cases k with
  | zero => exact ⟨Int.le_refl _, hm.2.1, hm.2.2.1, hm.1, hm.2.2.2⟩
  | succ k =>
    have hk : k + 1 < T.length := (List.getElem?_eq_some_iff.1 ht).1
    have hk1 : T[k]? = some T[k] := List.getElem?_eq_getElem (by omega)
    have hm1 := h.mem (List.mem_of_getElem? hk1)
    rw [fromT, hk1]
    obtain ⟨h1, rfl⟩ := List.getElem?_eq_some_iff.1 ht
    exact ⟨hm1.2.1, List.pairwise_iff_getElem.1 h.up k (k + 1) (by omega) h1 (by omega), hm.2.2.1, hm.1, hm.2.2.2⟩
/-- What counts as of the turns that have come. -/
abbrev cntT (T : List (Int × Nat)) (k : Nat) : List Nat := tgs ((T.take k).map Prod.snd)
/-- .. and has a field of a name. -/
abbrev setT (L : List Vr) (T : List (Int × Nat)) (k : Nat) (s : ByteArray) : List Nat := tgs (((T.take k).map Prod.snd).filter fun i => hasN (fsAt L i) s)
theorem setT_mem (L : List Vr) (T : List (Int × Nat)) (k : Nat) (s : ByteArray) (i : Nat) : i ∈ setT L T k s ↔ i ∈ cntT T k ∧ hasN (fsAt L i) s = true := by
  rw [tgs_mem, tgs_mem]
  by_cases h : hasN (fsAt L i) s = true
  · rw [List.count_filter (p := fun i => hasN (fsAt L i) s) h]
    exact ⟨fun k => ⟨k, h⟩, fun k => k.1⟩
  · have hn : i ∉ (((T.take k).map Prod.snd).filter fun i => hasN (fsAt L i) s) := fun hm => h (List.mem_filter.1 hm).2
    rw [List.count_eq_zero.2 hn]
    exact ⟨fun k => (by cases k), fun k => absurd k.2 h⟩
theorem takeP_next {α : Type} {T : List α} {k : Nat} {t : α} (h : T[k]? = some t) : T.take (k + 1) = T.take k ++ [t] := by rw [List.take_add_one, h]; rfl
theorem cntT_next {T : List (Int × Nat)} {k : Nat} {t : Int × Nat} (h : T[k]? = some t) : cntT T (k + 1) = togL (cntT T k) t.2 := by
  unfold cntT
  rw [takeP_next h, List.map_append, List.map_cons, List.map_nil, tgs_snoc]
theorem setT_next {L : List Vr} {T : List (Int × Nat)} {k : Nat} {t : Int × Nat} (h : T[k]? = some t) (s : ByteArray) : setT L T (k + 1) s = if hasN (fsAt L t.2) s = true then togL (setT L T k s) t.2 else setT L T k s := by
  unfold setT
  rw [takeP_next h, List.map_append, List.map_cons, List.map_nil, List.filter_append, List.filter_cons]
  split
  · rw [List.filter_nil, tgs_snoc]
  · rw [List.filter_nil, List.append_nil]
theorem cntT_lt {a : Int × Int} {L : List Vr} {T : List (Int × Nat)} (h : Trn a L T) {k i : Nat} (hi : i ∈ cntT T k) : i < L.length := by
  rw [tgs_mem] at hi
  have : i ∈ (T.take k).map Prod.snd := List.count_pos_iff.1 (by omega)
  obtain ⟨t, ht, rfl⟩ := List.mem_map.1 this
  exact (h.mem (List.mem_of_mem_take ht)).2.2.2
/-- The places of those that set a field last. -/
def Setters (L : List Vr) (T : List (Int × Nat)) (k : Nat) (P : List Nat) : Prop := Up P ∧ ∀ i, i ∈ P ↔ ∃ s, (setT L T k s).getLast? = some i
theorem up_last {l : List Nat} (h : Up l) {i : Nat} (hi : l.getLast? = some i) : ∀ j ∈ l, j ≤ i := by
  rcases List.eq_nil_or_concat l with rfl | ⟨m, q, rfl⟩
  · simp at hi
  · rw [List.concat_eq_append] at h hi ⊢
    rw [show (m ++ [q]).getLast? = some q by simp] at hi
    cases hi
    intro j hj
    rcases List.mem_append.1 hj with hj | hj
    · exact Nat.le_of_lt ((List.pairwise_append.1 h).2.2 j hj i (by simp))
    · rw [List.mem_singleton.1 hj]; exact Nat.le_refl _
/-- One turn more. -/
theorem made_put {a : Int × Int} {l L : List Vr} {T : List (Int × Nat)} (hL : Alike L (ordL l)) (hT : Trn a L T) {k : Nat} {t : Int × Nat} (ht : T[k]? = some t) (hlt : fromT a T k < t.1) {P : List Nat} (hP : Setters L T k P) {o : List Pc} (ho : MadeTo (makeV a l) (fromT a T k) o) (hne : cntT T k ≠ [])
    (fa : Option Addr) (fc : Nat) : MadeTo (makeV a l) t.1 (putP o ⟨fromT a T k, t.1, fa, fc, atL (fromT a T k) (thoseL L P)⟩) := by
  obtain ⟨f1, f2, f3, f4, f5⟩ := hT.from_le ht
  have ra := (rightP_iff _ _).1 f4
  have hk : k ≤ T.length := by have := (List.getElem?_eq_some_iff.1 ht).1; omega
  have hcnt : ∀ x, fromT a T k ≤ x → x < t.1 → ∀ i, i ∈ cntT T k ↔ ∃ v, L[i]? = some v ∧ coversB v x = true := fun x h1 h2 i =>
    hT.counts f4 (by omega) (by omega) (fun u hu => by have := hT.took hk u hu; omega) (fun u hu => by have := hT.left ht u hu; omega) i
  have hat : atL (fromT a T k) (thoseL L P) = atL (fromT a T k) l := at_those hL (tgs_up _) (hcnt _ (Int.le_refl _) hlt) hP.1
    (fun i hi => by
      obtain ⟨s, hs⟩ := (hP.2 i).1 hi
      exact ((setT_mem L T k s i).1 (List.mem_of_getLast? hs)).1)
    (fun s i hi hh hj => (hP.2 i).2 ⟨s, by
      have hmem : i ∈ setT L T k s := (setT_mem L T k s i).2 ⟨hi, hh⟩
      obtain ⟨q, hq⟩ : ∃ q, (setT L T k s).getLast? = some q := by
        cases hl : (setT L T k s).getLast? with
        | none => rw [List.getLast?_eq_none_iff] at hl; rw [hl] at hmem; simp at hmem
        | some q => exact ⟨q, rfl⟩
      have hle := up_last (tgs_up _) hq i hmem
      have hqm := (setT_mem L T k s q).1 (List.mem_of_getLast? hq)
      rcases Nat.lt_or_ge i q with h1 | h1
      · have := hj q hqm.1 h1; rw [hqm.2] at this; cases this
      · rw [hq, show q = i by omega]⟩)
  refine MadeTo.put (p := ⟨fromT a T k, t.1, fa, fc, atL (fromT a T k) (thoseL L P)⟩) ho ((rightP_iff _ _).2 ⟨by show _ ≤ fromT a T k; omega, hlt, by show t.1 ≤ _; omega⟩) fun x h1 h2 => ?_
  have h1 : fromT a T k ≤ x := h1
  have h2 : x < t.1 := h2
  have hco : ∀ v ∈ l, coversB v x = coversB v (fromT a T k) := fun v hv => by
    have hv' := (ordL_perm l).mem_iff.2 hv
    have : sayV v ∈ L.map sayV := by rw [hL]; exact List.mem_map.2 ⟨v, hv', rfl⟩
    obtain ⟨u, hu, e⟩ := List.mem_map.1 this
    simp only [sayV, Prod.mk.injEq] at e
    obtain ⟨_, _, _, e1, e2, _, e4⟩ := e
    have hcu : ∀ y, coversB v y = coversB u y := fun y => by unfold coversB; rw [e1, e2, e4]
    obtain ⟨i, hi⟩ := List.mem_iff_getElem?.1 hu
    rw [hcu, hcu, Bool.eq_iff_iff]
    have k1 := hcnt x h1 h2 i
    have k2 := hcnt _ (Int.le_refl _) hlt i
    constructor
    · intro h
      obtain ⟨u', hu', hc⟩ := k2.1 (k1.2 ⟨u, hi, h⟩)
      rw [hi] at hu'; cases hu'; exact hc
    · intro h
      obtain ⟨u', hu', hc⟩ := k1.1 (k2.2 ⟨u, hi, h⟩)
      rw [hi] at hu'; cases hu'; exact hc
  obtain ⟨c1, c2⟩ := at_congr hco
  obtain ⟨i, hi⟩ := List.exists_mem_of_ne_nil _ hne
  obtain ⟨u, hu, hc⟩ := (hcnt _ (Int.le_refl _) hlt i).1 hi
  have hany : (l.any fun v => coversB v (fromT a T k)) = true := by
    rw [any_said hL, List.any_eq_true]
    exact ⟨u, List.mem_of_getElem? hu, hc⟩
  rw [makeV_in f4 (by omega) (by omega), c1, c2, hany, if_pos rfl, hat]
theorem made_skip {a : Int × Int} {l L : List Vr} {T : List (Int × Nat)} (hL : Alike L (ordL l)) (hT : Trn a L T) {k : Nat} {t : Int × Nat} (ht : T[k]? = some t) {o : List Pc} (ho : MadeTo (makeV a l) (fromT a T k) o) (hne : t.1 ≤ fromT a T k ∨ cntT T k = []) : MadeTo (makeV a l) t.1 o := by
  obtain ⟨f1, f2, f3, f4, f5⟩ := hT.from_le ht
  have hk : k ≤ T.length := by have := (List.getElem?_eq_some_iff.1 ht).1; omega
  refine ho.skip f2 fun x h1 h2 => ?_
  rcases hne with hne | hne
  · omega
  · rw [makeV_in f4 (by omega) (by omega), any_said hL, if_neg]
    intro h
    obtain ⟨v, hv, hc⟩ := List.any_eq_true.1 h
    obtain ⟨i, hi⟩ := List.mem_iff_getElem?.1 hv
    have := (hT.counts f4 (by omega) (by omega) (fun u hu => by have := hT.took hk u hu; omega) (fun u hu => by have := hT.left ht u hu; omega) i).2 ⟨v, hi, hc⟩
    have hne : tgs ((T.take k).map Prod.snd) = [] := hne
    rw [hne] at this
    simp at this
theorem made_start (a : Int × Int) (l : List Vr) : MadeTo (makeV a l) a.1 [] := .start fun x hx => makeV_out fun h => by omega
theorem made_stop {a : Int × Int} {l L : List Vr} {T : List (Int × Nat)} (hL : Alike L (ordL l)) (hT : Trn a L T) {o : List Pc} (ho : MadeTo (makeV a l) (fromT a T T.length) o) : TL o ∧ ∀ x, fsP o x = makeV a l x := by
  refine ho.done fun x hx => ?_
  by_cases hin : rightP a.1 a.2 = true ∧ a.1 ≤ x ∧ x < a.2
  · rw [makeV_in hin.1 hin.2.1 hin.2.2, any_said hL, if_neg]
    intro h
    obtain ⟨v, hv, hc⟩ := List.any_eq_true.1 h
    obtain ⟨i, hi⟩ := List.mem_iff_getElem?.1 hv
    have h1 := (hT.counts (k := T.length) hin.1 hin.2.1 hin.2.2 (fun u hu => by have := hT.took (Nat.le_refl _) u hu; omega) (by simp) i).2 ⟨v, hi, hc⟩
    rw [tgs_mem, List.take_length, (hT.perm.map _).count_eq i] at h1
    have e : ((trnL a 0 L).map Prod.snd) = ((trnL a 0 L).filter (fun t => decide (t.1 ≤ a.2))).map Prod.snd := by
      rw [List.filter_eq_self.2 fun t ht => ?_]
      have := (hT.mem (hT.perm.mem_iff.2 ht)).2.2.1
      simpa using this
    rw [e, trn_count, if_pos (Nat.zero_le _), Nat.sub_zero, hi] at h1
    simp only at h1
    unfold endsV at h1
    split at h1
    · rename_i hh
      rw [Bool.and_eq_true] at hh
      have hm := (meetB_iff _ _ _ _).1 hh.1
      have := hm.2
      simp only [Co.meetF, Co.meetT, hh.1, if_true] at h1
      rw [List.filter_cons_of_pos (by simp; omega), List.filter_cons_of_pos (by simp; omega)] at h1
      simp at h1
    · simp at h1
  · exact makeV_out hin

end Go.Proofs.YtaoobliajgcdmaaGreat

/-
  The program's scene: the places that count, and those that set a field, by names in a map.
-/
namespace Go.Proofs.YtaoobliajgcdmaaGreat
open Go.RowKit
open Go.Maps (Keyed)

abbrev TSc : TypeId := 70
abbrev TMi : TypeId := 67
abbrev TIs : TypeId := 68
/-- How an element of the map reads: as the value that it is. -/
def anyV (v : Value) : Option (DataW Value × List MemPlace) := some (.held v, [])
/-- At a name the map holds a value. -/
def GetN (D : DataW Value) (s : ByteArray) (u : Value) : Prop := ∀ zd, D.atKey (.string s.data.toList) zd = .held u
theorem GetN.unique {D : DataW Value} {s : ByteArray} {u u' : Value} (h : GetN D s u) (k : GetN D s u') : u = u' := by
  have := (h .nil).symm.trans (k .nil)
  injection this
/-- What a turn of the scene leaves alone. -/
structure KeepS (base S M : Nat) (w w' : World) : Prop where
  os : w'.os = w.os
  tape : w'.tape = w.tape
  output : w'.output = w.output
  size : w.heap.size ≤ w'.heap.size
  low : ∀ c, c < base → c ≠ S → c ≠ M → c < w.heap.size → w'.heap[c]? = w.heap[c]?
  typ : ∀ (c : Nat) (cur : Array Value) (t : TypeId), t ≠ TI → t ≠ TSc → w.heap[c]? = some (.cells cur t (0, 0)) → w'.heap[c]? = some (.cells cur t (0, 0))
theorem KeepS.refl (base S M : Nat) (w : World) : KeepS base S M w w := ⟨rfl, rfl, rfl, Nat.le_refl _, fun _ _ _ _ _ => rfl, fun _ _ _ _ _ h => h⟩
theorem KeepS.trans {base S M : Nat} {a b c : World} (h : KeepS base S M a b) (k : KeepS base S M b c) : KeepS base S M a c :=
  ⟨k.os.trans h.os, k.tape.trans h.tape, k.output.trans h.output, Nat.le_trans h.size k.size, fun i h1 h2 h3 h4 => (k.low i h1 h2 h3 (Nat.lt_of_lt_of_le h4 h.size)).trans (h.low i h1 h2 h3 h4), fun i cur t h1 h2 h3 => k.typ i cur t h1 h2 (h.typ i cur t h1 h2 h3)⟩
theorem KeepS.of_below {base S M : Nat} {w w' : World} (h : Below w.heap.size w w') : KeepS base S M w w' := ⟨h.os, h.tape, h.output, h.size, fun c _ _ _ hc => h.block c hc, fun c _ _ _ _ hc => (h.block c (Array.getElem?_eq_some_iff.1 hc).1).trans hc⟩
/-- The fields of a list in a block of fields lie as they lay. -/
theorem KeepS.fields {base S M : Nat} {w w' : World} (h : KeepS base S M w w') {v : Value} {l : List Fd} (hl : ListF w v l) (ht : TyF w v) : ListF w' v l ∧ TyF w' v := by
  have ht' : TyF w' v := fun g hg => by
    obtain ⟨cur, hc⟩ := ht g hg
    exact ⟨cur, h.typ _ _ _ (by decide) (by decide) hc⟩
  refine ⟨?_, ht'⟩
  obtain ⟨A, c, rfl, hF, hc, hn⟩ := hl
  refine ⟨A, c, rfl, fun k f hf => ?_, hc, hn⟩
  obtain ⟨g, off, rfl, c0, c1⟩ := hF k f hf
  obtain ⟨cur, hg⟩ := ht g rfl
  have e : w'.heap[g]? = w.heap[g]? := (h.typ _ _ _ (by decide) (by decide) hg).trans hg.symm
  exact ⟨g, off, rfl, (World.cell?_of_block (a := ⟨g, _, none⟩) e).trans c0, (World.cell?_of_block (a := ⟨g, _, none⟩) e).trans c1⟩

/-- What counts, and what sets a field, as it lies. -/
structure Scn (base S M n : Nat) (cs : List Nat) (G : ByteArray → List Nat) (v : Value) (D : DataW Value) (w : World) : Prop where
  sb : S < base
  mb : M < base
  hb : base ≤ w.heap.size
  box : w.heap[S]? = some (.cells #[v, .map (some M)] TSc (0, 0))
  map : w.ownsMap Tryz.prog KT anyV M n D
  own : ownN w base v cs
  get0 : ∀ s : ByteArray, G s = [] → ∀ zd, D.atKey (.string s.data.toList) zd = zd
  get1 : ∀ s : ByteArray, G s ≠ [] → ∃ u, GetN D s u ∧ ownN w base u (G s)
  apart : ∀ (s t : ByteArray) (us ut : Value), GetN D s us → GetN D t ut → s ≠ t → us.ownBlock ≠ ut.ownBlock
  apart0 : ∀ (s : ByteArray) (u : Value), GetN D s u → u.ownBlock ≠ v.ownBlock
  up : Up cs
  ups : ∀ s, Up (G s)
  few : cs.length ≤ 1000
  fews : ∀ s, (G s).length ≤ 1000
section
variable {base S M n : Nat} {cs : List Nat} {G : ByteArray → List Nat} {v : Value} {D : DataW Value} {w : World}
theorem Scn.getN (h : Scn base S M n cs G v D w) {s : ByteArray} {u : Value} (hu : GetN D s u) : G s ≠ [] ∧ ownN w base u (G s) := by
  have hne : G s ≠ [] := fun e => by
    have h1 := h.get0 s e .nil
    rw [hu] at h1
    cases h1
  obtain ⟨u', h1, h2⟩ := h.get1 s hne
  rw [hu.unique h1]
  exact ⟨hne, h2⟩
theorem ownN_some {u : Value} {l : List Nat} (h : ownN w base u l) (hl : l ≠ []) : ∃ g, u.ownBlock = some g ∧ base ≤ g ∧ g < w.heap.size ∧ ∃ A, w.heap[g]? = some (.cells A TI (0, 0)) := by
  rcases own_open h with ⟨_, h2⟩ | ⟨g, cap, A, rfl, h1, h2, h3, _⟩
  · exact absurd h2 hl
  · exact ⟨g, rfl, h1, h2, A, h3⟩
theorem ownN_ty {u : Value} {l : List Nat} (h : ownN w base u l) {g : Nat} (hg : u.ownBlock = some g) : base ≤ g ∧ g < w.heap.size ∧ ∃ A, w.heap[g]? = some (.cells A TI (0, 0)) := by
  rcases own_open h with ⟨rfl, h2⟩ | ⟨g', cap, A, rfl, h1, h2, h3, _⟩
  · cases hg
  · cases hg
    exact ⟨h1, h2, A, h3⟩
theorem Scn.below (h : Scn base S M n cs G v D w) {w' : World} (hb : Below w.heap.size w w') : Scn base S M n cs G v D w' :=
  ⟨h.sb, h.mb, Nat.le_trans h.hb hb.size, (hb.block S (Array.getElem?_eq_some_iff.1 h.box).1).trans h.box, h.map.kept (grown_none hb none) (by simp), ownN_below h.own hb, h.get0, fun s hs => by
    obtain ⟨u, h1, h2⟩ := h.get1 s hs
    exact ⟨u, h1, ownN_below h2 hb⟩, h.apart, h.apart0, h.up, h.ups, h.few, h.fews⟩
/-- What a row's change leaves alone. -/
theorem keepS_row {u : Value} {l : List Nat} (ho : ownN w base u l) {w1 : World} (hg : w.grownBy w1 u.ownBlock) (S M : Nat) : KeepS base S M w w1 := by
  refine ⟨hg.os, hg.tape, hg.output, hg.size, fun c h1 _ _ h4 => hg.block c h4 (fun e => ?_), fun c cur t h1 h2 h3 => ?_⟩
  · have := ownN_ty ho e.symm
    omega
  · refine (hg.block c (Array.getElem?_eq_some_iff.1 h3).1 (fun e => ?_)).trans h3
    obtain ⟨_, _, A, hA⟩ := ownN_ty ho e.symm
    rw [hA] at h3
    injection h3 with h3
    injection h3 with _ h3 _
    exact h1 h3.symm
/-- A row's change keeps what is apart from it. -/
theorem ownN_apart {u u' : Value} {l' : List Nat} (h : ownN w base u' l') {w1 : World} (hg : w.grownBy w1 u.ownBlock) (hne : u'.ownBlock ≠ u.ownBlock) : ownN w1 base u' l' := ownN_kept h hg (.inr hne)

/-- Behind a turn of what counts, and the store. -/
theorem Scn.count (h : Scn base S M n cs G v D w) {w1 : World} {v' : Value} {cs' : List Nat} (hown : ownN w1 base v' cs') (hg : w.grownBy w1 v.ownBlock) (hloc : v'.ownBlock = v.ownBlock ∨ ∃ g, v'.ownBlock = some g ∧ w.heap.size ≤ g) (hup : Up cs') (hfew : cs'.length ≤ 1000) :
    Scn base S M n cs' G v' D (w1.setCell ⟨S, 0, none⟩ v') ∧ KeepS base S M w (w1.setCell ⟨S, 0, none⟩ v') ∧ w1.cell? ⟨S, 0, none⟩ = some v ∧ w1.frozen? ⟨S, 0, none⟩ = false := by
  have hS := (Array.getElem?_eq_some_iff.1 h.box).1
  have hSv : some S ≠ v.ownBlock := fun e => by have := ownN_ty h.own e.symm; have := h.sb; omega
  have hb1 : w1.heap[S]? = some (.cells #[v, .map (some M)] TSc (0, 0)) := (hg.block S hS hSv).trans h.box
  have hoth : ∀ c, c ≠ S → (w1.setCell ⟨S, 0, none⟩ v').heap[c]? = w1.heap[c]? := fun c hc => Below.heap_setCell w1 ⟨S, 0, none⟩ v' c hc
  have hrow : ∀ {u : Value} {l : List Nat}, ownN w1 base u l → ownN (w1.setCell ⟨S, 0, none⟩ v') base u l := fun {u l} ho =>
    ownsRow_setCell_other ho (fun e => by have := ownN_ty ho e; have := h.sb; have := this; simp at *; omega) v'
  have hSM : M ≠ S := fun e => by
    obtain ⟨es, clock, hm, _⟩ := h.map
    rw [e, h.box] at hm
    cases hm
  refine ⟨⟨h.sb, h.mb, ?_, ?_, ?_, hrow hown, h.get0, fun s hs => ?_, h.apart, fun s u hu => ?_, hup, h.ups, hfew, h.fews⟩, ?_, by simp [World.cell?, hb1], by simp [World.frozen?, hb1]⟩
  · have := h.hb; have := hg.size; simp [World.setCell]; omega
  · have := heap_set1 (o := 0) hb1 v'
    simpa using this
  · exact ((h.map.kept hg (fun e => by have := ownN_ty h.own e.symm; have := h.mb; omega))).setCell (a := ⟨S, 0, none⟩) hSM v'
  · obtain ⟨u, h1, h2⟩ := h.get1 s hs
    exact ⟨u, h1, hrow (ownN_apart h2 hg (h.apart0 s u h1))⟩
  · rcases hloc with e | ⟨g, e, hge⟩
    · rw [e]; exact h.apart0 s u hu
    · rw [e]
      intro e2
      have := ownN_ty (h.getN hu).2 e2
      omega
  · refine (keepS_row h.own hg S M).trans ⟨rfl, rfl, rfl, by simp [World.setCell], fun c _ h2 _ _ => hoth c h2, fun c cur t _ h2 h3 => ?_⟩
    rw [hoth c (fun e => ?_)]
    · exact h3
    · rw [e, hb1] at h3
      injection h3 with h3
      injection h3 with _ h3 _
      exact h2 h3.symm

/-- The places of a name are others. -/
def updG (G : ByteArray → List Nat) (s : ByteArray) (l : List Nat) : ByteArray → List Nat := fun t => if nats t = nats s then l else G t
theorem updG_same (G : ByteArray → List Nat) (s : ByteArray) (l : List Nat) : updG G s l s = l := if_pos rfl
theorem updG_other (G : ByteArray → List Nat) {s t : ByteArray} (l : List Nat) (h : t ≠ s) : updG G s l t = G t := if_neg fun e => h (nats_inj e)
theorem lit_ne {s t : ByteArray} (h : t ≠ s) : (Lit.string t.data.toList) ≠ .string s.data.toList := key_ne fun e => h (nats_inj e)
theorem zero_ints (w : World) : (zeroValue TIs).run Tryz.prog w = .ok (.slice none 0 0) w := Tryz.zeroValue68 w
set_option maxRecDepth 100000 in
/-- What the map gives at a name. -/
theorem Scn.look (h : Scn base S M n cs G v D w) (s : ByteArray) (hs : s.size ≤ maxLen) : ∃ u, (∀ w1 : World, w1.ownsMap Tryz.prog KT anyV M n D → (Instr.lookup TMi (.map (some M)) (.string s) false).run Tryz.prog w1 = .ok u w1) ∧ ownN w base u (G s) ∧ ((u.ownBlock = none ∧ G s = []) ∨ GetN D s u) := by
  have hkey := WideMaps.keyOf_string_mk (P := Tryz.prog) (k := KT) Tryz.underlying9 hs
  have key : ∀ w1 : World, w1.ownsMap Tryz.prog KT anyV M n D → ∃ u ps, (Instr.lookup TMi (.map (some M)) (.string s) false).run Tryz.prog w1 = .ok u w1 ∧ anyV u = some (D.atKey (.string s.data.toList) (.held (.slice none 0 0)), ps) := fun w1 hm =>
    hm.lookup (z := .slice none 0 0) (zd := .held (.slice none 0 0)) (zp := []) keyS Tryz.underlying67 (zero_ints _) rfl hkey
  have hval : ∀ u ps, anyV u = some (D.atKey (.string s.data.toList) (.held (.slice none 0 0)), ps) → D.atKey (.string s.data.toList) (.held (.slice none 0 0)) = .held u := fun u ps e => by
    unfold anyV at e
    injection e with e
    injection e with e _
    exact e.symm
  by_cases hG : G s = []
  · refine ⟨.slice none 0 0, fun w1 hm => ?_, by rw [hG]; exact ownN_nil _ _, .inl ⟨rfl, hG⟩⟩
    obtain ⟨u, ps, h1, h2⟩ := key w1 hm
    have h3 := hval u ps h2
    rw [h.get0 s hG] at h3
    injection h3 with h3
    rw [h3]; exact h1
  · obtain ⟨u0, h1, h2⟩ := h.get1 s hG
    refine ⟨u0, fun w1 hm => ?_, h2, .inr h1⟩
    obtain ⟨u, ps, k1, k2⟩ := key w1 hm
    have k3 := hval u ps k2
    rw [h1] at k3
    injection k3 with k3
    rw [k3]; exact k1
theorem Scn.mapLt (h : Scn base S M n cs G v D w) : M < w.heap.size := h.map.lt
theorem Scn.turnRow (h : Scn base S M n cs G v D w) {s : ByteArray} {u u' : Value} {l' : List Nat} {w1 w2 : World} {n' : Nat} {D' : DataW Value} (hu : (u.ownBlock = none ∧ G s = []) ∨ GetN D s u) (hou : ownN w base u (G s)) (hown : ownN w1 base u' l') (hg : w.grownBy w1 u.ownBlock) (hloc : u'.ownBlock = u.ownBlock ∨ ∃ g, u'.ownBlock = some g ∧ w.heap.size ≤ g) (hup : Up l') (hfew : l'.length ≤ 1000)
    (hm : w2.ownsMap Tryz.prog KT anyV M n' D') (hg2 : w1.grownBy w2 (some M)) (hd0 : l' = [] → ∀ zd, D'.atKey (.string s.data.toList) zd = zd) (hd1 : l' ≠ [] → GetN D' s u') (hdo : ∀ t : ByteArray, t ≠ s → ∀ zd, D'.atKey (.string t.data.toList) zd = D.atKey (.string t.data.toList) zd) :
    Scn base S M n' cs (updG G s l') v D' w2 ∧ KeepS base S M w w2 := by
  have hMw := h.map.lt
  have hS := (Array.getElem?_eq_some_iff.1 h.box).1
  have hSu : some S ≠ u.ownBlock := fun e => by have := ownN_ty hou e.symm; have := h.sb; omega
  have hSM : S ≠ M := fun e => by
    obtain ⟨es, clock, hm, _⟩ := h.map
    rw [← e, h.box] at hm
    cases hm
  have hk2 : KeepS base S M w1 w2 := ⟨hg2.os, hg2.tape, hg2.output, hg2.size, fun c _ _ h3 h4 => hg2.block c h4 (fun e => by injection e with e; exact h3 e), fun c cur t _ _ h3 => by
    refine (hg2.block c (Array.getElem?_eq_some_iff.1 h3).1 (fun e => ?_)).trans h3
    injection e with e
    obtain ⟨es, clock, hmm, _⟩ := h.map
    have hM1 : w1.heap[M]? = some (.map es clock) := (hg.block M hMw (fun e => by have := ownN_ty hou e.symm; have := h.mb; omega)).trans hmm
    rw [e, hM1] at h3
    cases h3⟩
  have hrow : ∀ {x : Value} {l : List Nat}, ownN w1 base x l → ownN w2 base x l := fun {x l} ho => ownN_kept ho hg2 (.inr fun e => by
    have := ownN_ty ho e
    have := h.mb
    omega)
  have hne : ∀ (t : ByteArray) (x : Value), GetN D t x → t ≠ s → x.ownBlock ≠ u.ownBlock := fun t x hx hts => by
    rcases hu with ⟨e, _⟩ | hu
    · rw [e]
      obtain ⟨g, hg, _⟩ := ownN_some (h.getN hx).2 (h.getN hx).1
      rw [hg]; simp
    · exact h.apart t s x u hx hu hts
  have hvu : v.ownBlock = none ∨ v.ownBlock ≠ u.ownBlock := by
    rcases hu with ⟨e, _⟩ | hu
    · cases hv : v.ownBlock with
      | none => exact .inl rfl
      | some g => right; rw [e]; simp
    · exact .inr fun e => h.apart0 s u hu e.symm
  have hto : ∀ (t : ByteArray) (x : Value), t ≠ s → (GetN D' t x ↔ GetN D t x) := fun t x hts => ⟨fun k zd => (hdo t hts zd).symm.trans (k zd), fun k zd => (hdo t hts zd).trans (k zd)⟩
  have hfresh : ∀ (t : ByteArray) (x : Value), GetN D t x → t ≠ s → x.ownBlock ≠ u'.ownBlock := fun t x hx hts => by
    rcases hloc with e | ⟨g, e, hge⟩
    · rw [e]; exact hne t x hx hts
    · rw [e]
      intro e2
      have := ownN_ty (h.getN hx).2 e2
      omega
  have hsame : ∀ x, GetN D' s x → l' ≠ [] ∧ x = u' := fun x hx => by
    have hl' : l' ≠ [] := fun e => by
      have := hd0 e .nil
      rw [hx] at this
      cases this
    exact ⟨hl', hx.unique (hd1 hl')⟩
  refine ⟨⟨h.sb, h.mb, ?_, ?_, hm, hrow (ownN_kept h.own hg hvu), fun t ht => ?_, fun t ht => ?_, fun t r xt xr ht hr htr => ?_, fun t x hx => ?_, h.up, fun t => ?_, h.few, fun t => ?_⟩, (keepS_row hou hg S M).trans hk2⟩
  · have := h.hb; have := hg.size; have := hg2.size; omega
  · rw [hg2.block S (Nat.lt_of_lt_of_le hS hg.size) (fun e => by injection e with e; exact hSM e), hg.block S hS hSu]
    exact h.box
  · by_cases hts : t = s
    · subst hts
      rw [updG_same] at ht
      exact hd0 ht
    · rw [updG_other G l' hts] at ht
      intro zd
      rw [hdo t hts]
      exact h.get0 t ht zd
  · by_cases hts : t = s
    · subst hts
      rw [updG_same] at ht ⊢
      exact ⟨u', hd1 ht, hrow hown⟩
    · rw [updG_other G l' hts] at ht ⊢
      obtain ⟨x, h1, h2⟩ := h.get1 t ht
      exact ⟨x, (hto t x hts).2 h1, hrow (ownN_apart h2 hg (hne t x h1 hts))⟩
  · by_cases hts : t = s
    · subst hts
      obtain ⟨_, rfl⟩ := hsame xt ht
      exact (hfresh r xr ((hto r xr (fun e => htr e.symm)).1 hr) (fun e => htr e.symm)).symm
    · by_cases hrs : r = s
      · subst hrs
        obtain ⟨_, rfl⟩ := hsame xr hr
        exact hfresh t xt ((hto t xt hts).1 ht) hts
      · exact h.apart t r xt xr ((hto t xt hts).1 ht) ((hto r xr hrs).1 hr) htr
  · by_cases hts : t = s
    · subst hts
      obtain ⟨hl', rfl⟩ := hsame x hx
      rcases hloc with e | ⟨g, e, hge⟩
      · rw [e]
        rcases hvu with e2 | e2
        · rw [e2]
          intro e3
          rw [← e] at e3
          obtain ⟨g, hg, _⟩ := ownN_some hown hl'
          rw [hg] at e3; cases e3
        · exact fun e3 => e2 e3.symm
      · rw [e]
        intro e2
        have := ownN_ty h.own e2.symm
        omega
    · exact h.apart0 t x ((hto t x hts).1 hx)
  · by_cases hts : t = s
    · subst hts; rw [updG_same]; exact hup
    · rw [updG_other G l' hts]; exact h.ups t
  · by_cases hts : t = s
    · subst hts; rw [updG_same]; exact hfew
    · rw [updG_other G l' hts]; exact h.fews t
theorem Scn.isMap (h : Scn base S M n cs G v D w) : Maps.IsMap D := h.map.isMap
end

end Go.Proofs.YtaoobliajgcdmaaGreat

/-
  The document's Make.
-/
namespace Go.Proofs.YtaoobliajgcdmaaGreat
open Go.RowKit

def EI : El Int where
  s := 68
  e := 3
  sz := 1
  bys := 8
  z := .int .i64 0
  cells := fun x => [.int .i64 x]
  pos := by decide
  few := by decide
  len := fun _ => rfl
  one := fun x u hu => by
    obtain rfl : u = .int .i64 x := by simpa using hu
    rfl
  und := Tryz.underlying68
  info := by kernel_rfl
  zs := rfl
theorem rowI_ints {w : World} {A : Option Addr} {l : List Int} (h : RowE EI w A l) : Co.Ints w A l := fun i x hx => by
  obtain ⟨g, off, rfl, hc⟩ := h i x hx
  refine ⟨g, off, rfl, ?_⟩
  have := hc 0 _ rfl
  rwa [Nat.add_zero, show off + i * EI.sz = off + i by rw [show EI.sz = 1 from rfl, Nat.mul_one]] at this
theorem rowI_two (w : World) (x y : Int) : RowE EI (w.alloc (.cells #[.int .i64 x, .int .i64 y] 3)) (some ⟨w.heap.size, 0, none⟩) [x, y] := rowE_new (E := EI) w [x, y] 3
theorem ownE_cells {α : Type} {E : El α} {w : World} {base g cap : Nat} {cur : Array Value} {L : List α} (hb : w.heap[g]? = some (.cells cur E.e (0, 0))) (hbase : base ≤ g) (hr : RowE E w (some ⟨g, 0, none⟩) L) (hn : L.length ≤ cap) (hm : cap ≤ maxLen) (hs : cur.size = cap * E.sz) : ownE E w base (.slice (some ⟨g, 0, none⟩) L.length cap) L := by
  refine ⟨flatE_length L, .inr ⟨g, cap, cur, rfl, hbase, hb, hn, hm, hs, ?_⟩⟩
  apply List.ext_getElem?
  intro j
  by_cases hj : j < L.length * E.sz
  · obtain ⟨u, hu⟩ : ∃ u, (flatE E L)[j]? = some u := ⟨_, List.getElem?_eq_getElem (by rw [flatE_length]; exact hj)⟩
    have c := flatE_cell hr hu
    rw [List.getElem?_take_of_lt hj, hu]
    simp only [Go.WideShapes.add_plain, Nat.zero_add] at c
    rw [cell_of_row w g j cur E.e (0, 0) hb] at c
    rw [Array.getElem?_toList]
    exact c
  · rw [List.getElem?_take_eq_none (by omega), List.getElem?_eq_none (by rw [flatE_length]; omega)]
theorem ends_new (w : World) (x y : Int) : OE EI w [x, y] (.slice (some ⟨w.heap.size, 0, none⟩) 2 2) (w.alloc (.cells #[.int .i64 x, .int .i64 y] 3)) :=
  ⟨ownE_cells (E := EI) (L := [x, y]) (cap := 2) (heap_alloc_new w _) (Nat.le_refl _) (rowI_two w x y) (by simp) (by simp [maxLen]) (by simp [EI]), (bl w).alloc (Nat.le_refl _) _⟩
theorem OE.apartI {α : Type} {E : El α} {W w : World} {l : List α} {v : Value} (h : OE E W l v w) {B : Nat} (hB : w.heap.size ≤ B) : v.ownBlock ≠ some B := fun e => by
  have := (h.own.lt B e).2
  omega
theorem ends_in {a : Int × Int} {l : List Vr} (ha : rightP a.1 a.2 = true) {y : Int} (hy : y ∈ endsM a l) : a.1 ≤ y ∧ y ≤ a.2 := by
  have hr := (rightP_iff _ _).1 ha
  unfold endsM at hy
  rcases List.mem_append.1 hy with he | he
  · simp at he
    rcases he with rfl | rfl <;> omega
  · obtain ⟨v, hv, he⟩ := List.mem_flatMap.1 he
    unfold endsV at he
    split at he
    · rename_i hh
      rw [Bool.and_eq_true] at hh
      have hh2 := (meetB_iff _ _ _ _).1 hh.1
      have := (rightP_iff _ _).1 hh2.1.2
      have := hh2.2
      simp only [Co.meetF, Co.meetT, hh.1, if_true, List.mem_cons, List.not_mem_nil, or_false] at he
      omega
    · simp at he
theorem makeV_few {a : Int × Int} {l : List Vr} (hf : fewV l) : ∀ x s, makeV a l x = some s → s.length ≤ 20000 := fun x s hs => by
  unfold makeV at hs
  split at hs
  · injection hs with hs
    rw [← hs, atL, ofL]
    have h1 := overL_length (countsV (l.filter fun v => coversB v x)).flatten
    have h2 := (counts_few (few_filter (fun v => coversB v x) hf)).2.1
    omega
  · cases hs
theorem made_few {ts : List Int} {g : Int → Option (List Fd)} {i : Nat} {o : List Pc} (h : MadeT ts g i o) {e : Int} (he : ts[i]? = some e) {n : Nat} (hg : ∀ x s, g x = some s → s.length ≤ n) : ∀ q ∈ o, q.fs.length ≤ n := fun q hq => by
  have h1 := fs_mem h.tl q hq
  rw [h.fs e he] at h1
  split at h1
  · exact hg _ _ h1
  · cases h1

/-- The ends, place by place. -/
theorem ends_next {a : Int × Int} {l : List Vr} {t : Nat} {v : Vr} (h : l[t]? = some v) : (l.take (t + 1)).flatMap (endsV a) = (l.take t).flatMap (endsV a) ++ endsV a v := by
  rw [List.take_add_one, h, Option.toList_some, List.flatMap_append]
  simp

set_option maxHeartbeats 4000000 in
set_option maxRecDepth 100000 in
theorem dtmake_any (w : World) (a : Int × Int) (u : Value) (l : List Vr) (hl : VersL w u l) (hf : fewV l) : Calls Tryz.prog 13 #[.agg #[.int .i64 a.1, .int .i64 a.2], u] w fun e w' => ∃ x, e = .returned x ∧ HasTL w' x (makeV a l) ∧ Below w.heap.size w w' := by
  have CAT := Lib.hid (fun w' (h : Below w.heap.size w w') (x : Int) => datO_any w' x u l (hl.below h) hf)
  have HMF := Lib.hid (makeV_few (a := a) hf)
  have hln := hf.1
  obtain ⟨⟨A, c, rfl, hA, hc, hnc⟩, hVF⟩ := hl
  have HA := Lib.hid hA
  obtain ⟨n, hnm⟩ : ∃ n, l.length = n := ⟨_, rfl⟩
  rw [hnm] at hln hc CAT ⊢
  have HN := Lib.hid hnm
  obtain ⟨af, at', rfl⟩ : ∃ af at', a = (af, at') := ⟨a.1, a.2, rfl⟩
  have HB1 := Lib.hid (show Below w.heap.size w (w.alloc (ocS af at')) from (bl w).alloc (Nat.le_refl _) _)
  have HS1 := Lib.hid (boxS_new w af at')
  have CR := Lib.hid (fun w => dright01_any af at' w)
  rw [rightS_P] at CR
  clear hA hc hnc hVF hnm hf
  cases hr : rightP af at' with
  | false =>
    rw [hr] at CR
    have HG := Lib.hid (show ∀ x, makeV (af, at') l x = none from fun x => makeV_out fun h => by rw [show rightP (af, at').1 (af, at').2 = false from hr] at h; exact absurd h.1 (by simp))
    clear hr
    go_enter Tryz.func13, Tryz.ntmps13
    go_wp2_with (go_at_call 29; (with_reducible refine (CR.out _).mono ?_); rintro e w2 ⟨rfl, hb2⟩)
    go_ret
    exact ⟨_, rfl, ⟨[], TimeL.nil _ _ HG.out⟩, chain HB1.out hb2⟩
  | true =>
    rw [hr] at CR
    have HRA := Lib.hid (show rightP (af, at').1 (af, at').2 = true from hr)
    clear hr
    go_enter Tryz.func13, Tryz.ntmps13
    go_wp2_with (go_at_call 29; (with_reducible refine (CR.out _).mono ?_); rintro e w2 ⟨rfl, hb2⟩; have HB2 := Lib.hid hb2; obtain ⟨y0, y1⟩ := HS1.out.below hb2; clear hb2)
    have HE0 := Lib.hid (ends_new w2 af at')
    clear y0 y1
    go_loopw [5, 6] (fun o i wr => ∃ (t : Nat) (zs : List Int), t ≤ n ∧ i = .int .i64 (t : Nat) ∧ zs = [af, at'] ++ (l.take t).flatMap (endsV (af, at')) ∧ OE EI w2 zs o wr) (fun _ i _ => n - (intOf i).toNat)
    case atStart => exact ⟨0, [af, at'], Nat.zero_le _, rfl, rfl, HE0.out⟩
    case round =>
      obtain ⟨t, zs, ht, rfl, hzs, hO⟩ := hrel
      have HZS := Lib.hid hzs
      have HO := Lib.hid hO
      clear hzs hO
      have hW := chain (chain HB1.out HB2.out) HO.out.bel
      have HW := Lib.hid hW
      have HLEN := Lib.hid (show zs.length ≤ 402 by
        rw [HZS.out]
        have := flat2_length (endsV (af, at')) (endsV_length (af, at')) (l.take t)
        rw [List.length_take] at this
        rw [List.length_append]
        simp only [List.length_cons, List.length_nil]
        omega)
      by_cases hlt : t < n
      · have hlt' : (t : Int) < (n : Int) := by omega
        obtain ⟨v, hx⟩ : ∃ v, l[t]? = some v := ⟨_, List.getElem?_eq_getElem (by have := HN.out; omega)⟩
        obtain ⟨g, off, rfl, hX⟩ := (HA.out.below hW).cells7 hx
        have HX := Lib.hid hX
        have HSB := Lib.hid ((HS1.out.below HB2.out).below HO.out.bel)
        have CM := Lib.hid (fun w => Co.dmeet_any af at' v.sf v.se w)
        obtain ⟨z0, z1, z2, z3, z4, z5, z6⟩ := hX
        obtain ⟨y0, y1⟩ := HSB.out
        have hstep : [af, at'] ++ (l.take (t + 1)).flatMap (endsV (af, at')) = zs ++ endsV (af, at') v := by rw [ends_next hx, ← List.append_assoc, ← HZS.out]
        have NXF := Lib.hid (show (Co.meetB af at' v.sf v.se = false ∨ v.gone = true) → zs = [af, at'] ++ (l.take (t + 1)).flatMap (endsV (af, at')) from fun h => by
          rw [hstep]; unfold endsV
          rcases h with h | h
          · rw [show Co.meetB (af, at').1 (af, at').2 v.sf v.se = false from h]; simp
          · rw [h]; simp)
        have NXT := Lib.hid (show Co.meetB af at' v.sf v.se = true → v.gone = false → zs ++ [Co.meetF af at' v.sf v.se, Co.meetT af at' v.sf v.se] = [af, at'] ++ (l.take (t + 1)).flatMap (endsV (af, at')) from fun h k => by
          rw [hstep]; unfold endsV
          rw [show Co.meetB (af, at').1 (af, at').2 v.sf v.se = true from h, k]; rfl)
        clear hx hW hstep
        generalize Co.meetF af at' v.sf v.se = mf at *
        generalize Co.meetT af at' v.sf v.se = mt at *
        generalize Co.meetB af at' v.sf v.se = mb at *
        have MK := Lib.hid (show ∀ w', Below wr.heap.size wr w' → (Below wr.heap.size wr w' ∧ Cells7 w' g (off + t * 7) v ∧ BoxS w' w.heap.size af at') from fun w' h => ⟨h, HX.out.below h, HSB.out.below h⟩)
        go_upto_region 7 with fail
        clear z0 z1 z2 z3 z4 z5 z6 y0 y1
        refine wp_region_held_drew (S := fun w' => Below wr.heap.size wr w' ∧ Cells7 w' g (off + t * 7) v ∧ BoxS w' w.heap.size af at') (by kernel_rfl) (MK.out _ ((bl wr).drew)) (fun hHeld => ?_)
        refine wpAnyH_take (i := 0) (oi := _) (v := ?_) (by simp only [List.getElem?_toArray, List.getElem?_cons_zero]; rfl) (by kernel_rfl) (by kernel_rfl) (by kernel_rfl) (by exact fun _ _ _ h => h) (Or.inl ⟨by rfl, ?_⟩) (by assumption) ?_
        rotate_left 1
        · (intro w hSw; (try dsimp only at hSw); go_simp; try (with_reducible rfl))
        simp only [Act.put, List.setIfInBounds_toArray, List.set_cons_zero, List.set_cons_succ]
        refine wpAnyH_take (i := 1) (oi := _) (v := ?_) (by simp only [List.getElem?_toArray, List.getElem?_cons_succ, List.getElem?_cons_zero]; rfl) (by kernel_rfl) (by kernel_rfl) (by kernel_rfl) (by exact fun _ _ _ h => h) (Or.inl ⟨by rfl, ?_⟩) (by assumption) ?_
        rotate_left 1
        · (intro w hSw; (try dsimp only at hSw); go_simp; try (with_reducible rfl))
        simp only [Act.put, List.setIfInBounds_toArray, List.set_cons_zero, List.set_cons_succ]
        refine wpAnyH_take (i := 2) (oi := _) (v := ?_) (by simp only [List.getElem?_toArray, List.getElem?_cons_succ, List.getElem?_cons_zero]; rfl) (by kernel_rfl) (by kernel_rfl) (by kernel_rfl) (by exact fun _ _ _ h => h) (Or.inl ⟨by rfl, ?_⟩) (by assumption) ?_
        rotate_left 1
        · (intro w hSw; (try dsimp only at hSw); go_simp; try (with_reducible rfl))
        simp only [Act.put, List.setIfInBounds_toArray, List.set_cons_zero, List.set_cons_succ]
        refine wpAnyH_take (i := 3) (oi := _) (v := ?_) (by simp only [List.getElem?_toArray, List.getElem?_cons_succ, List.getElem?_cons_zero]; rfl) (by kernel_rfl) (by kernel_rfl) (by kernel_rfl) (by exact fun _ _ _ h => h) (Or.inl ⟨by rfl, ?_⟩) (by assumption) ?_
        rotate_left 1
        · (intro w hSw; (try dsimp only at hSw); go_simp; try (with_reducible rfl))
        simp only [Act.put, List.setIfInBounds_toArray, List.set_cons_zero, List.set_cons_succ]
        refine wpAnyH_take (i := 4) (oi := _) (v := ?_) (by simp only [List.getElem?_toArray, List.getElem?_cons_succ, List.getElem?_cons_zero]; rfl) (by kernel_rfl) (by kernel_rfl) (by kernel_rfl) (by exact fun _ _ _ h => h) (Or.inl ⟨by rfl, ?_⟩) (by assumption) ?_
        rotate_left 1
        · (intro w hSw; (try dsimp only at hSw); go_simp; try (with_reducible rfl))
        simp only [Act.put, List.setIfInBounds_toArray, List.set_cons_zero, List.set_cons_succ]
        refine wpAnyH_take (i := 5) (oi := _) (v := ?_) (by simp only [List.getElem?_toArray, List.getElem?_cons_succ, List.getElem?_cons_zero]; rfl) (by kernel_rfl) (by kernel_rfl) (by kernel_rfl) (by exact fun _ _ _ h => h) (Or.inl ⟨by rfl, ?_⟩) (by assumption) ?_
        rotate_left 1
        · (intro w hSw; (try dsimp only at hSw); go_simp; try (with_reducible rfl))
        simp only [Act.put, List.setIfInBounds_toArray, List.set_cons_zero, List.set_cons_succ]
        refine wpAnyH_ready (rs := [6, 10]) (by kernel_rfl) (by simp) ?_
        refine AllReadyH.cons (o := _) (by simp only [List.getElem?_toArray, List.getElem?_cons_succ, List.getElem?_cons_zero]; rfl) (fun K hK => ?_) ?_
        · go_simp
          go_at_call 40
          refine (CM.out _).mono ?_
          rintro e w1 ⟨rfl, hb0⟩
          have hb1 := chain hHeld.1 hb0
          try dsimp only
          refine hK.out _ _ (MK.out _ hb1) (fun hHeld => ?_)
          clear hK K
          try simp only [Act.put, List.setIfInBounds_toArray, List.set_cons_zero, List.set_cons_succ]
          refine wpAnyH_take (i := 7) (oi := _) (v := ?_) (by simp only [List.getElem?_toArray, List.getElem?_cons_succ, List.getElem?_cons_zero]; rfl) (by kernel_rfl) (by kernel_rfl) (by kernel_rfl) (by exact fun _ _ _ h => h) (Or.inl ⟨by rfl, ?_⟩) (by assumption) ?_
          rotate_left 1
          · (intro w hSw; (try dsimp only at hSw); go_simp; try (with_reducible rfl))
          simp only [Act.put, List.setIfInBounds_toArray, List.set_cons_zero, List.set_cons_succ]
          refine wpAnyH_take (i := 8) (oi := _) (v := ?_) (by simp only [List.getElem?_toArray, List.getElem?_cons_succ, List.getElem?_cons_zero]; rfl) (by kernel_rfl) (by kernel_rfl) (by kernel_rfl) (by exact fun _ _ _ h => h) (Or.inl ⟨by rfl, ?_⟩) (by assumption) ?_
          rotate_left 1
          · (intro w hSw; (try dsimp only at hSw); go_simp; try (with_reducible rfl))
          simp only [Act.put, List.setIfInBounds_toArray, List.set_cons_zero, List.set_cons_succ]
          refine wpAnyH_take (i := 9) (oi := _) (v := ?_) (by simp only [List.getElem?_toArray, List.getElem?_cons_succ, List.getElem?_cons_zero]; rfl) (by kernel_rfl) (by kernel_rfl) (by kernel_rfl) (by exact fun _ _ _ h => h) (Or.inl ⟨by rfl, ?_⟩) (by assumption) ?_
          rotate_left 1
          · (intro w hSw; (try dsimp only at hSw); go_simp; try (with_reducible rfl))
          simp only [Act.put, List.setIfInBounds_toArray, List.set_cons_zero, List.set_cons_succ]
          refine wpAnyH_ready (rs := [10]) (by kernel_rfl) (by simp) ?_
          refine AllReadyH.cons (o := _) (by simp only [List.getElem?_toArray, List.getElem?_cons_succ, List.getElem?_cons_zero]; rfl) (fun K hK => ?_) AllReadyH.nil
          go_simp
          try dsimp only
          refine hK.out _ _ (MK.out _ (hb1.alloc hb1.size _)) (fun hHeld => ?_)
          clear hK K
          try simp only [Act.put, List.setIfInBounds_toArray, List.set_cons_zero, List.set_cons_succ]
          refine wpAnyH_ready (rs := [11]) (by kernel_rfl) (by simp) ?_
          refine AllReadyH.cons (o := _) (by simp only [List.getElem?_toArray, List.getElem?_cons_succ, List.getElem?_cons_zero]; rfl) (fun K hK => ?_) AllReadyH.nil
          go_simp
          try dsimp only
          refine hK.out _ _ (MK.out _ (hb1.alloc hb1.size _)) (fun hHeld => ?_)
          clear hK K
          try simp only [Act.put, List.setIfInBounds_toArray, List.set_cons_zero, List.set_cons_succ]
          refine wpAnyH_take (i := 12) (oi := _) (v := ?_) (by simp only [List.getElem?_toArray, List.getElem?_cons_succ, List.getElem?_cons_zero]; rfl) (by kernel_rfl) (by kernel_rfl) (by kernel_rfl) (by exact fun _ _ _ h => h) (Or.inl ⟨by rfl, ?_⟩) (by assumption) ?_
          rotate_left 1
          · (intro w hSw; (try dsimp only at hSw); go_simp; try (with_reducible rfl))
          simp only [Act.put, List.setIfInBounds_toArray, List.set_cons_zero, List.set_cons_succ]
          refine wpAnyH_done (by kernel_rfl) ?_ _
          obtain ⟨k0, k1⟩ := boxS_new w1 mf mt
          have hB1 := hb1.alloc hb1.size (ocS mf mt)
          refine abstract_then (fun W => Below wr.heap.size wr W ∧ wr.heap.size ≤ w1.heap.size ∧ w1.heap.size < W.heap.size ∧ BoxS W w1.heap.size mf mt) ⟨hB1, hb1.size, by simp, k0, k1⟩ ?_
          rintro W3 ⟨hB3, hle3, hlt3, k0, k1⟩
          generalize w1.heap.size = B at *
          have hoB := HO.out.apartI hle3
          have HO3 := Lib.hid (HO.out.below hB3)
          obtain ⟨z0, z1, z2, z3, z4, z5, z6⟩ := HX.out.below hB3
          cases mb with
          | false =>
            have NX := Lib.hid (NXF.out (.inl rfl))
            go_wp2_with fail
            exact ⟨⟨t + 1, zs, by omega, by go_num, NX.out, HO3.out⟩, by simp [intOf] <;> omega⟩
          | true =>
            generalize hgn : v.gone = gn at *
            cases gn with
            | true =>
              have NX := Lib.hid (NXF.out (.inr rfl))
              go_wp2_with fail
              exact ⟨⟨t + 1, zs, by omega, by go_num, NX.out, HO3.out⟩, by simp [intOf] <;> omega⟩
            | false =>
              have NX := Lib.hid (NXT.out rfl rfl)
              go_wp2_with (first
                | (at_builtin; refine wpList_appE (E := EI) (xs := [mf, mt]) rfl (.tmp 46) (.tmp 51) rfl rfl rfl (World.ownsRow.alloc HO3.out.own _) rfl rfl (by have hrow := rowI_two W3 mf mt; first | exact hrow | (simp at hrow ⊢; exact hrow)) (fun h => by cases h) (by have := HLEN.out; simp; omega) (by have := HO3.out.bel.size; simp; omega) ?_; intro v' w4 hown4 hg4; have HN4 := Lib.hid ((HO3.out.below ((bl W3).alloc (Nat.le_refl _) _)).grown hg4 hown4); clear hown4 hg4)
                | go_in)
              exact ⟨⟨t + 1, zs ++ [mf, mt], by omega, by go_num, NX.out, HN4.out⟩, by simp [intOf] <;> omega⟩
        · refine AllReadyH.cons (o := _) (by simp only [List.getElem?_toArray, List.getElem?_cons_succ, List.getElem?_cons_zero]; rfl) (fun K hK => ?_) AllReadyH.nil
          go_simp
          try dsimp only
          refine hK.out _ _ (MK.out _ (((bl wr).drew).alloc (by simp) _)) (fun hHeld => ?_)
          clear hK K
          try simp only [Act.put, List.setIfInBounds_toArray, List.set_cons_zero, List.set_cons_succ]
          refine wpAnyH_ready (rs := [6]) (by kernel_rfl) (by simp) ?_
          refine AllReadyH.cons (o := _) (by simp only [List.getElem?_toArray, List.getElem?_cons_succ, List.getElem?_cons_zero]; rfl) (fun K hK => ?_) AllReadyH.nil
          go_simp
          go_at_call 40
          refine (CM.out _).mono ?_
          rintro e w1 ⟨rfl, hb0⟩
          have hb1 := chain hHeld.1 hb0
          have hz : w1.cell? ⟨wr.heap.size, 0, none⟩ = some (.int .i64 0) ∧ w1.cell? ⟨wr.heap.size, 1, none⟩ = some (.int .i64 0) ∧ w1.frozen? ⟨wr.heap.size, 0, none⟩ = false ∧ w1.frozen? ⟨wr.heap.size, 1, none⟩ = false := zboxSd hb0
          have hsz := hb0.size
          obtain ⟨k0, k1, f0, f1⟩ := hz
          try dsimp only
          refine hK.out _ _ (MK.out _ hb1) (fun hHeld => ?_)
          clear hK K
          try simp only [Act.put, List.setIfInBounds_toArray, List.set_cons_zero, List.set_cons_succ]
          refine wpAnyH_take (i := 7) (oi := _) (v := ?_) (by simp only [List.getElem?_toArray, List.getElem?_cons_succ, List.getElem?_cons_zero]; rfl) (by kernel_rfl) (by kernel_rfl) (by kernel_rfl) (by exact fun _ _ _ h => h) (Or.inl ⟨by rfl, ?_⟩) (by assumption) ?_
          rotate_left 1
          · (intro w hSw; (try dsimp only at hSw); go_simp; try (with_reducible rfl))
          simp only [Act.put, List.setIfInBounds_toArray, List.set_cons_zero, List.set_cons_succ]
          refine wpAnyH_take (i := 8) (oi := _) (v := ?_) (by simp only [List.getElem?_toArray, List.getElem?_cons_succ, List.getElem?_cons_zero]; rfl) (by kernel_rfl) (by kernel_rfl) (by kernel_rfl) (by exact fun _ _ _ h => h) (Or.inl ⟨by rfl, ?_⟩) (by assumption) ?_
          rotate_left 1
          · (intro w hSw; (try dsimp only at hSw); go_simp; try (with_reducible rfl))
          simp only [Act.put, List.setIfInBounds_toArray, List.set_cons_zero, List.set_cons_succ]
          refine wpAnyH_take (i := 9) (oi := _) (v := ?_) (by simp only [List.getElem?_toArray, List.getElem?_cons_succ, List.getElem?_cons_zero]; rfl) (by kernel_rfl) (by kernel_rfl) (by kernel_rfl) (by exact fun _ _ _ h => h) (Or.inl ⟨by rfl, ?_⟩) (by assumption) ?_
          rotate_left 1
          · (intro w hSw; (try dsimp only at hSw); go_simp; try (with_reducible rfl))
          simp only [Act.put, List.setIfInBounds_toArray, List.set_cons_zero, List.set_cons_succ]
          refine wpAnyH_ready (rs := [11]) (by kernel_rfl) (by simp) ?_
          refine AllReadyH.cons (o := _) (by simp only [List.getElem?_toArray, List.getElem?_cons_succ, List.getElem?_cons_zero]; rfl) (fun K hK => ?_) AllReadyH.nil
          go_simp
          try dsimp only
          refine hK.out _ _ (MK.out _ ((hb1.setCell (p := ⟨wr.heap.size, 0, none⟩) (Nat.le_refl _) _).setCell (p := ⟨wr.heap.size, 1, none⟩) (Nat.le_refl _) _)) (fun hHeld => ?_)
          clear hK K
          try simp only [Act.put, List.setIfInBounds_toArray, List.set_cons_zero, List.set_cons_succ]
          refine wpAnyH_take (i := 12) (oi := _) (v := ?_) (by simp only [List.getElem?_toArray, List.getElem?_cons_succ, List.getElem?_cons_zero]; rfl) (by kernel_rfl) (by kernel_rfl) (by kernel_rfl) (by exact fun _ _ _ h => h) (Or.inl ⟨by rfl, ?_⟩) (by assumption) ?_
          rotate_left 1
          · (intro w hSw; (try dsimp only at hSw); go_simp; try (with_reducible rfl))
          simp only [Act.put, List.setIfInBounds_toArray, List.set_cons_zero, List.set_cons_succ]
          refine wpAnyH_done (by kernel_rfl) ?_ _
          have hB1 := (hb1.setCell (p := ⟨wr.heap.size, 0, none⟩) (Nat.le_refl _) (.int .i64 mf)).setCell (p := ⟨wr.heap.size, 1, none⟩) (Nat.le_refl _) (.int .i64 mt)
          obtain ⟨q0, q1⟩ := two_storeS (.int .i64 mf) (.int .i64 mt) k0 k1
          have hl1 : wr.heap.size < w1.heap.size := by simp at hsz; omega
          clear k0 k1 f0 f1
          refine abstract_then (fun W => Below wr.heap.size wr W ∧ wr.heap.size ≤ wr.heap.size ∧ wr.heap.size < W.heap.size ∧ BoxS W wr.heap.size mf mt) ⟨hB1, Nat.le_refl _, by simpa [World.setCell] using hl1, q0, q1⟩ ?_
          rintro W3 ⟨hB3, hle3, hlt3, k0, k1⟩
          obtain ⟨B, hBB⟩ : ∃ B, wr.heap.size = B := ⟨_, rfl⟩
          have HBW := Lib.hid hBB
          rw [hBB] at k0 k1 hlt3 ⊢
          clear hle3
          have hle3 : wr.heap.size ≤ B := by rw [hBB]; exact Nat.le_refl _
          clear hBB
          have hoB := HO.out.apartI hle3
          have HO3 := Lib.hid (HO.out.below hB3)
          obtain ⟨z0, z1, z2, z3, z4, z5, z6⟩ := HX.out.below hB3
          cases mb with
          | false =>
            have NX := Lib.hid (NXF.out (.inl rfl))
            go_wp2_with fail
            exact ⟨⟨t + 1, zs, by omega, by go_num, NX.out, HO3.out⟩, by simp [intOf] <;> omega⟩
          | true =>
            generalize hgn : v.gone = gn at *
            cases gn with
            | true =>
              have NX := Lib.hid (NXF.out (.inr rfl))
              go_wp2_with fail
              exact ⟨⟨t + 1, zs, by omega, by go_num, NX.out, HO3.out⟩, by simp [intOf] <;> omega⟩
            | false =>
              have NX := Lib.hid (NXT.out rfl rfl)
              go_wp2_with (first
                | (at_builtin; refine wpList_appE (E := EI) (xs := [mf, mt]) rfl (.tmp 46) (.tmp 51) rfl rfl rfl (World.ownsRow.alloc HO3.out.own _) rfl rfl (by have hrow := rowI_two W3 mf mt; first | exact hrow | (simp at hrow ⊢; exact hrow)) (fun h => by cases h) (by have := HLEN.out; simp; omega) (by have := HO3.out.bel.size; simp; omega) ?_; intro v' w4 hown4 hg4; have HN4 := Lib.hid ((HO3.out.below ((bl W3).alloc (Nat.le_refl _) _)).grown hg4 hown4); clear hown4 hg4)
                | go_in)
              exact ⟨⟨t + 1, zs ++ [mf, mt], by omega, by go_num, NX.out, HN4.out⟩, by simp [intOf] <;> omega⟩
      · obtain rfl : t = n := by omega
        have hlt' : ¬ (t : Int) < (t : Int) := by omega
        have HZE := Lib.hid (show zs = endsM (af, at') l by rw [HZS.out, List.take_of_length_le (by have := HN.out; omega)]; rfl)
        obtain ⟨A5, c5, hv5, hr5, _⟩ := HO.out.list
        subst hv5
        have CRI := Lib.hid (Co.rise_any A5 c5 zs wr (rowI_ints hr5) (by have := HLEN.out; omega))
        obtain ⟨ts, hts⟩ : ∃ ts, Co.riseL zs = ts := ⟨_, rfl⟩
        rw [hts] at CRI
        have HST := Lib.hid (show Steps ts (makeV (af, at') l) from steps_make HRA.out (by rw [← hts]; exact Co.riseL_pw _) (fun y => by rw [← hts, Co.mem_riseL, HZE.out]))
        have HIN := Lib.hid (show ∀ y ∈ ts, af ≤ y ∧ y ≤ at' from fun y hy => by
          rw [← hts, Co.mem_riseL, HZE.out] at hy
          exact ends_in HRA.out hy)
        have HTL := Lib.hid (show ts.length ≤ 402 by rw [← hts]; have := Co.riseL_length zs; have := HLEN.out; omega)
        have HPOS := Lib.hid (show 1 ≤ ts.length by
          have : af ∈ ts := by rw [← hts, Co.mem_riseL, HZE.out]; simp [endsM]
          exact List.length_pos_of_mem this)
        clear hr5 hts
        obtain ⟨nz, hnz⟩ : ∃ nz, zs.length = nz := ⟨_, rfl⟩
        rw [hnz] at CRI ⊢
        clear hnz
        have HW6 := hW
        go_wp2_with (go_at_call 41; (with_reducible refine CRI.out.mono ?_); rintro e w5 ⟨v5, rfl, hown5, hb5⟩; have HW5 := Lib.hid (chain HW6 hb5); obtain ⟨A6, c6, rfl, hI6⟩ := Co.own_ints hown5; have HI := Lib.hid hI6; clear hown5 hI6 hb5)
        clear HW6 hW
        obtain ⟨n2, hn2⟩ : ∃ n2, ts.length = n2 := ⟨_, rfl⟩
        have HN2 := Lib.hid hn2
        rw [hn2] at HTL HPOS ⊢
        have h402 := HTL.out
        have hpos := HPOS.out
        clear hn2
        go_loopw [9, 10] (fun o i wq => ∃ (k : Nat) (L : List Pc), k + 1 ≤ n2 ∧ i = .int .i64 (k : Nat) ∧ MadeT ts (makeV (af, at') l) k L ∧ OutP w5 L o wq) (fun _ i _ => n2 - (intOf i).toNat)
        case atStart => exact ⟨0, [], hpos, rfl, MadeT.start HST.out, OutP.nil w5⟩
        case round =>
          obtain ⟨wq, hwqe⟩ : ∃ wq, wq = wr := ⟨_, rfl⟩
          subst hwqe
          obtain ⟨k, L, hk, rfl, hM, hO2⟩ := hrel
          have HM := Lib.hid hM
          have HO2 := Lib.hid hO2
          clear hM hO2
          obtain ⟨m, hm⟩ : ∃ m, k + 1 = m := ⟨_, rfl⟩
          have HMM := Lib.hid hm
          have hk1 : IntKind.i64.wrap ((k : Int) + 1) = (m : Int) := by rw [IntWalk.i64_in _ (by omega)]; omega
          by_cases hlt2 : k + 1 < n2
          · have hlt2' : (m : Int) < (n2 : Int) := by omega
            have hlt2n : m < n2 := by omega
            obtain ⟨e1, he1⟩ : ∃ e, ts[k]? = some e := ⟨_, List.getElem?_eq_getElem (by have := HN2.out; omega)⟩
            obtain ⟨e2, he2⟩ : ∃ e, ts[k + 1]? = some e := ⟨_, List.getElem?_eq_getElem (by have := HN2.out; omega)⟩
            obtain ⟨gi, oi, rfl, hc1⟩ := HI.out k e1 he1
            obtain ⟨gi', oi', he, hc2⟩ := HI.out (k + 1) e2 he2
            injection he with he
            injection he with q1 q2 _
            subst q1 q2
            have HC1 := Lib.hid hc1
            have HC2 := Lib.hid (show w5.cell? ⟨gi, oi + m, none⟩ = some (.int .i64 e2) by rw [← hm]; exact hc2)
            have HE1 := Lib.hid he1
            have HE2 := Lib.hid he2
            have HGE := Lib.hid (show makeV (af, at') l e1 = if (l.any fun v => coversB v e1) = true then some (atL e1 l) else none from makeV_in HRA.out (HIN.out e1 (List.mem_of_getElem? he1)).1 (by
              have := (HIN.out e2 (List.mem_of_getElem? he2)).2
              have := (steps_lt HST.out he1 he2).1
              show e1 < at'
              omega))
            have HFW := Lib.hid (made_few HM.out he1 HMF.out)
            have HLL := Lib.hid HM.out.len
            have hkn : (k : Int) < (n2 : Int) := by omega
            have hwq := chain HW5.out HO2.out.bel
            have HWQ := Lib.hid hwq
            have HK1 := Lib.hid hlt2
            clear hc1 hc2 he1 he2 hwq hm hlt2
            go_wp2_with fail
            go_loopw [11, 12] (fun an i wp => ∃ (j : Nat) (b : Bool), j ≤ t ∧ i = .int .i64 (j : Nat) ∧ an = .bool b ∧ b = ((l.take j).any fun v => coversB v e1) ∧ Below wq.heap.size wq wp) (fun _ i _ => t - (intOf i).toNat)
            case atStart => exact ⟨0, false, Nat.zero_le _, rfl, rfl, rfl, bl wq⟩
            case round =>
              obtain ⟨wp, hwpe⟩ : ∃ wp, wp = wr := ⟨_, rfl⟩
              subst hwpe
              obtain ⟨j, b, hj, rfl, rfl, hb, hP⟩ := hrel
              have HBB := Lib.hid hb
              have HPP := Lib.hid hP
              clear hb hP
              by_cases hlt3 : j < t
              · have hlt3' : (j : Int) < (t : Int) := by omega
                obtain ⟨v, hx⟩ : ∃ v, l[j]? = some v := ⟨_, List.getElem?_eq_getElem (by have := HN.out; omega)⟩
                obtain ⟨g, off, rfl, hX⟩ := (HA.out.below (chain HWQ.out HPP.out)).cells7 hx
                have HNX := Lib.hid (show ((l.take (j + 1)).any fun v => coversB v e1) = (b || coversB v e1) by rw [List.take_add_one, hx, Option.toList_some, List.any_append, HBB.out]; simp)
                have hci := keepc (chain HO2.out.bel HPP.out) HC1.out
                have HX := Lib.hid hX
                have HCI := Lib.hid hci
                have CC := Lib.hid (fun w => dcovers_any v e1 w)
                clear hx
                cases b with
                | true =>
                  obtain ⟨z0, z1, z2, z3, z4, z5, z6⟩ := hX
                  have NX := Lib.hid (show true = ((l.take (j + 1)).any fun v => coversB v e1) by rw [HNX.out]; rfl)
                  go_wp2_with fail
                  go_quiet (fail)
                  go_wp2_with fail
                  exact ⟨⟨j + 1, true, by omega, by go_num, rfl, NX.out, belowN HPP.out _⟩, by simp [intOf] <;> omega⟩
                | false =>
                  have NX := Lib.hid (show coversB v e1 = ((l.take (j + 1)).any fun v => coversB v e1) by rw [HNX.out]; rfl)
                  have MK := Lib.hid (show ∀ w', Below wp.heap.size wp w' → (Below wp.heap.size wp w' ∧ Cells7 w' g (off + j * 7) v ∧ w'.cell? ⟨gi, oi + k, none⟩ = some (.int .i64 e1)) from fun w' h => ⟨h, HX.out.below h, keepc h HCI.out⟩)
                  generalize coversB v e1 = cb at *
                  clear hX hci
                  go_upto_region 19 with fail
                  first
                    | (go_region_held3 (fun w' => Below wp.heap.size wp w' ∧ Cells7 w' g (off + j * 7) v ∧ w'.cell? ⟨gi, oi + k, none⟩ = some (.int .i64 e1))
                        (first | exact MK.out _ ((bl wp).drew) | exact MK.out _ hb1 | fail)
                        (first | (go_at_call 28; (refine (CC.out _).mono ?_); (rintro e w1 ⟨rfl, hb0⟩); (have hb1 := chain (by go_split_ands; assumption) hb0); clear hb0) | fail))
                    | fail
                  go_wp2_with fail
                  exact ⟨⟨j + 1, cb, by omega, by go_num, rfl, NX.out, chain HPP.out hb1⟩, by simp [intOf] <;> omega⟩
              · obtain rfl : j = t := by omega
                have hlt3' : ¬ (j : Int) < (j : Int) := by omega
                have HAN := Lib.hid (show b = (l.any fun v => coversB v e1) by rw [HBB.out, List.take_of_length_le (by have := HN.out; omega)])
                have HG1 := Lib.hid (show makeV (af, at') l e1 = if b = true then some (atL e1 l) else none by rw [HGE.out, HAN.out])
                cases b with
                | false =>
                  have NM := Lib.hid (HM.out.skip HST.out HE1.out HE2.out (by rw [HG1.out]; rfl))
                  have HO3 := Lib.hid (HO2.out.below HPP.out)
                  go_wp2_with fail
                  exact ⟨⟨k + 1, L, by have := HK1.out; omega, by have := HMM.out; go_num, NM.out, HO3.out⟩, by have := HMM.out; simp [intOf] <;> omega⟩
                | true =>
                  have NM := Lib.hid (fun A c => HM.out.next HST.out (p := ⟨e1, e2, A, c, atL e1 l⟩) HE1.out HE2.out (by rw [HG1.out]; rfl))
                  have HO3 := Lib.hid ((HO2.out.below HPP.out).below ((bl wp).drew))
                  have CA := Lib.hid (CAT.out wp.drew (chain (chain HWQ.out HPP.out) ((bl wp).drew)) e1)
                  have HAF := Lib.hid (show (atL e1 l).length ≤ 20000 from HMF.out e1 _ (by rw [HG1.out]; rfl))
                  have MK := Lib.hid (show ∀ w', Below w5.heap.size w5 w' → (Below w5.heap.size w5 w' ∧ w'.cell? ⟨gi, oi + k, none⟩ = some (.int .i64 e1) ∧ w'.cell? ⟨gi, oi + m, none⟩ = some (.int .i64 e2)) from fun w' h => ⟨h, keepc h HC1.out, keepc h HC2.out⟩)
                  go_upto_region 21 with fail
                  first
                    | (go_region_held3 (fun w' => Below w5.heap.size w5 w' ∧ w'.cell? ⟨gi, oi + k, none⟩ = some (.int .i64 e1) ∧ w'.cell? ⟨gi, oi + m, none⟩ = some (.int .i64 e2))
                        (first | exact MK.out _ HO3.out.bel | exact MK.out _ hb7 | exact MK.out _ hb6 | fail)
                        (first
                          | (go_at_call 31; (with_reducible refine CA.out.mono ?_); (rintro e w6 ⟨x6, rfl, hO6⟩); (have HO6 := Lib.hid (HO3.out.below hO6.bel)); (have hb6 := HO6.out.bel); (obtain ⟨A6, c6, rfl, hk6⟩ := HO3.out.newer hO6); (have HK6 := Lib.hid (hk6 e1 e2)); clear hO6 hk6)
                          | (go_at_call 42; (with_reducible refine (dtput_any HO6.out HK6.out (by have := HLL.out; omega) (fun q hq => by have := HFW.out q hq; omega) (by have := HAF.out; show (atL e1 l).length ≤ _; omega)).mono ?_); (rintro e w7 ⟨v7, rfl, hO7⟩); (have HO7 := Lib.hid hO7); (have hb7 := HO7.out.bel); clear hO7)
                          | fail))
                    | fail
                  go_wp2_with fail
                  exact ⟨⟨k + 1, _, by have := HK1.out; omega, by have := HMM.out; go_num, NM.out _ _, HO7.out⟩, by have := HMM.out; simp [intOf] <;> omega⟩
          · have hlt2' : ¬ (m : Int) < (n2 : Int) := by omega
            obtain ⟨htl, hfs⟩ := HM.out.stop HST.out (by have := HN2.out; omega)
            have HT := Lib.hid (show HasTL wq u9 (makeV (af, at') l) from ⟨L, HO2.out.pcs, htl, hfs, by have := HM.out.len; omega⟩)
            have HWZ := Lib.hid (chain HW5.out HO2.out.bel)
            clear htl hfs
            go_wp2_with fail
            go_ret
            exact ⟨_, rfl, HT.out, HWZ.out⟩

end Go.Proofs.YtaoobliajgcdmaaGreat

/-
  The program's setters: the places of those that set a field last, sorted, each once.
-/
namespace Go.Proofs.YtaoobliajgcdmaaGreat
open Go.RowKit Go.Sort Go.Shelf

/-! ### Sorted, each once: plain facts -/
theorem comp_inv (d : Array Int) (hs : ∀ i j : Nat, i ≤ j → j < d.size → d[i]! ≤ d[j]!) : ∀ m : Nat, m ≤ d.size → (Lib.compactUpTo d m).Pairwise (· < ·) ∧ (∀ x, x ∈ Lib.compactUpTo d m ↔ ∃ j, j < m ∧ d[j]! = x)
  | 0, _ => ⟨by simp [Lib.compactUpTo], fun x => by simp [Lib.compactUpTo]⟩
  | m + 1, hm => by
    obtain ⟨h1, h2⟩ := comp_inv d hs m (by omega)
    rw [Lib.compactUpTo_succ]
    by_cases hk : Lib.keeps d m = true
    · rw [if_pos hk]
      refine ⟨List.pairwise_append.2 ⟨h1, by simp, fun x hx y hy => ?_⟩, fun x => ?_⟩
      · obtain rfl : y = d[m]! := by simpa using hy
        obtain ⟨j, hj, rfl⟩ := (h2 x).1 hx
        have hne : d[m]! ≠ d[m - 1]! := by
          unfold Lib.keeps at hk
          rw [decide_eq_true_eq] at hk
          rcases hk with hk | hk
          · omega
          · exact hk
        have k1 := hs j (m - 1) (by omega) (by omega)
        have k2 := hs (m - 1) m (by omega) (by omega)
        have hne' : d[m - 1]! ≠ d[m]! := fun e => hne e.symm
        omega
      · rw [List.mem_append, h2, List.mem_singleton]
        constructor
        · rintro (⟨j, hj, e⟩ | e)
          · exact ⟨j, by omega, e⟩
          · exact ⟨m, by omega, e.symm⟩
        · rintro ⟨j, hj, e⟩
          rcases Nat.lt_or_ge j m with h | h
          · exact .inl ⟨j, h, e⟩
          · obtain rfl : j = m := by omega
            exact .inr e.symm
    · rw [if_neg hk, List.append_nil]
      refine ⟨h1, fun x => (h2 x).trans ⟨fun ⟨j, hj, e⟩ => ⟨j, by omega, e⟩, fun ⟨j, hj, e⟩ => ?_⟩⟩
      rcases Nat.lt_or_ge j m with h | h
      · exact ⟨j, h, e⟩
      · obtain rfl : j = m := by omega
        have hk' : Lib.keeps d j = false := by simpa using hk
        unfold Lib.keeps at hk'
        rw [decide_eq_false_iff_not] at hk'
        have hj0 : j ≠ 0 := fun e => hk' (.inl e)
        have he : d[j]! = d[j - 1]! := Decidable.byContradiction fun e => hk' (.inr e)
        exact ⟨j - 1, by omega, by rw [← he]; exact e⟩
/-- The rising list of some numbers. -/
def upOf (l : List Nat) : List Int := Lib.compact ((zsN l).mergeSort fun x y => decide (x ≤ y))
theorem upOf_spec (l : List Nat) : ∃ P : List Nat, zsN P = upOf l ∧ Up P ∧ ∀ i, i ∈ P ↔ i ∈ l := by
  obtain ⟨z, hz⟩ : ∃ z, (zsN l).mergeSort (fun x y => decide (x ≤ y)) = z := ⟨_, rfl⟩
  have hperm : z.Perm (zsN l) := by rw [← hz]; exact List.mergeSort_perm _ _
  have hsort : z.Pairwise (fun x y => decide (x ≤ y) = true) := by
    rw [← hz]
    exact List.pairwise_mergeSort (fun a b c h1 h2 => by simp at *; omega) (fun a b => by simp; omega) _
  have hs : ∀ i j : Nat, i ≤ j → j < z.toArray.size → z.toArray[i]! ≤ z.toArray[j]! := fun i j hij hj => by
    have hj' : j < z.length := by simpa using hj
    rw [getElem!_pos z.toArray i (by simp; omega), getElem!_pos z.toArray j hj]
    rcases Nat.eq_or_lt_of_le hij with rfl | h
    · exact Int.le_refl _
    · have := List.pairwise_iff_getElem.1 hsort i j (by omega) hj' h
      simpa using this
  obtain ⟨h1, h2⟩ := comp_inv z.toArray hs z.length (by simp)
  have hmem : ∀ x, x ∈ upOf l ↔ x ∈ zsN l := fun x => by
    unfold upOf Lib.compact
    rw [hz, h2, ← hperm.mem_iff]
    constructor
    · rintro ⟨j, hj, rfl⟩
      rw [getElem!_pos z.toArray j (by simpa using hj)]
      simp
    · intro hx
      obtain ⟨j, hj⟩ := List.mem_iff_getElem?.1 hx
      obtain ⟨hlt, rfl⟩ := List.getElem?_eq_some_iff.1 hj
      exact ⟨j, hlt, by rw [getElem!_pos z.toArray j (by simpa using hlt)]; simp⟩
  have hpw : (upOf l).Pairwise (· < ·) := by unfold upOf Lib.compact; rw [hz]; exact h1
  have hnn : ∀ x ∈ upOf l, 0 ≤ x := fun x hx => by
    have := (hmem x).1 hx
    unfold zsN at this
    obtain ⟨q, _, rfl⟩ := List.mem_map.1 this
    omega
  refine ⟨(upOf l).map Int.toNat, ?_, ?_, fun i => ?_⟩
  · unfold zsN
    rw [List.map_map]
    refine (List.map_congr_left (g := id) fun x hx => ?_).trans (List.map_id _)
    have := hnn x hx
    simp only [Function.comp, id]
    omega
  · refine List.pairwise_map.2 (hpw.imp_of_mem fun {a b} ha hb h => ?_)
    have := hnn a ha
    have := hnn b hb
    omega
  · rw [List.mem_map]
    constructor
    · rintro ⟨x, hx, rfl⟩
      have := (hmem x).1 hx
      unfold zsN at this
      obtain ⟨q, hq, rfl⟩ := List.mem_map.1 this
      simpa using hq
    · intro hi
      exact ⟨(i : Int), (hmem _).2 (by unfold zsN; exact List.mem_map.2 ⟨i, hi, rfl⟩), by simp⟩

/-! ### slices.Sort, slices.Compact of the call's own -/
abbrev ownZ (w : World) (base : Nat) (v : Value) (zs : List Int) : Prop := w.ownsRow base TI 1 v zs.length (zs.map (Value.int .i64))
theorem flatE_ints : ∀ zs : List Int, flatE EI zs = zs.map (Value.int .i64)
  | [] => rfl
  | z :: zs => by rw [flatE_cons, flatE_ints zs]; rfl
theorem ownZ_of {w : World} {base : Nat} {v : Value} {zs : List Int} (h : ownE EI w base v zs) : ownZ w base v zs := by
  have h : w.ownsRow base TI 1 v zs.length (flatE EI zs) := h
  rw [flatE_ints] at h
  exact h
theorem sortN_any {w : World} {base : Nat} {v : Value} {zs : List Int} (h : ownZ w base v zs) (hb : base ≤ w.heap.size) (hn : zs.length ≤ 1000000) : Calls Tryz.prog 65 #[v] w fun e w' => e = .returned (.tuple #[]) ∧ ownZ w' base v (zs.mergeSort fun x y => decide (x ≤ y)) ∧ Below base w w' := by
  rcases h.2 with ⟨rfl, h0⟩ | ⟨g, cap, cur, rfl, hbg, hg, hc, hcm, hs, ht⟩
  · obtain rfl := List.eq_nil_of_length_eq_zero h0
    refine (Tryz.slices_Sort_int_none none 0 w).mono ?_
    rintro e w' ⟨rfl, rfl⟩
    exact ⟨rfl, by simpa using h, Below.refl _ _⟩
  · have hH : Holds (Value.int .i64) w g 0 zs.toArray := holds_of_blockI hg (by simpa using ht)
    refine (Tryz.slices_Sort_int g 0 cap zs w hH (lt_of_block hg) (by omega)).mono ?_
    rintro e w' ⟨rfl, n, os, rfl⟩
    have hl : (zs.mergeSort fun x y => decide (x ≤ y)).length = zs.length := List.length_mergeSort _
    have ho := ownsRow_sortedI (n := n) (os := os) (ts := zs.mergeSort fun x y => decide (x ≤ y)) hl hbg hg hc hcm (by simpa using hs)
    refine ⟨rfl, ?_, ?_⟩
    · unfold ownZ
      rw [hl]
      exact ho
    · have hgb := grownBy_sortedI (w := w) (g := g) (n := n) (os := os) (zs.mergeSort fun x y => decide (x ≤ y)).toArray
      exact ⟨hgb.os, hgb.tape, hgb.output, hgb.size, fun k hk => hgb.block k (by omega) (fun e => by injection e with e; omega)⟩
theorem compactN_any {w : World} {base : Nat} {v : Value} {zs : List Int} (h : ownZ w base v zs) (hn : zs.length ≤ 1000000) : Calls Tryz.prog 66 #[v] w fun e w' => ∃ v', e = .returned v' ∧ ownZ w' base v' (Lib.compact zs) ∧ Below base w w' := by
  rcases h.2 with ⟨rfl, h0⟩ | ⟨g, cap, cur, rfl, hbg, hg, hc, hcm, hs, ht⟩
  · obtain rfl := List.eq_nil_of_length_eq_zero h0
    refine (Tryz.slices_Compact_int_empty none 0 w).mono ?_
    rintro e w' ⟨rfl, rfl⟩
    exact ⟨_, rfl, by simpa [Lib.compact, Lib.compactUpTo] using h, Below.refl _ _⟩
  · have hH : Holds (Value.int .i64) w g 0 zs.toArray := holds_of_blockI hg (by simpa using ht)
    refine (Tryz.slices_Compact_int g 0 cap zs w hH (by omega) hc).mono ?_
    rintro e w' ⟨rfl, q, rfl⟩
    have hl := Lib.compact_length_le zs
    have ho := Lib.ownsRow_putRow (q := q) (k := (Lib.compact zs).length) (ys := Lib.compact zs ++ List.replicate (zs.length - (Lib.compact zs).length) 0) h (by simp; omega) hl
    rw [List.take_append_of_le_length (Nat.le_refl _), List.take_length] at ho
    exact ⟨_, rfl, ho, Lib.below_putRow (Below.refl _ _) hbg⟩

/-- The places that have come of a map that is gone over. -/
def LastOf (G : ByteArray → List Nat) (left : Lit → Bool) (acc : List Nat) : Prop := ∀ i, i ∈ acc ↔ ∃ s : ByteArray, left (.string s.data.toList) = false ∧ (G s).getLast? = some i
theorem LastOf.start {base S M n : Nat} {cs : List Nat} {G : ByteArray → List Nat} {v : Value} {D : DataW Value} {w : World} (h : Scn base S M n cs G v D w) : LastOf G (Maps.has D) [] := fun i => by
  constructor
  · intro hi; simp at hi
  · rintro ⟨s, h1, h2⟩
    have hne : G s ≠ [] := fun e => by rw [e] at h2; simp at h2
    obtain ⟨u, hu, _⟩ := h.get1 s hne
    rw [Maps.has_true_of_atKey (y := .held u) hu] at h1
    cases h1
theorem LastOf.step {G : ByteArray → List Nat} {left : Lit → Bool} {acc : List Nat} {x : ByteArray} {q : Nat} (h : LastOf G left acc) (hx : (G x).getLast? = some q) : LastOf G (fun z => left z && !z.sameKey (.string x.data.toList)) (acc ++ [q]) := fun i => by
  rw [List.mem_append, h i, List.mem_singleton]
  constructor
  · rintro (⟨s, h1, h2⟩ | rfl)
    · exact ⟨s, by simp [h1], h2⟩
    · exact ⟨x, by simp [Lit.sameKey], hx⟩
  · rintro ⟨s, h1, h2⟩
    by_cases hs : s = x
    · subst hs
      rw [hx] at h2
      exact .inr (by injection h2 with h2; exact h2.symm)
    · have k := Maps.sameKey_ne (lit_ne hs)
      have h1 : (left (.string s.data.toList) && !(Lit.string s.data.toList).sameKey (.string x.data.toList)) = false := h1
      rw [k] at h1
      exact .inl ⟨s, by simpa using h1, h2⟩
theorem LastOf.done {G : ByteArray → List Nat} {left : Lit → Bool} {acc : List Nat} (h : LastOf G left acc) (hl : ∀ kl, left kl = false) : ∀ i, i ∈ acc ↔ ∃ s : ByteArray, (G s).getLast? = some i := fun i => (h i).trans ⟨fun ⟨s, _, h2⟩ => ⟨s, h2⟩, fun ⟨s, h2⟩ => ⟨s, hl _, h2⟩⟩
theorem last_at {l : List Nat} (h : l ≠ []) : ∃ q, l.getLast? = some q ∧ l[l.length - 1]? = some q := by
  rcases List.eq_nil_or_concat l with rfl | ⟨m, q, rfl⟩
  · exact absurd rfl h
  · exact ⟨q, by simp, by simp⟩
theorem anyV_inv (v : Value) (y : DataW Value × List MemPlace) (_ : anyV v = some y) : ∃ c : Value, v = c := ⟨v, rfl⟩

theorem OE.other {α : Type} {E : El α} {W w w' : World} {l : List α} {v : Value} {row : Option Nat} (h : OE E W l v w) (hg : w.grownBy w' row) (hne : v.ownBlock ≠ row) (hr : ∀ j, row = some j → W.heap.size ≤ j) : OE E W l v w' :=
  ⟨h.own.kept hg (by cases hv : v.ownBlock with
    | none => exact Or.inl rfl
    | some b => exact Or.inr (hv ▸ hne)), h.bel.grown hg h.bel.size hr⟩
theorem ne_iterE {w : World} {base B r n cnt : Nat} {v : Value} {l : List Int} {D : DataW Value} {left : Lit → Bool} (h : ownE EI w base v l) (hr : w.ranges Tryz.prog KT anyV B r n D left cnt) : v.ownBlock ≠ some r ∧ v.ownBlock ≠ some B := by
  obtain ⟨es, clock, since, seen, c0, hb, _, _, _, hr, _⟩ := hr
  rcases h.2 with ⟨rfl, _⟩ | ⟨g, cap, cur, rfl, _, hg, _⟩
  · exact ⟨fun e => (by cases e), fun e => (by cases e)⟩
  · refine ⟨fun e => ?_, fun e => ?_⟩
    · obtain rfl := Option.some.inj e
      rw [hg] at hr; cases hr
    · obtain rfl := Option.some.inj e
      rw [hg] at hb; cases hb

/-- What setters leaves. -/
def SettersPost (G : ByteArray → List Nat) (w : World) (e : Ending) (w' : World) : Prop :=
  ∃ x P, e = .returned x ∧ ownZ w' w.heap.size x (zsN P) ∧ Up P ∧ (∀ i, i ∈ P ↔ ∃ s, (G s).getLast? = some i) ∧ Below w.heap.size w w'

set_option maxHeartbeats 8000000 in
set_option maxRecDepth 100000 in
theorem psetters_any {base S M n : Nat} {cs : List Nat} {G : ByteArray → List Nat} {v : Value} {D : DataW Value} {w : World} (h : Scn base S M n cs G v D w) (hn : n ≤ 100000) (hbd : ∀ s, ∀ i ∈ G s, i ≤ 1000000) :
    Calls Tryz.prog 38 #[.pointer (some ⟨S, 0, none⟩)] w (SettersPost G w) := by
  have HS := Lib.hid h
  have HBD := Lib.hid hbd
  have HN := Lib.hid hn
  have x1 : w.cell? ⟨S, 1, none⟩ = some (.map (some M)) := by simp [World.cell?, h.box]
  clear h hbd hn
  go_enter Tryz.func38, Tryz.ntmps38
  go_wp2_with (first
    | (at_range; refine wpList_range_own _ rfl _ TMi rfl KT TIs keyS Tryz.underlying67 anyV M n D rfl HS.out.map ?_; intro w0 hrg0 hg0 hs0)
    | go_in)
  have HG0 := Lib.hid (show Below w.heap.size w w0 from ⟨hg0.os, hg0.tape, hg0.output, hg0.size, fun k hk => hg0.block k hk (by simp)⟩)
  have HR0 := Lib.hid hrg0
  have HMS := Lib.hid (show Maps.size D ≤ n by
    obtain ⟨es, clock, _, _, hs, rfl⟩ := HS.out.map
    show (List.foldr DataW.insert [] _).length ≤ n
    rw [length_sorted, List.length_map, Array.length_toList]
    exact hs)
  obtain ⟨r, hr⟩ : ∃ r, w.heap.size = r := ⟨_, rfl⟩
  have HRE := Lib.hid hr
  rw [hr] at HR0 ⊢
  clear hg0 hrg0 hs0 hr
  go_frame
  go_loopw [3] (fun o wr => ∃ (left : Lit → Bool) (cnt : Nat) (acc : List Nat), wr.ranges Tryz.prog KT anyV M r n D left cnt ∧ acc.length + cnt ≤ n ∧ OE EI w (zsN acc) o wr ∧ LastOf G left acc) (fun _ wr => wr.rangeLeft M r)
  case atStart => exact ⟨_, _, [], HR0.out, by have := HMS.out; simpa using this, (OE.nil w).below HG0.out, LastOf.start HS.out⟩
  case round =>
    obtain ⟨left, cnt, acc, hrg, hcs, hO, hG⟩ := hrel
    have HO := Lib.hid hO
    have HLO := Lib.hid hG
    have HRG := Lib.hid hrg
    have HCS := Lib.hid hcs
    have HZL := Lib.hid (zsN_length acc)
    clear hO hG hrg hcs
    go_wp2_with (first
      | (at_next; refine wpList_next_ranges _ rfl _ rfl KT keyS anyV (fun s : ByteArray => Value.string s) (fun v : Value => v) keyS_inv anyV_inv M r n D left cnt rfl HRG.out ?_ ?_)
      | go_in)
    · intro hc0 hl0
      have HL0 := Lib.hid hl0
      have CS := Lib.hid (sortN_any (ownZ_of HO.out.own) HO.out.bel.size (by have := HZL.out; have := HCS.out; have := HN.out; omega))
      clear hl0 hc0
      go_wp2_with (first
        | (go_at_call 65; (with_reducible refine CS.out.mono ?_); rintro e w2 ⟨rfl, ho2, hb2⟩; have CC := Lib.hid (compactN_any ho2 (by rw [List.length_mergeSort]; have := HZL.out; have := HCS.out; have := HN.out; omega)); have HB2 := Lib.hid hb2; clear ho2 hb2)
        | (go_at_call 66; (with_reducible refine CC.out.mono ?_); rintro e w3 ⟨x3, rfl, ho3, hb3⟩; have HO3 := Lib.hid ho3; have HB3 := Lib.hid hb3; clear ho3 hb3))
      go_ret
      obtain ⟨P, hP1, hP2, hP3⟩ := upOf_spec acc
      refine ⟨_, P, rfl, ?_, hP2, fun i => (hP3 i).trans (HLO.out.done HL0.out i), (HO.out.bel.trans HB2.out).trans HB3.out⟩
      rw [hP1]
      exact HO3.out
    · intro x c kl yd yp w1 cnt1 hkey hlk hv hat hrg1 hcl hg1 hs1 hen
      have ekl := keyS_lit hkey
      subst ekl
      have ey : ((DataW.held c, []) : DataW Value × List MemPlace) = (yd, yp) := Option.some.inj hv
      injection ey with ey1 ey2
      subst ey1
      have hget : GetN D x c := hat
      obtain ⟨hne, hoc⟩ := HS.out.getN hget
      obtain ⟨q, hq1, hq2⟩ := last_at hne
      have HST := Lib.hid (HLO.out.step hq1)
      have hr1 : ∀ j, (some r : Option Nat) = some j → w.heap.size ≤ j := fun j hj => by cases hj; rw [HRE.out]; exact Nat.le_refl _
      have HO1 := Lib.hid (HO.out.other hg1 (ne_iterE HO.out.own HRG.out).1 hr1)
      obtain ⟨gc, hgc, hgb, hgw, A, hA⟩ := ownN_some hoc hne
      have hocw1 : ownN w1 base c (G x) := ownN_kept (ownN_below hoc HO.out.bel) hg1 (.inr fun e => by
        rw [hgc] at e
        injection e with e
        have := HRE.out
        omega)
      rcases own_open hocw1 with ⟨_, h0⟩ | ⟨g, cap, A2, hce, _, _, hA2, hlen, hcm, hA2s, hA2g⟩
      · exact absurd h0 hne
      · obtain ⟨len, hlenE⟩ : ∃ len, (G x).length = len := ⟨_, rfl⟩
        have hl0 : 0 < len := by rw [← hlenE]; exact List.length_pos_iff.2 hne
        rw [hlenE] at hce hlen hq2
        have hcm2 : cap ≤ 9223372036854775807 := by unfold maxLen at hcm; omega
        have hw1 : IntKind.i64.wrap ((len : Int) - 1) = ((len - 1 : Nat) : Int) := by rw [IntWalk.i64_in _ (by omega)]; omega
        have hi1 : ((len - 1 : Nat) : Int) < (len : Int) := by omega
        have hi2 : len - 1 < len := by omega
        have cq : w1.cell? ⟨g, len - 1, none⟩ = some (.int .i64 (q : Int)) := by
          simp only [World.cell?, hA2]
          rw [if_neg (by simp), hA2g (len - 1) q hq2]
        obtain ⟨k, hk⟩ : ∃ k, len - 1 = k := ⟨_, rfl⟩
        rw [hk] at hw1 hi1 hi2 cq
        subst hce
        have HLT := Lib.hid hcl
        have HR1 := Lib.hid hrg1
        clear hrg1 hg1 hs1 hkey hlk hv hat hcl hget hne hoc hq1 hq2 hr1 hgc hgb hgw hA hocw1 hA2 hA2s hA2g hlenE hk hcm
        go_wp2_with (first
          | (at_builtin; refine wpList_appE (E := EI) (xs := [(q : Int)]) rfl (.tmp 15) (.tmp 22) rfl rfl (base := w.heap.size) rfl (World.ownsRow.alloc HO1.out.own _) rfl rfl (by have hrow := rowE_one (E := EI) w1 (q : Int) #[.int .i64 (q : Int)] rfl TI; first | exact hrow | (simp at hrow ⊢; exact hrow)) (fun h => by cases h) (by have := HZL.out; have := HCS.out; have := HN.out; simp; omega) (by have := HO1.out.bel.size; simp; omega) ?_; intro v' w3 hown3 hg3; have HN3 := Lib.hid ((HO1.out.below ((bl w1).alloc (Nat.le_refl _) _)).grown hg3 hown3); have HR3 := Lib.hid ((HR1.out.alloc _).kept hg3 (fun e => (ne_iterE HO1.out.own HR1.out).2 e.symm) (fun e => (ne_iterE HO1.out.own HR1.out).1 e.symm)); clear hown3 hg3)
          | go_in)
        go_roundw
        case rel => exact ⟨_, cnt1, acc ++ [q], HR3.out, by have := HCS.out; have := HLT.out; simp; omega, by rw [zsN_append]; exact HN3.out, HST.out⟩
        case measure => rw [HR3.out.left_eq, HRG.out.left_eq]; exact HLT.out

end Go.Proofs.YtaoobliajgcdmaaGreat

/-
  The program's those: the versions at places, as a list of their own.
-/
namespace Go.Proofs.YtaoobliajgcdmaaGreat
open Go.RowKit

theorem up_len_from : ∀ (P : List Nat) (lo n : Nat), Up P → (∀ i ∈ P, lo ≤ i ∧ i < n) → lo ≤ n → lo + P.length ≤ n
  | [], _, _, _, _, h => by simpa using h
  | i :: P, lo, n, hu, hb, _ => by
    have hu' := List.pairwise_cons.1 hu
    have hi := hb i (by simp)
    have ih := up_len_from P (i + 1) n hu'.2 (fun j hj => ⟨hu'.1 j hj, (hb j (List.mem_cons_of_mem _ hj)).2⟩) hi.2
    rw [List.length_cons]
    omega
theorem up_len {P : List Nat} (h : Up P) {n : Nat} (hn : ∀ i ∈ P, i < n) : P.length ≤ n := by
  have := up_len_from P 0 n h (fun i hi => ⟨Nat.zero_le _, hn i hi⟩) (Nat.zero_le _)
  omega
/-- A block of n versions of the call's own, of which the first ones are R. -/
def FillV (w : World) (b n : Nat) (R : List Vr) : Prop := ∃ f, w.rowIs b 50 (n * 7) f ∧ R.length ≤ n ∧ ∀ (i : Nat) (x : Vr), R[i]? = some x → ∀ (j : Nat) (u : Value), (cellsV x)[j]? = some u → f (i * 7 + j) = u
theorem FillV.below {w w' : World} {b n : Nat} {R : List Vr} (h : FillV w b n R) (hb : Below w.heap.size w w') : FillV w' b n R := by
  obtain ⟨f, h1, h2⟩ := h
  exact ⟨f, h1.of_block (hb.block _ h1.lt), h2⟩
theorem FillV.lt {w : World} {b n : Nat} {R : List Vr} (h : FillV w b n R) : b < w.heap.size := by
  obtain ⟨f, h1, _⟩ := h
  exact h1.lt
theorem FillV.cells {w : World} {b n : Nat} {R : List Vr} (h : FillV w b n R) {k : Nat} (hk : k < n) (j : Nat) (hj : j < 7) : ∃ u, w.cell? ⟨b, k * 7 + j, none⟩ = some u := by
  obtain ⟨f, h1, _⟩ := h
  exact ⟨_, h1.cell (by omega)⟩
theorem FillV.frozen {w : World} {b n : Nat} {R : List Vr} (h : FillV w b n R) (i : Nat) : w.frozen? ⟨b, i, none⟩ = false := by
  obtain ⟨f, h1, _⟩ := h
  exact h1.frozen i
/-- One more version, stored behind the others. -/
theorem FillV.store {w : World} {b n : Nat} {R : List Vr} (h : FillV w b n R) {k : Nat} (hk : R.length = k) (hkn : k < n) (x : Vr) :
    FillV (((((((w.setCell ⟨b, k * 7, none⟩ (.int .i64 x.id)).setCell ⟨b, k * 7 + 1, none⟩ (.int .i64 x.st)).setCell ⟨b, k * 7 + 2, none⟩ (.string x.ent)).setCell ⟨b, k * 7 + 3, none⟩ (.int .i64 x.sf)).setCell ⟨b, k * 7 + 4, none⟩ (.int .i64 x.se)).setCell ⟨b, k * 7 + 5, none⟩ (.slice x.fa x.fs.length x.fc)).setCell ⟨b, k * 7 + 6, none⟩ (.bool x.gone)) b n (R ++ [x]) := by
  obtain ⟨f, h1, h2, h3⟩ := h
  refine ⟨_, ((((((h1.set _ _).set _ _).set _ _).set _ _).set _ _).set _ _).set _ _, by rw [List.length_append, List.length_singleton]; omega, fun i y hy j u hu => ?_⟩
  have hj : j < 7 := by
    rcases Nat.lt_or_ge j 7 with hj | hj
    · exact hj
    · rw [List.getElem?_eq_none (by simpa using hj)] at hu; cases hu
  rcases Nat.lt_or_ge i R.length with hi | hi
  · rw [List.getElem?_append_left hi] at hy
    have h4 := h3 i y hy j u hu
    have n0 : ¬ i * 7 + j = k * 7 := by omega
    have n1 : ∀ m, m < 7 → ¬ i * 7 + j = k * 7 + m := fun m hm => by omega
    simp only [n0, n1 1 (by decide), n1 2 (by decide), n1 3 (by decide), n1 4 (by decide), n1 5 (by decide), n1 6 (by decide), if_false]
    exact h4
  · have hik : i = k := by
      have := (List.getElem?_eq_some_iff.1 hy).1
      rw [List.length_append, List.length_singleton] at this
      omega
    subst hik
    rw [List.getElem?_append_right hi, hk, Nat.sub_self] at hy
    obtain rfl : x = y := by simpa using hy
    have hj' : j = 0 ∨ j = 1 ∨ j = 2 ∨ j = 3 ∨ j = 4 ∨ j = 5 ∨ j = 6 := by omega
    rcases hj' with rfl | rfl | rfl | rfl | rfl | rfl | rfl <;> simp [cellsV] at hu <;> subst hu <;> simp
theorem FillV.all {w : World} {b n : Nat} {R : List Vr} (h : FillV w b n R) : RowE EV w (some ⟨b, 0, none⟩) R := by
  obtain ⟨f, h1, h2, h3⟩ := h
  intro i x hx
  refine ⟨b, 0, rfl, fun j u hu => ?_⟩
  have hi := (List.getElem?_eq_some_iff.1 hx).1
  have hj : j < 7 := by
    rcases Nat.lt_or_ge j 7 with hj | hj
    · exact hj
    · have : (EV.cells x)[j]? = none := List.getElem?_eq_none (by rw [EV.len]; exact hj)
      rw [this] at hu; cases hu
  have := h3 i x hx j u hu
  show w.cell? ⟨b, 0 + i * 7 + j, none⟩ = some u
  rw [Nat.zero_add, ← this]
  exact h1.cell (by omega)
theorem fillV_new (w : World) (z : Array Value) (n : Nat) (_hz : z.size = 7) : FillV (w.alloc (.cells (madeCells z (n * 7)) 50)) w.heap.size n [] :=
  ⟨fun i => z[i % z.size]!, ⟨_, heap_alloc_new _ _, size_madeCells _ _, fun i hi => by simp [madeCells, hi]⟩, Nat.zero_le _, fun i x hx => by simp at hx⟩
theorem seven_belowV {w0 w : World} {base b o : Nat} {x0 x1 x2 x3 x4 x5 x6 : Value} (h : Below base w0 w) (hg : base ≤ b) : Below base w0 (((((((w.setCell ⟨b, o, none⟩ x0).setCell ⟨b, o + 1, none⟩ x1).setCell ⟨b, o + 2, none⟩ x2).setCell ⟨b, o + 3, none⟩ x3).setCell ⟨b, o + 4, none⟩ x4).setCell ⟨b, o + 5, none⟩ x5).setCell ⟨b, o + 6, none⟩ x6) := (((((((h.setCell hg _).setCell hg _).setCell hg _).setCell hg _).setCell hg _).setCell hg _).setCell hg _)
theorem make_versT (n : Nat) (hn : n ≤ 1000) (w : World) : ∃ z : Array Value, z.size = 7 ∧ (Instr.makeSlice 24 (.int .i64 (n : Int)) (.int .i64 (n : Int))).run Tryz.prog w = .ok (.slice (some ⟨w.heap.size, 0, none⟩) n n) (w.alloc (.cells (madeCells z (n * 7)) 50)) := by
  obtain ⟨i0, hi, hz0, hz1, hz2⟩ := info_parts EV.info
  have h := run_make (P := Tryz.prog) w 24 50 i0 _ Tryz.underlying24 hi hz0 .i64 .i64 (n : Int) (n : Int) (by omega) (Int.le_refl _) (by rw [hz2]; show ((80 : Nat) : Int) * (n : Int) ≤ _; omega) (by omega)
  rw [hz1] at h
  simp only [Int.toNat_natCast] at h
  exact ⟨EV.z.cells, EV.zs, h⟩
/-- A list of places as it lies. -/
def RowPl (w : World) (A : Option Addr) (P : List Nat) : Prop := ∀ (k p : Nat), P[k]? = some p → ∃ g off, A = some ⟨g, off, none⟩ ∧ w.cell? ⟨g, off + k, none⟩ = some (.int .i64 (p : Int))
theorem rowPl_of {w : World} {base : Nat} {x : Value} {P : List Nat} (h : ownZ w base x (zsN P)) : ∃ A c, x = .slice A P.length c ∧ RowPl w A P ∧ P.length ≤ c := by
  have h' : ownN w base x P := by
    have := h
    unfold ownZ at this
    rw [zsN_length] at this
    exact this
  rcases own_open h' with ⟨rfl, rfl⟩ | ⟨g, cap, A, rfl, _, _, hg, hc, _, _, hk⟩
  · exact ⟨none, 0, rfl, fun k p hp => by simp at hp, Nat.le_refl _⟩
  · refine ⟨_, _, rfl, fun k p hp => ⟨g, 0, rfl, ?_⟩, hc⟩
    simp only [World.cell?, hg, Nat.zero_add]
    rw [if_neg (by simp), hk k p hp]
theorem RowPl.below {w w' : World} {A : Option Addr} {P : List Nat} (h : RowPl w A P) (hb : Below w.heap.size w w') : RowPl w' A P := fun k p hp => by
  obtain ⟨g, off, h1, h2⟩ := h k p hp
  exact ⟨g, off, h1, keepc hb h2⟩

set_option maxHeartbeats 4000000 in
set_option maxRecDepth 100000 in
theorem pthose_any (w : World) (u x : Value) (L : List Vr) (P : List Nat) (hl : VersL w u L) (hx : ∃ A c, x = .slice A P.length c ∧ RowPl w A P ∧ P.length ≤ c) (hP : ∀ i ∈ P, i < L.length) (hn : P.length ≤ 1000) (hnL : L.length ≤ 1000) :
    Calls Tryz.prog 37 #[u, x] w fun e w' => ∃ y, e = .returned y ∧ VersL w' y (thoseL L P) ∧ Below w.heap.size w w' := by
  obtain ⟨⟨A, c, rfl, hA, hc, hnc⟩, hVF⟩ := hl
  obtain ⟨Ap, cp, rfl, hR, hcp⟩ := hx
  have HA := Lib.hid hA
  have HVF := Lib.hid hVF
  have HR := Lib.hid hR
  have HP := Lib.hid hP
  obtain ⟨m, hmm⟩ : ∃ m, L.length = m := ⟨_, rfl⟩
  obtain ⟨n, hnm⟩ : ∃ n, P.length = n := ⟨_, rfl⟩
  rw [hmm] at hc ⊢
  rw [hnm] at hn hcp ⊢
  have hm1 : m ≤ 1000 := by omega
  have HN := Lib.hid hnm
  have HMM := Lib.hid hmm
  clear hA hVF hR hP hnm hmm hnc hnL
  have HM := Lib.hid (make_versT n hn)
  obtain ⟨Z, hZ, hmk⟩ := HM.out w
  have HZ := Lib.hid hZ
  have HB1 := Lib.hid (show Below w.heap.size w (w.alloc (.cells (madeCells Z (n * 7)) 50)) from (bl w).alloc (Nat.le_refl _) _)
  have HF0 := Lib.hid (fillV_new w Z n HZ.out)
  clear hZ
  go_enter Tryz.func37, Tryz.ntmps37
  go_wp2_with fail
  have HBLT := Lib.hid (Nat.le_refl w.heap.size)
  obtain ⟨b, hbb⟩ : ∃ b, w.heap.size = b := ⟨_, rfl⟩
  rw [hbb] at HF0 HBLT ⊢
  have HBB := Lib.hid hbb
  clear hmk hbb
  go_loopw [13] (fun i wr => ∃ (t : Nat), t ≤ n ∧ i = .int .i64 (t : Nat) ∧ FillV wr b n (thoseL L (P.take t)) ∧ Below w.heap.size w wr) (fun i _ => n - (intOf i).toNat)
  case atStart => exact ⟨0, Nat.zero_le _, rfl, HF0.out, HB1.out⟩
  case round =>
    obtain ⟨t, ht, rfl, hF, hW⟩ := hrel
    have HF := Lib.hid hF
    have HW := Lib.hid hW
    clear hF hW
    by_cases hlt : t < n
    · have hlt' : (t : Int) < (n : Int) := by omega
      obtain ⟨p, hp⟩ : ∃ p, P[t]? = some p := ⟨_, List.getElem?_eq_getElem (by have := HN.out; omega)⟩
      have hpm : p < m := by have h1 := HP.out p (List.mem_of_getElem? hp); have h2 := HMM.out; omega
      have hpm' : (p : Int) < (m : Int) := by omega
      obtain ⟨v, hv⟩ : ∃ v, L[p]? = some v := ⟨_, List.getElem?_eq_getElem (by have := HMM.out; omega)⟩
      obtain ⟨g1, off1, rfl, c1⟩ := HR.out t p hp
      have c1 := keepc HW.out c1
      obtain ⟨g, off, rfl, hX⟩ := (HA.out.below HW.out).cells7 hv
      have HNX := Lib.hid (show thoseL L (P.take t) ++ [v] = thoseL L (P.take (t + 1)) by
        rw [takeP_next hp, thoseL_snoc L _ hv])
      have HLN := Lib.hid (show (thoseL L (P.take t)).length = t by
        rw [thoseL_length (fun i hi => HP.out i (List.mem_of_mem_take hi)), List.length_take]
        have := HN.out
        omega)
      obtain ⟨z0, z1, z2, z3, z4, z5, z6⟩ := hX
      have f0 := HF.out.frozen (t * 7)
      have f1 := HF.out.frozen (t * 7 + 1)
      have f2 := HF.out.frozen (t * 7 + 2)
      have f3 := HF.out.frozen (t * 7 + 3)
      have f4 := HF.out.frozen (t * 7 + 4)
      have f5 := HF.out.frozen (t * 7 + 5)
      have f6 := HF.out.frozen (t * 7 + 6)
      obtain ⟨v0, k0⟩ := HF.out.cells hlt 0 (by decide)
      rw [Nat.add_zero] at k0
      obtain ⟨v1, k1⟩ := HF.out.cells hlt 1 (by decide)
      obtain ⟨v2, k2⟩ := HF.out.cells hlt 2 (by decide)
      obtain ⟨v3, k3⟩ := HF.out.cells hlt 3 (by decide)
      obtain ⟨v4, k4⟩ := HF.out.cells hlt 4 (by decide)
      obtain ⟨v5, k5⟩ := HF.out.cells hlt 5 (by decide)
      obtain ⟨v6, k6⟩ := HF.out.cells hlt 6 (by decide)
      have HM1 := Lib.hid (show t * 7 + 7 ≤ n * 7 by omega)
      have HS := Lib.hid (HF.out.store HLN.out hlt v)
      clear hp hv
      go_wp2_with fail
      refine ⟨⟨t + 1, by omega, by go_num, ?_, seven_belowV HW.out (by rw [HBB.out]; exact Nat.le_refl _)⟩, by simp [intOf] <;> omega⟩
      rw [← HNX.out]
      exact HS.out
    · obtain rfl : t = n := by omega
      have hlt' : ¬ (t : Int) < (t : Int) := by omega
      have HTT := Lib.hid (show P.take t = P by rw [List.take_of_length_le (by have := HN.out; omega)])
      rw [HTT.out] at HF
      go_wp2_with fail
      go_ret
      refine ⟨.slice (some ⟨b, 0, none⟩) t t, rfl, ⟨⟨some ⟨b, 0, none⟩, t, ?_, HF.out.all, ?_, fun h => by cases h⟩, fun v hv => ?_⟩, HW.out⟩
      · rw [thoseL_length HP.out, HN.out]
      · rw [thoseL_length HP.out, HN.out]; exact Nat.le_refl _
      · obtain ⟨i, _, hi⟩ := thoseL_mem hv
        exact (HVF.out v (List.mem_of_getElem? hi)).below HW.out

end Go.Proofs.YtaoobliajgcdmaaGreat

/-
  The document's Changed; texts compared; few versions.
-/
namespace Go.Proofs.YtaoobliajgcdmaaGreat
open Go.RowKit

/-- Are two lists of texts one? -/
def textsB : List ByteArray → List ByteArray → Bool
  | [], [] => true
  | a :: l, b :: m => decide (a.toList = b.toList) && textsB l m
  | _, _ => false
theorem textsB_self : ∀ l : List ByteArray, textsB l l = true
  | [] => rfl
  | a :: l => by rw [textsB, textsB_self l]; simp
theorem textsB_len : ∀ a b : List ByteArray, a.length ≠ b.length → textsB a b = false
  | [], [], h => absurd rfl h
  | [], _ :: _, _ => rfl
  | _ :: _, [], _ => rfl
  | f :: a, g :: b, h => by rw [textsB, textsB_len a b (fun e => h (by rw [List.length_cons, List.length_cons, e])), Bool.and_false]
/-- Are there at most so many versions, of at most 20 fields? -/
def fewB (l : List Vr) (m : Int) : Bool := decide ((l.length : Int) ≤ m) && l.all fun v => decide (v.fs.length ≤ 20)
theorem few_of {l : List Vr} {m : Int} (h : fewB l m = true) (hm : m ≤ 200) : fewV l := by
  unfold fewB at h
  rw [Bool.and_eq_true, decide_eq_true_eq, List.all_eq_true] at h
  refine ⟨by omega, fun v hv => ?_⟩
  have := h.2 v hv
  rw [decide_eq_true_eq] at this
  omega

set_option maxHeartbeats 2000000 in
theorem dfew_any (w : World) (u : Value) (l : List Vr) (m : Int) (hl : ListE EV w u l) (hn : l.length ≤ 9223372036854775807) : Same 9 #[u, .int .i64 m] w (.bool (fewB l m)) := by
  obtain ⟨A, c, rfl, hA, hc, hnc⟩ := hl
  have HA := Lib.hid hA
  obtain ⟨n, hnm⟩ : ∃ n, l.length = n := ⟨_, rfl⟩
  have HFB := Lib.hid (show fewB l m = (decide ((n : Int) ≤ m) && l.all fun v => decide (v.fs.length ≤ 20)) by rw [← hnm]; rfl)
  rw [hnm] at hn ⊢
  have HN := Lib.hid hnm
  clear hA hc hnc hnm
  generalize fewB l m = R at *
  by_cases hm : m < (n : Int)
  · have HE := Lib.hid (show R = false by rw [HFB.out, decide_eq_false (by omega)]; rfl)
    go_enter Tryz.func9, Tryz.ntmps9
    go_wp2_with fail
    go_ret
    exact ⟨ret_bool HE.out.symm, rfl⟩
  · have HE := Lib.hid (show R = l.all fun v => decide (v.fs.length ≤ 20) by rw [HFB.out, decide_eq_true (by omega)]; rfl)
    go_enter Tryz.func9, Tryz.ntmps9
    go_wp2_with fail
    go_loopw [5] (fun i wr => ∃ k : Nat, k ≤ n ∧ i = .int .i64 k ∧ R = (l.drop k).all (fun v => decide (v.fs.length ≤ 20)) ∧ wr = w) (fun i _ => n - (intOf i).toNat)
    case atStart => exact ⟨0, Nat.zero_le _, rfl, HE.out, rfl⟩
    case round =>
      obtain ⟨k, hk, rfl, hg, hwr⟩ := hrel
      obtain rfl := hwr.symm
      by_cases hlt : k < n
      · have hlt' : (k : Int) < (n : Int) := by omega
        obtain ⟨v, hx⟩ : ∃ v, l[k]? = some v := ⟨_, List.getElem?_eq_getElem (by have := HN.out; omega)⟩
        obtain ⟨g, off, rfl, hX⟩ := HA.out.cells7 hx
        have z5 := hX.2.2.2.2.2.1
        rw [drop_consL hx, List.all_cons] at hg
        clear hX hx
        by_cases h20 : 20 < v.fs.length
        · have h20' : (20 : Int) < (v.fs.length : Int) := by omega
          have NX := Lib.hid (show R = false by rw [hg, decide_eq_false (by omega)]; rfl)
          clear hg
          generalize v.fs.length = q at *
          go_wp2_with fail
          go_ret
          exact ⟨ret_bool NX.out.symm, rfl⟩
        · have h20' : ¬ (20 : Int) < (v.fs.length : Int) := by omega
          have NX := Lib.hid (show R = (l.drop (k + 1)).all (fun v => decide (v.fs.length ≤ 20)) by rw [hg, decide_eq_true (by omega)]; rfl)
          clear hg
          generalize v.fs.length = q at *
          go_wp2_with fail
          exact ⟨⟨k + 1, by omega, by go_num, NX.out, trivial⟩, by simp [intOf] <;> omega⟩
      · obtain rfl : k = n := by omega
        have hlt' : ¬ (k : Int) < (k : Int) := by omega
        rw [List.drop_of_length_le (by have := HN.out; omega)] at hg
        have NX := Lib.hid (show R = true from hg)
        clear hg
        go_wp2_with fail
        go_ret
        exact ⟨ret_bool NX.out.symm, rfl⟩

end Go.Proofs.YtaoobliajgcdmaaGreat

/-
  The document's ends: all ends of a list's right spans, each once, rising.
-/
namespace Go.Proofs.YtaoobliajgcdmaaGreat.Co
open Go.RowKit

theorem ends_yes {l : List Sp} {k : Nat} {f t : Int} (hp : l[k]? = some (f, t)) (h : rightB f t = true) : endsOf (l.take (k + 1)) = endsOf (l.take k) ++ [f, t] := by
  rw [List.take_add_one, hp, Option.toList_some, ends_append]
  simp [endsOf, h]
theorem ends_no {l : List Sp} {k : Nat} {f t : Int} (hp : l[k]? = some (f, t)) (h : rightB f t = false) : endsOf (l.take (k + 1)) = endsOf (l.take k) := by
  rw [List.take_add_one, hp, Option.toList_some, ends_append]
  simp [endsOf, h]
theorem ends_le (l : List Sp) (k : Nat) : (endsOf (l.take k)).length ≤ 2 * k := by
  have h1 := ends_length (l.take k)
  have h2 := List.length_take_le k l
  omega
/-- What holds at the head of each round. -/
def EndRel (W : World) (ts : List Int) (v : Value) (wr : World) : Prop := ownI wr W.heap.size v ts ∧ Below W.heap.size W wr
theorem EndRel.app {W wr w1 : World} {ts : List Int} {v v1 : Value} {o : Obj} {f t : Int} (h : EndRel W ts v wr) (hg : (wr.drew.alloc o).grownBy w1 v.ownBlock) (hown : ownI w1 W.heap.size v1 (ts ++ [f, t])) : EndRel W (ts ++ [f, t]) v1 w1 :=
  ⟨hown, below_app (w := wr.drew) (belowN' h.2 1) hg h.2.size (fun k hk => (h.1.lt k hk).1)⟩

theorem ints_two (w : World) (x y : Int) (t : TypeId) : Ints (w.alloc (.cells #[.int .i64 x, .int .i64 y] t)) (some ⟨w.heap.size, 0, none⟩) [x, y] := fun i p hp => by
  refine ⟨_, _, rfl, ?_⟩
  rcases i with _ | _ | i
  · obtain rfl : x = p := by simpa using hp
    simp [go_sem]
  · obtain rfl : y = p := by simpa using hp
    simp [go_sem]
  · simp at hp
/-- What ends leaves. -/
def EndsPost (l : List Sp) (w : World) (e : Ending) (w' : World) : Prop := ∃ v, e = .returned v ∧ ownI w' w.heap.size v (riseL (endsOf l)) ∧ Below w.heap.size w w'

set_option maxHeartbeats 4000000 in
set_option maxRecDepth 4000 in
theorem ends_any (w : World) (A : Option Addr) (c : Nat) (l : List Sp) (hl : Spans w A l) (hn : l.length ≤ 400) :
    Calls Tryz.prog 91 #[.slice A l.length c] w (EndsPost l w) := by
  obtain ⟨i0, hi, hz0, hz1, hz2⟩ := info_parts Tryz.infoInt
  have HL := Lib.hid hl
  clear hl
  obtain ⟨n, hnm⟩ : ∃ n, n = l.length := ⟨_, rfl⟩
  rw [← hnm]
  have hn' : n ≤ 400 := by omega
  have HN := Lib.hid hnm
  clear hnm hn
  go_enter Tryz.func91, Tryz.ntmps91
  go_wp2_with fail
  go_loopw [3, 4] (fun v i wr => ∃ k : Nat, k ≤ n ∧ i = .int .i64 k ∧ EndRel w (endsOf (l.take k)) v wr) (fun _ i _ => n - (intOf i).toNat)
  case atStart => exact ⟨0, Nat.zero_le _, rfl, World.ownsRow_nil _ _ _ _, bl _⟩
  case round =>
    obtain ⟨k, hk, rfl, hR⟩ := hrel
    have HR := Lib.hid hR
    have hsz := hR.2.size
    have hle := ends_le l k
    clear hR
    by_cases hlt : k < n
    · obtain ⟨⟨f, t⟩, hp⟩ : ∃ p, l[k]? = some p := ⟨_, List.getElem?_eq_getElem (by have := HN.out; omega)⟩
      obtain ⟨g, off, rfl, c0, c1⟩ := HL.out.at hp
      have d0 := keepc HR.out.2 c0
      have d1 := keepc HR.out.2 c1
      have HP := Lib.hid hp
      clear hp
      cases hr : rightB f t
      · clear c0 c1
        go_wp2_with (go_at_call 29; refine (drightc_any _ _ _).mono ?_; rintro e w1 ⟨rfl, hb1⟩)
        go_roundw
        case rel => exact ⟨k + 1, by omega, by go_num, by rw [ends_no HP.out hr]; exact ⟨own_below HR.out.1 hb1, chain HR.out.2 hb1⟩⟩
        case measure => simp [intOf]; omega
      · go_wp2_with fail
        (go_at_call 29; refine (drightc_any _ _ _).mono ?_; rintro e w1 ⟨rfl, hb1⟩)
        have e0 := keepc hb1 d0
        have e1 := keepc hb1 d1
        have HS := Lib.hid (show EndRel w (endsOf (l.take k)) u3 w1 from ⟨own_below HR.out.1 hb1, chain HR.out.2 hb1⟩)
        have hown1 : w1.drew.ownsRow w.heap.size 3 1 u3 (endsOf (l.take k)).length ((endsOf (l.take k)).map (Value.int .i64)) := own_below HS.out.1 (belowN' (bl _) 1)
        have hsz1 := HS.out.2.size
        clear hb1
        go_upto_region 6 with fail
        have mk : ∀ w', Below w.heap.size w w' → (Below w.heap.size w w' ∧ w'.cell? ⟨g, off + k * 2, none⟩ = some (.int .i64 f) ∧ w'.cell? ⟨g, off + k * 2 + 1, none⟩ = some (.int .i64 t)) := fun w' h => ⟨h, keepc h c0, keepc h c1⟩
        have MK := Lib.hid mk
        clear mk c0 c1 d0 d1
        go_region_held3 (fun w' => Below w.heap.size w w' ∧ w'.cell? ⟨g, off + k * 2, none⟩ = some (.int .i64 f) ∧ w'.cell? ⟨g, off + k * 2 + 1, none⟩ = some (.int .i64 t))
          (first | exact MK.out _ (belowN' HS.out.2 1) | exact MK.out _ ((belowN' HS.out.2 1).alloc hsz1 _) | exact MK.out _ hb3 | fail)
          (first
            | (refine step_app rfl (.tmp 16) (.tmp 27) rfl (base := w.heap.size) rfl (World.ownsRow.alloc hown1 _) rfl rfl (ints_two w1.drew f t _) (by simp) (by simp; omega) (by simp; omega) ?_; intro v' w2 hown2 hg2 hat2; have NX := Lib.hid (EndRel.app HS.out hg2 hown2); have hb3 := NX.out.2))
        go_wp2_with fail
        go_roundw
        case rel => exact ⟨k + 1, by omega, by go_num, by rw [ends_yes HP.out hr]; exact NX.out⟩
        case measure => simp [intOf]; omega
    · obtain ⟨Ai, ci, hv, hin⟩ := own_ints HR.out.1
      subst hv
      have HIN := Lib.hid hin
      have hall : endsOf (l.take k) = endsOf l := by rw [List.take_of_length_le (by have := HN.out; omega)]
      rw [hall] at HIN hle
      have HB := Lib.hid HR.out.2
      rw [hall]
      clear hin hall HR
      go_wp2_with (go_at_call 41; refine (rise_any _ _ _ _ HIN.out (by omega)).mono ?_; rintro e w2 ⟨v2, rfl, hown2, hb2⟩)
      go_ret
      exact ⟨_, rfl, rise_own hsz hown2, HB.out.trans (hb2.mono hsz)⟩

end Go.Proofs.YtaoobliajgcdmaaGreat.Co

/-
  The document's put: a span behind a list of the call's own; it is joined to the last one where that ends as it begins.
-/
namespace Go.Proofs.YtaoobliajgcdmaaGreat.Co
open Go.RowKit Go.Sort Go.Shelf

/-- What put leaves. -/
def PutPost (W : World) (l : List Sp) (e : Ending) (w' : World) : Prop := ∃ v, e = .returned v ∧ SpRel W l v w'

set_option maxHeartbeats 4000000 in
theorem put_nil (W w : World) (v : Value) (f t : Int) (h : SpRel W [] v w) :
    Calls Tryz.prog 93 #[v, sp f t] w (PutPost W [(f, t)]) := by
  obtain ⟨i0, hi, hz0, hz1, hz2⟩ := info_parts Tryz.infoSpan
  have HR := Lib.hid h
  have hsz := h.2.size
  obtain ⟨A3, c3, rfl, _⟩ := own_spans h.1
  clear h
  have HS := Lib.hid (HR.out.step ((bl w).alloc (Nat.le_refl _) (.cells #[.int .i64 f, .int .i64 t] 23)))
  have hown1 := HS.out.1
  simp only [List.length_nil] at hown1 ⊢
  go_enter Tryz.func93, Tryz.ntmps93
  go_wp2_with fail
  go_quiet (fail)
  have HQ := Lib.hid (SpRel.step HS.out (belowN (bl _) nq))
  have a0 : ((w.alloc (.cells #[.int .i64 f, .int .i64 t] 23)).drewN nq).cell? ⟨w.heap.size, 0, none⟩ = some (.int .i64 f) := by simp [go_sem]
  have a1 : ((w.alloc (.cells #[.int .i64 f, .int .i64 t] 23)).drewN nq).cell? ⟨w.heap.size, 1, none⟩ = some (.int .i64 t) := by simp [go_sem]
  obtain ⟨w2, hw2⟩ : ∃ W, (w.alloc (.cells #[.int .i64 f, .int .i64 t] 23)).drewN nq = W := ⟨_, rfl⟩
  rw [hw2] at a0 a1 HQ ⊢
  clear hw2
  have hown2 := HQ.out.1
  have hsz2 := HQ.out.2.size
  simp only [List.length_nil] at hown2
  go_wp2_with (at_builtin; refine wpList_append_lies _ rfl (.tmp 28) (.tmp 30) 40 rfl W.heap.size 23 i0 (.agg #[.int .i64 0, .int .i64 0]) 2 16 Tryz.underlying40 hi hz0 hz1 hz2 rfl (by decide) _ 0 (flat []) rfl (World.ownsRow.alloc hown2 _) ⟨w2.heap.size, 0, none⟩ 1 1 [.int .i64 f, .int .i64 t] rfl rfl (news_two w2 f t _) (by simp [Value.oneCell']) (by decide) (by unfold maxLen; omega) (by omega) (by simp; omega) _ rfl ?_; intro g3 cap3 w3 hown3 hg3 hat3 hlt3; have NX := Lib.hid (SpRel.app (l := []) HQ.out hg3 hown3))
  go_ret
  exact ⟨_, rfl, NX.out⟩

set_option maxHeartbeats 4000000 in
theorem put_more (W w : World) (v : Value) (m : List Sp) (q1 q2 f t : Int) (h : SpRel W (m ++ [(q1, q2)]) v w) (hn : m.length + 1 ≤ 1000000) :
    Calls Tryz.prog 93 #[v, sp f t] w (PutPost W (if q2 = f then m ++ [(q1, t)] else m ++ [(q1, q2)] ++ [(f, t)])) := by
  obtain ⟨L, hL⟩ : ∃ L, (if q2 = f then m ++ [(q1, t)] else m ++ [(q1, q2)] ++ [(f, t)]) = L := ⟨_, rfl⟩
  rw [hL]
  have HLL := Lib.hid hL
  clear hL
  obtain ⟨i0, hi, hz0, hz1, hz2⟩ := info_parts Tryz.infoSpan
  have HR := Lib.hid h
  have hsz := h.2.size
  clear h
  have HY := Lib.hid (show Below w.heap.size w (w.alloc (.cells #[.int .i64 f, .int .i64 t] 23)) from (bl _).alloc (Nat.le_refl _) _)
  obtain ⟨g3, c3, rfl, hat, hg1, hg2⟩ := own_spansAt HR.out.1 (by simp)
  obtain ⟨x0, x1⟩ := hat m.length (q1, q2) (by simp)
  have hfz := own_frozen HR.out.1 (m.length * 2 + 1)
  simp only [List.length_append, List.length_cons, List.length_nil, Nat.zero_add] at HR ⊢ x0 x1
  obtain ⟨z, hz⟩ : ∃ z, m.length = z := ⟨_, rfl⟩
  rw [hz] at x0 x1 hfz hn HR ⊢
  clear hat
  have HS := Lib.hid (HR.out.step HY.out)
  have y1 : (w.alloc (.cells #[.int .i64 f, .int .i64 t] 23)).cell? ⟨g3, z * 2 + 1, none⟩ = some (.int .i64 q2) := keepc HY.out x1
  have b0 : (w.alloc (.cells #[.int .i64 f, .int .i64 t] 23)).cell? ⟨w.heap.size, 0, none⟩ = some (.int .i64 f) := by simp [go_sem]
  have b1 : (w.alloc (.cells #[.int .i64 f, .int .i64 t] 23)).cell? ⟨w.heap.size, 1, none⟩ = some (.int .i64 t) := by simp [go_sem]
  have yf : (w.alloc (.cells #[.int .i64 f, .int .i64 t] 23)).frozen? ⟨g3, z * 2 + 1, none⟩ = false := (HY.out.frozen (p := ⟨g3, z * 2 + 1, none⟩) hg2).trans hfz
  have HZ := Lib.hid hz
  clear hz x0 x1 hfz
  by_cases hjoin : q2 = f
  · have e0 : (q2 == f) = true := by simpa using hjoin
    have HJ := Lib.hid hjoin
    clear hjoin
    go_enter Tryz.func93, Tryz.ntmps93
    go_wp2_with fail
    go_quiet (fail)
    have HQ := Lib.hid (SpRel.step HS.out (belowN (bl _) nq))
    obtain ⟨w2, hw2⟩ : ∃ W, (w.alloc (.cells #[.int .i64 f, .int .i64 t] 23)).drewN nq = W := ⟨_, rfl⟩
    have a1 : w2.cell? ⟨w.heap.size, 1, none⟩ = some (.int .i64 t) := by rw [← hw2]; exact b1
    have v1 : w2.cell? ⟨g3, z * 2 + 1, none⟩ = some (.int .i64 q2) := by rw [← hw2]; exact y1
    have vf : w2.frozen? ⟨g3, z * 2 + 1, none⟩ = false := by rw [← hw2]; exact yf
    rw [hw2] at HQ ⊢
    clear hw2 b0 b1 y1 yf
    have NX := Lib.hid (SpRel.set (y := t) (by rw [List.length_append, HZ.out]; exact HQ.out))
    rw [HZ.out] at NX
    go_wp2_with fail
    go_ret
    exact ⟨_, rfl, by rw [← HLL.out, if_pos HJ.out]; have h := NX.out; simp only [List.length_append, List.length_cons, List.length_nil, Nat.zero_add, HZ.out] at h; exact h⟩
  · have e0 : (q2 == f) = false := by simpa using hjoin
    have HJ := Lib.hid hjoin
    clear hjoin
    go_enter Tryz.func93, Tryz.ntmps93
    go_wp2_with fail
    go_quiet (fail)
    have HQ := Lib.hid (SpRel.step HS.out (belowN (bl _) nq))
    obtain ⟨w2, hw2⟩ : ∃ W, (w.alloc (.cells #[.int .i64 f, .int .i64 t] 23)).drewN nq = W := ⟨_, rfl⟩
    have a0 : w2.cell? ⟨w.heap.size, 0, none⟩ = some (.int .i64 f) := by rw [← hw2]; exact b0
    have a1 : w2.cell? ⟨w.heap.size, 1, none⟩ = some (.int .i64 t) := by rw [← hw2]; exact b1
    rw [hw2] at HQ ⊢
    clear hw2 b0 b1 y1 yf
    have hown2 := HQ.out.1
    have hsz2 := HQ.out.2.size
    simp only [List.length_append, List.length_cons, List.length_nil, Nat.zero_add, HZ.out] at hown2
    clear HS HY
    go_wp2_with (at_builtin; refine wpList_append_lies _ rfl (.tmp 28) (.tmp 30) 40 rfl W.heap.size 23 i0 (.agg #[.int .i64 0, .int .i64 0]) 2 16 Tryz.underlying40 hi hz0 hz1 hz2 rfl (by decide) _ (z + 1) (flat (m ++ [(q1, q2)])) rfl (World.ownsRow.alloc hown2 _) ⟨w2.heap.size, 0, none⟩ 1 1 [.int .i64 f, .int .i64 t] rfl rfl (news_two w2 f t _) (by simp [Value.oneCell']) (by decide) (by unfold maxLen; omega) (by omega) (by simp; omega) _ rfl ?_; intro g4 cap3 w3 hown3 hg3 hat3 hlt3; have NX := Lib.hid (SpRel.app (l := m ++ [(q1, q2)]) HQ.out hg3 (by simpa [HZ.out] using hown3)); clear hown3)
    go_ret
    exact ⟨_, rfl, by rw [← HLL.out, if_neg HJ.out]; exact NX.out⟩

end Go.Proofs.YtaoobliajgcdmaaGreat.Co

/-
  append of a list of spans onto a list of the call's own, whatever the source: what it leaves.
-/
namespace Go.Proofs.YtaoobliajgcdmaaGreat.Co
open Go.RowKit
set_option maxRecDepth 100000

abbrev ownS (w : World) (base : Nat) (v : Value) (l : List Sp) : Prop := w.ownsRow base 23 2 v l.length (flat l)

theorem flat_cell {w : World} {g off : Nat} {l : List Sp} (h : Spans w (some ⟨g, off, none⟩) l) {j : Nat} {u : Value} (hu : (flat l)[j]? = some u) : w.cell? ((⟨g, off, none⟩ : Addr).add j) = some u := by
  have hj : j < l.length * 2 := by
    rcases Nat.lt_or_ge j (flat l).length with h1 | h1
    · rw [flat_length] at h1; exact h1
    · rw [List.getElem?_eq_none h1] at hu; cases hu
  obtain ⟨p, hp⟩ : ∃ p, l[j / 2]? = some p := ⟨_, List.getElem?_eq_getElem (by omega)⟩
  obtain ⟨e0, e1⟩ := flat_get l (j / 2) p hp
  obtain ⟨g', off', he, c0, c1⟩ := h _ _ hp
  injection he with he
  injection he with he1 he2
  subst he1 he2
  rw [Go.WideShapes.add_plain]
  rcases Nat.mod_two_eq_zero_or_one j with h2 | h2
  · rw [show j / 2 * 2 = j from by omega] at e0 c0
    rw [e0] at hu
    injection hu with hu
    rw [← hu]; exact c0
  · rw [show j / 2 * 2 + 1 = j from by omega] at e1
    rw [Nat.add_assoc, show j / 2 * 2 + 1 = j from by omega] at c1
    rw [e1] at hu
    injection hu with hu
    rw [← hu]; exact c1
theorem flat_one (l : List Sp) : ∀ u ∈ flat l, u.oneCell' = true := fun u hu => by
  unfold flat at hu
  obtain ⟨p, _, hp⟩ := List.mem_flatMap.1 hu
  simp at hp
  rcases hp with rfl | rfl <;> rfl
theorem flat_append (l m : List Sp) : flat (l ++ m) = flat l ++ flat m := by simp [flat]

theorem run_apps (w : World) {base : Nat} {v : Value} {ts : List Sp} (hown : ownS w base v ts) (B : Option Addr) (c : Nat) (xs : List Sp) (hx : Spans w B xs) (hc : B = none → c = 0)
    (hl : ts.length + xs.length ≤ 1000000) (hbase : base ≤ w.heap.size) (ty : TypeId) :
    ∃ v' w', (Builtin.append_ #[40, 40] ty #[v, .slice B xs.length c]).run Tryz.prog w = .ok v' w' ∧ ownS w' base v' (ts ++ xs) ∧ w.grownBy w' v.ownBlock ∧ (v'.ownBlock = v.ownBlock ∨ v'.ownBlock = some w.heap.size) := by
  obtain ⟨i0, hi, hz0, hz1, hz2⟩ := info_parts Tryz.infoSpan
  rcases B with _ | ad
  · obtain rfl : xs = [] := by
      rcases xs with _ | ⟨x, xs⟩
      · rfl
      · obtain ⟨_, _, h, _⟩ := hx 0 x (by simp)
        cases h
    obtain rfl := hc rfl
    exact ⟨v, w, run_append_owned_none (P := Tryz.prog) w base 40 ty 23 i0 2 Tryz.underlying40 hi v _ _ hown, by simpa [ownS] using hown, World.grownBy.refl _ _, .inl rfl⟩
  · have hcell : ∀ j u, (flat xs)[j]? = some u → w.cell? (ad.add j) = some u := fun j u hu => by
      rcases xs with _ | ⟨p, xs⟩
      · simp [flat] at hu
      · obtain ⟨g, off, he, _⟩ := hx 0 p (by simp)
        injection he with he
        subst he
        exact flat_cell hx hu
    obtain ⟨v', w', hrun, h2, h3, _, h5⟩ := run_append_own_at (P := Tryz.prog) w base 40 ty 23 i0 (.agg #[.int .i64 0, .int .i64 0]) 2 16 Tryz.underlying40 hi hz0 hz1 hz2 rfl (by decide) v _ _ hown ad xs.length c (flat xs) (flat_length xs) hcell
      (flat_one xs) (by unfold maxLen; omega) (by omega) hbase
    exact ⟨v', w', hrun, by unfold ownS; rw [flat_append, List.length_append]; exact h2, h3, h5⟩

theorem wpList_apps {ops : Array Oper} {rest : List Oper} {o : Oper} {a : Act} {w : World} {Q : Exit → Act → World → Prop} (hgd : o.guard = none) (s x : Operand)
    (ho : o.op = .call { callee := .builtin .append, args := #[s, x], argTypes := #[40, 40] })
    {base : Nat} {v : Value} {ts : List Sp} (hs : a.eval s = v) (hown : ownS w base v ts) {B : Option Addr} {c m : Nat} {xs : List Sp} (hv : a.eval x = .slice B m c) (hm : m = xs.length) (hx : Spans w B xs) (hc : B = none → c = 0)
    (hl : ts.length + xs.length ≤ 1000000) (hbase : base ≤ w.heap.size)
    (h : ∀ v' w', ownS w' base v' (ts ++ xs) → w.grownBy w' v.ownBlock → wpList Tryz.prog ops Q rest (a.put o.dst v') w') : wpList Tryz.prog ops Q (o :: rest) a w := by
  subst hm
  obtain ⟨v', w', hrun, h2, h3, h4⟩ := run_apps w hown B c xs hx hc hl hbase o.type
  refine wpList_plain hgd fun _ hK => ?_
  unfold Oper.wp execOp
  simp only [ho, resolve, invoke, builtin, Sem.run_bind, Sem.run_pure, Result.andThen_ok, List.map_toArray, List.map_cons, List.map_nil, hs, hv, hrun]
  exact hK _ _ (h v' w' h2 h3)

end Go.Proofs.YtaoobliajgcdmaaGreat.Co

/-
  The document's Kept: is the list a cover? The document's Has: has the list the time?
-/
namespace Go.Proofs.YtaoobliajgcdmaaGreat.Co
open Go.RowKit Go.Sort

theorem below_of_regrown {w w' : World} (h : ∃ p : Regrown, w' = grow (redrawn w p.d) p.os) : Below w.heap.size w w' := by
  obtain ⟨p, rfl⟩ := h
  exact below_regrown w p.d p.os

/-- Has none of the spans ahead of place k the time? -/
theorem mem_take_succ {l : List Sp} {k : Nat} {p : Sp} (hp : l[k]? = some p) (x : Int) : memB (l.take (k + 1)) x = (memB (l.take k) x || (rightB p.1 p.2 && hasB p.1 p.2 x)) := by
  rw [List.take_add_one, hp]
  simp [memB]
theorem mem_found {l : List Sp} {k : Nat} {f t : Int} (hp : l[k]? = some (f, t)) {x : Int} (h1 : rightB f t = true) (h2 : hasB f t x = true) : memB l x = true := by
  unfold memB
  rw [List.any_eq_true]
  exact ⟨_, List.mem_of_getElem? hp, by simp [h1, h2]⟩

set_option maxHeartbeats 4000000 in
theorem dhasl_any (w : World) (A : Option Addr) (c : Nat) (l : List Sp) (x : Int) (hl : Spans w A l) (hn : l.length ≤ 9223372036854775806) :
    Calls Tryz.prog 92 #[.slice A l.length c, .int .i64 x] w fun e w' => e = .returned (.bool (memB l x)) ∧ Below w.heap.size w w' := by
  have HL := Lib.hid hl
  clear hl
  obtain ⟨n, hnm⟩ : ∃ n, n = l.length := ⟨_, rfl⟩
  rw [← hnm]
  have hn' : n ≤ 9223372036854775806 := by omega
  have HN := Lib.hid hnm
  clear hnm hn
  go_enter Tryz.func92, Tryz.ntmps92
  go_wp2_with fail
  go_loopw [5] (fun i wr => ∃ k : Nat, k ≤ n ∧ i = .int .i64 k ∧ memB (l.take k) x = false ∧ Below w.heap.size w wr) (fun i _ => n - (intOf i).toNat)
  case atStart => exact ⟨0, Nat.zero_le _, rfl, by simp [memB], bl _⟩
  case round =>
    obtain ⟨k, hk, rfl, hc, hB⟩ := hrel
    have HC := Lib.hid hc
    have HB := Lib.hid hB
    clear hc hB
    by_cases hlt : k < n
    · obtain ⟨⟨f, t⟩, hp⟩ : ∃ p, l[k]? = some p := ⟨_, List.getElem?_eq_getElem (by have := HN.out; omega)⟩
      obtain ⟨g, off, rfl, c0, c1⟩ := HL.out.at hp
      have d0 := keepc HB.out c0
      have d1 := keepc HB.out c1
      have HP := Lib.hid hp
      have NX := Lib.hid (mem_take_succ hp x)
      clear c0 c1 hp
      cases hr : rightB f t
      · go_wp2_with (go_at_call 29; refine (drightc_any _ _ _).mono ?_; rintro e w1 ⟨rfl, hb1⟩)
        go_roundw
        case rel => exact ⟨k + 1, by omega, by go_num, by rw [NX.out, HC.out]; simp [hr], chain HB.out hb1⟩
        case measure => simp [intOf]; omega
      · cases hh : hasB f t x
        all_goals
          go_wp2_with fail
          (go_at_call 29; refine (drightc_any _ _ _).mono ?_; rintro e w1 ⟨rfl, hb1⟩)
          have e0 := keepc hb1 d0
          have e1 := keepc hb1 d1
          go_wp2_with (go_at_call 30; refine (dhas_any _ _ _ _).mono ?_; rintro e w2 ⟨rfl, hb2⟩)
        · go_roundw
          case rel => exact ⟨k + 1, by omega, by go_num, by rw [NX.out, HC.out]; simp [hr, hh], chain HB.out (chain hb1 hb2)⟩
          case measure => simp [intOf]; omega
        · go_ret
          exact ⟨ret_bool (by rw [mem_found HP.out hr hh]), chain HB.out (chain hb1 hb2)⟩
    · go_wp2_with fail
      go_ret
      exact ⟨ret_bool (by have := HC.out; rw [List.take_of_length_le (by have := HN.out; omega)] at this; rw [this]), HB.out⟩

end Go.Proofs.YtaoobliajgcdmaaGreat.Co

/-
  The document's Of: the cover of the times of two lists that count.
-/
namespace Go.Proofs.YtaoobliajgcdmaaGreat.Co
open Go.RowKit

/-- What put makes of what is out. -/
theorem OutTo.put_nil {a b : List Sp} {kind : Int} {ts : List Int} {i : Nat} (h : OutTo a b kind ts i []) (ha : ∀ y ∈ endsOf a, y ∈ ts) (hb : ∀ y ∈ endsOf b, y ∈ ts) (hp : ts.Pairwise (· < ·)) (hbd : ∀ y ∈ ts, -1099511627776 ≤ y ∧ y ≤ 1099511627776) {f t : Int} (hf : ts[i]? = some f) (ht : ts[i + 1]? = some t) (hn : kindB kind (memB a f) (memB b f) = true) : OutTo a b kind ts (i + 1) [(f, t)] := by
  have hft : f < t := by
    obtain ⟨li, ei⟩ := List.getElem?_eq_some_iff.1 hf
    obtain ⟨lj, ej⟩ := List.getElem?_eq_some_iff.1 ht
    have := List.pairwise_iff_getElem.1 hp i (i + 1) li lj (by omega)
    rwa [ei, ej] at this
  have h1 := hbd f (List.mem_of_getElem? hf)
  have h2 := hbd t (List.mem_of_getElem? ht)
  obtain ⟨c1, c2⟩ := put_adds (m := []) (f := f) (t := t) Cov.nil (by simp) (by simp [rightB]; omega)
  exact h.next ha hb hp hf ht hn c1 c2 (by simp) (by simp)
theorem OutTo.put_more {a b : List Sp} {kind : Int} {ts : List Int} {i : Nat} {m : List Sp} {q1 q2 : Int} (h : OutTo a b kind ts i (m ++ [(q1, q2)])) (ha : ∀ y ∈ endsOf a, y ∈ ts) (hb : ∀ y ∈ endsOf b, y ∈ ts) (hp : ts.Pairwise (· < ·)) (hbd : ∀ y ∈ ts, -1099511627776 ≤ y ∧ y ≤ 1099511627776) {f t : Int} (hf : ts[i]? = some f) (ht : ts[i + 1]? = some t) (hn : kindB kind (memB a f) (memB b f) = true) : OutTo a b kind ts (i + 1) (if q2 = f then m ++ [(q1, t)] else m ++ [(q1, q2)] ++ [(f, t)]) := by
  have hft : f < t := by
    obtain ⟨li, ei⟩ := List.getElem?_eq_some_iff.1 hf
    obtain ⟨lj, ej⟩ := List.getElem?_eq_some_iff.1 ht
    have := List.pairwise_iff_getElem.1 hp i (i + 1) li lj (by omega)
    rwa [ei, ej] at this
  have h1 := hbd f (List.mem_of_getElem? hf)
  have h2 := hbd t (List.mem_of_getElem? ht)
  have h3 := h.ends (q1, q2) (by simp) f hf
  simp only at h3
  split
  · rename_i e
    obtain ⟨c1, c2⟩ := put_joins (t := t) h.cov (by simp only; omega) h2.2
    simp only [e] at c2
    refine h.next ha hb hp hf ht hn c1 ?_ (fun p hp' => ?_) (by simp)
    · simpa [e] using c2
    · rcases List.mem_append.1 hp' with h4 | h4
      · exact .inl (List.mem_append_left _ h4)
      · obtain rfl := List.mem_singleton.1 h4
        exact .inr rfl
  · rename_i e
    obtain ⟨c1, c2⟩ := put_adds (f := f) (t := t) h.cov (h.cov.ends (x := f) (by simp only; omega)) (by simp [rightB]; omega)
    refine h.next ha hb hp hf ht hn c1 c2 (fun p hp' => ?_) (by simp)
    rcases List.mem_append.1 hp' with h4 | h4
    · exact .inl h4
    · obtain rfl := List.mem_singleton.1 h4
      exact .inr rfl

theorem own_emptyS {w : World} {b base : Nat} (h : w.heap[b]? = some (.cells #[] 23 (0, 0))) (hb : base ≤ b) : ownS w base (.slice (some ⟨b, 0, none⟩) 0 0) [] :=
  ⟨by simp [flat], .inr ⟨b, 0, #[], rfl, hb, h, by simp, by simp [maxLen], by simp, by simp [flat]⟩⟩

/-- What holds at the head of each round. -/
def OfRel (W : World) (a b : List Sp) (kind : Int) (ts : List Int) (k : Nat) (v : Value) (wr : World) : Prop :=
  (k = 0 ∨ k < ts.length) ∧ ∃ o, OutTo a b kind ts k o ∧ SpRel W o v wr

set_option maxHeartbeats 8000000 in
set_option maxRecDepth 10000 in
theorem of_any (w : World) (A B : Option Addr) (c d : Nat) (a b : List Sp) (kind : Int) (hk : kind = 0 ∨ kind = 1 ∨ kind = 2) (ha : Spans w A a) (hb : Spans w B b) (hA : A = none → c = 0) (hB : B = none → d = 0) (hn : a.length + b.length ≤ 400) :
    Calls Tryz.prog 70 #[.slice A a.length c, .slice B b.length d, .int .i64 kind] w (CovPost (KindP kind a b) 1000 w) := by
  have HA := Lib.hid ha
  have HB := Lib.hid hb
  have HK := Lib.hid hk
  clear ha hb hk
  obtain ⟨n, hnm⟩ : ∃ n, n = a.length := ⟨_, rfl⟩
  obtain ⟨n', hnm'⟩ : ∃ n, n = b.length := ⟨_, rfl⟩
  rw [← hnm, ← hnm'] at hn ⊢
  have HN := Lib.hid hnm
  have HN' := Lib.hid hnm'
  clear hnm hnm'
  have hown0 : ownS (w.alloc (.cells #[] 23)) w.heap.size (.slice (some ⟨w.heap.size, 0, none⟩) 0 0) [] := own_emptyS (heap_alloc_new w _) (Nat.le_refl _)
  have hbel0 : Below w.heap.size w (w.alloc (.cells #[] 23)) := (bl w).alloc (Nat.le_refl _) _
  have hlt0 := hown0.lt w.heap.size rfl
  go_enter Tryz.func70, Tryz.ntmps70
  go_wp2_with (first
    | (at_builtin; refine wpList_apps rfl (.tmp 12) (.tmp 13) rfl (base := w.heap.size) (ts := []) (xs := a) rfl hown0 rfl HN.out (HA.out.below hbel0) hA (by have := HN.out; simp; omega) (by simp) ?_; intro v1 w1 hown1 hg1; have hbel1 : Below w.heap.size w w1 := below_grown hbel0 hg1 (fun r hr => (hown0.lt r hr).1); clear hown0 hbel0 hg1 hlt0)
    | (at_builtin; refine wpList_apps rfl (.tmp 14) (.tmp 15) rfl (base := w.heap.size) (ts := [] ++ a) (xs := b) rfl hown1 rfl HN'.out (HB.out.below hbel1) hB (by have := HN.out; have := HN'.out; simp; omega) hbel1.size ?_; intro v2 w2 hown2 hg2; have hbel2 : Below w.heap.size w w2 := below_grown hbel1 hg2 (fun r hr => (hown1.lt r hr).1); clear hown1 hbel1 hg2)
    | fail)
  simp only [List.nil_append] at hown2
  obtain ⟨A2, c2, rfl, hsp2⟩ := own_spans hown2
  go_wp2_with (go_at_call 91; refine (ends_any _ _ _ _ hsp2 (by have := HN.out; have := HN'.out; simp; omega)).mono ?_; rintro e w3 ⟨v3, rfl, hown3, hb3⟩)
  clear hsp2 hown2
  obtain ⟨ts, hts⟩ : ∃ ts, riseL (endsOf (a ++ b)) = ts := ⟨_, rfl⟩
  rw [hts] at hown3
  have htl : ts.length ≤ 800 := by
    rw [← hts]
    have h1 := riseL_length (endsOf (a ++ b))
    have h2 := ends_length (a ++ b)
    have := HN.out
    have := HN'.out
    simp at h2
    omega
  have EA := Lib.hid (show ∀ y ∈ endsOf a, y ∈ ts from fun y hy => by rw [← hts, mem_riseL, ends_append]; exact List.mem_append_left _ hy)
  have EB := Lib.hid (show ∀ y ∈ endsOf b, y ∈ ts from fun y hy => by rw [← hts, mem_riseL, ends_append]; exact List.mem_append_right _ hy)
  have EP := Lib.hid (show ts.Pairwise (· < ·) from by rw [← hts]; exact riseL_pw _)
  have ED := Lib.hid (show ∀ y ∈ ts, -1099511627776 ≤ y ∧ y ≤ 1099511627776 from fun y hy => by rw [← hts, mem_riseL] at hy; exact ends_bounds hy)
  clear hts
  obtain ⟨At, ct, rfl, hin3⟩ := own_ints hown3
  have HIN := Lib.hid hin3
  have HB3 := Lib.hid (hbel2.trans (hb3.mono hbel2.size))
  have HA3 := Lib.hid (HA.out.below HB3.out)
  have HBB3 := Lib.hid (HB.out.below HB3.out)
  clear hin3 hown3 hbel2 hb3
  obtain ⟨N, hN⟩ : ∃ N, N = ts.length := ⟨_, rfl⟩
  rw [← hN] at htl ⊢
  have HT := Lib.hid hN
  clear hN
  go_wp2_with fail
  go_loopw [8, 9] (fun v i wr => ∃ k : Nat, k ≤ N ∧ i = .int .i64 k ∧ OfRel w3 a b kind ts k v wr) (fun _ i _ => N - (intOf i).toNat)
  case atStart => exact ⟨0, Nat.zero_le _, rfl, .inl rfl, [], OutTo.start EA.out EB.out EP.out, SpRel.nil w3⟩
  case round =>
    obtain ⟨k, hkN, rfl, hk0, o, hO, hR⟩ := hrel
    have HO := Lib.hid hO
    have HR := Lib.hid hR
    have HK0 := Lib.hid hk0
    have hsz := hR.2.size
    have hle := hO.len
    clear hO hR hk0
    by_cases hlt : k + 1 < N
    · obtain ⟨f, hf⟩ : ∃ f, ts[k]? = some f := ⟨_, List.getElem?_eq_getElem (by have := HT.out; omega)⟩
      obtain ⟨t, ht⟩ : ∃ t, ts[k + 1]? = some t := ⟨_, List.getElem?_eq_getElem (by have := HT.out; omega)⟩
      obtain ⟨g, off, rfl, c0⟩ := HIN.out k f hf
      obtain ⟨g', off', he, c1⟩ := HIN.out (k + 1) t ht
      injection he with he
      injection he with e1 e2 _
      subst e1 e2
      have HF := Lib.hid hf
      have HTT := Lib.hid ht
      have d0 := keepc HR.out.2 c0
      have d1 := keepc HR.out.2 c1
      have hltI : (k : Int) + 1 < (N : Int) := by omega
      have hkI : (k : Int) < (N : Int) := by omega
      have hk0' : (0 : Int) ≤ (k : Int) := by omega
      have hkS : (0 : Int) ≤ (k : Int) + 1 := by omega
      have hkT : ((k : Int) + 1).toNat = k + 1 := by omega
      have hkW : IntKind.i64.wrap ((k : Int) + 1) = (k : Int) + 1 := IntWalk.i64_in _ (by omega)
      clear hf ht
      obtain ⟨X, hX⟩ : ∃ X, memB a f = X := ⟨_, rfl⟩
      obtain ⟨Y, hY⟩ : ∃ Y, memB b f = Y := ⟨_, rfl⟩
      have CA : ∀ w4, Spans w4 A a → Calls Tryz.prog 92 #[.slice A n c, .int .i64 f] w4 (fun e w' => e = .returned (.bool X) ∧ Below w4.heap.size w4 w') := fun w4 h => by
        rw [HN.out, ← hX]; exact dhasl_any _ _ _ a f h (by have := HN.out; omega)
      have CB : ∀ w4, Spans w4 B b → Calls Tryz.prog 92 #[.slice B n' d, .int .i64 f] w4 (fun e w' => e = .returned (.bool Y) ∧ Below w4.heap.size w4 w') := fun w4 h => by
        rw [HN'.out, ← hY]; exact dhasl_any _ _ _ b f h (by have := HN'.out; omega)
      go_wp2_with fail
      go_at_call 92
      refine (CA _ (HA3.out.below HR.out.2)).mono ?_
      rintro e w4 ⟨rfl, hb4⟩
      have HR4 := Lib.hid (HR.out.step hb4)
      have d0 := keepc HR4.out.2 c0
      go_wp2_with fail
      go_at_call 92
      refine (CB _ (HBB3.out.below HR4.out.2)).mono ?_
      rintro e w5 ⟨rfl, hb5⟩
      have HR5 := Lib.hid (HR4.out.step hb5)
      have d0 := keepc HR5.out.2 c0
      have d1 := keepc HR5.out.2 c1
      clear CA CB
      have HX := Lib.hid hX
      have HY := Lib.hid hY
      have hsz5 := HR5.out.2.size
      clear hX hY hb4 hb5 HR HR4
      have HN1 := Lib.hid (show k + 1 = 0 ∨ k + 1 < ts.length from .inr (by have := HT.out; omega))
      have HD := Lib.hid (SpRel.step HR5.out (belowN (bl w5) 1))
      have b0 : w5.drew.cell? ⟨g, off + k, none⟩ = some (.int .i64 f) := d0
      have b1 : w5.drew.cell? ⟨g, off + (k + 1), none⟩ = some (.int .i64 t) := d1
      have HKB := Lib.hid (show ∀ r, kindB kind X Y = r → kindB kind (memB a f) (memB b f) = r from fun r h => by rw [HX.out, HY.out]; exact h)
      rcases HK.out with rfl | rfl | rfl
      all_goals
        cases X
        all_goals
          cases Y
          all_goals
            first
              | (have hkb := HKB.out false rfl
                 have NX := Lib.hid (HO.out.skip EA.out EB.out EP.out HF.out HTT.out hkb)
                 clear hkb
                 go_wp2_with fail
                 go_roundw
                 case rel => exact ⟨k + 1, by omega, by go_num, HN1.out, o, NX.out, HR5.out⟩
                 case measure => simp [intOf]; omega)
              | (have hkb := HKB.out true rfl
                 rcases List.eq_nil_or_concat o with rfl | ⟨m, ⟨q1, q2⟩, hmq⟩
                 · have NX := Lib.hid (HO.out.put_nil EA.out EB.out EP.out ED.out HF.out HTT.out hkb)
                   clear hkb
                   go_wp2_with fail
                   go_still_tail 11, (by kernel_rfl)
                   change wpList _ _ _ _ _ w5.drew
                   go_wp2_with (go_at_call 93; refine (put_nil w3 _ _ f t HD.out).mono ?_; rintro e w6 ⟨v6, rfl, h6⟩; have HP := Lib.hid h6; clear h6)
                   go_roundw
                   case rel => exact ⟨k + 1, by omega, by go_num, HN1.out, _, NX.out, HP.out⟩
                   case measure => simp [intOf]; omega
                 · obtain rfl : o = m ++ [(q1, q2)] := by rw [hmq]; simp
                   clear hmq
                   have NX := Lib.hid (HO.out.put_more EA.out EB.out EP.out ED.out HF.out HTT.out hkb)
                   simp only [List.length_append, List.length_cons, List.length_nil] at hle
                   clear hkb
                   go_wp2_with fail
                   go_still_tail 11, (by kernel_rfl)
                   change wpList _ _ _ _ _ w5.drew
                   go_wp2_with (go_at_call 93; refine (put_more w3 _ _ m q1 q2 f t HD.out (by omega)).mono ?_; rintro e w6 ⟨v6, rfl, h6⟩; have HP := Lib.hid h6; clear h6)
                   go_roundw
                   case rel => exact ⟨k + 1, by omega, by go_num, HN1.out, _, NX.out, HP.out⟩
                   case measure => simp [intOf]; omega)
    · go_wp2_with fail
      obtain ⟨A3, c3, rfl, hsp3, hcc3⟩ := own_spans2 HR.out.1
      have HSP3 := Lib.hid hsp3
      have HCC3 := Lib.hid hcc3
      clear hsp3 hcc3
      go_wp2_with fail
      go_ret
      exact ⟨A3, c3, o, rfl, HSP3.out, HO.out.stop EA.out EB.out EP.out (by have := HT.out; omega) (by have := HK0.out; have := HT.out; omega), by omega, chain HB3.out HR.out.2, HCC3.out⟩

end Go.Proofs.YtaoobliajgcdmaaGreat.Co

/-
  The document's Make, Gaps and Long.
-/
namespace Go.Proofs.YtaoobliajgcdmaaGreat.Co
open Go.RowKit

theorem kind_make (l : List Sp) (x : Int) : KindP 0 l [] x ↔ Mem l x := by simp [KindP, kindB, memB_iff, show memB [] x = false from rfl]

theorem CovPost.weaken {S T : Int → Prop} {K : Nat} {w w0 : World} {e : Ending} {w' : World} (h : CovPost S K w e w') (hs : ∀ x, S x ↔ T x) (hb : Below w0.heap.size w0 w) : CovPost T K w0 e w' := by
  obtain ⟨A, c, m, he, hsp, hc, hl, hb', hcc⟩ := h
  exact ⟨A, c, m, he, hsp, ⟨hc.1, fun x => (hc.2 x).trans (hs x)⟩, hl, chain hb hb', hcc⟩

set_option maxHeartbeats 1000000 in
theorem dmakec_any (w : World) (A : Option Addr) (c : Nat) (l : List Sp) (hl : Spans w A l) (hA : A = none → c = 0) (hn : l.length ≤ 400) :
    Calls Tryz.prog 48 #[.slice A l.length c] w (CovPost (Mem l) 1000 w) := by
  have C := of_any w A none c 0 l [] 0 (.inl rfl) hl (Spans.nil _ _) hA (fun _ => rfl) (by simpa using hn)
  simp only [List.length_nil] at C
  go_enter Tryz.func48, Tryz.ntmps48
  go_wp2_with (go_at_call 70; refine C.mono ?_; rintro e w1 hp; obtain ⟨A1, c1, m, rfl, hsp, hc, hl1, hb, hcc⟩ := hp)
  go_ret
  exact ⟨A1, c1, m, rfl, hsp, ⟨hc.1, fun x => (hc.2 x).trans (kind_make l x)⟩, hl1, hb, hcc⟩

theorem spans_one {w : World} {f t : Int} (ty : TypeId) : Spans (w.alloc (.cells #[.int .i64 f, .int .i64 t] ty)) (some ⟨w.heap.size, 0, none⟩) [(f, t)] := fun i p hp => by
  rcases i with _ | i
  · obtain rfl : (f, t) = p := by simpa using hp
    exact ⟨_, _, rfl, by simp [go_sem], by simp [go_sem]⟩
  · simp at hp

theorem Cov.take {l : List Sp} (h : Cov l) (k : Nat) : Cov (l.take k) := ⟨fun p hp => h.1 p (List.mem_of_mem_take hp), h.2.sublist (List.take_sublist _ _)⟩
/-- What a loop has added up. -/
theorem lens_next {m : List Sp} (h : Cov m) {k : Nat} {f t : Int} (hp : m[k]? = some (f, t)) : lens (m.take (k + 1)) = lens (m.take k) + (t - f) ∧ rightB f t = true ∧ 0 ≤ lens (m.take (k + 1)) ∧ lens (m.take (k + 1)) ≤ 2199023255552 := by
  refine ⟨?_, h.1 _ (List.mem_of_getElem? hp), (lens_nonneg (h.take (k + 1))).1, (lens_nonneg (h.take (k + 1))).2⟩
  rw [take_snoc hp, lens_snoc]

/-- What Long leaves. -/
def LongPost (S : Int → Prop) (w : World) (e : Ending) (w' : World) : Prop := ∃ m, CovOf m S ∧ e = .returned (.int .i64 (lens m)) ∧ Below w.heap.size w w'

end Go.Proofs.YtaoobliajgcdmaaGreat.Co

/-
  Lists of spans as lists of elements; the cover of spans as a function.
-/
namespace Go.Proofs.YtaoobliajgcdmaaGreat
open Go.RowKit

def ESp : El (Int × Int) where
  s := 40
  e := 23
  sz := 2
  bys := 16
  z := .agg #[.int .i64 0, .int .i64 0]
  cells := fun p => [.int .i64 p.1, .int .i64 p.2]
  pos := by decide
  few := by decide
  len := fun _ => rfl
  one := fun x u hu => by
    simp only [List.mem_cons, List.not_mem_nil, or_false] at hu
    rcases hu with rfl | rfl <;> rfl
  und := Tryz.underlying40
  info := by kernel_rfl
  zs := rfl
theorem row_spans {w : World} {A : Option Addr} {l : List (Int × Int)} (h : RowE ESp w A l) : Co.Spans w A l := fun i p hp => by
  obtain ⟨g, off, rfl, hc⟩ := h i p hp
  exact ⟨g, off, rfl, hc 0 _ rfl, hc 1 _ rfl⟩
theorem spans_row {w : World} {A : Option Addr} {l : List (Int × Int)} (h : Co.Spans w A l) : RowE ESp w A l := fun i p hp => by
  obtain ⟨g, off, rfl, h0, h1⟩ := h i p hp
  refine ⟨g, off, rfl, fun j u hu => ?_⟩
  match j, hu with
  | 0, hu => obtain rfl : _ = u := by simpa [ESp] using hu
             exact h0
  | 1, hu => obtain rfl : _ = u := by simpa [ESp] using hu
             exact h1
  | j + 2, hu => simp [ESp] at hu
/-- The cover of the times of some spans. -/
noncomputable def covL (l : List (Int × Int)) : List (Int × Int) := open Classical in if h : ∃ m, Co.CovOf m (Co.Mem l) then Classical.choose h else []
theorem covL_of {l m : List (Int × Int)} (h : Co.CovOf m (Co.Mem l)) : covL l = m := by
  have hx : ∃ m, Co.CovOf m (Co.Mem l) := ⟨m, h⟩
  rw [covL, dif_pos hx]
  exact (Classical.choose_spec hx).eq h fun _ => Iff.rfl
theorem covL_nil : covL [] = [] := covL_of ⟨Co.Cov.nil, fun _ => Iff.rfl⟩
theorem covL_ext {l m : List (Int × Int)} (h : ∀ p, p ∈ l ↔ p ∈ m) : covL l = covL m := by
  have e : Co.Mem l = Co.Mem m := by
    funext x
    unfold Co.Mem
    simp only [h]
  unfold covL
  rw [e]
theorem pmake_cov (w : World) (v : Value) (l : List (Int × Int)) (hl : ListE ESp w v l) (hn : l.length ≤ 1000000) :
    Calls Tryz.prog 47 #[v] w fun e w' => ∃ x, e = .returned x ∧ ListE ESp w' x (covL l) ∧ Co.CovOf (covL l) (Co.Mem l) ∧ (covL l).length ≤ l.length ∧ Below w.heap.size w w' := by
  obtain ⟨A, c, rfl, hr, hc, hnc⟩ := hl
  refine (Co.make_any w A c l (row_spans hr) hn).mono ?_
  rintro e w1 ⟨A1, c1, m, rfl, hsp, hcov, hm, hb, h1, h2⟩
  have he := covL_of hcov
  subst he
  exact ⟨_, rfl, ⟨A1, c1, rfl, spans_row hsp, h1, h2⟩, hcov, hm, hb⟩
theorem dmake_cov (w : World) (v : Value) (l : List (Int × Int)) (hl : ListE ESp w v l) (hn : l.length ≤ 400) :
    Calls Tryz.prog 48 #[v] w fun e w' => ∃ x, e = .returned x ∧ ListE ESp w' x (covL l) ∧ Co.CovOf (covL l) (Co.Mem l) ∧ (covL l).length ≤ 1000 ∧ Below w.heap.size w w' := by
  obtain ⟨A, c, rfl, hr, hc, hnc⟩ := hl
  refine (Co.dmakec_any w A c l (row_spans hr) hnc hn).mono ?_
  rintro e w1 ⟨A1, c1, m, rfl, hsp, hcov, hm, hb, h1, h2⟩
  have he := covL_of hcov
  subst he
  exact ⟨_, rfl, ⟨A1, c1, rfl, spans_row hsp, h1, h2⟩, hcov, hm, hb⟩
theorem dsames_any (w : World) (u v : Value) (l m : List (Int × Int)) (hl : ListE ESp w u l) (hm : ListE ESp w v m) (hn : l.length ≤ 9223372036854775807) :
    Ret 20 #[u, v] w (.bool (decide (l = m))) := by
  obtain ⟨A, c, rfl, hr, _, _⟩ := hl
  obtain ⟨B, d, rfl, hr2, _, _⟩ := hm
  exact Co.same_any w A B c d l m (row_spans hr) (row_spans hr2) hn
end Go.Proofs.YtaoobliajgcdmaaGreat

/-
  The document's Few, Spans and Known of pieces.
-/
namespace Go.Proofs.YtaoobliajgcdmaaGreat
open Go.RowKit

/-- Are there at most so many pieces, of at most 20 fields? -/
def fewP (l : List Pc) (m : Int) : Bool := decide ((l.length : Int) ≤ m) && l.all fun v => decide (v.fs.length ≤ 20)
set_option maxHeartbeats 2000000 in
theorem dtfew_any (w : World) (u : Value) (l : List Pc) (m : Int) (hl : ListE EP w u l) (hn : l.length ≤ 9223372036854775807) : Same 15 #[u, .int .i64 m] w (.bool (fewP l m)) := by
  obtain ⟨A, c, rfl, hA, hc, hnc⟩ := hl
  have HA := Lib.hid hA
  obtain ⟨n, hnm⟩ : ∃ n, l.length = n := ⟨_, rfl⟩
  have HFB := Lib.hid (show fewP l m = (decide ((n : Int) ≤ m) && l.all fun v => decide (v.fs.length ≤ 20)) by rw [← hnm]; rfl)
  rw [hnm] at hn ⊢
  have HN := Lib.hid hnm
  clear hA hc hnc hnm
  generalize fewP l m = R at *
  by_cases hm : m < (n : Int)
  · have HE := Lib.hid (show R = false by rw [HFB.out, decide_eq_false (by omega)]; rfl)
    go_enter Tryz.func15, Tryz.ntmps15
    go_wp2_with fail
    go_ret
    exact ⟨ret_bool HE.out.symm, rfl⟩
  · have HE := Lib.hid (show R = l.all fun v => decide (v.fs.length ≤ 20) by rw [HFB.out, decide_eq_true (by omega)]; rfl)
    go_enter Tryz.func15, Tryz.ntmps15
    go_wp2_with fail
    go_loopw [5] (fun i wr => ∃ k : Nat, k ≤ n ∧ i = .int .i64 k ∧ R = (l.drop k).all (fun v => decide (v.fs.length ≤ 20)) ∧ wr = w) (fun i _ => n - (intOf i).toNat)
    case atStart => exact ⟨0, Nat.zero_le _, rfl, HE.out, rfl⟩
    case round =>
      obtain ⟨k, hk, rfl, hg, hwr⟩ := hrel
      obtain rfl := hwr.symm
      by_cases hlt : k < n
      · have hlt' : (k : Int) < (n : Int) := by omega
        obtain ⟨v, hx⟩ : ∃ v, l[k]? = some v := ⟨_, List.getElem?_eq_getElem (by have := HN.out; omega)⟩
        obtain ⟨g, off, rfl, hX⟩ := HA.out.cells3 hx
        have z5 := hX.2.2
        rw [drop_consL hx, List.all_cons] at hg
        clear hX hx
        by_cases h20 : 20 < v.fs.length
        · have h20' : (20 : Int) < (v.fs.length : Int) := by omega
          have NX := Lib.hid (show R = false by rw [hg, decide_eq_false (by omega)]; rfl)
          clear hg
          generalize v.fs.length = q at *
          go_wp2_with fail
          go_ret
          exact ⟨ret_bool NX.out.symm, rfl⟩
        · have h20' : ¬ (20 : Int) < (v.fs.length : Int) := by omega
          have NX := Lib.hid (show R = (l.drop (k + 1)).all (fun v => decide (v.fs.length ≤ 20)) by rw [hg, decide_eq_true (by omega)]; rfl)
          clear hg
          generalize v.fs.length = q at *
          go_wp2_with fail
          exact ⟨⟨k + 1, by omega, by go_num, NX.out, trivial⟩, by simp [intOf] <;> omega⟩
      · obtain rfl : k = n := by omega
        have hlt' : ¬ (k : Int) < (k : Int) := by omega
        rw [List.drop_of_length_le (by have := HN.out; omega)] at hg
        have NX := Lib.hid (show R = true from hg)
        clear hg
        go_wp2_with fail
        go_ret
        exact ⟨ret_bool NX.out.symm, rfl⟩

theorem few_pieces {l : List Pc} {m : Int} (h : fewP l m = true) : (l.length : Int) ≤ m ∧ ∀ p ∈ l, p.fs.length ≤ 20 := by
  unfold fewP at h
  rw [Bool.and_eq_true, decide_eq_true_eq, List.all_eq_true] at h
  exact ⟨h.1, fun p hp => by have := h.2 p hp; rwa [decide_eq_true_eq] at this⟩

set_option maxHeartbeats 4000000 in
set_option maxRecDepth 10000 in
theorem dspans_any (w : World) (u : Value) (l : List Pc) (hl : PcsL w u l) (hn : l.length ≤ 100000) : Calls Tryz.prog 49 #[u] w fun e w' => ∃ x, e = .returned x ∧ OE ESp w (l.map spanP) x w' := by
  obtain ⟨⟨A, c, rfl, hA, hc, hnc⟩, hPF⟩ := hl
  have HA := Lib.hid hA
  obtain ⟨n, hnm⟩ : ∃ n, l.length = n := ⟨_, rfl⟩
  rw [hnm] at hn hc ⊢
  have HN := Lib.hid hnm
  clear hA hc hnc hPF hnm
  go_enter Tryz.func49, Tryz.ntmps49
  go_wp2_with fail
  go_loopw [3, 4] (fun o i wr => ∃ (t : Nat) (vs : List (Int × Int)), t ≤ n ∧ i = .int .i64 (t : Nat) ∧ vs = (l.take t).map spanP ∧ OE ESp w vs o wr) (fun _ i _ => n - (intOf i).toNat)
  case atStart => exact ⟨0, [], Nat.zero_le _, rfl, rfl, OE.nil w⟩
  case round =>
    obtain ⟨t, vs, ht, rfl, hvs, hO⟩ := hrel
    have HO := Lib.hid hO
    by_cases hlt : t < n
    · have hlt' : (t : Int) < (n : Int) := by omega
      obtain ⟨p, hx⟩ : ∃ p, l[t]? = some p := ⟨_, List.getElem?_eq_getElem (by have := HN.out; omega)⟩
      obtain ⟨g, off, rfl, hX⟩ := (HA.out.below HO.out.bel).cells3 hx
      have NX := Lib.hid (show vs ++ [(p.f, p.t)] = (l.take (t + 1)).map spanP by rw [List.take_add_one, hx, Option.toList_some, List.map_append, hvs]; rfl)
      have HLEN := Lib.hid (show vs.length ≤ 100000 by rw [hvs, List.length_map, List.length_take]; omega)
      obtain ⟨z0, z1, z2⟩ := hX
      clear hvs hO hx
      go_wp2_with (first
        | (at_builtin; refine wpList_appE (E := ESp) (xs := [(p.f, p.t)]) rfl (.tmp 11) (.tmp 17) rfl rfl (base := w.heap.size) rfl (World.ownsRow.alloc HO.out.own _) rfl rfl (by have hrow := rowE_one (E := ESp) wr (p.f, p.t) #[.int .i64 p.f, .int .i64 p.t] rfl 23; first | exact hrow | (simp at hrow ⊢; exact hrow)) (fun h => by cases h) (by have := HLEN.out; simp; omega) (by have := HO.out.bel.size; simp; omega) ?_; intro v' w3 hown3 hg3; have HN3 := Lib.hid ((HO.out.below ((bl wr).alloc (Nat.le_refl _) _)).grown hg3 hown3); clear hown3 hg3)
        | go_in)
      exact ⟨⟨t + 1, vs ++ [(p.f, p.t)], by omega, by go_num, NX.out, HN3.out⟩, by simp [intOf] <;> omega⟩
    · obtain rfl : t = n := by omega
      have hlt' : ¬ (t : Int) < (t : Int) := by omega
      have NX := Lib.hid (show vs = l.map spanP by rw [hvs, List.take_of_length_le (by have := HN.out; omega)])
      clear hvs hO
      go_wp2_with fail
      go_ret
      exact ⟨_, rfl, by rw [← NX.out]; exact HO.out⟩

set_option maxHeartbeats 4000000 in
set_option maxRecDepth 10000 in
theorem dknown_any (w : World) (u : Value) (l : List Pc) (hl : PcsL w u l) (hn : l.length ≤ 400) : Calls Tryz.prog 22 #[u] w fun e w' => ∃ x, e = .returned x ∧ ListE ESp w' x (covL (l.map spanP)) ∧ (covL (l.map spanP)).length ≤ 1000 ∧ Below w.heap.size w w' := by
  have CS := Lib.hid (dspans_any w u l hl (by omega))
  have HN := Lib.hid (show (l.map spanP).length ≤ 400 by rw [List.length_map]; exact hn)
  clear hl hn
  go_enter Tryz.func22, Tryz.ntmps22
  go_wp2_with (first
    | (go_at_call 49; (with_reducible refine CS.out.mono ?_); rintro e w2 ⟨x2, rfl, hO2⟩)
    | (go_at_call 48; (with_reducible refine (dmake_cov _ _ _ hO2.list HN.out).mono ?_); rintro e w3 ⟨x3, rfl, hl3, _, hz3, hb3⟩))
  go_ret
  exact ⟨_, rfl, hl3, hz3, chain hO2.bel hb3⟩

end Go.Proofs.YtaoobliajgcdmaaGreat
