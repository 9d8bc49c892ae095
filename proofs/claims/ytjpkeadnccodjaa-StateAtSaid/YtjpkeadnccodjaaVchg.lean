/-
  The document's Changed; texts compared; few versions.
-/
import Derived.Test.YtjpkeadnccodjaaVset
namespace Go.Proofs.Ytjpkeadnccodjaa
open Go.RowKit

set_option maxHeartbeats 4000000 in
set_option maxRecDepth 10000 in
theorem dchanged_any (w : World) (ua ub : Value) (a b : List Fd) (ha : ListF w ua a) (hb : ListF w ub b) (hn : a.length ≤ 1000) (hm : b.length ≤ 1000) :
    Calls Try.prog 22 #[ua, ub] w fun e w' => ∃ x, e = .returned x ∧ ListE ES w' x (chgL a b) ∧ Below w.heap.size w w' := by
  have HA := Lib.hid ha
  have HB := Lib.hid hb
  obtain ⟨A, c, rfl, hA, hc, hnc⟩ := ha
  obtain ⟨B, d, rfl, hB, hd, hnd⟩ := hb
  have CO0 := dover_any (w.alloc (.cells #[.slice A a.length c, .slice B b.length d] 29)) (some ⟨w.heap.size, 0, none⟩) 2 [a, b] (rows_two HA.out HB.out) (by simp; omega) (by simp) (fun l hl => by
    rcases List.mem_cons.1 hl with rfl | hl
    · omega
    · obtain rfl : l = b := by simpa using hl
      omega)
  rw [show ([a, b] : List (List Fd)).flatten = a ++ b by simp] at CO0
  have CO := Lib.hid (show Calls Try.prog 29 #[.slice (some ⟨w.heap.size, 0, none⟩) 2 2] (w.alloc (.cells #[.slice A a.length c, .slice B b.length d] 29)) fun e w' => ∃ v, e = .returned v ∧ ListF w' v (overL (a ++ b)) ∧ Below w.heap.size w w' from
    CO0.mono fun e w' ⟨v, he, hv, hb⟩ => ⟨v, he, hv, ((bl w).alloc (Nat.le_refl _) _).trans (hb.mono (by simp))⟩)
  obtain ⟨O, hO⟩ : ∃ O, overL (a ++ b) = O := ⟨_, rfl⟩
  have hOn : O.length ≤ 2000 := by rw [← hO]; have := overL_length (a ++ b); rw [List.length_append] at this; omega
  have HCH := Lib.hid (show chgL a b = (O.map Fd.n).filter fun s => differB a b s by unfold chgL; rw [hO])
  rw [hO] at CO
  have CG1 := Lib.hid (fun w' s (h : Below w.heap.size w w') => dget_any w' A c a s (hA.below h) (by omega))
  have CG2 := Lib.hid (fun w' s (h : Below w.heap.size w w') => dget_any w' B d b s (hB.below h) (by omega))
  have HDF := Lib.hid (fun s => show differB a b s = (decide ((getL a s).getD 0 ≠ (getL b s).getD 0) || ((getL a s).isSome != (getL b s).isSome)) from rfl)
  clear CO0 hA hc hnc hB hd hnd HA HB hO hn hm
  generalize a.length = na at *
  generalize b.length = nb at *
  go_enter Try.func22, Try.ntmps22
  go_wp2_with (go_at_call 29; (with_reducible refine CO.out.mono ?_); rintro e w1 ⟨x1, rfl, ⟨A1, c1, rfl, hr1, hc1, hn1⟩, hb1⟩; have HR1 := Lib.hid hr1; have HB1 := Lib.hid hb1; clear hr1 hc1 hn1 hb1)
  obtain ⟨n, hnm⟩ : ∃ n, O.length = n := ⟨_, rfl⟩
  rw [hnm] at hOn ⊢
  have HN := Lib.hid hnm
  clear hnm
  go_loopw [6, 7] (fun o i wr => ∃ t vs, t ≤ n ∧ i = .int .i64 (t : Nat) ∧ vs = ((O.take t).map Fd.n).filter (fun s => differB a b s) ∧ OE ES w1 vs o wr) (fun _ i _ => n - (intOf i).toNat)
  case atStart => exact ⟨0, [], Nat.zero_le _, rfl, rfl, OE.nil w1⟩
  case round =>
    obtain ⟨t, vs, ht, rfl, hvs, hO⟩ := hrel
    have HVS := Lib.hid hvs
    have HO2 := Lib.hid hO
    have hlen : vs.length ≤ 2000 := by
      rw [hvs]
      have := List.length_filter_le (fun s => differB a b s) ((O.take t).map Fd.n)
      rw [List.length_map, List.length_take] at this
      omega
    clear hvs hO
    by_cases hlt : t < n
    · have hlt' : (t : Int) < (n : Int) := by omega
      obtain ⟨f, hf⟩ : ∃ f, O[t]? = some f := ⟨_, List.getElem?_eq_getElem (by have := HN.out; omega)⟩
      obtain ⟨g, off, rfl, c0, c1'⟩ := (HR1.out.below HO2.out.bel) t f hf
      have G1 := Lib.hid (CG1.out wr f.n (chain HB1.out HO2.out.bel))
      have G2 := Lib.hid (CG2.out wr f.n (chain HB1.out HO2.out.bel))
      have HLEN := Lib.hid hlen
      have DF := HDF.out f.n
      have NXT := Lib.hid (fun h : differB a b f.n = true => show vs ++ [f.n] = ((O.take (t + 1)).map Fd.n).filter (fun s => differB a b s) by
        rw [List.take_add_one, hf, Option.toList_some, List.map_append, List.filter_append, HVS.out]; simp [h])
      have NXF := Lib.hid (fun h : differB a b f.n = false => show vs = ((O.take (t + 1)).map Fd.n).filter (fun s => differB a b s) by
        rw [List.take_add_one, hf, Option.toList_some, List.map_append, List.filter_append, HVS.out]; simp [h])
      clear hf hlen
      generalize differB a b f.n = D at *
      generalize (getL a f.n).getD 0 = p at *
      generalize (getL b f.n).getD 0 = q at *
      generalize (getL a f.n).isSome = is at *
      generalize (getL b f.n).isSome = ok at *
      by_cases hpq : p = q
      · subst hpq
        have hne : (p != p) = false := by simp
        cases is <;> cases ok
        · have NX := Lib.hid (NXF.out (by rw [DF]; simp))
          clear DF
          go_wp2_with (first
            | (go_at_call 23; (with_reducible refine G1.out.mono ?_); rintro e w2 ⟨rfl, rfl⟩)
            | (go_at_call 23; (with_reducible refine G2.out.mono ?_); rintro e w2 ⟨rfl, rfl⟩))
          exact ⟨⟨t + 1, vs, by omega, by go_num, NX.out, HO2.out⟩, by simp [intOf] <;> omega⟩
        · have NX := Lib.hid (NXT.out (by rw [DF]; simp))
          clear DF
          go_wp2_with (first
            | (go_at_call 23; (with_reducible refine G1.out.mono ?_); rintro e w2 ⟨rfl, rfl⟩)
            | (go_at_call 23; (with_reducible refine G2.out.mono ?_); rintro e w2 ⟨rfl, rfl⟩)
            | (at_builtin; refine wpList_appE (E := ES) rfl (.tmp 50) (.tmp 56) rfl rfl (base := w1.heap.size) rfl (World.ownsRow.alloc HO2.out.own _) rfl rfl (rowE_one _ f.n _ rfl _) (by simp) (by have := HLEN.out; simp; omega) (by have := HO2.out.bel.size; simp; omega) ?_; intro v2 w4 hown4 hg4; have HO4 := Lib.hid ((HO2.out.below ((bl _).alloc (Nat.le_refl _) _)).grown hg4 hown4)))
          exact ⟨⟨t + 1, _, by omega, by go_num, NX.out, HO4.out⟩, by simp [intOf] <;> omega⟩
        · have NX := Lib.hid (NXT.out (by rw [DF]; simp))
          clear DF
          go_wp2_with (first
            | (go_at_call 23; (with_reducible refine G1.out.mono ?_); rintro e w2 ⟨rfl, rfl⟩)
            | (go_at_call 23; (with_reducible refine G2.out.mono ?_); rintro e w2 ⟨rfl, rfl⟩)
            | (at_builtin; refine wpList_appE (E := ES) rfl (.tmp 50) (.tmp 56) rfl rfl (base := w1.heap.size) rfl (World.ownsRow.alloc HO2.out.own _) rfl rfl (rowE_one _ f.n _ rfl _) (by simp) (by have := HLEN.out; simp; omega) (by have := HO2.out.bel.size; simp; omega) ?_; intro v2 w4 hown4 hg4; have HO4 := Lib.hid ((HO2.out.below ((bl _).alloc (Nat.le_refl _) _)).grown hg4 hown4)))
          exact ⟨⟨t + 1, _, by omega, by go_num, NX.out, HO4.out⟩, by simp [intOf] <;> omega⟩
        · have NX := Lib.hid (NXF.out (by rw [DF]; simp))
          clear DF
          go_wp2_with (first
            | (go_at_call 23; (with_reducible refine G1.out.mono ?_); rintro e w2 ⟨rfl, rfl⟩)
            | (go_at_call 23; (with_reducible refine G2.out.mono ?_); rintro e w2 ⟨rfl, rfl⟩))
          exact ⟨⟨t + 1, vs, by omega, by go_num, NX.out, HO2.out⟩, by simp [intOf] <;> omega⟩
      · have hne : (p != q) = true := by rw [bne_iff_ne]; exact hpq
        have NX := Lib.hid (NXT.out (by rw [DF]; simp [hpq]))
        clear DF
        go_wp2_with (first
          | (go_at_call 23; (with_reducible refine G1.out.mono ?_); rintro e w2 ⟨rfl, rfl⟩)
          | (go_at_call 23; (with_reducible refine G2.out.mono ?_); rintro e w2 ⟨rfl, rfl⟩)
          | (at_builtin; refine wpList_appE (E := ES) rfl (.tmp 50) (.tmp 56) rfl rfl (base := w1.heap.size) rfl (World.ownsRow.alloc HO2.out.own _) rfl rfl (rowE_one _ f.n _ rfl _) (by simp) (by have := HLEN.out; simp; omega) (by have := HO2.out.bel.size; simp; omega) ?_; intro v2 w4 hown4 hg4; have HO4 := Lib.hid ((HO2.out.below ((bl _).alloc (Nat.le_refl _) _)).grown hg4 hown4)))
        exact ⟨⟨t + 1, _, by omega, by go_num, NX.out, HO4.out⟩, by simp [intOf] <;> omega⟩
    · obtain rfl : t = n := by omega
      have hlt' : ¬ (t : Int) < (t : Int) := by omega
      have HE := Lib.hid (show vs = chgL a b by rw [HCH.out, HVS.out, List.take_of_length_le (by have := HN.out; omega)])
      clear hlen
      go_wp2_with fail
      go_ret
      exact ⟨_, rfl, by rw [← HE.out]; exact HO2.out.list, chain HB1.out HO2.out.bel⟩

/-- Are two lists of texts one? -/
def textsB : List ByteArray → List ByteArray → Bool
  | [], [] => true
  | a :: l, b :: m => decide (a.toList = b.toList) && textsB l m
  | _, _ => false
theorem textsB_self : ∀ l : List ByteArray, textsB l l = true
  | [] => rfl
  | a :: l => by rw [textsB, textsB_self l]; simp
theorem textsB_len : ∀ a b : List ByteArray, a.length ≠ b.length → textsB a b = false
  | [], [], h => absurd rfl h
  | [], _ :: _, _ => rfl
  | _ :: _, [], _ => rfl
  | f :: a, g :: b, h => by rw [textsB, textsB_len a b (fun e => h (by rw [List.length_cons, List.length_cons, e])), Bool.and_false]
theorem text_at {w : World} {A : Option Addr} {l : List ByteArray} (h : RowE ES w A l) {k : Nat} {x : ByteArray} (hx : l[k]? = some x) : ∃ g off, A = some ⟨g, off, none⟩ ∧ w.cell? ⟨g, off + k, none⟩ = some (.string x) := by
  obtain ⟨g, off, rfl, hc⟩ := h k x hx
  have e1 : ES.sz = 1 := rfl
  have := hc 0 _ rfl
  rw [e1, Nat.mul_one, Nat.add_zero] at this
  exact ⟨g, off, rfl, this⟩

set_option maxHeartbeats 2000000 in
theorem dtexts_any (w : World) (ua ub : Value) (a b : List ByteArray) (ha : ListE ES w ua a) (hb : ListE ES w ub b) (hn : a.length ≤ 100000) (hm : b.length ≤ 100000) :
    Ret 21 #[ua, ub] w (.bool (textsB a b)) := by
  obtain ⟨A, c, rfl, hA, _, _⟩ := ha
  obtain ⟨B, d, rfl, hB, _, _⟩ := hb
  by_cases hnm : a.length ≠ b.length
  · have HS := Lib.hid (textsB_len a b hnm)
    have hne : ((a.length : Int) != (b.length : Int)) = true := by rw [bne_iff_ne]; omega
    clear hA hB
    generalize a.length = n at *
    generalize b.length = m at *
    go_enter Try.func21, Try.ntmps21
    go_wp2_with fail
    go_ret
    exact ⟨ret_bool HS.out.symm, bl w⟩
  · obtain ⟨n, hn1⟩ : ∃ n, a.length = n := ⟨_, rfl⟩
    have hn2 : b.length = n := by omega
    obtain ⟨t, ht⟩ : ∃ t, textsB a b = t := ⟨_, rfl⟩
    have HT := Lib.hid ht
    rw [hn1] at hn ⊢
    rw [hn2, ht]
    have HA := Lib.hid hA
    have HB := Lib.hid hB
    have HN1 := Lib.hid hn1
    have HN2 := Lib.hid hn2
    clear hA hB hn1 hn2 hnm hm ht
    go_enter Try.func21, Try.ntmps21
    go_wp2_with fail
    go_loopw [5] (fun i wr => ∃ k : Nat, k ≤ n ∧ i = .int .i64 k ∧ t = textsB (a.drop k) (b.drop k) ∧ Below w.heap.size w wr) (fun i _ => n - (intOf i).toNat)
    case atStart => exact ⟨0, Nat.zero_le _, rfl, HT.out.symm, bl w⟩
    case round =>
      obtain ⟨k, hk, rfl, hg, hW⟩ := hrel
      have HW := Lib.hid hW
      clear hW
      by_cases hlt : k < n
      · have hlt' : (k : Int) < (n : Int) := by omega
        obtain ⟨f, hf⟩ : ∃ f, a[k]? = some f := ⟨_, List.getElem?_eq_getElem (by have := HN1.out; omega)⟩
        obtain ⟨g, hgg⟩ : ∃ g, b[k]? = some g := ⟨_, List.getElem?_eq_getElem (by have := HN2.out; omega)⟩
        obtain ⟨g1, off, rfl, c0⟩ := text_at (HA.out.below HW.out) hf
        obtain ⟨g2, off', rfl, d0⟩ := text_at (HB.out.below HW.out) hgg
        rw [drop_consL hf, drop_consL hgg, textsB] at hg
        by_cases h : f.toList = g.toList
        · rw [decide_eq_true h] at hg
          have HG := Lib.hid (show t = textsB (a.drop (k + 1)) (b.drop (k + 1)) by rw [hg, Bool.true_and])
          have he : (f.toList == g.toList) = true := by rw [beq_iff_eq]; exact h
          clear hg hf hgg h
          go_wp2_with fail
          go_quiet (fail)
          go_wp2_with fail
          exact ⟨⟨k + 1, by omega, by go_num, HG.out, belowN HW.out _⟩, by simp [intOf] <;> omega⟩
        · rw [decide_eq_false h] at hg
          have HG := Lib.hid (show t = false by rw [hg, Bool.false_and])
          have he : (f.toList == g.toList) = false := by rw [beq_eq_false_iff_ne]; exact h
          clear hg hf hgg h
          go_wp2_with fail
          go_quiet (fail)
          go_wp2_with fail
          go_ret
          exact ⟨ret_bool HG.out.symm, belowN HW.out _⟩
      · obtain rfl : k = n := by omega
        have hlt' : ¬ (k : Int) < (k : Int) := by omega
        rw [List.drop_of_length_le (by have := HN1.out; omega), List.drop_of_length_le (by have := HN2.out; omega)] at hg
        have HG := Lib.hid (show t = true from hg)
        clear hg
        go_wp2_with fail
        go_ret
        exact ⟨ret_bool HG.out.symm, HW.out⟩

/-- Are there at most so many versions, of at most 20 fields? -/
def fewB (l : List Vr) (m : Int) : Bool := decide ((l.length : Int) ≤ m) && l.all fun v => decide (v.fs.length ≤ 20)
theorem few_of {l : List Vr} {m : Int} (h : fewB l m = true) (hm : m ≤ 200) : fewV l := by
  unfold fewB at h
  rw [Bool.and_eq_true, decide_eq_true_eq, List.all_eq_true] at h
  refine ⟨by omega, fun v hv => ?_⟩
  have := h.2 v hv
  rw [decide_eq_true_eq] at this
  omega

set_option maxHeartbeats 2000000 in
theorem dfew_any (w : World) (u : Value) (l : List Vr) (m : Int) (hl : ListE EV w u l) (hn : l.length ≤ 9223372036854775807) : Same 8 #[u, .int .i64 m] w (.bool (fewB l m)) := by
  obtain ⟨A, c, rfl, hA, hc, hnc⟩ := hl
  have HA := Lib.hid hA
  obtain ⟨n, hnm⟩ : ∃ n, l.length = n := ⟨_, rfl⟩
  have HFB := Lib.hid (show fewB l m = (decide ((n : Int) ≤ m) && l.all fun v => decide (v.fs.length ≤ 20)) by rw [← hnm]; rfl)
  rw [hnm] at hn ⊢
  have HN := Lib.hid hnm
  clear hA hc hnc hnm
  generalize fewB l m = R at *
  by_cases hm : m < (n : Int)
  · have HE := Lib.hid (show R = false by rw [HFB.out, decide_eq_false (by omega)]; rfl)
    go_enter Try.func8, Try.ntmps8
    go_wp2_with fail
    go_ret
    exact ⟨ret_bool HE.out.symm, rfl⟩
  · have HE := Lib.hid (show R = l.all fun v => decide (v.fs.length ≤ 20) by rw [HFB.out, decide_eq_true (by omega)]; rfl)
    go_enter Try.func8, Try.ntmps8
    go_wp2_with fail
    go_loopw [5] (fun i wr => ∃ k : Nat, k ≤ n ∧ i = .int .i64 k ∧ R = (l.drop k).all (fun v => decide (v.fs.length ≤ 20)) ∧ wr = w) (fun i _ => n - (intOf i).toNat)
    case atStart => exact ⟨0, Nat.zero_le _, rfl, HE.out, rfl⟩
    case round =>
      obtain ⟨k, hk, rfl, hg, hwr⟩ := hrel
      obtain rfl := hwr.symm
      by_cases hlt : k < n
      · have hlt' : (k : Int) < (n : Int) := by omega
        obtain ⟨v, hx⟩ : ∃ v, l[k]? = some v := ⟨_, List.getElem?_eq_getElem (by have := HN.out; omega)⟩
        obtain ⟨g, off, rfl, hX⟩ := HA.out.cells7 hx
        have z5 := hX.2.2.2.2.2.1
        rw [drop_consL hx, List.all_cons] at hg
        clear hX hx
        by_cases h20 : 20 < v.fs.length
        · have h20' : (20 : Int) < (v.fs.length : Int) := by omega
          have NX := Lib.hid (show R = false by rw [hg, decide_eq_false (by omega)]; rfl)
          clear hg
          generalize v.fs.length = q at *
          go_wp2_with fail
          go_ret
          exact ⟨ret_bool NX.out.symm, rfl⟩
        · have h20' : ¬ (20 : Int) < (v.fs.length : Int) := by omega
          have NX := Lib.hid (show R = (l.drop (k + 1)).all (fun v => decide (v.fs.length ≤ 20)) by rw [hg, decide_eq_true (by omega)]; rfl)
          clear hg
          generalize v.fs.length = q at *
          go_wp2_with fail
          exact ⟨⟨k + 1, by omega, by go_num, NX.out, trivial⟩, by simp [intOf] <;> omega⟩
      · obtain rfl : k = n := by omega
        have hlt' : ¬ (k : Int) < (k : Int) := by omega
        rw [List.drop_of_length_le (by have := HN.out; omega)] at hg
        have NX := Lib.hid (show R = true from hg)
        clear hg
        go_wp2_with fail
        go_ret
        exact ⟨ret_bool NX.out.symm, rfl⟩

end Go.Proofs.Ytjpkeadnccodjaa
