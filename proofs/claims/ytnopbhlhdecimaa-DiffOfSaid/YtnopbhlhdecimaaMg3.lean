/-
  Texts joined into one: what the program's and the document's calls give back, piece by piece.
-/
import Derived.Test.YtnopbhlhdecimaaMg1
import Derived.Test.YtnopbhlhdecimaaMg2
import Derived.Test.YtnopbhlhdecimaaRows
import Derived.BigQuiet
import Derived.ChangeAlike
import Derived.ChangeKeysEq
import Derived.Deep.AppendLies
import Derived.Deep.CutBlock
import Derived.Deep.CutRange
import Derived.Deep.Light
import Derived.Deep.QuietTactic
import Derived.Deep.RegionHeld3
import Derived.Deep.RegionLaw
import Derived.Handy
import Derived.Laws.BytesArg
import Derived.Laws.OwnMore
import Derived.Laws.Strings
import Derived.Laws.StructEq
import Derived.Lib.Hide
import Derived.Maps.AppendAt
import Derived.OneCell
import Derived.OwnWalk
import Derived.RegionTactic
import Derived.StillTailTactics
import Derived.WalkArith
import Derived.WalkKit
import Derived.WalkLawsBesides
import Derived.WalkSpells
import Derived.Lib.SmallJoins
import Derived.ProofKit

/-
  The document's Right, At, Same, Few, Spans and Known of pieces.
-/
namespace Go.Proofs.Ytnopbhlhdecimaa
open Go.RowKit

def chainT : Pc → List Pc → Bool
  | _, [] => true
  | p, q :: l => rightP q.f q.t && linkB p q && chainT q l
theorem rightT_cons : ∀ (l : List Pc) (p : Pc), rightT (p :: l) = (rightP p.f p.t && chainT p l)
  | [], p => by rw [rightT, chainT, Bool.and_true]
  | q :: l, p => by
    rw [rightT, rightT_cons l q, chainT]
    cases rightP p.f p.t <;> cases linkB p q <;> cases rightP q.f q.t <;> rfl
/-- Is it a timeline, seen from a place on? -/
def goT (l : List Pc) : Nat → Bool
  | 0 => rightT l
  | k + 1 => match l[k]? with
    | some p => chainT p (l.drop (k + 1))
    | none => true
theorem goT_zero {l : List Pc} {p : Pc} (h : l[0]? = some p) : goT l 0 = (rightP p.f p.t && goT l 1) := by
  cases l with
  | nil => simp at h
  | cons q l =>
    obtain rfl : q = p := by simpa using h
    exact rightT_cons l q
theorem goT_succ {l : List Pc} {k : Nat} {p q : Pc} (hp : l[k]? = some p) (hq : l[k + 1]? = some q) : goT l (k + 1) = (rightP q.f q.t && linkB p q && goT l (k + 2)) := by
  simp only [goT, hp, hq]
  rw [drop_consL hq, chainT]
theorem goT_end (l : List Pc) : goT l l.length = true := by
  cases l with
  | nil => rfl
  | cons p l =>
    show goT (p :: l) (l.length + 1) = true
    rw [goT, List.drop_of_length_le (by simp)]
    cases (p :: l)[l.length]? <;> rfl
set_option maxRecDepth 100000 in
theorem run_neq_sp (a b c d : Int) (w : World) : (binOp .neq 42 (.agg #[.int .i64 a, .int .i64 b]) (.agg #[.int .i64 c, .int .i64 d])).run Try.prog w = .ok (.bool (!decide (a = c ∧ b = d))) w := by
  rw [run_neq_struct, run_equalIn_struct w 9999 42 _ _ Try.underlying42 (by kernel_rfl)]
  have h3 := Try.underlying3
  have a3 : ∀ w, (isAgg 3).run Try.prog w = .ok false w := Try.isAgg3
  have c3 : Try.prog.cellsOf 3 = 1 := by kernel_rfl
  simp [Op.eqFields, Program.fieldsOf, Try.underlying42, part, a3, run_equalIn_int w 9998 _ .i64 .i64 _ _ h3]
  by_cases h1 : a = c
  · by_cases h2 : b = d <;> simp [h1, h2]
  · simp [h1]
theorem rightS_P (f t : Int) : rightS f t = rightP f t := by
  rw [Bool.eq_iff_iff]
  simp only [rightS, rightP, Bool.and_eq_true, decide_eq_true_eq]
theorem hasS_P (f t x : Int) : hasS f t x = inP f t x := rfl

set_option maxHeartbeats 4000000 in
set_option maxRecDepth 10000 in
theorem dtright_any (w : World) (u : Value) (l : List Pc) (hl : PcsL w u l) (hn : l.length ≤ 100000) (hfs : ∀ p ∈ l, p.fs.length ≤ 9223372036854775807) : Ret 19 #[u] w (.bool (rightT l)) := by
  obtain ⟨⟨A, c, rfl, hA, hc, hnc⟩, hPF⟩ := hl
  have HA := Lib.hid hA
  have HPF := Lib.hid hPF
  have HFS := Lib.hid hfs
  have HEND := Lib.hid (goT_end l)
  obtain ⟨n, hnm⟩ : ∃ n, l.length = n := ⟨_, rfl⟩
  obtain ⟨R, hR⟩ : ∃ R, rightT l = R := ⟨_, rfl⟩
  rw [hnm] at hn hc HEND ⊢
  rw [hR]
  have HN := Lib.hid hnm
  have HR := Lib.hid (show R = goT l 0 from hR.symm)
  clear hA hc hnc hPF hnm hR hfs
  go_enter Try.func19, Try.ntmps19
  go_wp2_with fail
  go_loopw [3] (fun i wr => ∃ k : Nat, k ≤ n ∧ i = .int .i64 k ∧ R = goT l k ∧ Below w.heap.size w wr) (fun i _ => n - (intOf i).toNat)
  case atStart => exact ⟨0, Nat.zero_le _, rfl, HR.out, bl w⟩
  case round =>
    obtain ⟨k, hk, rfl, hg, hW⟩ := hrel
    have HGK := Lib.hid hg
    have HW := Lib.hid hW
    clear hW hg
    by_cases hlt : k < n
    · have hlt' : (k : Int) < (n : Int) := by omega
      obtain ⟨q, hx⟩ : ∃ q, l[k]? = some q := ⟨_, List.getElem?_eq_getElem (by have := HN.out; omega)⟩
      obtain ⟨g, off, rfl, hX⟩ := (HA.out.below HW.out).cells3 hx
      have HV := Lib.hid hx
      have HX := Lib.hid hX
      have CR := Lib.hid (fun w => dright01_any q.f q.t w)
      obtain ⟨z0, z1, z2⟩ := hX
      clear hx
      rw [rightS_P] at CR
      cases hr : rightP q.f q.t with
      | false =>
        rw [hr] at CR
        have NX := Lib.hid (show R = false by
          rw [HGK.out]
          rcases Nat.eq_zero_or_pos k with rfl | hk0
          · rw [goT_zero HV.out, hr]; rfl
          · obtain ⟨j, rfl⟩ : ∃ j, k = j + 1 := ⟨k - 1, by omega⟩
            obtain ⟨p, hp⟩ : ∃ p, l[j]? = some p := ⟨_, List.getElem?_eq_getElem (by have := HN.out; omega)⟩
            rw [goT_succ hp HV.out, hr]; rfl)
        clear hr
        go_wp2_with (go_at_call 30; (with_reducible refine (CR.out _).mono ?_); rintro e w2 ⟨rfl, hb2⟩)
        go_ret
        exact ⟨ret_bool NX.out.symm, chain HW.out hb2⟩
      | true =>
        rw [hr] at CR
        have HRT := Lib.hid hr
        clear hr
        rcases Nat.eq_zero_or_pos k with hk0 | hk0
        · subst hk0
          have hX0 := HX.out
          rw [Nat.zero_mul, Nat.add_zero] at hX0
          clear z0 z1 z2
          have HX0 := Lib.hid hX0
          obtain ⟨z0, z1, z2⟩ := hX0
          have NX := Lib.hid (show R = goT l 1 by rw [HGK.out, goT_zero HV.out, HRT.out]; rfl)
          go_wp2_with (go_at_call 30; (with_reducible refine (CR.out _).mono ?_); rintro e w2 ⟨rfl, hb2⟩)
          go_quiet (fail)
          go_wp2_with fail
          exact ⟨⟨1, by omega, by go_num, NX.out, belowN (chain HW.out hb2) _⟩, by simp [intOf] <;> omega⟩
        · obtain ⟨j, hkj⟩ : ∃ j, k = j + 1 := ⟨k - 1, by omega⟩
          obtain ⟨p, hp⟩ : ∃ p, l[j]? = some p := ⟨_, List.getElem?_eq_getElem (by have := HN.out; omega)⟩
          obtain ⟨g', off', he, hP⟩ := (HA.out.below HW.out).cells3 hp
          injection he with he
          injection he with e1 e2 _
          subst e1 e2
          have HP := Lib.hid hp
          have HPP := Lib.hid hP
          have HG1 := Lib.hid (show R = (linkB p q && goT l (k + 1)) by
            have hV := HV.out
            rw [HGK.out, hkj]
            rw [hkj] at hV
            rw [goT_succ hp hV, HRT.out, Bool.true_and])
          have hkz : (0 : Int) < (k : Int) := by omega
          have hkz2 : 0 < k := hk0
          have hsub : IntKind.i64.wrap ((k : Int) - 1) = (j : Int) := by rw [IntWalk.i64_in _ (by omega)]; omega
          have hjn : (j : Int) < (n : Int) := by omega
          have hjn2 : j < n := by omega
          clear hp hP hkj
          by_cases h1 : q.f < p.t
          · have h1' : decide (q.f < p.t) = true := decide_eq_true h1
            have NX := Lib.hid (show R = false by
              have : linkB p q = false := by unfold linkB; rw [decide_eq_false (by omega), Bool.false_and]
              rw [HG1.out, this, Bool.false_and])
            go_wp2_with (go_at_call 30; (with_reducible refine (CR.out _).mono ?_); rintro e w2 ⟨rfl, hb2⟩; obtain ⟨x0, x1, x2⟩ := HX.out.below hb2; obtain ⟨y0, y1, y2⟩ := HPP.out.below hb2)
            go_quiet (fail)
            go_wp2_with fail
            go_ret
            exact ⟨ret_bool NX.out.symm, belowN (chain HW.out hb2) _⟩
          · have h1' : decide (q.f < p.t) = false := decide_eq_false h1
            by_cases h2 : p.t = q.f
            · have h2' : (p.t == q.f) = true := by simpa using h2
              have hsp : p.fs.length ≤ 9223372036854775807 := HFS.out p (List.mem_of_getElem? HP.out)
              have hsq : q.fs.length ≤ 9223372036854775807 := HFS.out q (List.mem_of_getElem? HV.out)
              have CO := Lib.hid (fun w' (h : Below wr.heap.size wr w') => dsamel_any w' (.slice p.fa p.fs.length p.fc) (.slice q.fa q.fs.length q.fc) p.fs q.fs (((HPF.out p (List.mem_of_getElem? HP.out)).below (chain HW.out h)).list) (((HPF.out q (List.mem_of_getElem? HV.out)).below (chain HW.out h)).list) hsp hsq)
              have HL := Lib.hid (show linkB p q = !sameF p.fs q.fs by unfold linkB; rw [decide_eq_true (by omega), decide_eq_false (by omega)]; rfl)
              generalize sameF p.fs q.fs = s at *
              cases s with
              | true =>
                have NX := Lib.hid (show R = false by rw [HG1.out, HL.out]; rfl)
                go_wp2_with (go_at_call 30; (with_reducible refine (CR.out _).mono ?_); rintro e w2 ⟨rfl, hb2⟩; have HB2 := Lib.hid hb2; have MK := Lib.hid (show ∀ w', Below w2.heap.size w2 w' → (Below w2.heap.size w2 w' ∧ Cells3 w' g (off + k * 3) q ∧ Cells3 w' g (off + j * 3) p) from fun w' h => ⟨h, HX.out.below (chain hb2 h), HPP.out.below (chain hb2 h)⟩); clear hb2)
                first
                  | (go_region_held3 (fun w' => Below w2.heap.size w2 w' ∧ Cells3 w' g (off + k * 3) q ∧ Cells3 w' g (off + j * 3) p)
                      (first | exact MK.out _ ((bl w2).drew) | exact MK.out _ hb1 | fail)
                      (first | (go_at_call 27; (refine (CO.out _ (chain HB2.out (by go_split_ands; assumption))).mono ?_); (rintro e w1 ⟨rfl, hb0⟩); (have hb1 := chain (by go_split_ands; assumption) hb0); clear hb0) | fail))
                  | fail
                go_wp2_with fail
                go_ret
                exact ⟨ret_bool NX.out.symm, chain (chain HW.out HB2.out) hb1⟩
              | false =>
                have NX := Lib.hid (show R = goT l (k + 1) by rw [HG1.out, HL.out]; rfl)
                go_wp2_with (go_at_call 30; (with_reducible refine (CR.out _).mono ?_); rintro e w2 ⟨rfl, hb2⟩; have HB2 := Lib.hid hb2; have MK := Lib.hid (show ∀ w', Below w2.heap.size w2 w' → (Below w2.heap.size w2 w' ∧ Cells3 w' g (off + k * 3) q ∧ Cells3 w' g (off + j * 3) p) from fun w' h => ⟨h, HX.out.below (chain hb2 h), HPP.out.below (chain hb2 h)⟩); clear hb2)
                first
                  | (go_region_held3 (fun w' => Below w2.heap.size w2 w' ∧ Cells3 w' g (off + k * 3) q ∧ Cells3 w' g (off + j * 3) p)
                      (first | exact MK.out _ ((bl w2).drew) | exact MK.out _ hb1 | fail)
                      (first | (go_at_call 27; (refine (CO.out _ (chain HB2.out (by go_split_ands; assumption))).mono ?_); (rintro e w1 ⟨rfl, hb0⟩); (have hb1 := chain (by go_split_ands; assumption) hb0); clear hb0) | fail))
                  | fail
                go_wp2_with fail
                exact ⟨⟨k + 1, by omega, by go_num, NX.out, chain (chain HW.out HB2.out) hb1⟩, by simp [intOf] <;> omega⟩
            · have h2' : (p.t == q.f) = false := by simpa using h2
              have NX := Lib.hid (show R = goT l (k + 1) by
                have : linkB p q = true := by unfold linkB; rw [decide_eq_true (by omega), decide_eq_true h2]; rfl
                rw [HG1.out, this, Bool.true_and])
              go_wp2_with (go_at_call 30; (with_reducible refine (CR.out _).mono ?_); rintro e w2 ⟨rfl, hb2⟩; obtain ⟨x0, x1, x2⟩ := HX.out.below hb2; obtain ⟨y0, y1, y2⟩ := HPP.out.below hb2)
              go_quiet (fail)
              go_wp2_with fail
              exact ⟨⟨k + 1, by omega, by go_num, NX.out, belowN (chain HW.out hb2) _⟩, by simp [intOf] <;> omega⟩
    · obtain rfl : k = n := by omega
      have hlt' : ¬ (k : Int) < (k : Int) := by omega
      have NX := Lib.hid (show R = true by rw [HGK.out, HEND.out])
      go_wp2_with fail
      go_ret
      exact ⟨ret_bool NX.out.symm, HW.out⟩

/-- Where the fields lie that a list has at a time. -/
def AtD (l : List Pc) (x : Int) (A : Option Addr) (c : Nat) : Prop := match valP l x with
  | some p => p ∈ l ∧ p.fa = A ∧ p.fc = c
  | none => A = none ∧ c = 0
theorem AtD.some {l : List Pc} {x : Int} {p : Pc} (h : valP l x = some p) : AtD l x p.fa p.fc := by
  unfold AtD
  rw [h]
  exact ⟨(valP_mem h).1, rfl, rfl⟩
theorem AtD.none {l : List Pc} {x : Int} (h : valP l x = none) : AtD l x none 0 := by
  unfold AtD
  rw [h]
  exact ⟨rfl, rfl⟩
theorem AtD.pf {w : World} {l : List Pc} {x : Int} {A : Option Addr} {c : Nat} (h : AtD l x A c) (hl : ∀ p ∈ l, PF w p) (f t : Int) : PF w ⟨f, t, A, c, firstF l x⟩ := by
  unfold AtD at h
  cases hv : valP l x with
  | none =>
    rw [hv] at h
    obtain ⟨rfl, rfl⟩ := h
    have e : firstF l x = [] := by rw [firstF, fsP, hv]; rfl
    rw [e]
    exact ⟨Fields.nil _ _, Nat.le_refl _, fun _ => rfl⟩
  | some p =>
    rw [hv] at h
    obtain ⟨hm, rfl, rfl⟩ := h
    have e : firstF l x = p.fs := by rw [firstF, fsP, hv]; rfl
    rw [e]
    exact hl p hm

set_option maxHeartbeats 4000000 in
set_option maxRecDepth 10000 in
theorem dtat_any (w : World) (u : Value) (l : List Pc) (x : Int) (hl : PcsL w u l) (hn : l.length ≤ 100000) : Calls Try.prog 26 #[u, .int .i64 x] w fun e w' => ∃ A c, e = .returned (.tuple #[.slice A (firstF l x).length c, .bool (fsP l x).isSome]) ∧ AtD l x A c ∧ Below w.heap.size w w' := by
  obtain ⟨⟨A, c, rfl, hA, hc, hnc⟩, hPF⟩ := hl
  have HA := Lib.hid hA
  obtain ⟨n, hnm⟩ : ∃ n, l.length = n := ⟨_, rfl⟩
  rw [hnm] at hn hc ⊢
  have HN := Lib.hid hnm
  clear hA hc hnc hPF hnm
  go_enter Try.func26, Try.ntmps26
  go_wp2_with fail
  go_loopw [6] (fun i wr => ∃ k : Nat, k ≤ n ∧ i = .int .i64 k ∧ valP l x = valP (l.drop k) x ∧ Below w.heap.size w wr) (fun i _ => n - (intOf i).toNat)
  case atStart => exact ⟨0, Nat.zero_le _, rfl, rfl, bl w⟩
  case round =>
    obtain ⟨k, hk, rfl, hg, hW⟩ := hrel
    have HG := Lib.hid hg
    have HW := Lib.hid hW
    clear hg hW
    by_cases hlt : k < n
    · have hlt' : (k : Int) < (n : Int) := by omega
      obtain ⟨p, hx⟩ : ∃ p, l[k]? = some p := ⟨_, List.getElem?_eq_getElem (by have := HN.out; omega)⟩
      obtain ⟨g, off, rfl, hX⟩ := (HA.out.below HW.out).cells3 hx
      have HV := Lib.hid hx
      have HX := Lib.hid hX
      have CR := Lib.hid (fun w => dright01_any p.f p.t w)
      have CH := Lib.hid (fun w => dhas01_any p.f p.t x w)
      obtain ⟨z0, z1, z2⟩ := hX
      rw [rightS_P] at CR
      rw [hasS_P] at CH
      have HE := Lib.hid (show valP l x = if (rightP p.f p.t && inP p.f p.t x) = true then some p else valP (l.drop (k + 1)) x by rw [HG.out, drop_consL hx, valP]; rfl)
      clear hx
      generalize rightP p.f p.t = br at *
      generalize inP p.f p.t x = bi at *
      cases br with
      | false =>
        have NX := Lib.hid (show valP l x = valP (l.drop (k + 1)) x by rw [HE.out]; rfl)
        go_wp2_with (go_at_call 30; (with_reducible refine (CR.out _).mono ?_); rintro e w2 ⟨rfl, hb2⟩)
        exact ⟨⟨k + 1, by omega, by go_num, NX.out, chain HW.out hb2⟩, by simp [intOf] <;> omega⟩
      | true =>
        cases bi with
        | false =>
          have NX := Lib.hid (show valP l x = valP (l.drop (k + 1)) x by rw [HE.out]; rfl)
          go_wp2_with (first
            | (go_at_call 30; (with_reducible refine (CR.out _).mono ?_); rintro e w2 ⟨rfl, hb2⟩; obtain ⟨x0, x1, x2⟩ := HX.out.below hb2; have hc2 := chain HW.out hb2)
            | (go_at_call 40; (with_reducible refine (CH.out _).mono ?_); rintro e w3 ⟨rfl, hb3⟩; have hc3 := chain hc2 hb3))
          exact ⟨⟨k + 1, by omega, by go_num, NX.out, hc3⟩, by simp [intOf] <;> omega⟩
        | true =>
          have NX := Lib.hid (show valP l x = some p by rw [HE.out]; rfl)
          go_wp2_with (first
            | (go_at_call 30; (with_reducible refine (CR.out _).mono ?_); rintro e w2 ⟨rfl, hb2⟩; have HX2 := Lib.hid (HX.out.below hb2); obtain ⟨x0, x1, x2⟩ := HX.out.below hb2; have hc2 := chain HW.out hb2)
            | (go_at_call 40; (with_reducible refine (CH.out _).mono ?_); rintro e w3 ⟨rfl, hb3⟩; obtain ⟨y0, y1, y2⟩ := HX2.out.below hb3; have hc3 := chain hc2 hb3))
          go_ret2
          have e1 : fsP l x = some p.fs := by rw [fsP, NX.out]; rfl
          have e2 : firstF l x = p.fs := by rw [firstF, e1]; rfl
          exact ⟨p.fa, p.fc, by rw [e1, e2]; rfl, AtD.some NX.out, hc3⟩
    · obtain rfl : k = n := by omega
      have hlt' : ¬ (k : Int) < (k : Int) := by omega
      have NV := Lib.hid (show valP l x = none by rw [HG.out, List.drop_of_length_le (by have := HN.out; omega)]; rfl)
      have NX := Lib.hid (show fsP l x = none by rw [fsP, NV.out]; rfl)
      go_wp2_with fail
      go_ret2
      have e2 : firstF l x = [] := by rw [firstF, NX.out]; rfl
      exact ⟨none, 0, by rw [NX.out, e2]; rfl, AtD.none NV.out, HW.out⟩

set_option maxHeartbeats 4000000 in
set_option maxRecDepth 10000 in
theorem dtsame_any (w : World) (ua ub : Value) (a b : List Pc) (ha : PcsL w ua a) (hb : PcsL w ub b) (hn : a.length ≤ 100000) (ha2 : ∀ p ∈ a, p.fs.length ≤ 9223372036854775807) (hb2 : ∀ p ∈ b, p.fs.length ≤ 9223372036854775807) : Ret 18 #[ua, ub] w (.bool (sameP a b)) := by
  obtain ⟨⟨A, c, rfl, hA, hc1, hc2⟩, hVA⟩ := ha
  obtain ⟨⟨B, d, rfl, hB, hd1, hd2⟩, hVB⟩ := hb
  clear hc1 hc2 hd1 hd2
  by_cases hnm : a.length ≠ b.length
  · have HS := Lib.hid (sameP_len a b hnm)
    have hne : ((a.length : Int) != (b.length : Int)) = true := by rw [bne_iff_ne]; omega
    clear hA hB hVA hVB ha2 hb2
    generalize a.length = n at *
    generalize b.length = m at *
    go_enter Try.func18, Try.ntmps18
    go_wp2_with fail
    go_ret
    exact ⟨ret_bool HS.out.symm, bl w⟩
  · obtain ⟨n, hn1⟩ : ∃ n, a.length = n := ⟨_, rfl⟩
    have hn2 : b.length = n := by omega
    obtain ⟨t, ht⟩ : ∃ t, sameP a b = t := ⟨_, rfl⟩
    have HT := Lib.hid ht
    rw [hn1] at hn ⊢
    rw [hn2, ht]
    have HA := Lib.hid hA
    have HB := Lib.hid hB
    have HVA := Lib.hid hVA
    have HVB := Lib.hid hVB
    have HA2 := Lib.hid ha2
    have HB2 := Lib.hid hb2
    have HN1 := Lib.hid hn1
    have HN2 := Lib.hid hn2
    clear hA hB hn1 hn2 hnm ht hVA hVB ha2 hb2
    go_enter Try.func18, Try.ntmps18
    go_wp2_with fail
    go_loopw [5] (fun i wr => ∃ k : Nat, k ≤ n ∧ i = .int .i64 k ∧ t = sameP (a.drop k) (b.drop k) ∧ Below w.heap.size w wr) (fun i _ => n - (intOf i).toNat)
    case atStart => exact ⟨0, Nat.zero_le _, rfl, HT.out.symm, bl w⟩
    case round =>
      obtain ⟨k, hk, rfl, hg, hW⟩ := hrel
      have HW := Lib.hid hW
      clear hW
      by_cases hlt : k < n
      · have hlt' : (k : Int) < (n : Int) := by omega
        obtain ⟨x, hx⟩ : ∃ x, a[k]? = some x := ⟨_, List.getElem?_eq_getElem (by have := HN1.out; omega)⟩
        obtain ⟨y, hy⟩ : ∃ y, b[k]? = some y := ⟨_, List.getElem?_eq_getElem (by have := HN2.out; omega)⟩
        obtain ⟨g1, off, rfl, hX⟩ := (HA.out.below HW.out).cells3 hx
        obtain ⟨g2, off', rfl, hY⟩ := (HB.out.below HW.out).cells3 hy
        have hsx := HA2.out x (List.mem_of_getElem? hx)
        have hsy := HB2.out y (List.mem_of_getElem? hy)
        have CO := Lib.hid (fun w' (h : Below wr.heap.size wr w') => dsamel_any w' (.slice x.fa x.fs.length x.fc) (.slice y.fa y.fs.length y.fc) x.fs y.fs (((HVA.out x (List.mem_of_getElem? hx)).below (chain HW.out h)).list) (((HVB.out y (List.mem_of_getElem? hy)).below (chain HW.out h)).list) hsx hsy)
        rw [drop_consL hx, drop_consL hy, sameP] at hg
        have HX := Lib.hid hX
        have HY := Lib.hid hY
        have MK := Lib.hid (show ∀ w', Below wr.heap.size wr w' → (Below wr.heap.size wr w' ∧ Cells3 w' g1 (off + k * 3) x ∧ Cells3 w' g2 (off' + k * 3) y) from fun w' h => ⟨h, hX.below h, hY.below h⟩)
        by_cases hsp : x.f = y.f ∧ x.t = y.t
        · have e1 : sameP1 x y = sameF x.fs y.fs := by unfold sameP1; rw [decide_eq_true hsp.1, decide_eq_true hsp.2]; rfl
          rw [e1] at hg
          have ef : (x.f == y.f) = true := by simpa using hsp.1
          have et : (x.t == y.t) = true := by simpa using hsp.2
          have EF := Lib.hid hsp
          generalize sameF x.fs y.fs = s at *
          clear e1 hsp hsx hsy hx hy
          cases s with
          | true =>
            have HG := Lib.hid (show t = sameP (a.drop (k + 1)) (b.drop (k + 1)) by rw [hg, Bool.true_and])
            clear hg hX hY
            go_wp2_with fail
            first
              | (go_region_held3 (fun w' => Below wr.heap.size wr w' ∧ Cells3 w' g1 (off + k * 3) x ∧ Cells3 w' g2 (off' + k * 3) y)
                  (first | exact MK.out _ ((bl wr).drew) | exact MK.out _ hb1 | fail)
                  (first | (go_at_call 27; (refine (CO.out _ (by go_split_ands; assumption)).mono ?_); (rintro e w1 ⟨rfl, hb0⟩); (have hb1 := chain (by go_split_ands; assumption) hb0); clear hb0) | fail))
              | fail
            go_wp2_with fail
            exact ⟨⟨k + 1, by omega, by go_num, HG.out, chain HW.out hb1⟩, by simp [intOf] <;> omega⟩
          | false =>
            have HG := Lib.hid (show t = false by rw [hg, Bool.false_and])
            clear hg hX hY
            go_wp2_with fail
            first
              | (go_region_held3 (fun w' => Below wr.heap.size wr w' ∧ Cells3 w' g1 (off + k * 3) x ∧ Cells3 w' g2 (off' + k * 3) y)
                  (first | exact MK.out _ ((bl wr).drew) | exact MK.out _ hb1 | fail)
                  (first | (go_at_call 27; (refine (CO.out _ (by go_split_ands; assumption)).mono ?_); (rintro e w1 ⟨rfl, hb0⟩); (have hb1 := chain (by go_split_ands; assumption) hb0); clear hb0) | fail))
              | fail
            go_wp2_with fail
            go_ret
            exact ⟨ret_bool HG.out.symm, chain HW.out hb1⟩
        · have e1 : sameP1 x y = false := by
            unfold sameP1
            have : (decide (x.f = y.f) && decide (x.t = y.t)) = false := by
              rw [Bool.and_eq_false_iff, decide_eq_false_iff_not, decide_eq_false_iff_not]
              by_cases h : x.f = y.f
              · exact .inr fun k => hsp ⟨h, k⟩
              · exact .inl h
            rw [this, Bool.false_and]
          have HG := Lib.hid (show t = false by rw [hg, e1, Bool.false_and])
          have hq : ∀ w, (binOp .neq 42 (.agg #[.int .i64 x.f, .int .i64 x.t]) (.agg #[.int .i64 y.f, .int .i64 y.t])).run Try.prog w = .ok (.bool true) w := fun w => by rw [run_neq_sp, decide_eq_false hsp]; rfl
          obtain ⟨z0, z1, z2⟩ := HX.out
          obtain ⟨y0, y1, y2⟩ := HY.out
          clear hg e1 hsp hsx hsy hx hy hX hY
          go_wp2_with fail
          go_quiet (fail)
          go_wp2_with fail
          go_ret
          exact ⟨ret_bool HG.out.symm, belowN HW.out _⟩
      · obtain rfl : k = n := by omega
        have hlt' : ¬ (k : Int) < (k : Int) := by omega
        rw [List.drop_of_length_le (by have := HN1.out; omega), List.drop_of_length_le (by have := HN2.out; omega)] at hg
        have HG := Lib.hid (show t = true from hg)
        clear hg
        go_wp2_with fail
        go_ret
        exact ⟨ret_bool HG.out.symm, HW.out⟩

end Go.Proofs.Ytnopbhlhdecimaa

/-
  The document's Clip.
-/
namespace Go.Proofs.Ytnopbhlhdecimaa
open Go.RowKit

/-- A span in a block of its own. -/
abbrev ocS (f t : Int) : Obj := .cells #[.int .i64 f, .int .i64 t] 42
abbrev BoxS (w : World) (g : Nat) (f t : Int) : Prop := w.cell? ⟨g, 0, none⟩ = some (.int .i64 f) ∧ w.cell? ⟨g, 1, none⟩ = some (.int .i64 t)
theorem BoxS.below {w w' : World} {g : Nat} {f t : Int} (h : BoxS w g f t) (hb : Below w.heap.size w w') : BoxS w' g f t := ⟨keepc hb h.1, keepc hb h.2⟩
theorem boxS_new (w : World) (f t : Int) : BoxS (w.alloc (ocS f t)) w.heap.size f t := ⟨by simp [go_sem], by simp [go_sem]⟩

theorem zboxSd {w w1 : World} (hb : Below (w.alloc (.cells #[.int .i64 0, .int .i64 0] 42)).drew.heap.size (w.alloc (.cells #[.int .i64 0, .int .i64 0] 42)).drew w1) : w1.cell? ⟨w.heap.size, 0, none⟩ = some (.int .i64 0) ∧ w1.cell? ⟨w.heap.size, 1, none⟩ = some (.int .i64 0) ∧ w1.frozen? ⟨w.heap.size, 0, none⟩ = false ∧ w1.frozen? ⟨w.heap.size, 1, none⟩ = false :=
  ⟨keepc hb (by simp [go_sem]), keepc hb (by simp [go_sem]), keepf hb (by simp) (by simp [go_sem]), keepf hb (by simp) (by simp [go_sem])⟩
theorem clip_next {a : Int × Int} {l : List Pc} {t : Nat} {p : Pc} (h : l[t]? = some p) : clipL a (l.take (t + 1)) = clipL a (l.take t) ++ (clipP a p).toList := by
  unfold clipL
  rw [List.take_add_one, h, Option.toList_some, List.filterMap_append]
  cases hc : clipP a p <;> simp [hc]
theorem OutP.apart {W w : World} {l : List Pc} {v : Value} (h : OutP W l v w) {B : Nat} (hB : w.heap.size ≤ B) : v.ownBlock ≠ some B := fun e => by
  have := (h.lt e).2
  omega
theorem Kb.alloc {o : Option Nat} {a w : World} (h : Kb o a w) (x : Obj) : Kb o a (w.alloc x) := h.trans (Kb.of_below ((bl w).alloc (Nat.le_refl _) x))
theorem Cells3.kb {o : Option Nat} {w w' : World} {g i : Nat} {p : Pc} (h : Cells3 w g i p) (k : Kb o w w') (hn : o ≠ some g) : Cells3 w' g i p := ⟨k.cell h.1 hn, k.cell h.2.1 hn, k.cell h.2.2 hn⟩
theorem two_storeS {w : World} {b : Nat} {u0 u1 : Value} (x y : Value) (h0 : w.cell? ⟨b, 0, none⟩ = some u0) (h1 : w.cell? ⟨b, 1, none⟩ = some u1) : ((w.setCell ⟨b, 0, none⟩ x).setCell ⟨b, 1, none⟩ y).cell? ⟨b, 0, none⟩ = some x ∧ ((w.setCell ⟨b, 0, none⟩ x).setCell ⟨b, 1, none⟩ y).cell? ⟨b, 1, none⟩ = some y :=
  ⟨(World.cell?_setCell_other _ ⟨b, 1, none⟩ ⟨b, 0, none⟩ _ (by simp)).trans (World.cell?_setCell_same _ ⟨b, 0, none⟩ _ h0), World.cell?_setCell_same _ ⟨b, 1, none⟩ _ ((World.cell?_setCell_other _ ⟨b, 0, none⟩ ⟨b, 1, none⟩ _ (by simp)).trans h1)⟩
theorem zboxS {w w1 : World} (hb : Below (w.alloc (.cells #[.int .i64 0, .int .i64 0] 42)).heap.size (w.alloc (.cells #[.int .i64 0, .int .i64 0] 42)) w1) : w1.cell? ⟨w.heap.size, 0, none⟩ = some (.int .i64 0) ∧ w1.cell? ⟨w.heap.size, 1, none⟩ = some (.int .i64 0) ∧ w1.frozen? ⟨w.heap.size, 0, none⟩ = false ∧ w1.frozen? ⟨w.heap.size, 1, none⟩ = false :=
  ⟨keepc hb (by simp [go_sem]), keepc hb (by simp [go_sem]), keepf hb (by simp) (by simp [go_sem]), keepf hb (by simp) (by simp [go_sem])⟩

set_option maxHeartbeats 4000000 in
set_option maxRecDepth 100000 in
theorem dtclip_any (w : World) (a : Int × Int) (u : Value) (l : List Pc) (hl : PcsL w u l) (hn : l.length ≤ 1000) (hfs : ∀ p ∈ l, p.fs.length ≤ 9223372036854775807) : Calls Try.prog 45 #[.agg #[.int .i64 a.1, .int .i64 a.2], u] w fun e w' => ∃ x, e = .returned x ∧ HasTL w' x (clipG a l) ∧ Below w.heap.size w w' := by
  have CR := Lib.hid (fun w' (h : Below w.heap.size w w') => dtright_any w' u l (hl.below h) (by omega) hfs)
  obtain ⟨⟨A, c, rfl, hA, hc, hnc⟩, hPF⟩ := hl
  have HA := Lib.hid hA
  have HPF := Lib.hid hPF
  obtain ⟨n, hnm⟩ : ∃ n, l.length = n := ⟨_, rfl⟩
  rw [hnm] at hn hc CR ⊢
  have HN := Lib.hid hnm
  obtain ⟨af, at', rfl⟩ : ∃ af at', a = (af, at') := ⟨a.1, a.2, rfl⟩
  have HB1 := Lib.hid (show Below w.heap.size w (w.alloc (ocS af at')) from (bl w).alloc (Nat.le_refl _) _)
  have HS1 := Lib.hid (boxS_new w af at')
  clear hA hc hnc hPF hnm hfs
  cases hr : rightT l with
  | false =>
    rw [hr] at CR
    have HG := Lib.hid (show ∀ x, clipG (af, at') l x = none from fun x => by unfold clipG; rw [hr]; rfl)
    clear hr
    go_enter Try.func45, Try.ntmps45
    go_wp2_with (go_at_call 19; (with_reducible refine (CR.out _ HB1.out).mono ?_); rintro e w2 ⟨rfl, hb2⟩)
    go_ret
    exact ⟨_, rfl, ⟨[], TimeL.nil _ _ HG.out⟩, chain HB1.out hb2⟩
  | true =>
    rw [hr] at CR
    have HTL := Lib.hid ((rightT_iff l).1 hr)
    have HG := Lib.hid (show ∀ x, fsP (clipL (af, at') l) x = clipG (af, at') l x from fun x => by unfold clipG; rw [hr]; rfl)
    clear hr
    go_enter Try.func45, Try.ntmps45
    go_wp2_with (go_at_call 19; (with_reducible refine (CR.out _ HB1.out).mono ?_); rintro e w2 ⟨rfl, hb2⟩; have HB2 := Lib.hid hb2; clear hb2)
    go_loopw [5, 6] (fun o i wr => ∃ (t : Nat) (L : List Pc), t ≤ n ∧ i = .int .i64 (t : Nat) ∧ L = clipL (af, at') (l.take t) ∧ OutP w2 L o wr) (fun _ i _ => n - (intOf i).toNat)
    case atStart => exact ⟨0, [], Nat.zero_le _, rfl, rfl, OutP.nil w2⟩
    case round =>
      obtain ⟨t, L, ht, rfl, hL, hO⟩ := hrel
      have HLL := Lib.hid hL
      have HO := Lib.hid hO
      clear hL hO
      have hW := chain (chain HB1.out HB2.out) HO.out.bel
      by_cases hlt : t < n
      · have hlt' : (t : Int) < (n : Int) := by omega
        obtain ⟨p, hx⟩ : ∃ p, l[t]? = some p := ⟨_, List.getElem?_eq_getElem (by have := HN.out; omega)⟩
        obtain ⟨g, off, rfl, hX⟩ := (HA.out.below hW).cells3 hx
        have HX := Lib.hid hX
        have HSB := Lib.hid ((HS1.out.below HB2.out).below HO.out.bel)
        have CM := Lib.hid (fun w => Co.dmeet_any af at' p.f p.t w)
        have HV := Lib.hid hx
        have HW := Lib.hid hW
        obtain ⟨z0, z1, z2⟩ := hX
        obtain ⟨y0, y1⟩ := HSB.out
        have HPP := Lib.hid (show PF w2 p from (HPF.out p (List.mem_of_getElem? hx)).below (chain HB1.out HB2.out))
        have HGO := Lib.hid (show u5.ownBlock ≠ some g from fun e => by
          have h1 := (HO.out.lt e).1
          obtain ⟨g', off', he, hX'⟩ := HA.out.cells3 hx
          injection he with he
          injection he with e1 _ _
          have h2 := lt_of_cell hX'.1
          have h3 := (chain HB1.out HB2.out).size
          omega)
        have HLEN := Lib.hid (show L.length ≤ 1000 by rw [HLL.out]; have := clip_length (af, at') (l.take t); rw [List.length_take] at this; omega)
        have hstep := clip_next (a := (af, at')) hx
        rw [← HLL.out] at hstep
        have NXF := Lib.hid (show Co.meetB af at' p.f p.t = false → L = clipL (af, at') (l.take (t + 1)) from fun h => by rw [hstep]; unfold clipP; rw [show Co.meetB (af, at').1 (af, at').2 p.f p.t = false from h]; simp)
        have NXT := Lib.hid (show Co.meetB af at' p.f p.t = true → L ++ [⟨Co.meetF af at' p.f p.t, Co.meetT af at' p.f p.t, p.fa, p.fc, p.fs⟩] = clipL (af, at') (l.take (t + 1)) from fun h => by rw [hstep]; unfold clipP; rw [show Co.meetB (af, at').1 (af, at').2 p.f p.t = true from h]; rfl)
        clear hx hW hstep
        generalize Co.meetF af at' p.f p.t = mf at *
        generalize Co.meetT af at' p.f p.t = mt at *
        generalize Co.meetB af at' p.f p.t = mb at *
        have MK := Lib.hid (show ∀ w', Below wr.heap.size wr w' → (Below wr.heap.size wr w' ∧ Cells3 w' g (off + t * 3) p ∧ BoxS w' w.heap.size af at') from fun w' h => ⟨h, HX.out.below h, HSB.out.below h⟩)
        go_upto_region 7 with fail
        refine wp_region_held_drew (S := fun w' => Below wr.heap.size wr w' ∧ Cells3 w' g (off + t * 3) p ∧ BoxS w' w.heap.size af at') (by kernel_rfl) (MK.out _ ((bl wr).drew)) (fun hHeld => ?_)
        refine wpAnyH_take (i := 0) (oi := _) (v := ?_) (by simp only [List.getElem?_toArray, List.getElem?_cons_zero]; rfl) (by kernel_rfl) (by kernel_rfl) (by kernel_rfl) (by exact fun _ _ _ h => h) (Or.inl ⟨by rfl, ?_⟩) (by assumption) ?_
        rotate_left 1
        · (intro w hSw; (try dsimp only at hSw); go_simp; try (with_reducible rfl))
        simp only [Act.put, List.setIfInBounds_toArray, List.set_cons_zero, List.set_cons_succ]
        refine wpAnyH_take (i := 1) (oi := _) (v := ?_) (by simp only [List.getElem?_toArray, List.getElem?_cons_succ, List.getElem?_cons_zero]; rfl) (by kernel_rfl) (by kernel_rfl) (by kernel_rfl) (by exact fun _ _ _ h => h) (Or.inl ⟨by rfl, ?_⟩) (by assumption) ?_
        rotate_left 1
        · (intro w hSw; (try dsimp only at hSw); go_simp; try (with_reducible rfl))
        simp only [Act.put, List.setIfInBounds_toArray, List.set_cons_zero, List.set_cons_succ]
        refine wpAnyH_take (i := 2) (oi := _) (v := ?_) (by simp only [List.getElem?_toArray, List.getElem?_cons_succ, List.getElem?_cons_zero]; rfl) (by kernel_rfl) (by kernel_rfl) (by kernel_rfl) (by exact fun _ _ _ h => h) (Or.inl ⟨by rfl, ?_⟩) (by assumption) ?_
        rotate_left 1
        · (intro w hSw; (try dsimp only at hSw); go_simp; try (with_reducible rfl))
        simp only [Act.put, List.setIfInBounds_toArray, List.set_cons_zero, List.set_cons_succ]
        refine wpAnyH_take (i := 3) (oi := _) (v := ?_) (by simp only [List.getElem?_toArray, List.getElem?_cons_succ, List.getElem?_cons_zero]; rfl) (by kernel_rfl) (by kernel_rfl) (by kernel_rfl) (by exact fun _ _ _ h => h) (Or.inl ⟨by rfl, ?_⟩) (by assumption) ?_
        rotate_left 1
        · (intro w hSw; (try dsimp only at hSw); go_simp; try (with_reducible rfl))
        simp only [Act.put, List.setIfInBounds_toArray, List.set_cons_zero, List.set_cons_succ]
        refine wpAnyH_take (i := 4) (oi := _) (v := ?_) (by simp only [List.getElem?_toArray, List.getElem?_cons_succ, List.getElem?_cons_zero]; rfl) (by kernel_rfl) (by kernel_rfl) (by kernel_rfl) (by exact fun _ _ _ h => h) (Or.inl ⟨by rfl, ?_⟩) (by assumption) ?_
        rotate_left 1
        · (intro w hSw; (try dsimp only at hSw); go_simp; try (with_reducible rfl))
        simp only [Act.put, List.setIfInBounds_toArray, List.set_cons_zero, List.set_cons_succ]
        refine wpAnyH_take (i := 5) (oi := _) (v := ?_) (by simp only [List.getElem?_toArray, List.getElem?_cons_succ, List.getElem?_cons_zero]; rfl) (by kernel_rfl) (by kernel_rfl) (by kernel_rfl) (by exact fun _ _ _ h => h) (Or.inl ⟨by rfl, ?_⟩) (by assumption) ?_
        rotate_left 1
        · (intro w hSw; (try dsimp only at hSw); go_simp; try (with_reducible rfl))
        simp only [Act.put, List.setIfInBounds_toArray, List.set_cons_zero, List.set_cons_succ]
        refine wpAnyH_ready (rs := [6, 10]) (by kernel_rfl) (by simp) ?_
        refine AllReadyH.cons (o := _) (by simp only [List.getElem?_toArray, List.getElem?_cons_succ, List.getElem?_cons_zero]; rfl) (fun K hK => ?_) ?_
        · go_simp
          go_at_call 53
          refine (CM.out _).mono ?_
          rintro e w1 ⟨rfl, hb0⟩
          have hb1 := chain hHeld.1 hb0
          try dsimp only
          refine hK.out _ _ (MK.out _ hb1) (fun hHeld => ?_)
          clear hK K
          try simp only [Act.put, List.setIfInBounds_toArray, List.set_cons_zero, List.set_cons_succ]
          refine wpAnyH_take (i := 7) (oi := _) (v := ?_) (by simp only [List.getElem?_toArray, List.getElem?_cons_succ, List.getElem?_cons_zero]; rfl) (by kernel_rfl) (by kernel_rfl) (by kernel_rfl) (by exact fun _ _ _ h => h) (Or.inl ⟨by rfl, ?_⟩) (by assumption) ?_
          rotate_left 1
          · (intro w hSw; (try dsimp only at hSw); go_simp; try (with_reducible rfl))
          simp only [Act.put, List.setIfInBounds_toArray, List.set_cons_zero, List.set_cons_succ]
          refine wpAnyH_take (i := 8) (oi := _) (v := ?_) (by simp only [List.getElem?_toArray, List.getElem?_cons_succ, List.getElem?_cons_zero]; rfl) (by kernel_rfl) (by kernel_rfl) (by kernel_rfl) (by exact fun _ _ _ h => h) (Or.inl ⟨by rfl, ?_⟩) (by assumption) ?_
          rotate_left 1
          · (intro w hSw; (try dsimp only at hSw); go_simp; try (with_reducible rfl))
          simp only [Act.put, List.setIfInBounds_toArray, List.set_cons_zero, List.set_cons_succ]
          refine wpAnyH_take (i := 9) (oi := _) (v := ?_) (by simp only [List.getElem?_toArray, List.getElem?_cons_succ, List.getElem?_cons_zero]; rfl) (by kernel_rfl) (by kernel_rfl) (by kernel_rfl) (by exact fun _ _ _ h => h) (Or.inl ⟨by rfl, ?_⟩) (by assumption) ?_
          rotate_left 1
          · (intro w hSw; (try dsimp only at hSw); go_simp; try (with_reducible rfl))
          simp only [Act.put, List.setIfInBounds_toArray, List.set_cons_zero, List.set_cons_succ]
          refine wpAnyH_ready (rs := [10]) (by kernel_rfl) (by simp) ?_
          refine AllReadyH.cons (o := _) (by simp only [List.getElem?_toArray, List.getElem?_cons_succ, List.getElem?_cons_zero]; rfl) (fun K hK => ?_) AllReadyH.nil
          go_simp
          try dsimp only
          refine hK.out _ _ (MK.out _ (hb1.alloc hb1.size _)) (fun hHeld => ?_)
          clear hK K
          try simp only [Act.put, List.setIfInBounds_toArray, List.set_cons_zero, List.set_cons_succ]
          refine wpAnyH_ready (rs := [11]) (by kernel_rfl) (by simp) ?_
          refine AllReadyH.cons (o := _) (by simp only [List.getElem?_toArray, List.getElem?_cons_succ, List.getElem?_cons_zero]; rfl) (fun K hK => ?_) AllReadyH.nil
          go_simp
          try dsimp only
          refine hK.out _ _ (MK.out _ (hb1.alloc hb1.size _)) (fun hHeld => ?_)
          clear hK K
          try simp only [Act.put, List.setIfInBounds_toArray, List.set_cons_zero, List.set_cons_succ]
          refine wpAnyH_take (i := 12) (oi := _) (v := ?_) (by simp only [List.getElem?_toArray, List.getElem?_cons_succ, List.getElem?_cons_zero]; rfl) (by kernel_rfl) (by kernel_rfl) (by kernel_rfl) (by exact fun _ _ _ h => h) (Or.inl ⟨by rfl, ?_⟩) (by assumption) ?_
          rotate_left 1
          · (intro w hSw; (try dsimp only at hSw); go_simp; try (with_reducible rfl))
          simp only [Act.put, List.setIfInBounds_toArray, List.set_cons_zero, List.set_cons_succ]
          refine wpAnyH_done (by kernel_rfl) ?_ _
          obtain ⟨k0, k1⟩ := boxS_new w1 mf mt
          have hB1 := hb1.alloc hb1.size (ocS mf mt)
          refine abstract_then (fun W => Below wr.heap.size wr W ∧ wr.heap.size ≤ w1.heap.size ∧ w1.heap.size < W.heap.size ∧ BoxS W w1.heap.size mf mt) ⟨hB1, hb1.size, by simp, k0, k1⟩ ?_
          rintro W3 ⟨hB3, hle3, hlt3, k0, k1⟩
          generalize w1.heap.size = B at *
          have hoB := HO.out.apart hle3
          have HO3 := Lib.hid (HO.out.below hB3)
          cases mb with
          | false =>
            have NX := Lib.hid (NXF.out rfl)
            go_wp2_with fail
            exact ⟨⟨t + 1, L, by omega, by go_num, NX.out, HO3.out⟩, by simp [intOf] <;> omega⟩
          | true =>
            have NX := Lib.hid (NXT.out rfl)
            have MK9 := Lib.hid (show ∀ w', Kb u5.ownBlock W3 w' → (Kb u5.ownBlock W3 w' ∧ Cells3 w' g (off + t * 3) p ∧ BoxS w' B mf mt) from fun w' h => ⟨h, (HX.out.below hB3).kb h HGO.out, h.cell k0 hoB, h.cell k1 hoB⟩)
            have HO4 := Lib.hid (HO3.out.below ((bl W3).drew))
            have KP4 := Lib.hid (show KP W3.drew u5.ownBlock ⟨mf, mt, p.fa, p.fc, p.fs⟩ from HO4.out.old ⟨HPP.out.1, HPP.out.2⟩)
            clear k0 k1
            go_upto_region 9 with fail
            first
              | (go_region_held3 (fun w' => Kb u5.ownBlock W3 w' ∧ Cells3 w' g (off + t * 3) p ∧ BoxS w' B mf mt)
                  (first | exact MK9.out _ (Kb.of_below ((bl W3).drew)) | exact MK9.out _ ((Kb.of_below ((bl W3).drew)).alloc _) | exact MK9.out _ hkb | fail)
                  (first
                    | (refine step_appE (E := EP) (xs := [⟨mf, mt, p.fa, p.fc, p.fs⟩]) rfl (.tmp 29) (.tmp 37) rfl rfl rfl (World.ownsRow.alloc HO4.out.own _) rfl rfl (by have hrow := rowE_one (E := EP) W3.drew ⟨mf, mt, p.fa, p.fc, p.fs⟩ #[.int .i64 mf, .int .i64 mt, .slice p.fa p.fs.length p.fc] rfl 45; first | exact hrow | (simp at hrow ⊢; exact hrow)) (fun h => by cases h) (by have := HLEN.out; simp; omega) (by have := HO4.out.bel.size; simp at this ⊢; omega) ?_; intro v' w4 hown4 hg4 ho4; (have hkb := ((Kb.of_below (o := u5.ownBlock) ((bl W3).drew)).alloc _).grown hg4); have HN4 := Lib.hid ((HO4.out.below ((bl W3.drew).alloc (Nat.le_refl _) _)).app (KP4.out.below ((bl W3.drew).alloc (Nat.le_refl _) _)) hg4 hown4 ho4))
                    | fail))
              | fail
            go_wp2_with fail
            exact ⟨⟨t + 1, L ++ [⟨mf, mt, p.fa, p.fc, p.fs⟩], by omega, by go_num, NX.out, HN4.out⟩, by simp [intOf] <;> omega⟩
        · refine AllReadyH.cons (o := _) (by simp only [List.getElem?_toArray, List.getElem?_cons_succ, List.getElem?_cons_zero]; rfl) (fun K hK => ?_) AllReadyH.nil
          go_simp
          try dsimp only
          refine hK.out _ _ (MK.out _ (((bl wr).drew).alloc (by simp) _)) (fun hHeld => ?_)
          clear hK K
          try simp only [Act.put, List.setIfInBounds_toArray, List.set_cons_zero, List.set_cons_succ]
          refine wpAnyH_ready (rs := [6]) (by kernel_rfl) (by simp) ?_
          refine AllReadyH.cons (o := _) (by simp only [List.getElem?_toArray, List.getElem?_cons_succ, List.getElem?_cons_zero]; rfl) (fun K hK => ?_) AllReadyH.nil
          go_simp
          go_at_call 53
          refine (CM.out _).mono ?_
          rintro e w1 ⟨rfl, hb0⟩
          have hb1 := chain hHeld.1 hb0
          have hz : w1.cell? ⟨wr.heap.size, 0, none⟩ = some (.int .i64 0) ∧ w1.cell? ⟨wr.heap.size, 1, none⟩ = some (.int .i64 0) ∧ w1.frozen? ⟨wr.heap.size, 0, none⟩ = false ∧ w1.frozen? ⟨wr.heap.size, 1, none⟩ = false := zboxSd hb0
          have hsz := hb0.size
          obtain ⟨k0, k1, f0, f1⟩ := hz
          try dsimp only
          refine hK.out _ _ (MK.out _ hb1) (fun hHeld => ?_)
          clear hK K
          try simp only [Act.put, List.setIfInBounds_toArray, List.set_cons_zero, List.set_cons_succ]
          refine wpAnyH_take (i := 7) (oi := _) (v := ?_) (by simp only [List.getElem?_toArray, List.getElem?_cons_succ, List.getElem?_cons_zero]; rfl) (by kernel_rfl) (by kernel_rfl) (by kernel_rfl) (by exact fun _ _ _ h => h) (Or.inl ⟨by rfl, ?_⟩) (by assumption) ?_
          rotate_left 1
          · (intro w hSw; (try dsimp only at hSw); go_simp; try (with_reducible rfl))
          simp only [Act.put, List.setIfInBounds_toArray, List.set_cons_zero, List.set_cons_succ]
          refine wpAnyH_take (i := 8) (oi := _) (v := ?_) (by simp only [List.getElem?_toArray, List.getElem?_cons_succ, List.getElem?_cons_zero]; rfl) (by kernel_rfl) (by kernel_rfl) (by kernel_rfl) (by exact fun _ _ _ h => h) (Or.inl ⟨by rfl, ?_⟩) (by assumption) ?_
          rotate_left 1
          · (intro w hSw; (try dsimp only at hSw); go_simp; try (with_reducible rfl))
          simp only [Act.put, List.setIfInBounds_toArray, List.set_cons_zero, List.set_cons_succ]
          refine wpAnyH_take (i := 9) (oi := _) (v := ?_) (by simp only [List.getElem?_toArray, List.getElem?_cons_succ, List.getElem?_cons_zero]; rfl) (by kernel_rfl) (by kernel_rfl) (by kernel_rfl) (by exact fun _ _ _ h => h) (Or.inl ⟨by rfl, ?_⟩) (by assumption) ?_
          rotate_left 1
          · (intro w hSw; (try dsimp only at hSw); go_simp; try (with_reducible rfl))
          simp only [Act.put, List.setIfInBounds_toArray, List.set_cons_zero, List.set_cons_succ]
          refine wpAnyH_ready (rs := [11]) (by kernel_rfl) (by simp) ?_
          refine AllReadyH.cons (o := _) (by simp only [List.getElem?_toArray, List.getElem?_cons_succ, List.getElem?_cons_zero]; rfl) (fun K hK => ?_) AllReadyH.nil
          go_simp
          try dsimp only
          refine hK.out _ _ (MK.out _ ((hb1.setCell (p := ⟨wr.heap.size, 0, none⟩) (Nat.le_refl _) _).setCell (p := ⟨wr.heap.size, 1, none⟩) (Nat.le_refl _) _)) (fun hHeld => ?_)
          clear hK K
          try simp only [Act.put, List.setIfInBounds_toArray, List.set_cons_zero, List.set_cons_succ]
          refine wpAnyH_take (i := 12) (oi := _) (v := ?_) (by simp only [List.getElem?_toArray, List.getElem?_cons_succ, List.getElem?_cons_zero]; rfl) (by kernel_rfl) (by kernel_rfl) (by kernel_rfl) (by exact fun _ _ _ h => h) (Or.inl ⟨by rfl, ?_⟩) (by assumption) ?_
          rotate_left 1
          · (intro w hSw; (try dsimp only at hSw); go_simp; try (with_reducible rfl))
          simp only [Act.put, List.setIfInBounds_toArray, List.set_cons_zero, List.set_cons_succ]
          refine wpAnyH_done (by kernel_rfl) ?_ _
          have hB1 := (hb1.setCell (p := ⟨wr.heap.size, 0, none⟩) (Nat.le_refl _) (.int .i64 mf)).setCell (p := ⟨wr.heap.size, 1, none⟩) (Nat.le_refl _) (.int .i64 mt)
          obtain ⟨q0, q1⟩ := two_storeS (.int .i64 mf) (.int .i64 mt) k0 k1
          have hl1 : wr.heap.size < w1.heap.size := by simp at hsz; omega
          clear k0 k1 f0 f1
          refine abstract_then (fun W => Below wr.heap.size wr W ∧ wr.heap.size ≤ wr.heap.size ∧ wr.heap.size < W.heap.size ∧ BoxS W wr.heap.size mf mt) ⟨hB1, Nat.le_refl _, by simpa [World.setCell] using hl1, q0, q1⟩ ?_
          rintro W3 ⟨hB3, hle3, hlt3, k0, k1⟩
          obtain ⟨B, hBB⟩ : ∃ B, wr.heap.size = B := ⟨_, rfl⟩
          have HBW := Lib.hid hBB
          rw [hBB] at k0 k1 hlt3 ⊢
          clear hle3
          have hle3 : wr.heap.size ≤ B := by rw [hBB]; exact Nat.le_refl _
          clear hBB
          have hoB := HO.out.apart hle3
          have HO3 := Lib.hid (HO.out.below hB3)
          cases mb with
          | false =>
            have NX := Lib.hid (NXF.out rfl)
            go_wp2_with fail
            exact ⟨⟨t + 1, L, by omega, by go_num, NX.out, HO3.out⟩, by simp [intOf] <;> omega⟩
          | true =>
            have NX := Lib.hid (NXT.out rfl)
            have MK9 := Lib.hid (show ∀ w', Kb u5.ownBlock W3 w' → (Kb u5.ownBlock W3 w' ∧ Cells3 w' g (off + t * 3) p ∧ BoxS w' B mf mt) from fun w' h => ⟨h, (HX.out.below hB3).kb h HGO.out, h.cell k0 hoB, h.cell k1 hoB⟩)
            have HO4 := Lib.hid (HO3.out.below ((bl W3).drew))
            have KP4 := Lib.hid (show KP W3.drew u5.ownBlock ⟨mf, mt, p.fa, p.fc, p.fs⟩ from HO4.out.old ⟨HPP.out.1, HPP.out.2⟩)
            clear k0 k1
            go_upto_region 9 with fail
            first
              | (go_region_held3 (fun w' => Kb u5.ownBlock W3 w' ∧ Cells3 w' g (off + t * 3) p ∧ BoxS w' B mf mt)
                  (first | exact MK9.out _ (Kb.of_below ((bl W3).drew)) | exact MK9.out _ ((Kb.of_below ((bl W3).drew)).alloc _) | exact MK9.out _ hkb | fail)
                  (first
                    | (refine step_appE (E := EP) (xs := [⟨mf, mt, p.fa, p.fc, p.fs⟩]) rfl (.tmp 29) (.tmp 37) rfl rfl rfl (World.ownsRow.alloc HO4.out.own _) rfl rfl (by have hrow := rowE_one (E := EP) W3.drew ⟨mf, mt, p.fa, p.fc, p.fs⟩ #[.int .i64 mf, .int .i64 mt, .slice p.fa p.fs.length p.fc] rfl 45; first | exact hrow | (simp at hrow ⊢; exact hrow)) (fun h => by cases h) (by have := HLEN.out; simp; omega) (by have := HO4.out.bel.size; simp at this ⊢; omega) ?_; intro v' w4 hown4 hg4 ho4; (have hkb := ((Kb.of_below (o := u5.ownBlock) ((bl W3).drew)).alloc _).grown hg4); have HN4 := Lib.hid ((HO4.out.below ((bl W3.drew).alloc (Nat.le_refl _) _)).app (KP4.out.below ((bl W3.drew).alloc (Nat.le_refl _) _)) hg4 hown4 ho4))
                    | fail))
              | fail
            go_wp2_with fail
            exact ⟨⟨t + 1, L ++ [⟨mf, mt, p.fa, p.fc, p.fs⟩], by omega, by go_num, NX.out, HN4.out⟩, by simp [intOf] <;> omega⟩
      · obtain rfl : t = n := by omega
        have hlt' : ¬ (t : Int) < (t : Int) := by omega
        have HE := Lib.hid (show L = clipL (af, at') l by rw [HLL.out, List.take_of_length_le (by have := HN.out; omega)])
        have HT := Lib.hid (show TimeL wr u5 (clipG (af, at') l) L from ⟨HO.out.pcs, by rw [HE.out]; exact clip_tl HTL.out, fun x => by rw [HE.out]; exact HG.out x, by rw [HE.out]; have := clip_length (af, at') l; have := HN.out; omega⟩)
        go_wp2_with fail
        go_ret
        exact ⟨_, rfl, ⟨L, HT.out⟩, hW⟩

end Go.Proofs.Ytnopbhlhdecimaa

/-
  Lists of spans in memory; the document's Same tells of any two whether they are one.
-/
namespace Go.Proofs.Ytnopbhlhdecimaa.Co
open Go.RowKit

/-- From A on the spans of l lie, one behind the other. -/
def Spans (w : World) (A : Option Addr) (l : List (Int × Int)) : Prop :=
  ∀ i p, l[i]? = some p → ∃ g off, A = some ⟨g, off, none⟩ ∧ w.cell? ⟨g, off + i * 2, none⟩ = some (.int .i64 p.1) ∧ w.cell? ⟨g, off + i * 2 + 1, none⟩ = some (.int .i64 p.2)

theorem ret_bool {a b : Bool} (h : a = b) : Ending.returned (.bool a) = .returned (.bool b) := by rw [h]
/-- As far as k both are one. -/
def SameTo (l m : List (Int × Int)) (k : Nat) : Prop := ∀ j, j < k → l[j]? = m[j]?

theorem SameTo.next {l m : List (Int × Int)} {k : Nat} (h : SameTo l m k) (he : l[k]? = m[k]?) : SameTo l m (k + 1) := fun j hj => by
  rcases Nat.lt_or_ge j k with hlt | hge
  · exact h j hlt
  · obtain rfl : j = k := by omega
    exact he
theorem SameTo.not {l m : List (Int × Int)} {k : Nat} {p q : Int × Int} (hp : l[k]? = some p) (hq : m[k]? = some q) (hne : p ≠ q) : decide (l = m) = false := by
  simp only [decide_eq_false_iff_not]
  rintro rfl
  rw [hp] at hq
  exact hne (by injection hq)
theorem SameTo.all {l m : List (Int × Int)} {k : Nat} (h : SameTo l m k) (hl : l.length ≤ k) (hm : m.length ≤ k) : decide (l = m) = true := by
  simp only [decide_eq_true_eq]
  apply List.ext_getElem?
  intro i
  rcases Nat.lt_or_ge i k with hlt | hge
  · exact h i hlt
  · rw [List.getElem?_eq_none (by omega), List.getElem?_eq_none (by omega)]

theorem Try.infoSpan : (Try.prog.info? 42).map (fun i => (i.zero, i.size, i.bytes)) = some (some (.agg #[.int .i64 0, .int .i64 0]), 2, 16) := by kernel_rfl

/-- The spans of a list as cells. -/
def flat (l : List (Int × Int)) : List Value := l.flatMap fun p => [.int .i64 p.1, .int .i64 p.2]
theorem flat_snoc (l : List (Int × Int)) (f t : Int) : flat (l ++ [(f, t)]) = flat l ++ [.int .i64 f, .int .i64 t] := by simp [flat]
theorem news_two (w : World) (f t : Int) (ty : TypeId) : ∀ j u, [Value.int .i64 f, Value.int .i64 t][j]? = some u → (w.alloc (.cells #[.int .i64 f, .int .i64 t] ty)).cell? ((⟨w.heap.size, 0, none⟩ : Addr).add j) = some u :=
  World.news_of_block (cs := #[.int .i64 f, .int .i64 t]) (heap_alloc_new w _)
theorem flat_get : ∀ (l : List (Int × Int)) (i : Nat) (p : Int × Int), l[i]? = some p → (flat l)[i * 2]? = some (.int .i64 p.1) ∧ (flat l)[i * 2 + 1]? = some (.int .i64 p.2)
  | [], i, p, h => by simp at h
  | q :: l, 0, p, h => by simp at h; subst h; simp [flat]
  | q :: l, i + 1, p, h => by
    have := flat_get l i p (by simpa using h)
    have e : flat (q :: l) = .int .i64 q.1 :: .int .i64 q.2 :: flat l := by simp [flat]
    rw [e, show (i + 1) * 2 = i * 2 + 1 + 1 from by omega]
    simpa using this
theorem Spans.nil (w : World) (A : Option Addr) : Spans w A [] := fun i p h => by simp at h
/-- A row of the call's own, read as spans. -/
theorem own_spans {w : World} {base : Nat} {v : Value} {l : List (Int × Int)} (h : w.ownsRow base 42 2 v l.length (flat l)) : ∃ A c, v = .slice A l.length c ∧ Spans w A l := by
  rcases Nat.eq_zero_or_pos l.length with h0 | h0
  · obtain rfl := List.eq_nil_of_length_eq_zero h0
    rcases h.2 with ⟨hv, _⟩ | ⟨g, cap, cur, hv, _⟩
    · exact ⟨_, _, hv, Spans.nil _ _⟩
    · exact ⟨_, _, hv, Spans.nil _ _⟩
  · obtain ⟨g, cap, rfl, _, _⟩ := h.form h0
    refine ⟨_, _, rfl, fun i p hp => ⟨g, 0, rfl, ?_⟩⟩
    obtain ⟨e0, e1⟩ := flat_get l i p hp
    have add : ∀ n, (⟨g, 0, none⟩ : Addr).add n = ⟨g, 0 + n, none⟩ := fun n => by unfold Addr.add; split <;> simp_all
    have c0 := h.cells (g := g) rfl _ _ e0
    have c1 := h.cells (g := g) rfl _ _ e1
    rw [add] at c0 c1
    exact ⟨c0, by rw [Nat.add_assoc]; exact c1⟩
/-- From the start of block g on the spans of l lie. -/
theorem own_spans2 {w : World} {base : Nat} {v : Value} {l : List (Int × Int)} (h : w.ownsRow base 42 2 v l.length (flat l)) : ∃ A c, v = .slice A l.length c ∧ Spans w A l ∧ l.length ≤ c ∧ (A = none → c = 0) := by
  obtain ⟨A, c, rfl, hs⟩ := own_spans h
  refine ⟨A, c, rfl, hs, ?_⟩
  rcases h.2 with ⟨hv, h0⟩ | ⟨g, cap, cur, hv, _, _, hn, _⟩
  · injection hv with e1 e2 e3
    exact ⟨by omega, fun _ => e3⟩
  · injection hv with e1 e2 e3
    exact ⟨by omega, fun hA => by rw [hA] at e1; cases e1⟩
def SpansAt (w : World) (g : Nat) (l : List (Int × Int)) : Prop := ∀ i p, l[i]? = some p → w.cell? ⟨g, i * 2, none⟩ = some (.int .i64 p.1) ∧ w.cell? ⟨g, i * 2 + 1, none⟩ = some (.int .i64 p.2)
theorem own_spansAt {w : World} {base : Nat} {v : Value} {l : List (Int × Int)} (h : w.ownsRow base 42 2 v l.length (flat l)) (h0 : 0 < l.length) : ∃ g c, v = .slice (some ⟨g, 0, none⟩) l.length c ∧ SpansAt w g l ∧ base ≤ g ∧ g < w.heap.size := by
  obtain ⟨g, cap, rfl, _, _⟩ := h.form h0
  have hl := h.lt g rfl
  refine ⟨g, _, rfl, fun i p hp => ?_, hl.1, hl.2⟩
  obtain ⟨e0, e1⟩ := flat_get l i p hp
  have add : ∀ n, (⟨g, 0, none⟩ : Addr).add n = ⟨g, 0 + n, none⟩ := fun n => by unfold Addr.add; split <;> simp_all
  have c0 := h.cells (g := g) rfl _ _ e0
  have c1 := h.cells (g := g) rfl _ _ e1
  rw [add] at c0 c1
  exact ⟨by rwa [Nat.zero_add] at c0, by rwa [Nat.zero_add] at c1⟩
theorem cell_lt {w : World} {g o : Nat} {v : Value} (h : w.cell? ⟨g, o, none⟩ = some v) : g < w.heap.size := by
  rcases Nat.lt_or_ge g w.heap.size with hlt | hge
  · exact hlt
  · simp [World.cell?, Array.getElem?_eq_none hge] at h
theorem Spans.below {w w' : World} {A : Option Addr} {l : List (Int × Int)} (h : Spans w A l) (hb : Below w.heap.size w w') : Spans w' A l := fun i p hp => by
  obtain ⟨g, off, rfl, c0, c1⟩ := h i p hp
  have hg := cell_lt c0
  exact ⟨g, off, rfl, (hb.cell (p := ⟨g, _, none⟩) hg).trans c0, (hb.cell (p := ⟨g, _, none⟩) hg).trans c1⟩
theorem below_app {B : Nat} {a w w1 : World} {o : Obj} {row : Option Nat} (h : Below B a w) (hg : (w.alloc o).grownBy w1 row) (hB : B ≤ w.heap.size) (hr : ∀ k, row = some k → B ≤ k) : Below B a w1 :=
  (h.alloc hB o).grown hg (by simp; omega) hr
theorem info_parts {P : Program} {t : TypeId} {z : Value} {s b : Nat} (h : (P.info? t).map (fun i => (i.zero, i.size, i.bytes)) = some (some z, s, b)) : ∃ i, P.info? t = some i ∧ i.zero = some z ∧ i.size = s ∧ i.bytes = b := by
  obtain ⟨i, hi, he⟩ := Option.map_eq_some_iff.1 h
  simp only [Prod.mk.injEq] at he
  exact ⟨i, hi, he⟩


end Go.Proofs.Ytnopbhlhdecimaa.Co

/-
  Kept, of cover and of the document's answer: is the list a cover? The document's Has: has the list the time?
-/
namespace Go.Proofs.Ytnopbhlhdecimaa.Co
open Go.RowKit

theorem chain {W w w1 : World} (h : Below W.heap.size W w) (hb : Below w.heap.size w w1) : Below W.heap.size W w1 := h.trans (hb.mono h.size)
theorem belowN {B : Nat} {a w : World} (h : Below B a w) (n : Nat) : Below B a (w.drewN n) := ⟨h.os, h.tape, h.output, h.size, h.block⟩
theorem bl (w : World) : Below w.heap.size w w := Below.refl _ _
theorem keepc {w w' : World} {g o : Nat} {u : Value} (hb : Below w.heap.size w w') (h : w.cell? ⟨g, o, none⟩ = some u) : w'.cell? ⟨g, o, none⟩ = some u := (hb.cell (p := ⟨g, o, none⟩) (cell_lt h)).trans h
/-- The cells of one span of a list, wherever it lies. -/
theorem Spans.at {w : World} {A : Option Addr} {l : List Sp} (h : Spans w A l) {i : Nat} {f t : Int} (hp : l[i]? = some (f, t)) : ∃ g off, A = some ⟨g, off, none⟩ ∧ w.cell? ⟨g, off + i * 2, none⟩ = some (.int .i64 f) ∧ w.cell? ⟨g, off + i * 2 + 1, none⟩ = some (.int .i64 t) := h i _ hp

end Go.Proofs.Ytnopbhlhdecimaa.Co

/-
  Lists of numbers in memory; what the call owns stays owned over a call that makes new blocks alone.
-/
namespace Go.Proofs.Ytnopbhlhdecimaa.Co
open Go.RowKit

theorem Try.infoInt : (Try.prog.info? 3).map (fun i => (i.zero, i.size, i.bytes)) = some (some (.int .i64 0), 1, 8) := by kernel_rfl

/-- From A on the numbers of l lie, one behind the other. -/
def Ints (w : World) (A : Option Addr) (l : List Int) : Prop := ∀ i x, l[i]? = some x → ∃ g off, A = some ⟨g, off, none⟩ ∧ w.cell? ⟨g, off + i, none⟩ = some (.int .i64 x)

theorem lt_of_cell {w : World} {g o : Nat} {u : Value} (h : w.cell? ⟨g, o, none⟩ = some u) : g < w.heap.size := by
  rcases Nat.lt_or_ge g w.heap.size with hlt | hge
  · exact hlt
  · simp [World.cell?, Array.getElem?_eq_none hge] at h
theorem Ints.below {w w' : World} {A : Option Addr} {l : List Int} (h : Ints w A l) (hb : Below w.heap.size w w') : Ints w' A l := fun i x hx => by
  obtain ⟨g, off, rfl, c0⟩ := h i x hx
  exact ⟨g, off, rfl, (hb.cell (p := ⟨g, _, none⟩) (lt_of_cell c0)).trans c0⟩
theorem Ints.nil (w : World) (A : Option Addr) : Ints w A [] := fun i p h => by simp at h
theorem own_ints {w : World} {base : Nat} {v : Value} {l : List Int} (h : w.ownsRow base 3 1 v l.length (l.map (Value.int .i64))) : ∃ A c, v = .slice A l.length c ∧ Ints w A l := by
  rcases Nat.eq_zero_or_pos l.length with h0 | h0
  · obtain rfl := List.eq_nil_of_length_eq_zero h0
    rcases h.2 with ⟨hv, _⟩ | ⟨g, cap, cur, hv, _⟩
    · exact ⟨_, _, hv, Ints.nil _ _⟩
    · exact ⟨_, _, hv, Ints.nil _ _⟩
  · obtain ⟨g, cap, rfl, _, _⟩ := h.form h0
    refine ⟨_, _, rfl, fun i x hx => ⟨g, 0, rfl, ?_⟩⟩
    have add : ∀ n, (⟨g, 0, none⟩ : Addr).add n = ⟨g, 0 + n, none⟩ := fun n => by unfold Addr.add; split <;> simp_all
    have c0 := h.cells (g := g) rfl i (.int .i64 x) (by simp [hx])
    rwa [add] at c0
/-- What the call owns stays owned over a call that makes new blocks alone. -/
theorem own_below {w w' : World} {base e size n : Nat} {v : Value} {xs : List Value} (h : w.ownsRow base e size v n xs) (hb : Below w.heap.size w w') : w'.ownsRow base e size v n xs :=
  h.kept (row := none) ⟨hb.os, hb.tape, hb.output, hb.size, fun k hk _ => hb.block k hk⟩ (by cases v.ownBlock <;> simp)

theorem news_one (w : World) (x : Int) (ty : TypeId) : ∀ j u, [Value.int .i64 x][j]? = some u → (w.alloc (.cells #[.int .i64 x] ty)).cell? ((⟨w.heap.size, 0, none⟩ : Addr).add j) = some u :=
  World.news_of_block (cs := #[.int .i64 x]) (heap_alloc_new w _)

end Go.Proofs.Ytnopbhlhdecimaa.Co

/-
  Plain facts on lists of numbers: numbers put in one by one, each once, rising; and the pieces of a span that is cut at sorted times.
-/
namespace Go.Proofs.Ytnopbhlhdecimaa.Co

/-- Put a number where it belongs, unless it is there. -/
def insU (x : Int) : List Int → List Int
  | [] => [x]
  | y :: ys => if y < x then y :: insU x ys else if y = x then y :: ys else x :: y :: ys
/-- The numbers of a list, each once, rising. -/
def riseL (l : List Int) : List Int := l.foldl (fun o x => insU x o) []

theorem mem_insU (x y : Int) : ∀ l : List Int, y ∈ insU x l ↔ y = x ∨ y ∈ l
  | [] => by simp [insU]
  | z :: zs => by
    unfold insU
    split
    · simp only [List.mem_cons, mem_insU x y zs]
      constructor
      · rintro (h | h | h) <;> simp [h]
      · rintro (h | h | h) <;> simp [h]
    · split
      · rename_i h
        subst h
        simp
      · simp
theorem insU_pw (x : Int) : ∀ l : List Int, l.Pairwise (· < ·) → (insU x l).Pairwise (· < ·)
  | [], _ => by simp [insU]
  | z :: zs, h => by
    obtain ⟨h1, h2⟩ := List.pairwise_cons.1 h
    unfold insU
    split
    · refine List.pairwise_cons.2 ⟨fun y hy => ?_, insU_pw x zs h2⟩
      rcases (mem_insU x y zs).1 hy with rfl | hy
      · assumption
      · exact h1 y hy
    · split
      · exact h
      · refine List.pairwise_cons.2 ⟨fun y hy => ?_, h⟩
        rcases List.mem_cons.1 hy with rfl | hy
        · omega
        · have := h1 y hy
          omega
theorem fold_mem (l : List Int) : ∀ (o : List Int) (y : Int), y ∈ l.foldl (fun o x => insU x o) o ↔ y ∈ o ∨ y ∈ l := by
  induction l with
  | nil => simp
  | cons x l ih =>
    intro o y
    rw [List.foldl_cons, ih, mem_insU, List.mem_cons]
    constructor
    · rintro ((h | h) | h) <;> simp [h]
    · rintro (h | h | h) <;> simp [h]
theorem fold_pw (l : List Int) : ∀ o : List Int, o.Pairwise (· < ·) → (l.foldl (fun o x => insU x o) o).Pairwise (· < ·) := by
  induction l with
  | nil => exact fun _ h => h
  | cons x l ih => exact fun o h => ih _ (insU_pw x o h)
theorem mem_riseL (l : List Int) (y : Int) : y ∈ riseL l ↔ y ∈ l := by simp [riseL, fold_mem]
theorem riseL_pw (l : List Int) : (riseL l).Pairwise (· < ·) := fold_pw l [] List.Pairwise.nil
theorem riseL_snoc (l : List Int) (x : Int) : riseL (l ++ [x]) = insU x (riseL l) := by simp [riseL]
theorem insU_length (x : Int) : ∀ l : List Int, (insU x l).length ≤ l.length + 1
  | [] => by simp [insU]
  | z :: zs => by
    have := insU_length x zs
    unfold insU
    split
    · simp; omega
    · split <;> simp
theorem fold_length (l : List Int) : ∀ o : List Int, (l.foldl (fun o x => insU x o) o).length ≤ o.length + l.length := by
  induction l with
  | nil => simp
  | cons x l ih =>
    intro o
    have h1 := ih (insU x o)
    have h2 := insU_length x o
    simp only [List.foldl_cons, List.length_cons]
    omega
theorem riseL_length (l : List Int) : (riseL l).length ≤ l.length := by simpa [riseL] using fold_length l []

/-- All numbers ahead of place k are less, the one there is not: so the number belongs there. -/
theorem insU_at {x : Int} : ∀ {l : List Int} {k : Nat}, (∀ j y, j < k → l[j]? = some y → y < x) → k ≤ l.length → (∀ y, l[k]? = some y → x < y) → insU x l = l.take k ++ x :: l.drop k
  | [], k, _, hk, _ => by
    obtain rfl : k = 0 := by simpa using hk
    simp [insU]
  | z :: zs, 0, _, _, h => by
    have := h z (by simp)
    unfold insU
    rw [if_neg (by omega), if_neg (by omega)]
    simp
  | z :: zs, k + 1, h, hk, hg => by
    have := h 0 z (by omega) (by simp)
    unfold insU
    rw [if_pos this, insU_at (k := k) (fun j y hj hy => h (j + 1) y (by omega) (by simpa using hy)) (by simpa using hk) (fun y hy => hg y (by simpa using hy))]
    simp
theorem insU_same {x : Int} : ∀ {l : List Int} {k : Nat}, (∀ j y, j < k → l[j]? = some y → y < x) → l[k]? = some x → insU x l = l
  | [], k, _, h => by simp at h
  | z :: zs, 0, _, h => by
    obtain rfl : z = x := by simpa using h
    unfold insU
    rw [if_neg (by omega), if_pos rfl]
  | z :: zs, k + 1, h, hx => by
    have := h 0 z (by omega) (by simp)
    unfold insU
    rw [if_pos this, insU_same (k := k) (fun j y hj hy => h (j + 1) y (by omega) (by simpa using hy)) (by simpa using hx)]

/-- Two rising lists with the same numbers are one. -/
theorem pw_ext : ∀ l m : List Int, l.Pairwise (· < ·) → m.Pairwise (· < ·) → (∀ x, x ∈ l ↔ x ∈ m) → l = m
  | [], [], _, _, _ => rfl
  | [], y :: ys, _, _, h => by have := (h y).2 (by simp); simp at this
  | x :: xs, [], _, _, h => by have := (h x).1 (by simp); simp at this
  | x :: xs, y :: ys, hl, hm, h => by
    obtain ⟨h1, h2⟩ := List.pairwise_cons.1 hl
    obtain ⟨h3, h4⟩ := List.pairwise_cons.1 hm
    have hxy : x = y := by
      rcases List.mem_cons.1 ((h x).1 (by simp)) with e | e
      · exact e
      · rcases List.mem_cons.1 ((h y).2 (by simp)) with e' | e'
        · exact e'.symm
        · have := h3 x e
          have := h1 y e'
          omega
    subst hxy
    rw [pw_ext xs ys h2 h4 fun z => ⟨fun hz => ?_, fun hz => ?_⟩]
    · have := h1 z hz
      rcases List.mem_cons.1 ((h z).1 (by simp [hz])) with e | e
      · omega
      · exact e
    · have := h3 z hz
      rcases List.mem_cons.1 ((h z).2 (by simp [hz])) with e | e
      · omega
      · exact e

/-- Of a sorted list, what is above f, each once. -/
def uniqF : Int → List Int → List Int
  | _, [] => []
  | f, t :: ts => if f < t then t :: uniqF t ts else uniqF f ts

theorem mem_uniqF : ∀ (l : List Int) (f y : Int), l.Pairwise (· ≤ ·) → (y ∈ uniqF f l ↔ y ∈ l ∧ f < y)
  | [], f, y, _ => by simp [uniqF]
  | t :: ts, f, y, h => by
    obtain ⟨h1, h2⟩ := List.pairwise_cons.1 h
    unfold uniqF
    split
    · rw [List.mem_cons, mem_uniqF ts t y h2, List.mem_cons]
      constructor
      · rintro (rfl | ⟨h3, h4⟩)
        · exact ⟨.inl rfl, by assumption⟩
        · exact ⟨.inr h3, by omega⟩
      · rintro ⟨rfl | h3, h4⟩
        · exact .inl rfl
        · have := h1 y h3
          by_cases e : y = t
          · exact .inl e
          · exact .inr ⟨h3, by omega⟩
    · rw [mem_uniqF ts f y h2, List.mem_cons]
      constructor
      · rintro ⟨h3, h4⟩
        exact ⟨.inr h3, h4⟩
      · rintro ⟨rfl | h3, h4⟩
        · omega
        · exact ⟨h3, h4⟩
theorem uniqF_pw : ∀ (l : List Int) (f : Int), l.Pairwise (· ≤ ·) → (uniqF f l).Pairwise (· < ·)
  | [], f, _ => by simp [uniqF]
  | t :: ts, f, h => by
    obtain ⟨h1, h2⟩ := List.pairwise_cons.1 h
    unfold uniqF
    split
    · exact List.pairwise_cons.2 ⟨fun y hy => ((mem_uniqF ts t y h2).1 hy).2, uniqF_pw ts t h2⟩
    · exact uniqF_pw ts f h2

/-- The pieces from f on, each one up to the next of the times. -/
def pieces : Int → List Int → List (Int × Int)
  | _, [] => []
  | f, t :: ts => (f, t) :: pieces t ts
theorem pieces_snoc : ∀ (l : List Int) (f t : Int), pieces f (l ++ [t]) = pieces f l ++ [((l.getLast?).getD f, t)]
  | [], f, t => by simp [pieces]
  | x :: xs, f, t => by
    rw [List.cons_append, pieces, pieces_snoc xs x t, pieces]
    rcases xs with _ | ⟨y, ys⟩ <;> simp [List.getLast?_cons]
theorem pieces_length : ∀ (l : List Int) (f : Int), (pieces f l).length = l.length
  | [], f => rfl
  | t :: ts, f => by simp [pieces, pieces_length ts t]

end Go.Proofs.Ytnopbhlhdecimaa.Co

/-
  The document's lay: a field is laid into a list whose names rise. (Made by wip/gen/flay.py.)
-/
namespace Go.Proofs.Ytnopbhlhdecimaa
open Go.RowKit

theorem belowN' {B : Nat} {a w : World} (h : Below B a w) (n : Nat) : Below B a (w.drewN n) := ⟨h.os, h.tape, h.output, h.size, h.block⟩
theorem abstract_worldF {P : Program} {code : Code} {Q : Exit → Act → World → Prop} {a : Act} {w : World} (R : World → Prop) (h0 : R w) (h : ∀ W, R W → Code.wp P code Q a W) : Code.wp P code Q a w := h w h0
/-- All that stand ahead of place k have names that are less. -/
def LessF (l : List Fd) (x : Fd) (k : Nat) : Prop := ∀ j f, j < k → l[j]? = some f → aheadB f.n x.n = true
theorem LessF.next {l : List Fd} {x f : Fd} {k : Nat} (h : LessF l x k) (hf : l[k]? = some f) (ha : aheadB f.n x.n = true) : LessF l x (k + 1) := fun j g hj hg => by
  rcases Nat.lt_or_ge j k with h1 | h1
  · exact h j g h1 hg
  · obtain rfl : j = k := by omega
    rw [hf] at hg
    injection hg with hg
    rw [← hg]; exact ha
theorem layL_at : ∀ (l : List Fd) (x : Fd) (k : Nat), LessF l x k → k ≤ l.length → layL l x = l.take k ++ layL (l.drop k) x
  | l, x, 0, _, _ => rfl
  | [], x, k + 1, _, h => by simp at h
  | f :: l, x, k + 1, h, hk => by
    have ha := h 0 f (by omega) rfl
    have ih := layL_at l x k (fun j g hj hg => h (j + 1) g (by omega) (by simpa using hg)) (by simpa using hk)
    rw [layL, if_pos ha, ih]
    rfl
theorem layL_end {l : List Fd} {x : Fd} (h : LessF l x l.length) : layL l x = l.take l.length ++ x :: [] := by
  rw [layL_at l x l.length h (Nat.le_refl _), List.drop_length]
  rfl
theorem layL_mid {l : List Fd} {x f : Fd} {k : Nat} (h : LessF l x k) (hf : l[k]? = some f) (h1 : aheadB f.n x.n = false) (h2 : nats f.n ≠ nats x.n) : layL l x = l.take k ++ x :: l.drop k := by
  have hk : k < l.length := by
    rcases Nat.lt_or_ge k l.length with h' | h'
    · exact h'
    · rw [List.getElem?_eq_none h'] at hf; cases hf
  rw [layL_at l x k h (by omega), drop_consF hf, layL, if_neg (by rw [h1]; simp), if_neg h2]
theorem layL_same {l : List Fd} {x f : Fd} {k : Nat} (h : LessF l x k) (hf : l[k]? = some f) (h2 : nats f.n = nats x.n) : layL l x = l.take k ++ x :: l.drop (k + 1) := by
  have hk : k < l.length := by
    rcases Nat.lt_or_ge k l.length with h' | h'
    · exact h'
    · rw [List.getElem?_eq_none h'] at hf; cases hf
  rw [layL_at l x k h (by omega), drop_consF hf, layL, if_neg (fun h1 => ahead_ne h1 h2), if_pos h2]

end Go.Proofs.Ytnopbhlhdecimaa

/-
  append of numbers onto a list of the call's own, whatever the source: what it leaves, also as one step of a statement whose order is open.
-/
namespace Go.Proofs.Ytnopbhlhdecimaa.Co
open Go.RowKit

abbrev ownI (w : World) (base : Nat) (v : Value) (ts : List Int) : Prop := w.ownsRow base 3 1 v ts.length (ts.map (Value.int .i64))

set_option maxRecDepth 100000 in
theorem run_app (w : World) {base : Nat} {v : Value} {ts : List Int} (hown : ownI w base v ts) (B : Option Addr) (c : Nat) (xs : List Int) (hx : Ints w B xs) (hc : B = none → c = 0)
    (hl : ts.length + xs.length ≤ 1000000) (hbase : base ≤ w.heap.size) (ty : TypeId) :
    ∃ v' w', (Builtin.append_ #[62, 62] ty #[v, .slice B xs.length c]).run Try.prog w = .ok v' w' ∧ ownI w' base v' (ts ++ xs) ∧ w.grownBy w' v.ownBlock ∧ (v'.ownBlock = v.ownBlock ∨ v'.ownBlock = some w.heap.size) := by
  obtain ⟨i0, hi, hz0, hz1, hz2⟩ := info_parts Try.infoInt
  rcases B with _ | ad
  · obtain rfl : xs = [] := by
      rcases xs with _ | ⟨x, xs⟩
      · rfl
      · obtain ⟨_, _, h, _⟩ := hx 0 x (by simp)
        cases h
    obtain rfl := hc rfl
    exact ⟨v, w, run_append_owned_none (P := Try.prog) w base 62 ty 3 i0 1 Try.underlying62 hi v _ _ hown, by simpa [ownI] using hown, World.grownBy.refl _ _, .inl rfl⟩
  · have hcell : ∀ j u, (xs.map (Value.int .i64))[j]? = some u → w.cell? (ad.add j) = some u := fun j u hu => by
      rw [List.getElem?_map] at hu
      rcases hq : xs[j]? with _ | x
      · simp [hq] at hu
      · obtain ⟨g, off, h, hcl⟩ := hx j x hq
        injection h with h
        subst h
        obtain rfl : Value.int .i64 x = u := by simpa [hq] using hu
        rw [Go.WideShapes.add_plain]
        exact hcl
    obtain ⟨v', w', hrun, h2, h3, _, h5⟩ := run_append_own_at (P := Try.prog) w base 62 ty 3 i0 (.int .i64 0) 1 8 Try.underlying62 hi hz0 hz1 hz2 rfl (by decide) v _ _ hown ad xs.length c (xs.map (Value.int .i64)) (by simp) hcell
      (fun u hu => by obtain ⟨x, _, rfl⟩ := List.mem_map.1 hu; simp [Value.oneCell']) (by unfold maxLen; omega) (by omega) hbase
    exact ⟨v', w', hrun, by simpa [ownI] using h2, h3, h5⟩

set_option maxRecDepth 100000 in
theorem step_app {ops : Array Oper} {o : Oper} {a : Act} {w : World} {K : Act → World → Prop} {Q : Exit → Act → World → Prop} {E : Prop} (hgd : o.guard = none) (s x : Operand)
    (ho : o.op = .call { callee := .builtin .append, args := #[s, x], argTypes := #[62, 62] })
    {base : Nat} {v : Value} {ts : List Int} (hs : a.eval s = v) (hown : ownI w base v ts) {B : Option Addr} {c m : Nat} {xs : List Int} (hv : a.eval x = .slice B m c) (hm : m = xs.length) (hx : Ints w B xs) (hc : B = none → c = 0)
    (hl : ts.length + xs.length ≤ 1000000) (hbase : base ≤ w.heap.size)
    (h : ∀ v' w', ownI w' base v' (ts ++ xs) → w.grownBy w' v.ownBlock → (v'.ownBlock = v.ownBlock ∨ v'.ownBlock = some w.heap.size) → K (a.put o.dst v') w') :
    if Region.wanted o (yielded ops a.tmps) = true then Oper.wp Try.prog o a w K Q else E := by
  subst hm
  have hw : Region.wanted o (yielded ops a.tmps) = true := by simp [Region.wanted, hgd]
  rw [if_pos hw]
  obtain ⟨v', w', hrun, h2, h3, h4⟩ := run_app w hown B c xs hx hc hl hbase o.type
  unfold Oper.wp execOp
  simp only [ho, resolve, invoke, builtin, Sem.run_bind, Sem.run_pure, Result.andThen_ok, List.map_toArray, List.map_cons, List.map_nil, hs, hv, hrun]
  exact h v' w' h2 h3 h4

end Go.Proofs.Ytnopbhlhdecimaa.Co

/-
  What the document's Rise gives back for any numbers: each once, rising.
-/
namespace Go.Proofs.Ytnopbhlhdecimaa.Co
open Go.RowKit

/-- What holds at the head of each outer round. -/
def RiseRel (w : World) (o : List Int) (v : Value) (wr : World) : Prop := ownI wr w.heap.size v o ∧ Below w.heap.size w wr
/-- All that stand ahead of place k are less than x. -/
def Less (o : List Int) (x : Int) (k : Nat) : Prop := ∀ j y, j < k → o[j]? = some y → y < x
theorem Less.next {o : List Int} {x y : Int} {k : Nat} (h : Less o x k) (hy : o[k]? = some y) (hlt : y < x) : Less o x (k + 1) := fun j z hj hz => by
  rcases Nat.lt_or_ge j k with h1 | h1
  · exact h j z h1 hz
  · obtain rfl : j = k := by omega
    rw [hy] at hz
    injection hz with hz
    omega

theorem belowN' {B : Nat} {a w : World} (h : Below B a w) (n : Nat) : Below B a (w.drewN n) := ⟨h.os, h.tape, h.output, h.size, h.block⟩
theorem own_le {w : World} {base : Nat} {A : Option Addr} {c : Nat} {l : List Int} (h : ownI w base (.slice A l.length c) l) : l.length ≤ c := by
  rcases h.2 with ⟨hv, h0⟩ | ⟨g, cap, cur, hv, _, _, hn, _⟩
  · omega
  · injection hv with _ _ hc
    omega

theorem abstract_world {P : Program} {code : Code} {Q : Exit → Act → World → Prop} {a : Act} {w : World} (R : World → Prop) (h0 : R w) (h : ∀ W, R W → Code.wp P code Q a W) : Code.wp P code Q a w := h w h0
theorem Ints.take {w : World} {A : Option Addr} {l : List Int} (h : Ints w A l) (k : Nat) : Ints w A (l.take k) := fun i x hx => by
  rcases Nat.lt_or_ge i k with hi | hi
  · rw [List.getElem?_take_of_lt hi] at hx
    exact h i x hx
  · rw [List.getElem?_take_eq_none hi] at hx
    cases hx
theorem Ints.drop {w : World} {g off : Nat} {l : List Int} (h : Ints w (some ⟨g, off, none⟩) l) (k : Nat) : Ints w (some ⟨g, off + k, none⟩) (l.drop k) := fun i x hx => by
  rw [List.getElem?_drop] at hx
  obtain ⟨g', off', e, hc⟩ := h (k + i) x hx
  injection e with e
  injection e with e1 e2
  subst e1 e2
  exact ⟨g, off + k, rfl, by rw [Nat.add_assoc]; exact hc⟩
theorem below_grown {a w w1 : World} {row : Option Nat} (h : Below a.heap.size a w) (hg : w.grownBy w1 row) (hr : ∀ r, row = some r → a.heap.size ≤ r) : Below a.heap.size a w1 := h.grown hg h.size hr
theorem own_empty {w : World} {b base : Nat} (h : w.heap[b]? = some (.cells #[] 3 (0, 0))) (hb : base ≤ b) : ownI w base (.slice (some ⟨b, 0, none⟩) 0 0) [] :=
  ⟨by simp, .inr ⟨b, 0, #[], rfl, hb, h, by simp, by simp [maxLen], by simp, by simp⟩⟩
theorem own_e1 (W : World) : ownI (W.alloc (.cells #[] 3)).drew W.heap.size (.slice (some ⟨W.heap.size, 0, none⟩) 0 0) [] := own_empty (heap_alloc_new W _) (Nat.le_refl _)
theorem own_e2 (W : World) (x : Int) : ownI ((W.alloc (.cells #[] 3)).alloc (.cells #[.int .i64 x] 3)).drew W.heap.size (.slice (some ⟨W.heap.size, 0, none⟩) 0 0) [] :=
  own_empty ((Below.heap_alloc (W.alloc (.cells #[] 3)) _ W.heap.size (by simp)).trans (heap_alloc_new W _)) (Nat.le_refl _)
theorem own_e3 (W : World) (x : Int) : ownI ((W.alloc (.cells #[.int .i64 x] 3)).alloc (.cells #[] 3)).drew W.heap.size (.slice (some ⟨W.heap.size + 1, 0, none⟩) 0 0) [] :=
  own_empty (w := ((W.alloc (.cells #[.int .i64 x] 3)).alloc (.cells #[] 3))) (by have := heap_alloc_new (W.alloc (.cells #[.int .i64 x] 3)) (.cells #[] 3); simpa using this) (by omega)
theorem ints_one (w : World) (x : Int) (t : TypeId) : Ints (w.alloc (.cells #[.int .i64 x] t)) (some ⟨w.heap.size, 0, none⟩) [x] := fun i y hy => by
  rcases i with _ | i
  · obtain rfl : x = y := by simpa using hy
    exact ⟨_, _, rfl, by simp [go_sem]⟩
  · simp at hy
theorem ints_cell {w : World} {b : Nat} {x : Int} (h : w.cell? ⟨b, 0, none⟩ = some (.int .i64 x)) : Ints w (some ⟨b, 0, none⟩) [x] := fun i y hy => by
  rcases i with _ | i
  · obtain rfl : x = y := by simpa using hy
    exact ⟨_, _, rfl, h⟩
  · simp at hy
theorem x_e2 {W w1 : World} {x : Int} (hg : ((W.alloc (.cells #[] 3)).alloc (.cells #[.int .i64 x] 3)).drew.grownBy w1 (Value.slice (some ⟨W.heap.size, 0, none⟩) 0 0).ownBlock) : Ints w1 (some ⟨W.heap.size + 1, 0, none⟩) [x] :=
  ints_cell (hg.cell (by simp [go_sem]) (by simp [Value.ownBlock]))
theorem x_e3 {W w1 : World} {x : Int} (hg : ((W.alloc (.cells #[.int .i64 x] 3)).alloc (.cells #[] 3)).drew.grownBy w1 (Value.slice (some ⟨W.heap.size + 1, 0, none⟩) 0 0).ownBlock) : Ints w1 (some ⟨W.heap.size, 0, none⟩) [x] :=
  ints_cell (hg.cell (by simp [go_sem]) (by simp [Value.ownBlock]))
theorem rise_own {w : World} {b b' : Nat} {v : Value} {ts : List Int} (hb : b ≤ b') (h : ownI w b' v ts) : ownI w b v ts := by
  refine ⟨h.1, ?_⟩
  rcases h.2 with h2 | ⟨g, cap, cur, hv, hg, r⟩
  · exact .inl h2
  · exact .inr ⟨g, cap, cur, hv, by omega, r⟩
theorem own_nil_cap {w : World} {base : Nat} {A : Option Addr} {c : Nat} {l : List Int} (h : ownI w base (.slice A l.length c) l) : A = none → c = 0 := by
  rintro rfl
  rcases h.2 with ⟨hv, h0⟩ | ⟨g, cap, cur, hv, _⟩
  · injection hv
  · injection hv with h
    cases h

set_option maxHeartbeats 4000000 in
theorem rise_any (A : Option Addr) (c : Nat) (zs : List Int) (w : World) (hz : Ints w A zs) (hn : zs.length ≤ 1000) :
    Calls Try.prog 39 #[.slice A zs.length c] w fun e w' => ∃ v, e = .returned v ∧ ownI w' w.heap.size v (riseL zs) ∧ Below w.heap.size w w' := by
  have HZ := Lib.hid hz
  clear hz
  obtain ⟨n, hnm⟩ : ∃ n, n = zs.length := ⟨_, rfl⟩
  rw [← hnm]
  have hn' : n ≤ 1000 := by omega
  have HN := Lib.hid hnm
  clear hnm hn
  go_enter Try.func39, Try.ntmps39
  go_wp2_with fail
  go_loopw [3, 4] (fun v i wr => ∃ k : Nat, k ≤ n ∧ i = .int .i64 k ∧ RiseRel w (riseL (zs.take k)) v wr) (fun _ i _ => n - (intOf i).toNat)
  case atStart => exact ⟨0, Nat.zero_le _, rfl, World.ownsRow_nil _ _ _ _, Below.refl _ _⟩
  case round =>
    obtain ⟨i, hi, rfl, hown, hB⟩ := hrel
    obtain ⟨o, ho⟩ : ∃ o, riseL (zs.take i) = o := ⟨_, rfl⟩
    have hol : o.length ≤ 1000 := by rw [← ho]; have := riseL_length (zs.take i); have := List.length_take_le i zs; omega
    rw [ho] at hown
    have HO := Lib.hid ho
    clear ho
    obtain ⟨wo, hwo⟩ : ∃ wo : World, wo = wr := ⟨_, rfl⟩
    subst hwo
    by_cases hlt : i < n
    · obtain ⟨x, hx⟩ : ∃ x, zs[i]? = some x := ⟨_, List.getElem?_eq_getElem (by have := HN.out; omega)⟩
      obtain ⟨g, off, rfl, c0⟩ := HZ.out i x hx
      have hg := lt_of_cell c0
      have c1 : wo.cell? ⟨g, off + i, none⟩ = some (.int .i64 x) := (hB.cell (p := ⟨g, off + i, none⟩) hg).trans c0
      have hnx : riseL (zs.take (i + 1)) = insU x o := by rw [List.take_add_one, hx, Option.toList_some, riseL_snoc, HO.out]
      have HNX := Lib.hid hnx
      clear hnx hx c0
      obtain ⟨B, cb, rfl, hoi⟩ := own_ints hown
      have HOI := Lib.hid hoi
      have HOWN := Lib.hid hown
      clear hoi hown
      go_wp2_with fail
      go_loopw [5] (fun kk wr => ∃ k : Nat, k ≤ o.length ∧ kk = .int .i64 k ∧ Less o x k ∧ ∃ q, wr = wo.drewN q) (fun kk _ => o.length - (intOf kk).toNat)
      case atStart => exact ⟨0, Nat.zero_le _, rfl, fun j y hj => absurd hj (by omega), 0, rfl⟩
      case round =>
        obtain ⟨k, hk, rfl, hless, q, rfl⟩ := hrel
        have HLS := Lib.hid hless
        clear hless
        by_cases hko : k < o.length
        · obtain ⟨y, hy⟩ : ∃ y, o[k]? = some y := ⟨_, List.getElem?_eq_getElem hko⟩
          obtain ⟨g', off', rfl, d0⟩ := HOI.out k y hy
          have HY := Lib.hid hy
          clear hy
          by_cases hyx : y < x
          · go_wp2_with fail
            go_quiet (fail)
            go_wp2_with fail
            go_roundw
            case rel => exact ⟨k + 1, by omega, by go_num, HLS.out.next HY.out hyx, _, rfl⟩
            case measure => simp [intOf]; omega
          · have hd : decide (y < x) = false := by simpa using hyx
            by_cases hxy : y = x
            · have hq : (y == x) = true := by simpa using hxy
              go_wp2_with fail
              go_quiet (fail)
              go_wp2_with fail
              go_quiet (fail)
              go_wp2_with fail
              go_roundw
              case rel => exact ⟨i + 1, by omega, by go_num, by rw [HNX.out, insU_same HLS.out (by rw [HY.out, hxy])]; exact HOWN.out, belowN' hB _⟩
              case measure => simp [intOf]; omega
            · have hq : (y == x) = false := by simpa using hxy
              go_wp2_with fail
              go_quiet (fail)
              go_wp2_with fail
              go_quiet (fail)
              go_wp2_with fail
              have hge : ∀ z, o[k]? = some z → x < z := fun z hz => by rw [HY.out] at hz; injection hz with hz; omega
              have HGE := Lib.hid hge
              clear hge
              refine abstract_world (fun W => Below w.heap.size w W ∧ Ints W (some ⟨g', off', none⟩) o ∧ W.cell? ⟨g, off + i, none⟩ = some (.int .i64 x)) ⟨belowN' (belowN' (belowN' hB _) _) _, HOI.out, c1⟩ ?_
              rintro W ⟨hBW, hOW, cW⟩
              have hcap := own_le HOWN.out
              have k0 : (0 : Int) ≤ (k : Int) := by omega
              have k1 : (k : Int) ≤ (o.length : Int) := by omega
              have k2 : (o.length : Int) ≤ (cb : Int) := by omega
              have k3 : (k : Int) ≤ (cb : Int) := by omega
              have hkc : ¬ cb = k := by omega
              have hcn : some (⟨g', off', none⟩ : Addr) = none → cb = 0 := by simp
              have hcn' : some (⟨g', off' + k, none⟩ : Addr) = none → cb - k = 0 := by simp
              have hT : Ints W (some ⟨g', off' + k, none⟩) (o.drop k) := hOW.drop k
              have mk : ∀ w', Below W.heap.size W w' → (Below W.heap.size W w' ∧ w'.cell? ⟨g, off + i, none⟩ = some (.int .i64 x)) := fun w' h => ⟨h, (h.cell (p := ⟨g, off + i, none⟩) (lt_of_cell cW)).trans cW⟩
              have MK := Lib.hid mk
              clear mk
              have HHD := Lib.hid (hOW.take k)
              have HTL := Lib.hid hT
              clear hOW hT
              go_region_held3 (fun w' => Below W.heap.size W w' ∧ w'.cell? ⟨g, off + i, none⟩ = some (.int .i64 x))
                (first | exact MK.out _ ((Below.refl _ _).drew) | exact MK.out _ hb3 | exact MK.out _ hb2 | exact MK.out _ (hb1.alloc hb1.size _) | exact MK.out _ hb1 | exact MK.out _ (by go_grown))
                (first
                  | (refine step_app rfl (.tmp 44) (.tmp 47) rfl (base := W.heap.size) rfl (own_e1 W) rfl (List.length_take_of_le hk).symm (HHD.out.below (by go_split_ands; assumption)) hcn (by simp; omega) (by simp) ?_; intro v1 w1 hown1 hg1 hat1; have hb1 : Below W.heap.size W w1 := below_grown (by go_split_ands; assumption) hg1 (fun r hr => ((own_e1 W).lt r hr).1))
                  | (refine step_app rfl (.tmp 44) (.tmp 47) rfl (base := W.heap.size) rfl (own_e2 W x) rfl (List.length_take_of_le hk).symm (HHD.out.below (by go_split_ands; assumption)) hcn (by simp; omega) (by simp; omega) ?_; intro v1 w1 hown1 hg1 hat1; have hb1 : Below W.heap.size W w1 := below_grown (by go_split_ands; assumption) hg1 (fun r hr => ((own_e2 W x).lt r hr).1); have HX1 := Lib.hid (x_e2 hg1))
                  | (refine step_app rfl (.tmp 44) (.tmp 47) rfl (base := W.heap.size) rfl (own_e3 W x) rfl (List.length_take_of_le hk).symm (HHD.out.below (by go_split_ands; assumption)) hcn (by simp; omega) (by simp; omega) ?_; intro v1 w1 hown1 hg1 hat1; have hb1 : Below W.heap.size W w1 := below_grown (by go_split_ands; assumption) hg1 (fun r hr => ((own_e3 W x).lt r hr).1); have HX1 := Lib.hid (x_e3 hg1))
                  | (refine step_app rfl (.tmp 48) (.tmp 53) rfl (base := W.heap.size) rfl (World.ownsRow.alloc hown1 _) rfl rfl (ints_one w1 x _) (by simp) (by simp; omega) (by have := hb1.size; simp; omega) ?_; intro v2 w2 hown2 hg2 hat2; have hb2 : Below W.heap.size W w2 := below_grown (hb1.alloc hb1.size _) hg2 (fun r hr => (hown1.lt r hr).1))
                  | (refine step_app rfl (.tmp 48) (.tmp 53) rfl (base := W.heap.size) rfl hown1 rfl rfl HX1.out (by simp) (by simp; omega) hb1.size ?_; intro v2 w2 hown2 hg2 hat2; have hb2 : Below W.heap.size W w2 := below_grown hb1 hg2 (fun r hr => (hown1.lt r hr).1))
                  | (refine step_app rfl (.tmp 54) (.tmp 57) rfl (base := W.heap.size) rfl hown2 rfl (List.length_drop ..).symm (HTL.out.below hb2) hcn' (by simp; omega) hb2.size ?_; intro v3 w3 hown3 hg3 hat3; have hb3 : Below W.heap.size W w3 := below_grown hb2 hg3 (fun r hr => (hown2.lt r hr).1)))
              all_goals
                go_wp2_with fail
                go_roundw
                case rel => exact ⟨i + 1, by omega, by go_num, by rw [HNX.out, insU_at HLS.out hk HGE.out]; exact rise_own hBW.size (by rw [show o.take k ++ x :: o.drop k = [] ++ o.take k ++ [x] ++ o.drop k from by simp]; exact hown3), hBW.trans (hb3.mono hBW.size)⟩
                case measure => simp [intOf]; omega
        · obtain rfl : k = o.length := by omega
          have hge : ∀ z, o[o.length]? = some z → x < z := fun z hz => by simp at hz
          have HGE := Lib.hid hge
          clear hge
          have hd : decide (o.length < o.length) = false := by simp
          go_wp2_with fail
          go_quiet (fail)
          go_wp2_with fail
          go_quiet (fail)
          go_wp2_with fail
          refine abstract_world (fun W => Below w.heap.size w W ∧ Ints W B o ∧ W.cell? ⟨g, off + i, none⟩ = some (.int .i64 x)) ⟨belowN' (belowN' (belowN' hB _) _) _, HOI.out, c1⟩ ?_
          rintro W ⟨hBW, hOW, cW⟩
          have hcap := own_le HOWN.out
          have hcn := own_nil_cap HOWN.out
          have HCN := Lib.hid hcn
          clear hcn
          have k0 : (0 : Int) ≤ (o.length : Int) := by omega
          have k2 : (o.length : Int) ≤ (cb : Int) := by omega
          by_cases hkc : cb = o.length
          · subst hkc
            have hT : Ints W B ([] : List Int) := Ints.nil _ _
            have hcn' : B = none → o.length - o.length = 0 := fun _ => by omega
            have mk : ∀ w', Below W.heap.size W w' → (Below W.heap.size W w' ∧ w'.cell? ⟨g, off + i, none⟩ = some (.int .i64 x)) := fun w' h => ⟨h, (h.cell (p := ⟨g, off + i, none⟩) (lt_of_cell cW)).trans cW⟩
            have MK := Lib.hid mk
            clear mk
            have HHD := Lib.hid (hOW.take o.length)
            have HTL := Lib.hid hT
            clear hOW hT
            go_region_held3 (fun w' => Below W.heap.size W w' ∧ w'.cell? ⟨g, off + i, none⟩ = some (.int .i64 x))
              (first | exact MK.out _ ((Below.refl _ _).drew) | exact MK.out _ hb3 | exact MK.out _ hb2 | exact MK.out _ (hb1.alloc hb1.size _) | exact MK.out _ hb1 | exact MK.out _ (by go_grown))
              (first
                | (refine step_app rfl (.tmp 44) (.tmp 47) rfl (base := W.heap.size) rfl (own_e1 W) rfl (List.length_take_of_le hk).symm (HHD.out.below (by go_split_ands; assumption)) HCN.out (by simp; omega) (by simp) ?_; intro v1 w1 hown1 hg1 hat1; have hb1 : Below W.heap.size W w1 := below_grown (by go_split_ands; assumption) hg1 (fun r hr => ((own_e1 W).lt r hr).1))
                | (refine step_app rfl (.tmp 44) (.tmp 47) rfl (base := W.heap.size) rfl (own_e2 W x) rfl (List.length_take_of_le hk).symm (HHD.out.below (by go_split_ands; assumption)) HCN.out (by simp; omega) (by simp; omega) ?_; intro v1 w1 hown1 hg1 hat1; have hb1 : Below W.heap.size W w1 := below_grown (by go_split_ands; assumption) hg1 (fun r hr => ((own_e2 W x).lt r hr).1); have HX1 := Lib.hid (x_e2 hg1))
                | (refine step_app rfl (.tmp 44) (.tmp 47) rfl (base := W.heap.size) rfl (own_e3 W x) rfl (List.length_take_of_le hk).symm (HHD.out.below (by go_split_ands; assumption)) HCN.out (by simp; omega) (by simp; omega) ?_; intro v1 w1 hown1 hg1 hat1; have hb1 : Below W.heap.size W w1 := below_grown (by go_split_ands; assumption) hg1 (fun r hr => ((own_e3 W x).lt r hr).1); have HX1 := Lib.hid (x_e3 hg1))
                | (refine step_app rfl (.tmp 48) (.tmp 53) rfl (base := W.heap.size) rfl (World.ownsRow.alloc hown1 _) rfl rfl (ints_one w1 x _) (by simp) (by simp; omega) (by have := hb1.size; simp; omega) ?_; intro v2 w2 hown2 hg2 hat2; have hb2 : Below W.heap.size W w2 := below_grown (hb1.alloc hb1.size _) hg2 (fun r hr => (hown1.lt r hr).1))
                | (refine step_app rfl (.tmp 48) (.tmp 53) rfl (base := W.heap.size) rfl hown1 rfl rfl HX1.out (by simp) (by simp; omega) hb1.size ?_; intro v2 w2 hown2 hg2 hat2; have hb2 : Below W.heap.size W w2 := below_grown hb1 hg2 (fun r hr => (hown1.lt r hr).1))
                | (refine step_app rfl (.tmp 54) (.tmp 57) rfl (base := W.heap.size) rfl hown2 rfl rfl (Ints.nil _ _) (by simp) (by simp; omega) hb2.size ?_; intro v3 w3 hown3 hg3 hat3; have hb3 : Below W.heap.size W w3 := below_grown hb2 hg3 (fun r hr => (hown2.lt r hr).1)))
            all_goals
              go_wp2_with fail
              go_roundw
              case rel => exact ⟨i + 1, by omega, by go_num, by rw [HNX.out, insU_at HLS.out hk HGE.out]; exact rise_own hBW.size (by rw [show o.take o.length ++ x :: o.drop o.length = [] ++ o.take o.length ++ [x] ++ [] from by simp]; exact hown3), hBW.trans (hb3.mono hBW.size)⟩
              case measure => simp [intOf]; omega
          · have hT : Ints W (B.map (·.add o.length)) ([] : List Int) := Ints.nil _ _
            have hcn' : B.map (·.add o.length) = none → cb - o.length = 0 := fun e => by
              have := HCN.out (by simpa using e)
              omega
            have mk : ∀ w', Below W.heap.size W w' → (Below W.heap.size W w' ∧ w'.cell? ⟨g, off + i, none⟩ = some (.int .i64 x)) := fun w' h => ⟨h, (h.cell (p := ⟨g, off + i, none⟩) (lt_of_cell cW)).trans cW⟩
            have MK := Lib.hid mk
            clear mk
            have HHD := Lib.hid (hOW.take o.length)
            have HTL := Lib.hid hT
            clear hOW hT
            go_region_held3 (fun w' => Below W.heap.size W w' ∧ w'.cell? ⟨g, off + i, none⟩ = some (.int .i64 x))
              (first | exact MK.out _ ((Below.refl _ _).drew) | exact MK.out _ hb3 | exact MK.out _ hb2 | exact MK.out _ (hb1.alloc hb1.size _) | exact MK.out _ hb1 | exact MK.out _ (by go_grown))
              (first
                | (refine step_app rfl (.tmp 44) (.tmp 47) rfl (base := W.heap.size) rfl (own_e1 W) rfl (List.length_take_of_le hk).symm (HHD.out.below (by go_split_ands; assumption)) HCN.out (by simp; omega) (by simp) ?_; intro v1 w1 hown1 hg1 hat1; have hb1 : Below W.heap.size W w1 := below_grown (by go_split_ands; assumption) hg1 (fun r hr => ((own_e1 W).lt r hr).1))
                | (refine step_app rfl (.tmp 44) (.tmp 47) rfl (base := W.heap.size) rfl (own_e2 W x) rfl (List.length_take_of_le hk).symm (HHD.out.below (by go_split_ands; assumption)) HCN.out (by simp; omega) (by simp; omega) ?_; intro v1 w1 hown1 hg1 hat1; have hb1 : Below W.heap.size W w1 := below_grown (by go_split_ands; assumption) hg1 (fun r hr => ((own_e2 W x).lt r hr).1); have HX1 := Lib.hid (x_e2 hg1))
                | (refine step_app rfl (.tmp 44) (.tmp 47) rfl (base := W.heap.size) rfl (own_e3 W x) rfl (List.length_take_of_le hk).symm (HHD.out.below (by go_split_ands; assumption)) HCN.out (by simp; omega) (by simp; omega) ?_; intro v1 w1 hown1 hg1 hat1; have hb1 : Below W.heap.size W w1 := below_grown (by go_split_ands; assumption) hg1 (fun r hr => ((own_e3 W x).lt r hr).1); have HX1 := Lib.hid (x_e3 hg1))
                | (refine step_app rfl (.tmp 48) (.tmp 53) rfl (base := W.heap.size) rfl (World.ownsRow.alloc hown1 _) rfl rfl (ints_one w1 x _) (by simp) (by simp; omega) (by have := hb1.size; simp; omega) ?_; intro v2 w2 hown2 hg2 hat2; have hb2 : Below W.heap.size W w2 := below_grown (hb1.alloc hb1.size _) hg2 (fun r hr => (hown1.lt r hr).1))
                | (refine step_app rfl (.tmp 48) (.tmp 53) rfl (base := W.heap.size) rfl hown1 rfl rfl HX1.out (by simp) (by simp; omega) hb1.size ?_; intro v2 w2 hown2 hg2 hat2; have hb2 : Below W.heap.size W w2 := below_grown hb1 hg2 (fun r hr => (hown1.lt r hr).1))
                | (refine step_app rfl (.tmp 54) (.tmp 57) rfl (base := W.heap.size) rfl hown2 rfl rfl (Ints.nil _ _) hcn' (by simp; omega) hb2.size ?_; intro v3 w3 hown3 hg3 hat3; have hb3 : Below W.heap.size W w3 := below_grown hb2 hg3 (fun r hr => (hown2.lt r hr).1)))
            all_goals
              go_wp2_with fail
              go_roundw
              case rel => exact ⟨i + 1, by omega, by go_num, by rw [HNX.out, insU_at HLS.out hk HGE.out]; exact rise_own hBW.size (by rw [show o.take o.length ++ x :: o.drop o.length = [] ++ o.take o.length ++ [x] ++ [] from by simp]; exact hown3), hBW.trans (hb3.mono hBW.size)⟩
              case measure => simp [intOf]; omega
    · have hall : riseL zs = o := by rw [← HO.out, List.take_of_length_le (by have := HN.out; omega)]
      have HALL := Lib.hid hall
      clear hall
      go_wp2_with fail
      go_ret
      exact ⟨_, rfl, by rw [HALL.out]; exact hown, hB⟩

end Go.Proofs.Ytnopbhlhdecimaa.Co

/-
  The changes from one timeline to another one, made from end to end: plain facts.
-/
namespace Go.Proofs.Ytnopbhlhdecimaa
open Classical

/-- All ends of two lists of pieces. -/
def endsD (a b : List Pc) : List Int := (a ++ b).flatMap endsP
theorem steps_diff {a b : List Pc} {ts : List Int} (ha : TL a) (hb : TL b) (hp : ts.Pairwise (· < ·)) (ht : ∀ y, y ∈ ts ↔ y ∈ endsD a b) : Stepsg ts (diffV a b) := by
  have hr : (rightT a && rightT b) = true := by rw [(rightT_iff _).2 ha, (rightT_iff _).2 hb]; rfl
  have l1 : ∀ p ∈ a ++ b, p.f ∈ ts ∧ p.t ∈ ts := fun p hpl => ⟨(ht _).2 (List.mem_flatMap.2 ⟨p, hpl, by simp [endsP]⟩), (ht _).2 (List.mem_flatMap.2 ⟨p, hpl, by simp [endsP]⟩)⟩
  have a1 : ∀ p ∈ a, p.f ∈ ts ∧ p.t ∈ ts := fun p hpl => l1 p (List.mem_append.2 (.inl hpl))
  have b1 : ∀ p ∈ b, p.f ∈ ts ∧ p.t ∈ ts := fun p hpl => l1 p (List.mem_append.2 (.inr hpl))
  have hv : ∀ x, diffV a b x = diffO (fsP a x) (fsP b x) := fun x => by rw [diffV, hr, if_pos rfl]
  have hn : diffO none none = none := by rw [diffO, if_pos rfl]
  refine ⟨hp, fun e he => ?_, fun i c d x hc hd hx1 hx2 => ?_, fun x hx => ?_, fun x hx => ?_⟩
  · obtain ⟨p, hpl, he⟩ := List.mem_flatMap.1 ((ht e).1 he)
    have hpr : rightP p.f p.t = true := by
      rcases List.mem_append.1 hpl with h | h
      · exact ha.rights p h
      · exact hb.rights p h
    have := (rightP_iff _ _).1 hpr
    simp [endsP] at he
    omega
  · have hcong : ∀ (k : List Pc), (∀ p ∈ k, p.f ∈ ts ∧ p.t ∈ ts) → fsP k x = fsP k c := fun k hk => fs_congr fun p hpk => by
      have k1 := end_le hp hc hd hx1 hx2 (hk p hpk).1
      have k2 := end_le hp hc hd hx1 hx2 (hk p hpk).2
      rw [Bool.eq_iff_iff, hasP_iff, hasP_iff]
      omega
    rw [hv, hv, hcong a a1, hcong b b1]
  · have hz : ∀ (k : List Pc), (∀ p ∈ k, p.f ∈ ts ∧ p.t ∈ ts) → fsP k x = none := fun k hk => fsP_none fun p hpk h => by
      rw [hasP_iff] at h
      have := end_first hp hx (hk p hpk).1
      omega
    rw [hv, hz a a1, hz b b1, hn]
  · have hz : ∀ (k : List Pc), (∀ p ∈ k, p.f ∈ ts ∧ p.t ∈ ts) → fsP k x = none := fun k hk => fsP_none fun p hpk h => by
      rw [hasP_iff] at h
      have := hx p.t (hk p hpk).2
      omega
    rw [hv, hz a a1, hz b b1, hn]

/-- A change behind others. -/
def putC (l : List Ch) (c : Ch) : List Ch := match l.getLast? with
  | none => [c]
  | some q => if (decide (q.t = c.f) && alikeC q c) = true then l.dropLast ++ [{ q with t := c.t }] else l ++ [c]
theorem pgs_put (l : List Ch) (c : Ch) : pgs (putC l c) = putPg (pgs l) (pgC c) := by
  unfold putC putPg pgs
  rw [List.getLast?_map]
  cases h : l.getLast? with
  | none => rfl
  | some q =>
    simp only [Option.map_some]
    by_cases hj : q.t = c.f ∧ vC q = vC c
    · rw [if_pos hj, if_pos (by rw [Bool.and_eq_true, decide_eq_true_eq, alikeC_iff]; exact hj), List.map_append, List.map_dropLast]
      rfl
    · rw [if_neg hj, if_neg (by rw [Bool.and_eq_true, decide_eq_true_eq, alikeC_iff]; exact hj), List.map_append]
      rfl
/-- Made so far. -/
abbrev MadeC (ts : List Int) (a b : List Pc) (i : Nat) (o : List Ch) : Prop := MadeTg ts (diffV a b) i (pgs o)
theorem MadeC.put {ts : List Int} {a b : List Pc} (h : Stepsg ts (diffV a b)) {i : Nat} {o : List Ch} (k : MadeC ts a b i o) {c : Ch} (hf : ts[i]? = some c.f) (ht : ts[i + 1]? = some c.t) (hg : diffV a b c.f = some (vC c)) : MadeC ts a b (i + 1) (putC o c) := by
  unfold MadeC
  rw [pgs_put]
  exact MadeTg.next (p := pgC c) h k hf ht hg
theorem MadeC.diff {ts : List Int} {a b : List Pc} (h : Stepsg ts (diffV a b)) {i : Nat} {o : List Ch} (k : MadeC ts a b i o) (hi : ts.length = i + 1) : DiffL a b o := ⟨(MadeTg.stop h k hi).1, (MadeTg.stop h k hi).2⟩
theorem diff_none {a b : List Pc} (h : ¬ (rightT a && rightT b) = true) : DiffL a b [] := ⟨trivial, fun x => by rw [diffV, if_neg h]; rfl⟩
/-- A change at a time, of what both have there. -/
theorem diffV_at {a b : List Pc} (hr : (rightT a && rightT b) = true) (x : Int) : diffV a b x = if ((fsP a x).isSome == (fsP b x).isSome && sameF (firstF a x) (firstF b x)) = true then none else some ((fsP a x).isSome, (fsP b x).isSome, firstF a x, firstF b x) := by
  rw [diffV, if_pos hr, diffO]
  unfold firstF
  cases fsP a x with
  | none =>
    cases fsP b x with
    | none => rw [if_pos rfl, if_pos (by simp [sameF_self])]
    | some t => rw [if_neg (by simp), if_neg (by simp)]
  | some s =>
    cases fsP b x with
    | none => rw [if_neg (by simp), if_neg (by simp)]
    | some t =>
      by_cases e : s = t
      · rw [if_pos (by rw [e]), if_pos (by subst e; simp [sameF_self])]
      · rw [if_neg (fun k => e (by injection k)), if_neg]
        intro k
        rw [Bool.and_eq_true] at k
        exact e (sameF_eq _ _ k.2)

end Go.Proofs.Ytnopbhlhdecimaa

/-
  The document's put: a piece behind a timeline of the call's own.
-/
namespace Go.Proofs.Ytnopbhlhdecimaa
open Go.RowKit

theorem own_at {w : World} {base : Nat} {v : Value} {L : List Pc} (h : ownE EP w base v L) (hL : L ≠ []) : ∃ g c, v = .slice (some ⟨g, 0, none⟩) L.length c := by
  rcases h.2 with ⟨_, h0⟩ | ⟨g, cap, cur, hv, _⟩
  · exact absurd (List.eq_nil_of_length_eq_zero h0) hL
  · exact ⟨g, cap, hv⟩
theorem putP_none (p : Pc) : putP [] p = [] ++ [p] := rfl
theorem putP_app {m : List Pc} {q p : Pc} (h : ¬ (q.t = p.f ∧ sameF q.fs p.fs = true)) : putP (m ++ [q]) p = (m ++ [q]) ++ [p] := by
  unfold putP
  rw [show (m ++ [q]).getLast? = some q by simp]
  simp only
  rw [if_neg h]
theorem putP_join {m : List Pc} {q p : Pc} (h : q.t = p.f ∧ sameF q.fs p.fs = true) : putP (m ++ [q]) p = m ++ [{ q with t := p.t }] := by
  unfold putP
  rw [show (m ++ [q]).getLast? = some q by simp, List.dropLast_concat]
  simp only
  rw [if_pos h]

set_option maxHeartbeats 4000000 in
set_option maxRecDepth 100000 in
theorem dput_nil {W w : World} {v : Value} {p : Pc} (h : OutP W [] v w) (hp : KP w v.ownBlock p) : Calls Try.prog 46 #[v, pv p] w fun e w' => ∃ v', e = .returned v' ∧ OutP W [p] v' w' := by
  obtain ⟨A, c, hv, _⟩ := h.pcs.1
  have hb1 : Below w.heap.size w (w.alloc (ocP p)) := (bl w).alloc (Nat.le_refl _) _
  have hm1 : IntKind.i64.wrap ((0 : Int) - 1) = -1 := by decide
  have HP := Lib.hid hp
  have HH := Lib.hid h
  have HB1 := Lib.hid hb1
  simp only [List.length_nil] at hv
  subst hv
  clear h hp hb1
  go_enter Try.func46, Try.ntmps46
  go_wp2_with fail
  go_quiet (fail)
  refine abstract_then (fun w' => Below w.heap.size w w' ∧ BoxP w' w.heap.size p) ⟨belowN HB1.out _, ((boxP_new w p).below (belowN (bl _) _))⟩ ?_
  rintro w1 ⟨hb1, ⟨b0, b1, b2⟩⟩
  have HB1 := Lib.hid hb1
  clear hb1
  go_wp2_with (first
    | (at_builtin; refine wpList_appP rfl (.tmp 42) (.tmp 44) rfl rfl (World.ownsRow.alloc (HH.out.below HB1.out).own _) (xs := [p]) rfl rfl (by have hrow := rowE_one (E := EP) w1 p #[.int .i64 p.f, .int .i64 p.t, .slice p.fa p.fs.length p.fc] rfl 45; first | exact hrow | (simp at hrow ⊢; exact hrow)) (fun h => by cases h) (by simp) (by have := (HH.out.below HB1.out).bel.size; simp; omega) ?_; intro v' w3 hown3 hg3 ho3; have HN3 := Lib.hid (((HH.out.below HB1.out).below ((bl w1).alloc (Nat.le_refl _) _)).app ((HP.out.below HB1.out).below ((bl w1).alloc (Nat.le_refl _) _)) hg3 hown3 ho3); clear hown3 hg3 ho3)
    | go_in)
  go_ret
  exact ⟨_, rfl, HN3.out⟩

set_option maxHeartbeats 4000000 in
set_option maxRecDepth 100000 in
theorem dput_more {W w : World} {g c : Nat} {m : List Pc} {q p : Pc} (h : OutP W (m ++ [q]) (.slice (some ⟨g, 0, none⟩) (m.length + 1) c) w) (hp : KP w (some g) p) (hn : m.length ≤ 100000) (hqs : q.fs.length ≤ 9223372036854775807) (hps : p.fs.length ≤ 9223372036854775807) : Calls Try.prog 46 #[.slice (some ⟨g, 0, none⟩) (m.length + 1) c, pv p] w fun e w' => ∃ v', e = .returned v' ∧ OutP W (putP (m ++ [q]) p) v' w' := by
  have HH := Lib.hid h
  have HP := Lib.hid hp
  have HX := Lib.hid (show Cells3 w g (m.length * 3) q by
    obtain ⟨A2, c2, e2, hr, _⟩ := h.pcs.1
    injection e2 with e2 _ _
    rw [← e2] at hr
    have hx : (m ++ [q])[m.length]? = some q := by simp
    have k0 := hr.at hx (j := 0) rfl
    have k1 := hr.at hx (j := 1) rfl
    have k2 := hr.at hx (j := 2) rfl
    rw [Nat.zero_add] at k0 k1 k2
    exact ⟨k0, k1, k2⟩)
  have HFZ := Lib.hid (show ∀ w', Below w.heap.size w w' → w'.frozen? ⟨g, m.length * 3 + 1, none⟩ = false from fun w' hb => by
    have e := ownE_below h.own hb
    unfold ownE at e
    rw [show (m ++ [q]).length = m.length + 1 by simp] at e
    exact World.ownsRow.frozenAt e _)
  have HSET := Lib.hid (fun w' (hb : Below w.heap.size w w') (n : Nat) (hn : n = m.length + 1) (x : Int) => (show OutP W (m ++ [{ q with t := x }]) (.slice (some ⟨g, 0, none⟩) n c) (w'.setCell ⟨g, m.length * 3 + 1, none⟩ (.int .i64 x)) by
    subst hn
    exact (h.below hb).setLast rfl x))
  have CO := Lib.hid (fun w' (hb : Below w.heap.size w w') => dsamel_any w' (.slice q.fa q.fs.length q.fc) (.slice p.fa p.fs.length p.fc) q.fs p.fs ((h.kp q (by simp)).1.below hb).list ((hp.1.below hb).list) hqs hps)
  have HB1 := Lib.hid (show Below w.heap.size w (w.alloc (ocP p)) from (bl w).alloc (Nat.le_refl _) _)
  have MK := Lib.hid (show ∀ w', Below (w.alloc (ocP p)).heap.size (w.alloc (ocP p)) w' → (Below (w.alloc (ocP p)).heap.size (w.alloc (ocP p)) w' ∧ Cells3 w' g (m.length * 3) q ∧ BoxP w' w.heap.size p) from fun w' hb => ⟨hb, (HX.out.below HB1.out).below hb, (boxP_new w p).below hb⟩)
  have HN := Lib.hid hn
  have NA := Lib.hid (putP_app (m := m) (q := q) (p := p))
  have NJ := Lib.hid (putP_join (m := m) (q := q) (p := p))
  obtain ⟨n, hn1⟩ : ∃ n, m.length + 1 = n := ⟨_, rfl⟩
  obtain ⟨j, hj⟩ : ∃ j, m.length = j := ⟨_, rfl⟩
  have hsub : IntKind.i64.wrap ((n : Int) - 1) = (j : Int) := by rw [IntWalk.i64_in _ (by omega)]; omega
  have hjn : (j : Int) < (n : Int) := by omega
  have hjn2 : j < n := by omega
  have hj0 : (0 : Int) ≤ (j : Int) := by omega
  have HNJ := Lib.hid (show n = j + 1 by omega)
  rw [hn1] at HH ⊢
  rw [hj] at HX HFZ HSET MK
  clear h hp hn hqs hps hn1 hj
  by_cases h1 : q.t = p.f
  · have h1' : (q.t == p.f) = true := by simpa using h1
    have H1 := Lib.hid h1
    clear h1
    generalize hs : sameF q.fs p.fs = s at *
    have HS := Lib.hid hs
    clear hs
    cases s with
    | true =>
      have NX := Lib.hid (NJ.out ⟨H1.out, rfl⟩)
      clear NA NJ
      go_enter Try.func46, Try.ntmps46
      go_wp2_with fail
      first
        | (go_region_held3 (fun w' => Below (w.alloc (ocP p)).heap.size (w.alloc (ocP p)) w' ∧ Cells3 w' g (j * 3) q ∧ BoxP w' w.heap.size p)
            (first | exact MK.out _ ((bl (w.alloc (ocP p))).drew) | exact MK.out _ hb1 | fail)
            (first | (go_at_call 27; (refine (CO.out _ (chain HB1.out (by go_split_ands; assumption))).mono ?_); (rintro e w1 ⟨rfl, hb0⟩); (have hb1 := chain (by go_split_ands; assumption) hb0); clear hb0) | fail))
        | fail
      have HB2 := Lib.hid (chain HB1.out hb1)
      obtain ⟨_, ⟨z0, z1, z2⟩, ⟨b0, b1, b2⟩⟩ := MK.out _ hb1
      have f1 := HFZ.out _ HB2.out
      go_wp2_with fail
      go_ret
      exact ⟨_, rfl, by rw [NX.out]; exact HSET.out _ HB2.out n HNJ.out p.t⟩
    | false =>
      have NX := Lib.hid (NA.out (fun hh => by cases hh.2))
      clear NA NJ
      go_enter Try.func46, Try.ntmps46
      go_wp2_with fail
      first
        | (go_region_held3 (fun w' => Below (w.alloc (ocP p)).heap.size (w.alloc (ocP p)) w' ∧ Cells3 w' g (j * 3) q ∧ BoxP w' w.heap.size p)
            (first | exact MK.out _ ((bl (w.alloc (ocP p))).drew) | exact MK.out _ hb1 | fail)
            (first | (go_at_call 27; (refine (CO.out _ (chain HB1.out (by go_split_ands; assumption))).mono ?_); (rintro e w1 ⟨rfl, hb0⟩); (have hb1 := chain (by go_split_ands; assumption) hb0); clear hb0) | fail))
        | fail
      have HB2 := Lib.hid (chain HB1.out hb1)
      obtain ⟨_, ⟨z0, z1, z2⟩, ⟨b0, b1, b2⟩⟩ := MK.out _ hb1
      obtain ⟨W1, hW1⟩ : ∃ W1, w1 = W1 := ⟨_, rfl⟩
      subst hW1
      go_wp2_with (first
        | (at_builtin; refine wpList_appP rfl (.tmp 42) (.tmp 44) rfl rfl (World.ownsRow.alloc (HH.out.below HB2.out).own _) (xs := [p]) rfl rfl (by have hrow := rowE_one (E := EP) w1 p #[.int .i64 p.f, .int .i64 p.t, .slice p.fa p.fs.length p.fc] rfl 45; first | exact hrow | (simp at hrow ⊢; exact hrow)) (fun h => by cases h) (by simp; have := HN.out; omega) (by have := (HH.out.below HB2.out).bel.size; simp; omega) ?_; intro v' w3 hown3 hg3 ho3; have HN3 := Lib.hid (((HH.out.below HB2.out).below ((bl w1).alloc (Nat.le_refl _) _)).app ((HP.out.below HB2.out).below ((bl w1).alloc (Nat.le_refl _) _)) hg3 hown3 ho3); clear hown3 hg3 ho3)
        | go_in)
      go_ret
      exact ⟨_, rfl, by rw [NX.out]; exact HN3.out⟩
  · have h1' : (q.t == p.f) = false := by simpa using h1
    have NX := Lib.hid (NA.out (fun hh => h1 hh.1))
    clear NA NJ
    obtain ⟨z0, z1, z2⟩ := HX.out.below HB1.out
    go_enter Try.func46, Try.ntmps46
    go_wp2_with fail
    go_quiet (fail)
    refine abstract_then (fun w' => Below w.heap.size w w' ∧ BoxP w' w.heap.size p) ⟨belowN HB1.out _, ((boxP_new w p).below (belowN (bl _) _))⟩ ?_
    rintro w1 ⟨hb2, ⟨b0, b1, b2⟩⟩
    have HB2 := Lib.hid hb2
    clear hb2 z0 z1 z2
    go_wp2_with (first
      | (at_builtin; refine wpList_appP rfl (.tmp 42) (.tmp 44) rfl rfl (World.ownsRow.alloc (HH.out.below HB2.out).own _) (xs := [p]) rfl rfl (by have hrow := rowE_one (E := EP) w1 p #[.int .i64 p.f, .int .i64 p.t, .slice p.fa p.fs.length p.fc] rfl 45; first | exact hrow | (simp at hrow ⊢; exact hrow)) (fun h => by cases h) (by simp; have := HN.out; omega) (by have := (HH.out.below HB2.out).bel.size; simp; omega) ?_; intro v' w3 hown3 hg3 ho3; have HN3 := Lib.hid (((HH.out.below HB2.out).below ((bl w1).alloc (Nat.le_refl _) _)).app ((HP.out.below HB2.out).below ((bl w1).alloc (Nat.le_refl _) _)) hg3 hown3 ho3); clear hown3 hg3 ho3)
      | go_in)
    go_ret
    exact ⟨_, rfl, by rw [NX.out]; exact HN3.out⟩

theorem dtput_any {W w : World} {v : Value} {L : List Pc} {p : Pc} (h : OutP W L v w) (hp : KP w v.ownBlock p) (hn : L.length ≤ 100000) (hL : ∀ q ∈ L, q.fs.length ≤ 9223372036854775807) (hps : p.fs.length ≤ 9223372036854775807) : Calls Try.prog 46 #[v, pv p] w fun e w' => ∃ v', e = .returned v' ∧ OutP W (putP L p) v' w' := by
  rcases List.eq_nil_or_concat L with rfl | ⟨m, q, rfl⟩
  · exact dput_nil h hp
  · rw [List.concat_eq_append] at *
    obtain ⟨g, c, rfl⟩ := own_at h.own (by simp)
    rw [show (m ++ [q]).length = m.length + 1 by simp] at *
    exact dput_more h hp (by omega) (hL q (by simp)) hps

end Go.Proofs.Ytnopbhlhdecimaa

/-
  Plain facts for the laws of fields: what is made may be; the chapter's examples.
-/
namespace Go.Proofs.Ytnopbhlhdecimaa

theorem layL_length : ∀ (l : List Fd) (f : Fd), (layL l f).length ≤ l.length + 1
  | [], _ => Nat.le_refl _
  | g :: l, f => by
    rw [layL]
    split
    · rw [List.length_cons, List.length_cons]; have := layL_length l f; omega
    · split
      · rw [List.length_cons, List.length_cons]; omega
      · rw [List.length_cons, List.length_cons]; omega
theorem foldl_length : ∀ (l a : List Fd), (l.foldl layL a).length ≤ a.length + l.length
  | [], _ => Nat.le_refl _
  | f :: l, a => by
    rw [List.foldl_cons, List.length_cons]
    have h1 := foldl_length l (layL a f)
    have h2 := layL_length a f
    omega
theorem overL_length (l : List Fd) : (overL l).length ≤ l.length := by have := foldl_length l []; rw [List.length_nil] at this; unfold overL; omega
theorem overL_snoc (l : List Fd) (f : Fd) : overL (l ++ [f]) = layL (overL l) f := by unfold overL; rw [List.foldl_append]; rfl
theorem foldl_mem : ∀ (l a : List Fd) (g : Fd), g ∈ l.foldl layL a → g ∈ a ∨ g ∈ l
  | [], _, _, h => .inl h
  | f :: l, a, g, h => by
    rcases foldl_mem l (layL a f) g h with h | h
    · rcases layL_mem a f g h with rfl | h
      · exact .inr List.mem_cons_self
      · exact .inl h
    · exact .inr (List.mem_cons_of_mem _ h)
theorem overL_mem {l : List Fd} {g : Fd} (h : g ∈ overL l) : g ∈ l := by
  rcases foldl_mem l [] g h with h | h
  · simp at h
  · exact h
theorem firstE_all : ∀ l : List Fd, firstE l = 0 → ∀ f ∈ l, oneE f = 0
  | [], _, f, hf => by simp at hf
  | g :: l, h, f, hf => by
    rw [firstE] at h
    by_cases h1 : oneE g = 0
    · rw [if_pos h1] at h
      rcases List.mem_cons.1 hf with rfl | hf
      · exact h1
      · exact firstE_all l h f hf
    · rw [if_neg h1] at h; exact absurd h h1
theorem rises_right : ∀ (l : List Fd) (o : Option ByteArray), Rises l → (∀ f ∈ l, oneE f = 0) → (∀ p, o = some p → ∀ f ∈ l, aheadB p f.n = true) → rightG o l = 0
  | [], o, _, _, _ => by cases o <;> rfl
  | f :: l, o, h, h1, h2 => by
    have h0 := h1 f List.mem_cons_self
    have ih := rises_right l (some f.n) h.2 (fun g hg => h1 g (List.mem_cons_of_mem _ hg)) (fun p hp g hg => by cases hp; exact h.1 g hg)
    cases o with
    | none => rw [rightG_none, if_pos h0, ih]
    | some p => rw [rightG_some, if_pos h0, if_pos (h2 p rfl f List.mem_cons_self), ih]
theorem make_big {l : List Fd} (h : 8 < l.length) : makeF l = ([], 4) := by unfold makeF; rw [if_pos h]
theorem make_bad {l : List Fd} (h : ¬ 8 < l.length) (h2 : firstE l ≠ 0) : makeF l = ([], firstE l) := by unfold makeF; rw [if_neg h, if_neg h2]
theorem make_twice {l : List Fd} (h : ¬ 8 < l.length) (h2 : firstE l = 0) (h3 : (overL l).length ≠ l.length) : makeF l = ([], 7) := by unfold makeF; rw [if_neg h, if_pos h2, if_neg h3]
theorem make_good {l : List Fd} (h : ¬ 8 < l.length) (h2 : firstE l = 0) (h3 : (overL l).length = l.length) : makeF l = (overL l, 0) := by unfold makeF; rw [if_neg h, if_pos h2, if_pos h3]
/-- What is made may be. -/
theorem make_right {l : List Fd} (h : (makeF l).2 = 0) : rightE (makeF l).1 = 0 := by
  by_cases h8 : 8 < l.length
  · rw [make_big h8] at h; cases h
  · by_cases h2 : firstE l = 0
    · by_cases h3 : (overL l).length = l.length
      · rw [make_good h8 h2 h3]
        unfold rightE
        rw [if_neg (by show ¬ 8 < (overL l).length; omega)]
        exact rises_right _ none (overL_rises l) (fun f hf => firstE_all l h2 f (overL_mem hf)) (fun p hp => by cases hp)
      · rw [make_twice h8 h2 h3] at h; cases h
    · rw [make_bad h8 h2] at h; exact absurd h h2
theorem make_length (l : List Fd) : (makeF l).1.length ≤ 8 := by
  by_cases h8 : 8 < l.length
  · rw [make_big h8]; decide
  · by_cases h2 : firstE l = 0
    · by_cases h3 : (overL l).length = l.length
      · rw [make_good h8 h2 h3]; show (overL l).length ≤ 8; omega
      · rw [make_twice h8 h2 h3]; decide
    · rw [make_bad h8 h2]; exact Nat.zero_le _
theorem right_length {l : List Fd} (h : rightE l = 0) : l.length ≤ 8 := by
  unfold rightE at h
  by_cases h8 : 8 < l.length
  · rw [if_pos h8] at h; cases h
  · omega
theorem take_length (s : ByteArray) : (takeF s).1.length ≤ 8 := by
  by_cases h : (takeF s).2.2 = 0
  · exact right_length (putF_take h).1
  · have e : (takeF s).1 = [] := by
      unfold takeF at h ⊢
      by_cases h1 : tkE s ≠ 0
      · rw [if_pos h1]
      · rw [if_neg h1] at h ⊢
        by_cases h2 : 8 < tkN s
        · rw [if_pos h2]
        · rw [if_neg h2] at h ⊢
          rw [takeG_err h]
    rw [e]; decide

/-- The chapter's examples. -/
def nA : ByteArray := ⟨#[97]⟩
def nB : ByteArray := ⟨#[98]⟩
def nC : ByteArray := ⟨#[99]⟩
theorem example_over : overL ([[⟨nA, 1⟩, ⟨nB, 2⟩], [⟨nB, 3⟩, ⟨nC, 4⟩]] : List (List Fd)).flatten = [⟨nA, 1⟩, ⟨nB, 3⟩, ⟨nC, 4⟩] := by
  have h1 : aheadB nA nB = true := by decide +kernel
  have h2 : aheadB nB nB = false := by decide +kernel
  have h3 : aheadB nB nC = true := by decide +kernel
  have h4 : aheadB nA nC = true := by decide +kernel
  have h5 : aheadB nB nA = false := by decide +kernel
  simp [overL, layL, h1, h2, h3, h4]
theorem example_put : rightE [⟨nA, 1⟩] = 0 ∧ putS [⟨nA, 1⟩] = ⟨#[1, 1, 97, 2]⟩ := by
  have h : rightE [⟨nA, 1⟩] = 0 := by decide +kernel
  refine ⟨h, ?_⟩
  unfold putS
  rw [if_pos h]
  decide +kernel

end Go.Proofs.Ytnopbhlhdecimaa

/-
  The document's Make.
-/
namespace Go.Proofs.Ytnopbhlhdecimaa
open Go.RowKit

def EI : El Int where
  s := 62
  e := 3
  sz := 1
  bys := 8
  z := .int .i64 0
  cells := fun x => [.int .i64 x]
  pos := by decide
  few := by decide
  len := fun _ => rfl
  one := fun x u hu => by
    obtain rfl : u = .int .i64 x := by simpa using hu
    rfl
  und := Try.underlying62
  info := by kernel_rfl
  zs := rfl
theorem rowI_ints {w : World} {A : Option Addr} {l : List Int} (h : RowE EI w A l) : Co.Ints w A l := fun i x hx => by
  obtain ⟨g, off, rfl, hc⟩ := h i x hx
  refine ⟨g, off, rfl, ?_⟩
  have := hc 0 _ rfl
  rwa [Nat.add_zero, show off + i * EI.sz = off + i by rw [show EI.sz = 1 from rfl, Nat.mul_one]] at this
theorem rowI_two (w : World) (x y : Int) : RowE EI (w.alloc (.cells #[.int .i64 x, .int .i64 y] 3)) (some ⟨w.heap.size, 0, none⟩) [x, y] := rowE_new (E := EI) w [x, y] 3
theorem ownE_cells {α : Type} {E : El α} {w : World} {base g cap : Nat} {cur : Array Value} {L : List α} (hb : w.heap[g]? = some (.cells cur E.e (0, 0))) (hbase : base ≤ g) (hr : RowE E w (some ⟨g, 0, none⟩) L) (hn : L.length ≤ cap) (hm : cap ≤ maxLen) (hs : cur.size = cap * E.sz) : ownE E w base (.slice (some ⟨g, 0, none⟩) L.length cap) L := by
  refine ⟨flatE_length L, .inr ⟨g, cap, cur, rfl, hbase, hb, hn, hm, hs, ?_⟩⟩
  apply List.ext_getElem?
  intro j
  by_cases hj : j < L.length * E.sz
  · obtain ⟨u, hu⟩ : ∃ u, (flatE E L)[j]? = some u := ⟨_, List.getElem?_eq_getElem (by rw [flatE_length]; exact hj)⟩
    have c := flatE_cell hr hu
    rw [List.getElem?_take_of_lt hj, hu]
    simp only [Go.WideShapes.add_plain, Nat.zero_add] at c
    rw [cell_of_row w g j cur E.e (0, 0) hb] at c
    rw [Array.getElem?_toList]
    exact c
  · rw [List.getElem?_take_eq_none (by omega), List.getElem?_eq_none (by rw [flatE_length]; omega)]
theorem ends_new (w : World) (x y : Int) : OE EI w [x, y] (.slice (some ⟨w.heap.size, 0, none⟩) 2 2) (w.alloc (.cells #[.int .i64 x, .int .i64 y] 3)) :=
  ⟨ownE_cells (E := EI) (L := [x, y]) (cap := 2) (heap_alloc_new w _) (Nat.le_refl _) (rowI_two w x y) (by simp) (by simp [maxLen]) (by simp [EI]), (bl w).alloc (Nat.le_refl _) _⟩
theorem OE.apartI {α : Type} {E : El α} {W w : World} {l : List α} {v : Value} (h : OE E W l v w) {B : Nat} (hB : w.heap.size ≤ B) : v.ownBlock ≠ some B := fun e => by
  have := (h.own.lt B e).2
  omega
theorem ends_in {a : Int × Int} {l : List Vr} (ha : rightP a.1 a.2 = true) {y : Int} (hy : y ∈ endsM a l) : a.1 ≤ y ∧ y ≤ a.2 := by
  have hr := (rightP_iff _ _).1 ha
  unfold endsM at hy
  rcases List.mem_append.1 hy with he | he
  · simp at he
    rcases he with rfl | rfl <;> omega
  · obtain ⟨v, hv, he⟩ := List.mem_flatMap.1 he
    unfold endsV at he
    split at he
    · rename_i hh
      rw [Bool.and_eq_true] at hh
      have hh2 := (meetB_iff _ _ _ _).1 hh.1
      have := (rightP_iff _ _).1 hh2.1.2
      have := hh2.2
      simp only [Co.meetF, Co.meetT, hh.1, if_true, List.mem_cons, List.not_mem_nil, or_false] at he
      omega
    · simp at he
theorem makeV_few {a : Int × Int} {l : List Vr} (hf : fewV l) : ∀ x s, makeV a l x = some s → s.length ≤ 20000 := fun x s hs => by
  unfold makeV at hs
  split at hs
  · injection hs with hs
    rw [← hs, atL, ofL]
    have h1 := overL_length (countsV (l.filter fun v => coversB v x)).flatten
    have h2 := (counts_few (few_filter (fun v => coversB v x) hf)).2.1
    omega
  · cases hs
theorem made_few {ts : List Int} {g : Int → Option (List Fd)} {i : Nat} {o : List Pc} (h : MadeT ts g i o) {e : Int} (he : ts[i]? = some e) {n : Nat} (hg : ∀ x s, g x = some s → s.length ≤ n) : ∀ q ∈ o, q.fs.length ≤ n := fun q hq => by
  have h1 := fs_mem h.tl q hq
  rw [h.fs e he] at h1
  split at h1
  · exact hg _ _ h1
  · cases h1

/-- The ends, place by place. -/
theorem ends_next {a : Int × Int} {l : List Vr} {t : Nat} {v : Vr} (h : l[t]? = some v) : (l.take (t + 1)).flatMap (endsV a) = (l.take t).flatMap (endsV a) ++ endsV a v := by
  rw [List.take_add_one, h, Option.toList_some, List.flatMap_append]
  simp

end Go.Proofs.Ytnopbhlhdecimaa

/-
  The document's Splice.
-/
namespace Go.Proofs.Ytnopbhlhdecimaa
open Go.RowKit

theorem endsP_next {l : List Pc} {t : Nat} {p : Pc} (h : l[t]? = some p) : (l.take (t + 1)).flatMap endsP = (l.take t).flatMap endsP ++ [p.f, p.t] := by
  rw [List.take_add_one, h, Option.toList_some, List.flatMap_append]
  simp [endsP]
theorem endsP_len (l : List Pc) : (l.flatMap endsP).length ≤ 2 * l.length := flat2_length endsP (fun _ => Nat.le_refl 2) l
theorem spliceV_few {a : Int × Int} {l m : List Pc} {n : Nat} (h : ∀ p ∈ l, p.fs.length ≤ n) (k : ∀ p ∈ m, p.fs.length ≤ n) : ∀ x s, spliceV a l m x = some s → s.length ≤ n := fun x s hs => by
  unfold spliceV at hs
  split at hs
  · exact fs_small k hs
  · exact fs_small h hs
theorem first_some {l : List Pc} {x : Int} (h : (fsP l x).isSome = true) : fsP l x = some (firstF l x) := by
  unfold firstF
  cases hf : fsP l x with
  | none => rw [hf] at h; cases h
  | some s => rfl
theorem first_none {l : List Pc} {x : Int} (h : (fsP l x).isSome = false) : fsP l x = none := by
  cases hf : fsP l x with
  | none => rfl
  | some s => rw [hf] at h; cases h

set_option maxHeartbeats 4000000 in
set_option maxRecDepth 100000 in
theorem dtsplice_any (w : World) (a : Int × Int) (u u' : Value) (l m : List Pc) (hl : PcsL w u l) (hm : PcsL w u' m) (hnl : l.length ≤ 200) (hnm : m.length ≤ 200) (hfl : ∀ p ∈ l, p.fs.length ≤ 1000000) (hfm : ∀ p ∈ m, p.fs.length ≤ 1000000) : Calls Try.prog 32 #[u, .agg #[.int .i64 a.1, .int .i64 a.2], u'] w fun e w' => ∃ x, e = .returned x ∧ HasTL w' x (spliceG a l m) ∧ Below w.heap.size w w' := by
  have CL := Lib.hid (fun w' (h : Below w.heap.size w w') => dtright_any w' u l (hl.below h) (by omega) (fun p hp => by have := hfl p hp; omega))
  have CM := Lib.hid (fun w' (h : Below w.heap.size w w') => dtright_any w' u' m (hm.below h) (by omega) (fun p hp => by have := hfm p hp; omega))
  have CAL := Lib.hid (fun w' (h : Below w.heap.size w w') (x : Int) => dtat_any w' u l x (hl.below h) (by omega))
  have CAM := Lib.hid (fun w' (h : Below w.heap.size w w') (x : Int) => dtat_any w' u' m x (hm.below h) (by omega))
  have HPL := Lib.hid hl
  have HFL := Lib.hid hl.2
  have HFM := Lib.hid hm.2
  obtain ⟨⟨A, c, rfl, hA, hc, hnc⟩, _⟩ := hl
  obtain ⟨⟨B, d, rfl, hB, hd, hnd⟩, _⟩ := hm
  have HA := Lib.hid hA
  have HB := Lib.hid hB
  have HSF := Lib.hid (spliceV_few (a := a) hfl hfm)
  obtain ⟨n, hn1⟩ : ∃ n, l.length = n := ⟨_, rfl⟩
  obtain ⟨nm, hn2⟩ : ∃ nm, m.length = nm := ⟨_, rfl⟩
  rw [hn1] at hnl hc CL CAL ⊢
  rw [hn2] at hnm hd CM CAM ⊢
  have HN1 := Lib.hid hn1
  have HN2 := Lib.hid hn2
  have HB1 := Lib.hid (show Below w.heap.size w (w.alloc (ocS a.1 a.2)) from (bl w).alloc (Nat.le_refl _) _)
  have HS1 := Lib.hid (boxS_new w a.1 a.2)
  have CR := Lib.hid (fun w => dright01_any a.1 a.2 w)
  rw [rightS_P] at CR
  clear hA hc hnc hB hd hnd hn1 hn2 hfl hfm
  cases hrl : rightT l with
  | false =>
    rw [hrl] at CL
    have HG := Lib.hid (show ∀ x, spliceG a l m x = none from fun x => by unfold spliceG; rw [hrl]; rfl)
    clear hrl
    go_enter Try.func32, Try.ntmps32
    go_wp2_with (go_at_call 19; (with_reducible refine (CL.out _ HB1.out).mono ?_); rintro e w2 ⟨rfl, hb2⟩)
    go_ret
    exact ⟨_, rfl, ⟨[], TimeL.nil _ _ HG.out⟩, chain HB1.out hb2⟩
  | true =>
    rw [hrl] at CL
    cases hrm : rightT m with
    | false =>
      rw [hrm] at CM
      have HG := Lib.hid (show ∀ x, spliceG a l m x = none from fun x => by unfold spliceG; rw [hrl, hrm]; rfl)
      clear hrl hrm
      go_enter Try.func32, Try.ntmps32
      go_wp2_with (first
        | (go_at_call 19; (with_reducible refine (CL.out _ HB1.out).mono ?_); rintro e w2 ⟨rfl, hb2⟩)
        | (go_at_call 19; (with_reducible refine (CM.out _ (chain HB1.out hb2)).mono ?_); rintro e w3 ⟨rfl, hb3⟩))
      go_ret
      exact ⟨_, rfl, ⟨[], TimeL.nil _ _ HG.out⟩, chain (chain HB1.out hb2) hb3⟩
    | true =>
      rw [hrm] at CM
      have HTL := Lib.hid ((rightT_iff l).1 hrl)
      have HTM := Lib.hid ((rightT_iff m).1 hrm)
      have HGG := Lib.hid (show ∀ x, (if rightP a.1 a.2 = true then spliceV a l m x else fsP l x) = spliceG a l m x from fun x => by unfold spliceG; rw [hrl, hrm]; rfl)
      clear hrl hrm
      cases hr : rightP a.1 a.2 with
      | false =>
        rw [hr] at CR HGG
        have HG := Lib.hid (show ∀ x, fsP l x = spliceG a l m x from fun x => by rw [← HGG.out]; rfl)
        clear hr
        go_enter Try.func32, Try.ntmps32
        go_wp2_with (first
          | (go_at_call 19; (with_reducible refine (CL.out _ HB1.out).mono ?_); rintro e w2 ⟨rfl, hb2⟩; have hw2 := chain HB1.out hb2)
          | (go_at_call 19; (with_reducible refine (CM.out _ hw2).mono ?_); rintro e w3 ⟨rfl, hb3⟩; have hw3 := chain hw2 hb3; obtain ⟨y0, y1⟩ := (HS1.out.below hb2).below hb3)
          | (go_at_call 30; (with_reducible refine (CR.out _).mono ?_); rintro e w4 ⟨rfl, hb4⟩; have HW4 := Lib.hid (chain hw3 hb4)))
        go_ret
        exact ⟨_, rfl, ⟨l, by have := HPL.out.below HW4.out; rwa [HN1.out] at this, HTL.out, HG.out, by have := HN1.out; omega⟩, HW4.out⟩
      | true =>
        rw [hr] at CR HGG
        have HRA := Lib.hid hr
        have HG := Lib.hid (show ∀ x, spliceV a l m x = spliceG a l m x from fun x => by rw [← HGG.out]; rfl)
        clear hr
        go_enter Try.func32, Try.ntmps32
        go_wp2_with (first
          | (go_at_call 19; (with_reducible refine (CL.out _ HB1.out).mono ?_); rintro e w2 ⟨rfl, hb2⟩; have hw2 := chain HB1.out hb2)
          | (go_at_call 19; (with_reducible refine (CM.out _ hw2).mono ?_); rintro e w3 ⟨rfl, hb3⟩; have hw3 := chain hw2 hb3; have HSX := Lib.hid ((HS1.out.below hb2).below hb3); obtain ⟨y0, y1⟩ := HSX.out)
          | (go_at_call 30; (with_reducible refine (CR.out _).mono ?_); rintro e w4 ⟨rfl, hb4⟩; have HW4 := Lib.hid (chain hw3 hb4); have HS4 := Lib.hid (HSX.out.below hb4); clear y0 y1; obtain ⟨y0, y1⟩ := HS4.out))
        have HE0 := Lib.hid (ends_new w4 a.1 a.2)
        clear y0 y1 hb2 hw2 hb3 hw3 hb4
        go_loopw [7, 8] (fun o i wr => ∃ (t : Nat) (zs : List Int), t ≤ n ∧ i = .int .i64 (t : Nat) ∧ zs = [a.1, a.2] ++ (l.take t).flatMap endsP ∧ OE EI w4 zs o wr) (fun _ i _ => n - (intOf i).toNat)
        case atStart => exact ⟨0, [a.1, a.2], Nat.zero_le _, rfl, rfl, HE0.out⟩
        case round =>
          obtain ⟨t, zs, ht, rfl, hzs, hO⟩ := hrel
          have HZS := Lib.hid hzs
          have HO := Lib.hid hO
          clear hzs hO
          have HLEN := Lib.hid (show zs.length ≤ 402 by
            rw [HZS.out]
            have := endsP_len (l.take t)
            rw [List.length_take] at this
            rw [List.length_append]
            simp only [List.length_cons, List.length_nil]
            omega)
          by_cases hlt : t < n
          · have hlt' : (t : Int) < (n : Int) := by omega
            obtain ⟨p, hx⟩ : ∃ p, l[t]? = some p := ⟨_, List.getElem?_eq_getElem (by have := HN1.out; omega)⟩
            obtain ⟨g, off, rfl, hX⟩ := (HA.out.below HW4.out).cells3 hx
            have NX := Lib.hid (show zs ++ [p.f, p.t] = [a.1, a.2] ++ (l.take (t + 1)).flatMap endsP by rw [endsP_next hx, ← List.append_assoc, ← HZS.out])
            have HOD := Lib.hid (HO.out.below ((bl wr).drew))
            have MK := Lib.hid (show ∀ w', Below w4.heap.size w4 w' → (Below w4.heap.size w4 w' ∧ Cells3 w' g (off + t * 3) p) from fun w' h => ⟨h, hX.below h⟩)
            clear hx hX
            go_upto_region 9 with fail
            first
              | (go_region_held3 (fun w' => Below w4.heap.size w4 w' ∧ Cells3 w' g (off + t * 3) p)
                  (first | exact MK.out _ HOD.out.bel | exact MK.out _ (HOD.out.bel.alloc HOD.out.bel.size _) | exact MK.out _ HN4.out.bel | fail)
                  (first
                    | (refine step_appE (E := EI) (xs := [p.f, p.t]) rfl (.tmp 37) (.tmp 50) rfl rfl rfl (World.ownsRow.alloc HOD.out.own _) rfl rfl (by have hrow := rowI_two wr.drew p.f p.t; first | exact hrow | (simp at hrow ⊢; exact hrow)) (fun h => by cases h) (by have := HLEN.out; simp; omega) (by have := HOD.out.bel.size; simp at this ⊢; omega) ?_; intro v' w6 hown6 hg6 _; have HN4 := Lib.hid ((HOD.out.below ((bl wr.drew).alloc (Nat.le_refl _) _)).grown hg6 hown6))
                    | fail))
              | fail
            go_wp2_with fail
            exact ⟨⟨t + 1, zs ++ [p.f, p.t], by omega, by go_num, NX.out, HN4.out⟩, by simp [intOf] <;> omega⟩
          · obtain rfl : t = n := by omega
            have hlt' : ¬ (t : Int) < (t : Int) := by omega
            have HZE := Lib.hid (show zs = [a.1, a.2] ++ l.flatMap endsP by rw [HZS.out, List.take_of_length_le (by have := HN1.out; omega)])
            go_wp2_with fail
            go_loopw [7, 9] (fun o i wr => ∃ (t : Nat) (zs : List Int), t ≤ nm ∧ i = .int .i64 (t : Nat) ∧ zs = [a.1, a.2] ++ l.flatMap endsP ++ (m.take t).flatMap endsP ∧ OE EI w4 zs o wr) (fun _ i _ => nm - (intOf i).toNat)
            case atStart => exact ⟨0, zs, Nat.zero_le _, rfl, by rw [HZE.out]; simp, HO.out⟩
            case round =>
              obtain ⟨t2, zs2, ht2, rfl, hzs2, hO2⟩ := hrel
              have HZ2 := Lib.hid hzs2
              have HP := Lib.hid hO2
              clear hzs2 hO2 HO
              have HLEN2 := Lib.hid (show zs2.length ≤ 802 by
                rw [HZ2.out]
                have h1 := endsP_len (m.take t2)
                have h2 := endsP_len l
                have := HN1.out
                rw [List.length_take] at h1
                rw [List.length_append, List.length_append]
                simp only [List.length_cons, List.length_nil]
                omega)
              by_cases hlt2 : t2 < nm
              · have hlt2' : (t2 : Int) < (nm : Int) := by omega
                obtain ⟨p, hx⟩ : ∃ p, m[t2]? = some p := ⟨_, List.getElem?_eq_getElem (by have := HN2.out; omega)⟩
                obtain ⟨g, off, rfl, hX⟩ := (HB.out.below HW4.out).cells3 hx
                have NX := Lib.hid (show zs2 ++ [p.f, p.t] = [a.1, a.2] ++ l.flatMap endsP ++ (m.take (t2 + 1)).flatMap endsP by rw [endsP_next hx, ← List.append_assoc, ← HZ2.out])
                have HOD := Lib.hid (HP.out.below ((bl wr).drew))
                have MK := Lib.hid (show ∀ w', Below w4.heap.size w4 w' → (Below w4.heap.size w4 w' ∧ Cells3 w' g (off + t2 * 3) p) from fun w' h => ⟨h, hX.below h⟩)
                clear hx hX
                go_upto_region 13 with fail
                first
                  | (go_region_held3 (fun w' => Below w4.heap.size w4 w' ∧ Cells3 w' g (off + t2 * 3) p)
                      (first | exact MK.out _ HOD.out.bel | exact MK.out _ (HOD.out.bel.alloc HOD.out.bel.size _) | exact MK.out _ HN4.out.bel | fail)
                      (first
                        | (refine step_appE (E := EI) (xs := [p.f, p.t]) rfl (.tmp 58) (.tmp 71) rfl rfl rfl (World.ownsRow.alloc HOD.out.own _) rfl rfl (by have hrow := rowI_two wr.drew p.f p.t; first | exact hrow | (simp at hrow ⊢; exact hrow)) (fun h => by cases h) (by have := HLEN2.out; simp; omega) (by have := HOD.out.bel.size; simp at this ⊢; omega) ?_; intro v' w6 hown6 hg6 _; have HN4 := Lib.hid ((HOD.out.below ((bl wr.drew).alloc (Nat.le_refl _) _)).grown hg6 hown6))
                        | fail))
                  | fail
                go_wp2_with fail
                exact ⟨⟨t2 + 1, zs2 ++ [p.f, p.t], by omega, by go_num, NX.out, HN4.out⟩, by simp [intOf] <;> omega⟩
              · obtain rfl : t2 = nm := by omega
                have hlt2' : ¬ (t2 : Int) < (t2 : Int) := by omega
                have HZE2 := Lib.hid (show zs2 = endsS a l m by rw [HZ2.out, List.take_of_length_le (by have := HN2.out; omega)]; rfl)
                obtain ⟨A5, c5, hv5, hr5, _⟩ := HP.out.list
                subst hv5
                have CRI := Lib.hid (Co.rise_any A5 c5 zs2 wr (rowI_ints hr5) (by have := HLEN2.out; omega))
                obtain ⟨ts, hts⟩ : ∃ ts, Co.riseL zs2 = ts := ⟨_, rfl⟩
                rw [hts] at CRI
                have HST := Lib.hid (show Steps ts (spliceV a l m) from steps_splice HRA.out HTL.out HTM.out (by rw [← hts]; exact Co.riseL_pw _) (fun y => by rw [← hts, Co.mem_riseL, HZE2.out]))
                have HTS := Lib.hid (show ts.length ≤ 802 by rw [← hts]; have := Co.riseL_length zs2; have := HLEN2.out; omega)
                have HPOS := Lib.hid (show 1 ≤ ts.length by
                  have : a.1 ∈ ts := by rw [← hts, Co.mem_riseL, HZE2.out]; simp [endsS]
                  exact List.length_pos_of_mem this)
                clear hr5 hts
                obtain ⟨nz, hnz⟩ : ∃ nz, zs2.length = nz := ⟨_, rfl⟩
                rw [hnz] at CRI ⊢
                clear hnz
                have HW6 := Lib.hid (chain HW4.out HP.out.bel)
                have HSB6 := Lib.hid (HS4.out.below HP.out.bel)
                go_wp2_with (go_at_call 39; (with_reducible refine CRI.out.mono ?_); rintro e w5 ⟨v5, rfl, hown5, hb5⟩; have HW5 := Lib.hid (chain HW6.out hb5); have HS5 := Lib.hid (HSB6.out.below hb5); obtain ⟨A6, c6, rfl, hI6⟩ := Co.own_ints hown5; have HI := Lib.hid hI6; clear hown5 hI6 hb5)
                obtain ⟨n2, hn2⟩ : ∃ n2, ts.length = n2 := ⟨_, rfl⟩
                have HN3 := Lib.hid hn2
                rw [hn2] at HTS HPOS ⊢
                have h802 := HTS.out
                have hpos := HPOS.out
                have HPFL := Lib.hid (show ∀ p ∈ l, PF w5 p from fun p hp => (HFL.out p hp).below HW5.out)
                have HPFM := Lib.hid (show ∀ p ∈ m, PF w5 p from fun p hp => (HFM.out p hp).below HW5.out)
                clear hn2
                go_loopw [10, 11] (fun o i wq => ∃ (k : Nat) (L : List Pc), k + 1 ≤ n2 ∧ i = .int .i64 (k : Nat) ∧ MadeT ts (spliceV a l m) k L ∧ OutP w5 L o wq) (fun _ i _ => n2 - (intOf i).toNat)
                case atStart => exact ⟨0, [], hpos, rfl, MadeT.start HST.out, OutP.nil w5⟩
                case round =>
                  obtain ⟨wq, hwqe⟩ : ∃ wq, wq = wr := ⟨_, rfl⟩
                  subst hwqe
                  obtain ⟨k, L, hk, rfl, hM, hOq⟩ := hrel
                  have HM := Lib.hid hM
                  have HOQ := Lib.hid hOq
                  clear hM hOq
                  obtain ⟨m2, hm2⟩ : ∃ m2, k + 1 = m2 := ⟨_, rfl⟩
                  have HMM := Lib.hid hm2
                  have hk1 : IntKind.i64.wrap ((k : Int) + 1) = (m2 : Int) := by rw [IntWalk.i64_in _ (by omega)]; omega
                  by_cases hlt3 : k + 1 < n2
                  · have hlt3' : (m2 : Int) < (n2 : Int) := by omega
                    have hlt3n : m2 < n2 := by omega
                    obtain ⟨e1, he1⟩ : ∃ e, ts[k]? = some e := ⟨_, List.getElem?_eq_getElem (by have := HN3.out; omega)⟩
                    obtain ⟨e2, he2⟩ : ∃ e, ts[k + 1]? = some e := ⟨_, List.getElem?_eq_getElem (by have := HN3.out; omega)⟩
                    obtain ⟨gi, oi, rfl, hc1⟩ := HI.out k e1 he1
                    obtain ⟨gi', oi', he, hc2⟩ := HI.out (k + 1) e2 he2
                    injection he with he
                    injection he with q1 q2 _
                    subst q1 q2
                    have HC1 := Lib.hid hc1
                    have HC2 := Lib.hid (show w5.cell? ⟨gi, oi + m2, none⟩ = some (.int .i64 e2) by rw [← hm2]; exact hc2)
                    have HE1 := Lib.hid he1
                    have HE2 := Lib.hid he2
                    have HFW := Lib.hid (made_few HM.out he1 HSF.out)
                    have HLL := Lib.hid HM.out.len
                    have hkn : (k : Int) < (n2 : Int) := by omega
                    have hkn2 : k < n2 := by omega
                    have HWQ := Lib.hid (chain HW5.out HOQ.out.bel)
                    have HK1 := Lib.hid hlt3
                    have k1c := keepc HOQ.out.bel hc1
                    have CA1 := Lib.hid (CAL.out wq (chain HW5.out HOQ.out.bel) e1)
                    have CH := Lib.hid (fun w => dhas01_any a.1 a.2 e1 w)
                    rw [hasS_P] at CH
                    have HSV := Lib.hid (show spliceV a l m e1 = if inP a.1 a.2 e1 = true then fsP m e1 else fsP l e1 from rfl)
                    have MK := Lib.hid (show ∀ w', Below w5.heap.size w5 w' → (Below w5.heap.size w5 w' ∧ w'.cell? ⟨gi, oi + k, none⟩ = some (.int .i64 e1) ∧ w'.cell? ⟨gi, oi + m2, none⟩ = some (.int .i64 e2) ∧ BoxS w' w.heap.size a.1 a.2) from fun w' h => ⟨h, keepc h HC1.out, keepc h HC2.out, HS5.out.below h⟩)
                    generalize inP a.1 a.2 e1 = hb at *
                    obtain ⟨sl, hsl⟩ : ∃ sl, firstF l e1 = sl := ⟨_, rfl⟩
                    obtain ⟨isl, hisl⟩ : ∃ isl, (fsP l e1).isSome = isl := ⟨_, rfl⟩
                    rw [hsl, hisl] at CA1
                    have HSL := Lib.hid hsl
                    have HISL := Lib.hid hisl
                    clear hc1 hc2 he1 he2 hm2 hlt3 hsl hisl
                    go_upto_region 20 with (go_at_call 26; (with_reducible refine CA1.out.mono ?_); rintro e w6 ⟨A7, c7, rfl, had7, hb6⟩; have HAD := Lib.hid had7; have HO6 := Lib.hid (HOQ.out.below hb6); clear had7 hb6 k1c)
                    first
                      | (go_region_held3 (fun w' => Below w5.heap.size w5 w' ∧ w'.cell? ⟨gi, oi + k, none⟩ = some (.int .i64 e1) ∧ w'.cell? ⟨gi, oi + m2, none⟩ = some (.int .i64 e2) ∧ BoxS w' w.heap.size a.1 a.2)
                          (first | exact MK.out _ (HO6.out.below ((bl w6).drew)).bel | exact MK.out _ hb1 | fail)
                          (first | (go_at_call 40; (with_reducible refine (CH.out _).mono ?_); (rintro e w1 ⟨rfl, hb0⟩); (have HO7 := Lib.hid ((HO6.out.below ((bl w6).drew)).below hb0)); (have hb1 := HO7.out.bel); clear hb0) | fail))
                      | fail
                    cases hb with
                    | true =>
                      obtain ⟨sm, hsm⟩ : ∃ sm, firstF m e1 = sm := ⟨_, rfl⟩
                      obtain ⟨ism, hism⟩ : ∃ ism, (fsP m e1).isSome = ism := ⟨_, rfl⟩
                      have CA2 := Lib.hid (CAM.out w1 (chain HW5.out hb1) e1)
                      rw [hsm, hism] at CA2
                      have HSM := Lib.hid hsm
                      have HISM := Lib.hid hism
                      obtain ⟨_, k1c, _, _⟩ := MK.out _ hb1
                      clear hsm hism
                      cases ism with
                      | false =>
                        have NM := Lib.hid (HM.out.skip HST.out HE1.out HE2.out (by rw [HSV.out, if_pos rfl]; exact first_none HISM.out))
                        go_wp2_with (go_at_call 26; (with_reducible refine CA2.out.mono ?_); rintro e w8 ⟨A9, c9, rfl, _, hb8⟩; have HO8 := Lib.hid (HO7.out.below hb8); clear hb8 k1c)
                        exact ⟨⟨k + 1, L, by have := HK1.out; omega, by have := HMM.out; go_num, NM.out, HO8.out⟩, by have := HMM.out; simp [intOf] <;> omega⟩
                      | true =>
                        have NM := Lib.hid (fun A c => HM.out.next HST.out (p := ⟨e1, e2, A, c, sm⟩) HE1.out HE2.out (by rw [HSV.out, if_pos rfl, first_some HISM.out, HSM.out]))
                        have HAF := Lib.hid (show sm.length ≤ 1000000 from HSF.out e1 _ (by rw [HSV.out, if_pos rfl, first_some HISM.out, HSM.out]))
                        go_upto_region 23 with (go_at_call 26; (with_reducible refine CA2.out.mono ?_); rintro e w8 ⟨A9, c9, rfl, had9, hb8⟩; have HO8 := Lib.hid ((HO7.out.below hb8).below ((bl w8).drew)); have HKP := Lib.hid (show KP w8.drew _ ⟨e1, e2, A9, c9, sm⟩ from HO8.out.old (by have := AtD.pf had9 HPFM.out e1 e2; rwa [HSM.out] at this)); clear hb8 k1c had9)
                        first
                          | (go_region_held3 (fun w' => Below w5.heap.size w5 w' ∧ w'.cell? ⟨gi, oi + k, none⟩ = some (.int .i64 e1) ∧ w'.cell? ⟨gi, oi + m2, none⟩ = some (.int .i64 e2) ∧ BoxS w' w.heap.size a.1 a.2)
                              (first | exact MK.out _ HO8.out.bel | exact MK.out _ hb9 | fail)
                              (first
                                | (go_at_call 46; (with_reducible refine (dtput_any HO8.out HKP.out (by have := HLL.out; omega) (fun q hq => by have := HFW.out q hq; omega) (by have := HAF.out; show sm.length ≤ _; omega)).mono ?_); (rintro e w9 ⟨v9, rfl, hO9⟩); (have HO9 := Lib.hid hO9); (have hb9 := HO9.out.bel); clear hO9)
                                | fail))
                          | fail
                        go_wp2_with fail
                        exact ⟨⟨k + 1, _, by have := HK1.out; omega, by have := HMM.out; go_num, NM.out _ _, HO9.out⟩, by have := HMM.out; simp [intOf] <;> omega⟩
                    | false =>
                      cases isl with
                      | false =>
                        have NM := Lib.hid (HM.out.skip HST.out HE1.out HE2.out (by rw [HSV.out, if_neg (by simp)]; exact first_none HISL.out))
                        go_wp2_with fail
                        exact ⟨⟨k + 1, L, by have := HK1.out; omega, by have := HMM.out; go_num, NM.out, HO7.out⟩, by have := HMM.out; simp [intOf] <;> omega⟩
                      | true =>
                        have NM := Lib.hid (fun A c => HM.out.next HST.out (p := ⟨e1, e2, A, c, sl⟩) HE1.out HE2.out (by rw [HSV.out, if_neg (by simp), first_some HISL.out, HSL.out]))
                        have HAF := Lib.hid (show sl.length ≤ 1000000 from HSF.out e1 _ (by rw [HSV.out, if_neg (by simp), first_some HISL.out, HSL.out]))
                        have HO8 := Lib.hid (HO7.out.below ((bl w1).drew))
                        have HKP := Lib.hid (show KP w1.drew _ ⟨e1, e2, A7, c7, sl⟩ from HO8.out.old (by have := AtD.pf HAD.out HPFL.out e1 e2; rwa [HSL.out] at this))
                        go_upto_region 23 with fail
                        first
                          | (go_region_held3 (fun w' => Below w5.heap.size w5 w' ∧ w'.cell? ⟨gi, oi + k, none⟩ = some (.int .i64 e1) ∧ w'.cell? ⟨gi, oi + m2, none⟩ = some (.int .i64 e2) ∧ BoxS w' w.heap.size a.1 a.2)
                              (first | exact MK.out _ HO8.out.bel | exact MK.out _ hb9 | fail)
                              (first
                                | (go_at_call 46; (with_reducible refine (dtput_any HO8.out HKP.out (by have := HLL.out; omega) (fun q hq => by have := HFW.out q hq; omega) (by have := HAF.out; show sl.length ≤ _; omega)).mono ?_); (rintro e w9 ⟨v9, rfl, hO9⟩); (have HO9 := Lib.hid hO9); (have hb9 := HO9.out.bel); clear hO9)
                                | fail))
                          | fail
                        go_wp2_with fail
                        exact ⟨⟨k + 1, _, by have := HK1.out; omega, by have := HMM.out; go_num, NM.out _ _, HO9.out⟩, by have := HMM.out; simp [intOf] <;> omega⟩
                  · have hlt3' : ¬ (m2 : Int) < (n2 : Int) := by omega
                    obtain ⟨htl, hfs⟩ := HM.out.stop HST.out (by have := HN3.out; omega)
                    have HT := Lib.hid (show HasTL wq u10 (spliceG a l m) from ⟨L, HOQ.out.pcs, htl, fun x => (hfs x).trans (HG.out x), by have := HM.out.len; omega⟩)
                    have HWZ := Lib.hid (chain HW5.out HOQ.out.bel)
                    clear htl hfs
                    go_wp2_with fail
                    go_ret
                    exact ⟨_, rfl, HT.out, HWZ.out⟩

end Go.Proofs.Ytnopbhlhdecimaa

/-
  Lists of changes in memory, the document's and the program's; the document's small words of them.
-/
namespace Go.Proofs.Ytnopbhlhdecimaa
open Go.RowKit

abbrev cellsCh (c : Ch) : List Value := [.int .i64 c.f, .int .i64 c.t, .bool c.had, .bool c.has, .slice c.oa c.os.length c.oc, .slice c.na c.ns.length c.nc]
/-- The document's changes. -/
def ER12 : El Ch where
  s := 28
  e := 49
  sz := 6
  bys := 72
  z := .agg #[.int .i64 0, .int .i64 0, .bool false, .bool false, .slice none 0 0, .slice none 0 0]
  cells := cellsCh
  pos := by decide
  few := by decide
  len := fun _ => rfl
  one := fun x u hu => by
    simp only [cellsCh, List.mem_cons, List.not_mem_nil, or_false] at hu
    rcases hu with rfl | rfl | rfl | rfl | rfl | rfl <;> rfl
  und := Try.underlying28
  info := by kernel_rfl
  zs := rfl
/-- The program's changes. -/
def ED12 : El Ch where
  s := 25
  e := 60
  sz := 6
  bys := 72
  z := .agg #[.int .i64 0, .int .i64 0, .bool false, .bool false, .slice none 0 0, .slice none 0 0]
  cells := cellsCh
  pos := by decide
  few := by decide
  len := fun _ => rfl
  one := fun x u hu => by
    simp only [cellsCh, List.mem_cons, List.not_mem_nil, or_false] at hu
    rcases hu with rfl | rfl | rfl | rfl | rfl | rfl <;> rfl
  und := Try.underlying25
  info := by kernel_rfl
  zs := rfl
/-- A change as a value; the fields of one lie where it says. -/
abbrev cv (c : Ch) : Value := .agg #[.int .i64 c.f, .int .i64 c.t, .bool c.had, .bool c.has, .slice c.oa c.os.length c.oc, .slice c.na c.ns.length c.nc]
def CF (w : World) (c : Ch) : Prop := (Fields w c.oa c.os ∧ c.os.length ≤ c.oc ∧ (c.oa = none → c.oc = 0)) ∧ (Fields w c.na c.ns ∧ c.ns.length ≤ c.nc ∧ (c.na = none → c.nc = 0))
theorem CF.below {w w' : World} {c : Ch} (h : CF w c) (hb : Below w.heap.size w w') : CF w' c := ⟨⟨h.1.1.below hb, h.1.2⟩, ⟨h.2.1.below hb, h.2.2⟩⟩
theorem CF.old {w : World} {c : Ch} (h : CF w c) : ListF w (.slice c.oa c.os.length c.oc) c.os := ⟨c.oa, c.oc, rfl, h.1.1, h.1.2.1, h.1.2.2⟩
theorem CF.new {w : World} {c : Ch} (h : CF w c) : ListF w (.slice c.na c.ns.length c.nc) c.ns := ⟨c.na, c.nc, rfl, h.2.1, h.2.2.1, h.2.2.2⟩
theorem CF.back {w : World} {c : Ch} (h : CF w c) : CF w (backC c) := ⟨h.2, h.1⟩
def ChsL (E : El Ch) (w : World) (u : Value) (l : List Ch) : Prop := ListE E w u l ∧ ∀ c ∈ l, CF w c
theorem ChsL.below {E : El Ch} {w w' : World} {u : Value} {l : List Ch} (h : ChsL E w u l) (hb : Below w.heap.size w w') : ChsL E w' u l := ⟨h.1.below hb, fun c hc => (h.2 c hc).below hb⟩
abbrev Cells6 (w : World) (g o : Nat) (c : Ch) : Prop := w.cell? ⟨g, o, none⟩ = some (.int .i64 c.f) ∧ w.cell? ⟨g, o + 1, none⟩ = some (.int .i64 c.t) ∧ w.cell? ⟨g, o + 2, none⟩ = some (.bool c.had) ∧ w.cell? ⟨g, o + 3, none⟩ = some (.bool c.has) ∧
  w.cell? ⟨g, o + 4, none⟩ = some (.slice c.oa c.os.length c.oc) ∧ w.cell? ⟨g, o + 5, none⟩ = some (.slice c.na c.ns.length c.nc)
theorem Cells6.below {w w' : World} {g o : Nat} {c : Ch} (h : Cells6 w g o c) (hb : Below w.heap.size w w') : Cells6 w' g o c := ⟨keepc hb h.1, keepc hb h.2.1, keepc hb h.2.2.1, keepc hb h.2.2.2.1, keepc hb h.2.2.2.2.1, keepc hb h.2.2.2.2.2⟩
theorem RowE.cells6r {w : World} {A : Option Addr} {l : List Ch} (h : RowE ER12 w A l) {k : Nat} {c : Ch} (hv : l[k]? = some c) : ∃ g off, A = some ⟨g, off, none⟩ ∧ Cells6 w g (off + k * 6) c := by
  obtain ⟨g, off, rfl, hc⟩ := h k c hv
  exact ⟨g, off, rfl, hc 0 _ rfl, hc 1 _ rfl, hc 2 _ rfl, hc 3 _ rfl, hc 4 _ rfl, hc 5 _ rfl⟩
theorem RowE.cells6d {w : World} {A : Option Addr} {l : List Ch} (h : RowE ED12 w A l) {k : Nat} {c : Ch} (hv : l[k]? = some c) : ∃ g off, A = some ⟨g, off, none⟩ ∧ Cells6 w g (off + k * 6) c := by
  obtain ⟨g, off, rfl, hc⟩ := h k c hv
  exact ⟨g, off, rfl, hc 0 _ rfl, hc 1 _ rfl, hc 2 _ rfl, hc 3 _ rfl, hc 4 _ rfl, hc 5 _ rfl⟩
theorem own_chs {W w : World} {l m : List Ch} {v : Value} (h : OE ER12 W l v w) (hl : ∀ c ∈ l, CF W c) (e : l = m) : ChsL ER12 w v m := by
  subst e
  exact ⟨h.list, fun c hc => (hl c hc).below h.bel⟩

set_option maxHeartbeats 4000000 in
set_option maxRecDepth 10000 in
theorem own12_any (w : World) (u : Value) (l : List Ch) (hl : ChsL ED12 w u l) (hn : l.length ≤ 100000) : Calls Try.prog 11 #[u] w fun e w' => ∃ x, e = .returned x ∧ OE ER12 w l x w' := by
  obtain ⟨⟨A, c, rfl, hA, hc, hnc⟩, _⟩ := hl
  have HA := Lib.hid hA
  obtain ⟨n, hnm⟩ : ∃ n, l.length = n := ⟨_, rfl⟩
  rw [hnm] at hn hc ⊢
  have HN := Lib.hid hnm
  clear hA hc hnc hnm
  go_enter Try.func11, Try.ntmps11
  go_wp2_with fail
  go_loopw [3, 7] (fun o i wr => ∃ (t : Nat) (vs : List Ch), t ≤ n ∧ i = .int .i64 (t : Nat) ∧ vs = l.take t ∧ OE ER12 w vs o wr) (fun _ i _ => n - (intOf i).toNat)
  case atStart => exact ⟨0, [], Nat.zero_le _, rfl, rfl, OE.nil w⟩
  case round =>
    obtain ⟨t, vs, ht, rfl, hvs, hO⟩ := hrel
    have HO := Lib.hid hO
    by_cases hlt : t < n
    · have hlt' : (t : Int) < (n : Int) := by omega
      obtain ⟨p, hx⟩ : ∃ p, l[t]? = some p := ⟨_, List.getElem?_eq_getElem (by have := HN.out; omega)⟩
      obtain ⟨g, off, rfl, hX⟩ := (HA.out.below HO.out.bel).cells6d hx
      have NX := Lib.hid (show vs ++ [p] = l.take (t + 1) by rw [List.take_add_one, hx, Option.toList_some, hvs])
      have HLEN := Lib.hid (show vs.length ≤ 100000 by rw [hvs, List.length_take]; omega)
      obtain ⟨z0, z1, z2, z3, z4, z5⟩ := hX
      clear hvs hO hx
      go_wp2_with (first
        | (at_builtin; refine wpList_appE (E := ER12) (xs := [p]) rfl (.tmp 10) (.tmp 15) rfl rfl (base := w.heap.size) rfl (World.ownsRow.alloc HO.out.own _) rfl rfl (by have hrow := rowE_one (E := ER12) wr p #[.int .i64 p.f, .int .i64 p.t, .bool p.had, .bool p.has, .slice p.oa p.os.length p.oc, .slice p.na p.ns.length p.nc] rfl 49; first | exact hrow | (simp at hrow ⊢; exact hrow)) (fun h => by cases h) (by have := HLEN.out; simp; omega) (by have := HO.out.bel.size; simp; omega) ?_; intro v' w3 hown3 hg3; have HN3 := Lib.hid ((HO.out.below ((bl wr).alloc (Nat.le_refl _) _)).grown hg3 hown3); clear hown3 hg3)
        | go_in)
      exact ⟨⟨t + 1, vs ++ [p], by omega, by go_num, NX.out, HN3.out⟩, by simp [intOf] <;> omega⟩
    · obtain rfl : t = n := by omega
      have hlt' : ¬ (t : Int) < (t : Int) := by omega
      have NX := Lib.hid (show vs = l by rw [hvs, List.take_of_length_le (by have := HN.out; omega)])
      clear hvs hO
      go_wp2_with fail
      go_ret
      exact ⟨_, rfl, by rw [← NX.out]; exact HO.out⟩

set_option maxHeartbeats 4000000 in
set_option maxRecDepth 10000 in
theorem dback12_any (w : World) (u : Value) (l : List Ch) (hl : ChsL ER12 w u l) (hn : l.length ≤ 100000) : Calls Try.prog 14 #[u] w fun e w' => ∃ x, e = .returned x ∧ OE ER12 w (l.map backC) x w' := by
  obtain ⟨⟨A, c, rfl, hA, hc, hnc⟩, _⟩ := hl
  have HA := Lib.hid hA
  obtain ⟨n, hnm⟩ : ∃ n, l.length = n := ⟨_, rfl⟩
  rw [hnm] at hn hc ⊢
  have HN := Lib.hid hnm
  clear hA hc hnc hnm
  go_enter Try.func14, Try.ntmps14
  go_wp2_with fail
  go_loopw [3, 4] (fun o i wr => ∃ (t : Nat) (vs : List Ch), t ≤ n ∧ i = .int .i64 (t : Nat) ∧ vs = (l.take t).map backC ∧ OE ER12 w vs o wr) (fun _ i _ => n - (intOf i).toNat)
  case atStart => exact ⟨0, [], Nat.zero_le _, rfl, rfl, OE.nil w⟩
  case round =>
    obtain ⟨t, vs, ht, rfl, hvs, hO⟩ := hrel
    have HO := Lib.hid hO
    by_cases hlt : t < n
    · have hlt' : (t : Int) < (n : Int) := by omega
      obtain ⟨p, hx⟩ : ∃ p, l[t]? = some p := ⟨_, List.getElem?_eq_getElem (by have := HN.out; omega)⟩
      obtain ⟨g, off, rfl, hX⟩ := HA.out.cells6r hx
      have NX := Lib.hid (show vs ++ [backC p] = (l.take (t + 1)).map backC by rw [List.take_add_one, hx, Option.toList_some, List.map_append, hvs]; rfl)
      have HLEN := Lib.hid (show vs.length ≤ 100000 by rw [hvs, List.length_map, List.length_take]; omega)
      have HOD := Lib.hid (HO.out.below ((bl wr).drew))
      have MK := Lib.hid (show ∀ w', Below w.heap.size w w' → (Below w.heap.size w w' ∧ Cells6 w' g (off + t * 6) p) from fun w' h => ⟨h, hX.below h⟩)
      clear hvs hO hx hX
      go_upto_region 5 with fail
      first
        | (go_region_held3 (fun w' => Below w.heap.size w w' ∧ Cells6 w' g (off + t * 6) p)
            (first | exact MK.out _ HOD.out.bel | exact MK.out _ (HOD.out.bel.alloc HOD.out.bel.size _) | exact MK.out _ HN4.out.bel | fail)
            (first
              | (refine step_appE (E := ER12) (xs := [backC p]) rfl (.tmp 11) (.tmp 38) rfl rfl rfl (World.ownsRow.alloc HOD.out.own _) rfl rfl (by have hrow := rowE_one (E := ER12) wr.drew (backC p) #[.int .i64 p.f, .int .i64 p.t, .bool p.has, .bool p.had, .slice p.na p.ns.length p.nc, .slice p.oa p.os.length p.oc] rfl 49; first | exact hrow | (simp at hrow ⊢; exact hrow)) (fun h => by cases h) (by have := HLEN.out; simp; omega) (by have := HOD.out.bel.size; simp at this ⊢; omega) ?_; intro v' w6 hown6 hg6 _; have HN4 := Lib.hid ((HOD.out.below ((bl wr.drew).alloc (Nat.le_refl _) _)).grown hg6 hown6))
              | fail))
        | fail
      go_wp2_with fail
      exact ⟨⟨t + 1, vs ++ [backC p], by omega, by go_num, NX.out, HN4.out⟩, by simp [intOf] <;> omega⟩
    · obtain rfl : t = n := by omega
      have hlt' : ¬ (t : Int) < (t : Int) := by omega
      have NX := Lib.hid (show vs = l.map backC by rw [hvs, List.take_of_length_le (by have := HN.out; omega)])
      clear hvs hO
      go_wp2_with fail
      go_ret
      exact ⟨_, rfl, by rw [← NX.out]; exact HO.out⟩

set_option maxHeartbeats 4000000 in
set_option maxRecDepth 10000 in
theorem dends12_any (w : World) (u : Value) (l : List Pc) (hl : PcsL w u l) (hn : l.length ≤ 400) : Calls Try.prog 25 #[u] w fun e w' => ∃ x, e = .returned x ∧ Co.ownI w' w.heap.size x (Co.riseL (l.flatMap endsP)) ∧ Below w.heap.size w w' := by
  obtain ⟨⟨A, c, rfl, hA, hc, hnc⟩, _⟩ := hl
  have HA := Lib.hid hA
  obtain ⟨n, hnm⟩ : ∃ n, l.length = n := ⟨_, rfl⟩
  rw [hnm] at hn hc ⊢
  have HN := Lib.hid hnm
  clear hA hc hnc hnm
  go_enter Try.func25, Try.ntmps25
  go_wp2_with fail
  go_loopw [3, 4] (fun o i wr => ∃ (t : Nat) (zs : List Int), t ≤ n ∧ i = .int .i64 (t : Nat) ∧ zs = (l.take t).flatMap endsP ∧ OE EI w zs o wr) (fun _ i _ => n - (intOf i).toNat)
  case atStart => exact ⟨0, [], Nat.zero_le _, rfl, rfl, OE.nil w⟩
  case round =>
    obtain ⟨t, zs, ht, rfl, hzs, hO⟩ := hrel
    have HZS := Lib.hid hzs
    have HO := Lib.hid hO
    clear hzs hO
    have HLEN := Lib.hid (show zs.length ≤ 800 by
      rw [HZS.out]
      have := endsP_len (l.take t)
      rw [List.length_take] at this
      omega)
    by_cases hlt : t < n
    · have hlt' : (t : Int) < (n : Int) := by omega
      obtain ⟨p, hx⟩ : ∃ p, l[t]? = some p := ⟨_, List.getElem?_eq_getElem (by have := HN.out; omega)⟩
      obtain ⟨g, off, rfl, hX⟩ := HA.out.cells3 hx
      have NX := Lib.hid (show zs ++ [p.f, p.t] = (l.take (t + 1)).flatMap endsP by rw [endsP_next hx, ← HZS.out])
      have HOD := Lib.hid (HO.out.below ((bl wr).drew))
      have MK := Lib.hid (show ∀ w', Below w.heap.size w w' → (Below w.heap.size w w' ∧ Cells3 w' g (off + t * 3) p) from fun w' h => ⟨h, hX.below h⟩)
      clear hx hX
      go_upto_region 5 with fail
      first
        | (go_region_held3 (fun w' => Below w.heap.size w w' ∧ Cells3 w' g (off + t * 3) p)
            (first | exact MK.out _ HOD.out.bel | exact MK.out _ (HOD.out.bel.alloc HOD.out.bel.size _) | exact MK.out _ HN4.out.bel | fail)
            (first
              | (refine step_appE (E := EI) (xs := [p.f, p.t]) rfl (.tmp 11) (.tmp 24) rfl rfl rfl (World.ownsRow.alloc HOD.out.own _) rfl rfl (by have hrow := rowI_two wr.drew p.f p.t; first | exact hrow | (simp at hrow ⊢; exact hrow)) (fun h => by cases h) (by have := HLEN.out; simp; omega) (by have := HOD.out.bel.size; simp at this ⊢; omega) ?_; intro v' w6 hown6 hg6 _; have HN4 := Lib.hid ((HOD.out.below ((bl wr.drew).alloc (Nat.le_refl _) _)).grown hg6 hown6))
              | fail))
        | fail
      go_wp2_with fail
      exact ⟨⟨t + 1, zs ++ [p.f, p.t], by omega, by go_num, NX.out, HN4.out⟩, by simp [intOf] <;> omega⟩
    · obtain rfl : t = n := by omega
      have hlt' : ¬ (t : Int) < (t : Int) := by omega
      have HZE := Lib.hid (show zs = l.flatMap endsP by rw [HZS.out, List.take_of_length_le (by have := HN.out; omega)])
      obtain ⟨A5, c5, hv5, hr5, _⟩ := HO.out.list
      subst hv5
      have CRI := Lib.hid (Co.rise_any A5 c5 zs wr (rowI_ints hr5) (by have := HLEN.out; omega))
      rw [HZE.out] at CRI
      clear hr5
      obtain ⟨nz, hnz⟩ : ∃ nz, (l.flatMap endsP).length = nz := ⟨_, rfl⟩
      have hnz2 : zs.length = nz := by rw [HZE.out]; exact hnz
      rw [hnz] at CRI
      rw [hnz2]
      have HBW := Lib.hid HO.out.bel
      clear hnz hnz2
      go_wp2_with (go_at_call 39; (with_reducible refine CRI.out.mono ?_); rintro e w5 ⟨v5, rfl, hown5, hb5⟩; have HW5 := Lib.hid (chain HBW.out hb5); have HI5 := Lib.hid (Co.rise_own HBW.out.size hown5); clear hown5 hb5)
      go_ret
      exact ⟨_, rfl, HI5.out, HW5.out⟩

end Go.Proofs.Ytnopbhlhdecimaa

/-
  The document's alike, Same of changes.
-/
namespace Go.Proofs.Ytnopbhlhdecimaa
open Go.RowKit

abbrev ocCh (c : Ch) : Obj := .cells #[.int .i64 c.f, .int .i64 c.t, .bool c.had, .bool c.has, .slice c.oa c.os.length c.oc, .slice c.na c.ns.length c.nc] 49
abbrev BoxC (w : World) (g : Nat) (c : Ch) : Prop := w.cell? ⟨g, 0, none⟩ = some (.int .i64 c.f) ∧ w.cell? ⟨g, 1, none⟩ = some (.int .i64 c.t) ∧ w.cell? ⟨g, 2, none⟩ = some (.bool c.had) ∧ w.cell? ⟨g, 3, none⟩ = some (.bool c.has) ∧
  w.cell? ⟨g, 4, none⟩ = some (.slice c.oa c.os.length c.oc) ∧ w.cell? ⟨g, 5, none⟩ = some (.slice c.na c.ns.length c.nc)
theorem BoxC.below {w w' : World} {g : Nat} {c : Ch} (h : BoxC w g c) (hb : Below w.heap.size w w') : BoxC w' g c := ⟨keepc hb h.1, keepc hb h.2.1, keepc hb h.2.2.1, keepc hb h.2.2.2.1, keepc hb h.2.2.2.2.1, keepc hb h.2.2.2.2.2⟩
theorem boxC_new (w : World) (c : Ch) : BoxC (w.alloc (ocCh c)) w.heap.size c := ⟨by simp [go_sem], by simp [go_sem], by simp [go_sem], by simp [go_sem], by simp [go_sem], by simp [go_sem]⟩

set_option maxHeartbeats 4000000 in
set_option maxRecDepth 10000 in
theorem dalike_any (c d : Ch) (w : World) (hc : CF w c) (hd : CF w d) (hcn : c.os.length ≤ 9223372036854775807 ∧ c.ns.length ≤ 9223372036854775807) (hdn : d.os.length ≤ 9223372036854775807 ∧ d.ns.length ≤ 9223372036854775807) : Ret 24 #[cv c, cv d] w (.bool (alikeC c d)) := by
  have CO1 := Lib.hid (fun w' (h : Below w.heap.size w w') => dsamel_any w' _ _ c.os d.os (hc.old.below h) (hd.old.below h) hcn.1 hdn.1)
  have CO2 := Lib.hid (fun w' (h : Below w.heap.size w w') => dsamel_any w' _ _ c.ns d.ns (hc.new.below h) (hd.new.below h) hcn.2 hdn.2)
  have HB2 := Lib.hid (show Below w.heap.size w ((w.alloc (ocCh c)).alloc (ocCh d)) from ((bl w).alloc (Nat.le_refl _) _).alloc (by simp) _)
  have HX1 := Lib.hid (show BoxC ((w.alloc (ocCh c)).alloc (ocCh d)) w.heap.size c from (boxC_new w c).below ((bl _).alloc (Nat.le_refl _) _))
  have HX2 := Lib.hid (show BoxC ((w.alloc (ocCh c)).alloc (ocCh d)) (w.heap.size + 1) d by
    have h := boxC_new (w.alloc (ocCh c)) d
    rwa [show (w.alloc (ocCh c)).heap.size = w.heap.size + 1 by simp] at h)
  have HE : alikeC c d = ((c.had == d.had) && (c.has == d.has) && sameF c.os d.os && sameF c.ns d.ns) := rfl
  rw [HE]
  clear HE hc hd hcn hdn
  generalize sameF c.os d.os = s1 at *
  generalize sameF c.ns d.ns = s2 at *
  go_enter Try.func24, Try.ntmps24
  go_upto_region 1 with fail
  refine abstract_worldW (fun W => Below w.heap.size w W ∧ BoxC W w.heap.size c ∧ BoxC W (w.heap.size + 1) d) ⟨HB2.out, HX1.out, HX2.out⟩ ?_
  rintro W ⟨hW, hx, hy⟩
  have HW := Lib.hid hW
  have HX := Lib.hid hx
  have HY := Lib.hid hy
  obtain ⟨x0, x1, x2, x3, x4, x5⟩ := hx
  obtain ⟨y0, y1, y2, y3, y4, y5⟩ := hy
  clear hW HX1 HX2 HB2
  generalize hh1 : c.had = b1 at *
  generalize hh2 : d.had = b2 at *
  generalize hh3 : c.has = b3 at *
  generalize hh4 : d.has = b4 at *
  have H1 := Lib.hid hh1
  have H2 := Lib.hid hh2
  have H3 := Lib.hid hh3
  have H4 := Lib.hid hh4
  clear hh1 hh2 hh3 hh4
  by_cases h1 : b1 = b2
  · subst h1
    by_cases h2 : b3 = b4
    · subst h2
      cases s1 with
      | false =>
        go_wp2_with (go_at_call 27; (with_reducible refine (CO1.out _ HW.out).mono ?_); rintro e w2 ⟨rfl, hb2⟩; have HB := Lib.hid (chain HW.out hb2); clear hb2)
        go_ret
        exact ⟨ret_bool (by simp [H1.out, H2.out, H3.out, H4.out]), HB.out⟩
      | true =>
        go_wp2_with (first
          | (go_at_call 27; (with_reducible refine (CO1.out _ HW.out).mono ?_); rintro e w2 ⟨rfl, hb2⟩; have HB := Lib.hid (chain HW.out hb2); obtain ⟨p0, p1, p2, p3, p4, p5⟩ := HX.out.below hb2; obtain ⟨q0, q1, q2, q3, q4, q5⟩ := HY.out.below hb2; clear hb2)
          | (go_at_call 27; (with_reducible refine (CO2.out _ HB.out).mono ?_); rintro e w3 ⟨rfl, hb3⟩; have HB3 := Lib.hid (chain HB.out hb3); clear hb3))
        go_ret
        exact ⟨ret_bool (by simp [H1.out, H2.out, H3.out, H4.out]), HB3.out⟩
    · have hne : (b3 == b4) = false := by simpa using h2
      go_wp2_with fail
      go_ret
      exact ⟨ret_bool (by simp [H1.out, H2.out, H3.out, H4.out, hne]), HW.out⟩
  · have hne : (b1 == b2) = false := by simpa using h1
    go_wp2_with fail
    go_ret
    exact ⟨ret_bool (by simp [H1.out, H2.out, H3.out, H4.out, hne]), HW.out⟩

set_option maxHeartbeats 4000000 in
set_option maxRecDepth 10000 in
theorem dsame12_any (w : World) (ua ub : Value) (a b : List Ch) (ha : ChsL ER12 w ua a) (hb : ChsL ER12 w ub b) (hn : a.length ≤ 100000) (ha2 : ∀ c ∈ a, c.os.length ≤ 9223372036854775807 ∧ c.ns.length ≤ 9223372036854775807) (hb2 : ∀ c ∈ b, c.os.length ≤ 9223372036854775807 ∧ c.ns.length ≤ 9223372036854775807) : Ret 10 #[ua, ub] w (.bool (sameC a b)) := by
  obtain ⟨⟨A, c, rfl, hA, hc1, hc2⟩, hVA⟩ := ha
  obtain ⟨⟨B, d, rfl, hB, hd1, hd2⟩, hVB⟩ := hb
  clear hc1 hc2 hd1 hd2
  by_cases hnm : a.length ≠ b.length
  · have HS := Lib.hid (sameC_len a b hnm)
    have hne : ((a.length : Int) != (b.length : Int)) = true := by rw [bne_iff_ne]; omega
    clear hA hB hVA hVB ha2 hb2
    generalize a.length = n at *
    generalize b.length = m at *
    go_enter Try.func10, Try.ntmps10
    go_wp2_with fail
    go_ret
    exact ⟨ret_bool HS.out.symm, bl w⟩
  · obtain ⟨n, hn1⟩ : ∃ n, a.length = n := ⟨_, rfl⟩
    have hn2 : b.length = n := by omega
    obtain ⟨t, ht⟩ : ∃ t, sameC a b = t := ⟨_, rfl⟩
    have HT := Lib.hid ht
    rw [hn1] at hn ⊢
    rw [hn2, ht]
    have HA := Lib.hid hA
    have HB := Lib.hid hB
    have HVA := Lib.hid hVA
    have HVB := Lib.hid hVB
    have HA2 := Lib.hid ha2
    have HB2 := Lib.hid hb2
    have HN1 := Lib.hid hn1
    have HN2 := Lib.hid hn2
    clear hA hB hn1 hn2 hnm ht hVA hVB ha2 hb2
    go_enter Try.func10, Try.ntmps10
    go_wp2_with fail
    go_loopw [5] (fun i wr => ∃ k : Nat, k ≤ n ∧ i = .int .i64 k ∧ t = sameC (a.drop k) (b.drop k) ∧ Below w.heap.size w wr) (fun i _ => n - (intOf i).toNat)
    case atStart => exact ⟨0, Nat.zero_le _, rfl, HT.out.symm, bl w⟩
    case round =>
      obtain ⟨k, hk, rfl, hg, hW⟩ := hrel
      have HW := Lib.hid hW
      clear hW
      by_cases hlt : k < n
      · have hlt' : (k : Int) < (n : Int) := by omega
        obtain ⟨x, hx⟩ : ∃ x, a[k]? = some x := ⟨_, List.getElem?_eq_getElem (by have := HN1.out; omega)⟩
        obtain ⟨y, hy⟩ : ∃ y, b[k]? = some y := ⟨_, List.getElem?_eq_getElem (by have := HN2.out; omega)⟩
        obtain ⟨g1, off, rfl, hX⟩ := (HA.out.below HW.out).cells6r hx
        obtain ⟨g2, off', rfl, hY⟩ := (HB.out.below HW.out).cells6r hy
        have hsx := HA2.out x (List.mem_of_getElem? hx)
        have hsy := HB2.out y (List.mem_of_getElem? hy)
        have CO := Lib.hid (fun w' (h : Below wr.heap.size wr w') => dalike_any x y w' ((HVA.out x (List.mem_of_getElem? hx)).below (chain HW.out h)) ((HVB.out y (List.mem_of_getElem? hy)).below (chain HW.out h)) hsx hsy)
        rw [drop_consL hx, drop_consL hy, sameC] at hg
        have HX := Lib.hid hX
        have HY := Lib.hid hY
        have MK := Lib.hid (show ∀ w', Below wr.heap.size wr w' → (Below wr.heap.size wr w' ∧ Cells6 w' g1 (off + k * 6) x ∧ Cells6 w' g2 (off' + k * 6) y) from fun w' h => ⟨h, hX.below h, hY.below h⟩)
        by_cases hsp : x.f = y.f ∧ x.t = y.t
        · have e1 : sameC1 x y = alikeC x y := by unfold sameC1; rw [decide_eq_true hsp.1, decide_eq_true hsp.2]; rfl
          rw [e1] at hg
          have ef : (x.f == y.f) = true := by simpa using hsp.1
          have et : (x.t == y.t) = true := by simpa using hsp.2
          have EF := Lib.hid hsp
          generalize alikeC x y = s at *
          clear e1 hsp hsx hsy hx hy
          cases s with
          | true =>
            have HG := Lib.hid (show t = sameC (a.drop (k + 1)) (b.drop (k + 1)) by rw [hg, Bool.true_and])
            clear hg hX hY
            go_wp2_with fail
            first
              | (go_region_held3 (fun w' => Below wr.heap.size wr w' ∧ Cells6 w' g1 (off + k * 6) x ∧ Cells6 w' g2 (off' + k * 6) y)
                  (first | exact MK.out _ ((bl wr).drew) | exact MK.out _ hb1 | fail)
                  (first | (go_at_call 24; (refine (CO.out _ (by go_split_ands; assumption)).mono ?_); (rintro e w1 ⟨rfl, hb0⟩); (have hb1 := chain (by go_split_ands; assumption) hb0); clear hb0) | fail))
              | fail
            go_wp2_with fail
            exact ⟨⟨k + 1, by omega, by go_num, HG.out, chain HW.out hb1⟩, by simp [intOf] <;> omega⟩
          | false =>
            have HG := Lib.hid (show t = false by rw [hg, Bool.false_and])
            clear hg hX hY
            go_wp2_with fail
            first
              | (go_region_held3 (fun w' => Below wr.heap.size wr w' ∧ Cells6 w' g1 (off + k * 6) x ∧ Cells6 w' g2 (off' + k * 6) y)
                  (first | exact MK.out _ ((bl wr).drew) | exact MK.out _ hb1 | fail)
                  (first | (go_at_call 24; (refine (CO.out _ (by go_split_ands; assumption)).mono ?_); (rintro e w1 ⟨rfl, hb0⟩); (have hb1 := chain (by go_split_ands; assumption) hb0); clear hb0) | fail))
              | fail
            go_wp2_with fail
            go_ret
            exact ⟨ret_bool HG.out.symm, chain HW.out hb1⟩
        · have e1 : sameC1 x y = false := by
            unfold sameC1
            have : (decide (x.f = y.f) && decide (x.t = y.t)) = false := by
              rw [Bool.and_eq_false_iff, decide_eq_false_iff_not, decide_eq_false_iff_not]
              by_cases h : x.f = y.f
              · exact .inr fun k => hsp ⟨h, k⟩
              · exact .inl h
            rw [this, Bool.false_and]
          have HG := Lib.hid (show t = false by rw [hg, e1, Bool.false_and])
          have hq : ∀ w, (binOp .neq 42 (.agg #[.int .i64 x.f, .int .i64 x.t]) (.agg #[.int .i64 y.f, .int .i64 y.t])).run Try.prog w = .ok (.bool true) w := fun w => by rw [run_neq_sp, decide_eq_false hsp]; rfl
          obtain ⟨z0, z1, z2, z3, z4, z5⟩ := HX.out
          obtain ⟨y0, y1, y2, y3, y4, y5⟩ := HY.out
          clear hg e1 hsp hsx hsy hx hy hX hY
          go_wp2_with fail
          go_quiet (fail)
          go_wp2_with fail
          go_ret
          exact ⟨ret_bool HG.out.symm, belowN HW.out _⟩
      · obtain rfl : k = n := by omega
        have hlt' : ¬ (k : Int) < (k : Int) := by omega
        rw [List.drop_of_length_le (by have := HN1.out; omega), List.drop_of_length_le (by have := HN2.out; omega)] at hg
        have HG := Lib.hid (show t = true from hg)
        clear hg
        go_wp2_with fail
        go_ret
        exact ⟨ret_bool HG.out.symm, HW.out⟩

end Go.Proofs.Ytnopbhlhdecimaa
