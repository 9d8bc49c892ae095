/-
  Texts joined into one: what the program's and the document's calls give back, piece by piece.
-/
import Derived.Test.YtnopbhlhdecimaaMg1
import Derived.Test.YtnopbhlhdecimaaMg2
import Derived.Test.YtnopbhlhdecimaaMg3
import Derived.Test.YtnopbhlhdecimaaMg4
import Derived.Test.YtnopbhlhdecimaaRows
import Derived.BigQuiet
import Derived.ChangeAlike
import Derived.ChangeKeysEq
import Derived.Deep.AppendLies
import Derived.Deep.CutBlock
import Derived.Deep.CutRange
import Derived.Deep.Light
import Derived.Deep.QuietTactic
import Derived.Deep.RegionHeld3
import Derived.Deep.RegionLaw
import Derived.Handy
import Derived.Laws.BytesArg
import Derived.Laws.OwnMore
import Derived.Laws.Strings
import Derived.Laws.StructEq
import Derived.Lib.Hide
import Derived.Maps.AppendAt
import Derived.OneCell
import Derived.OwnWalk
import Derived.RegionTactic
import Derived.StillTailTactics
import Derived.WalkArith
import Derived.WalkKit
import Derived.WalkLawsBesides
import Derived.WalkSpells
import Derived.Test.YtnopbhlhdecimaaProg
import Derived.Deep.LoopGhost
import Derived.Shelf.SlSortCmp.KitK
import Derived.Shelf.SlSortCmp.NoneTotal
import Derived.Sort.WalkB12
import Derived.Sort.WalkB2
import Derived.Lib.Bytealg
import Derived.Maps.RangeWalk
import Derived.Sort.KeysCollected
import Derived.RangeFuncBox
import Derived.Lib.SmallJoins
import Derived.ProofKit
import Derived.LoopIn
import Derived.LoopNIn
import Derived.OrdersIn
import Derived.OwnWalkIn
import Derived.RangeFuncLeaves
import Derived.RangeFuncNested
import Derived.Shelf.Abstract
import Derived.Shelf.RegionOpen
import Derived.TacticsInMore

/-
  The program's Get and Same.
-/
namespace Go.Proofs.Ytnopbhlhdecimaa
open Go.RowKit

set_option linter.unusedVariables false in
set_option maxHeartbeats 2000000 in
theorem equal_any (w : World) (A B : Option Addr) (c d : Nat) (a b : List Fd) (ha : Fields w A a) (hb : Fields w B b) (hn : a.length ≤ 9223372036854775807) (hm : b.length ≤ 9223372036854775807) :
    Ret 47 #[.slice A a.length c, .slice B b.length d] w (.bool (sameF a b)) := by
  by_cases hnm : a.length ≠ b.length
  · have HS := Lib.hid (sameF_len a b hnm)
    have hne : ((a.length : Int) != (b.length : Int)) = true := by rw [bne_iff_ne]; omega
    clear ha hb
    generalize a.length = n at *
    generalize b.length = m at *
    go_enter Try.func47, Try.ntmps47
    go_wp2_with fail
    go_ret
    exact ⟨ret_bool HS.out.symm, bl w⟩
  · obtain ⟨n, hn1⟩ : ∃ n, a.length = n := ⟨_, rfl⟩
    have hn2 : b.length = n := by omega
    obtain ⟨t, ht⟩ : ∃ t, sameF a b = t := ⟨_, rfl⟩
    have HT := Lib.hid ht
    rw [hn1] at hn ⊢
    rw [hn2, ht]
    have HA := Lib.hid ha
    have HB := Lib.hid hb
    have HN1 := Lib.hid hn1
    have HN2 := Lib.hid hn2
    clear ha hb hn1 hn2 hnm hm ht
    have hng := Try.noGuardField
    go_enter Try.func47, Try.ntmps47
    go_wp2_with fail
    go_loopw [13] (fun i wr => ∃ k : Nat, k ≤ n ∧ i = .int .i64 k ∧ t = sameF (a.drop k) (b.drop k) ∧ Below w.heap.size w wr) (fun i _ => n - (intOf i).toNat)
    case atStart => exact ⟨0, Nat.zero_le _, rfl, HT.out.symm, bl w⟩
    case round =>
      obtain ⟨k, hk, rfl, hg, hW⟩ := hrel
      have HW := Lib.hid hW
      clear hW
      by_cases hlt : k < n
      · have hlt' : (k : Int) < (n : Int) := by omega
        obtain ⟨f, hf⟩ : ∃ f, a[k]? = some f := ⟨_, List.getElem?_eq_getElem (by have := HN1.out; omega)⟩
        obtain ⟨g, hgg⟩ : ∃ g, b[k]? = some g := ⟨_, List.getElem?_eq_getElem (by have := HN2.out; omega)⟩
        obtain ⟨g1, off, rfl, c0, c1⟩ := (HA.out.below HW.out) k f hf
        obtain ⟨g2, off', rfl, d0, d1⟩ := (HB.out.below HW.out) k g hgg
        rw [drop_consF hf, drop_consF hgg, sameF] at hg
        have hq := run_neq_field f g
        by_cases h : f.n.toList = g.n.toList ∧ f.v = g.v
        · rw [decide_eq_true h] at hq hg
          have HG := Lib.hid (show t = sameF (a.drop (k + 1)) (b.drop (k + 1)) by rw [hg, Bool.true_and])
          have hq : ∀ w, (binOp .neq 47 (fv f) (fv g)).run Try.prog w = .ok (.bool false) w := hq
          clear hg hf hgg h
          go_wp2_with fail
          go_quiet (fail)
          go_wp2_with fail
          exact ⟨⟨k + 1, by omega, by go_num, HG.out, belowN HW.out _⟩, by simp [intOf] <;> omega⟩
        · rw [decide_eq_false h] at hq hg
          have HG := Lib.hid (show t = false by rw [hg, Bool.false_and])
          have hq : ∀ w, (binOp .neq 47 (fv f) (fv g)).run Try.prog w = .ok (.bool true) w := hq
          clear hg hf hgg h
          go_wp2_with fail
          go_quiet (fail)
          go_wp2_with fail
          go_ret
          exact ⟨ret_bool HG.out.symm, belowN HW.out _⟩
      · obtain rfl : k = n := by omega
        have hlt' : ¬ (k : Int) < (k : Int) := by omega
        rw [List.drop_of_length_le (by have := HN1.out; omega), List.drop_of_length_le (by have := HN2.out; omega)] at hg
        have HG := Lib.hid (show t = true from hg)
        clear hg
        go_wp2_with fail
        go_ret
        exact ⟨ret_bool HG.out.symm, HW.out⟩
set_option maxHeartbeats 1000000 in
theorem psame_any (w : World) (v u : Value) (a b : List Fd) (ha : ListF w v a) (hb : ListF w u b) (hn : a.length ≤ 9223372036854775807) (hm : b.length ≤ 9223372036854775807) : Ret 38 #[v, u] w (.bool (sameF a b)) := by
  obtain ⟨A, c, rfl, hA, _, _⟩ := ha
  obtain ⟨B, d, rfl, hB, _, _⟩ := hb
  have CE := Lib.hid (equal_any w A B c d a b hA hB hn hm)
  generalize sameF a b = t at *
  generalize a.length = n at *
  generalize b.length = m at *
  clear hA hB
  go_enter Try.func38, Try.ntmps38
  go_wp2_with (go_at_call 47; with_reducible refine CE.out.mono ?_; rintro e w1 ⟨rfl, hb1⟩)
  go_ret
  exact ⟨rfl, hb1⟩

end Go.Proofs.Ytnopbhlhdecimaa

/-
  The program's goesOn, Right, At of pieces.
-/
namespace Go.Proofs.Ytnopbhlhdecimaa
open Go.RowKit

/-- Does a piece go on with another one's fields, where that ends? -/
def goesB (p q : Pc) : Bool := decide (p.t = q.f) && sameF p.fs q.fs
theorem goesB_link {p q : Pc} (h : p.t ≤ q.f) : linkB p q = !goesB p q := by
  unfold linkB goesB
  rw [decide_eq_true h, Bool.true_and]
  by_cases e : p.t = q.f
  · rw [decide_eq_true e, decide_eq_false (fun k => k e)]; simp
  · rw [decide_eq_false e, decide_eq_true e]; simp

set_option maxHeartbeats 4000000 in
set_option maxRecDepth 10000 in
theorem goeson_any (w : World) (p q : Pc) (hp : PF w p) (hq : PF w q) (hpl : p.fs.length ≤ 1000000) (hql : q.fs.length ≤ 1000000) : Ret 34 #[pv p, pv q] w (.bool (goesB p q)) := by
  have hb1 : Below w.heap.size w (w.alloc (ocP p)) := (bl w).alloc (Nat.le_refl _) _
  have hb2 : Below w.heap.size w ((w.alloc (ocP p)).alloc (ocP q)) := hb1.alloc hb1.size _
  have CO := Lib.hid (fun w' (h : Below w.heap.size w w') => psame_any w' (.slice p.fa p.fs.length p.fc) (.slice q.fa q.fs.length q.fc) p.fs q.fs (hp.below h).list (hq.below h).list (by omega) (by omega))
  have HB2 := Lib.hid hb2
  clear hb1 hb2 hp hq hpl hql
  by_cases h : p.t = q.f
  · have h' : (p.t == q.f) = true := by simpa using h
    have HE := Lib.hid (show goesB p q = sameF p.fs q.fs by unfold goesB; rw [decide_eq_true h, Bool.true_and])
    rw [HE.out]
    clear h
    generalize sameF p.fs q.fs = s at *
    go_enter Try.func34, Try.ntmps34
    go_wp2_with (go_at_call 38; (with_reducible refine (CO.out _ HB2.out).mono ?_); rintro e w2 ⟨rfl, hb2⟩)
    go_ret
    exact ⟨rfl, chain HB2.out hb2⟩
  · have h' : (p.t == q.f) = false := by simpa using h
    have HE := Lib.hid (show goesB p q = false by unfold goesB; rw [decide_eq_false h, Bool.false_and])
    rw [HE.out]
    clear h
    go_enter Try.func34, Try.ntmps34
    go_wp2_with fail
    go_ret
    exact ⟨rfl, HB2.out⟩

set_option maxHeartbeats 4000000 in
set_option maxRecDepth 10000 in
theorem ptright_any (w : World) (u : Value) (l : List Pc) (hl : PcsL w u l) (hn : l.length ≤ 1000) (hfs : ∀ p ∈ l, p.fs.length ≤ 1000000) : Ret 20 #[u] w (.bool (rightT l)) := by
  obtain ⟨⟨A, c, rfl, hA, hc, hnc⟩, hPF⟩ := hl
  have HA := Lib.hid hA
  have HPF := Lib.hid hPF
  have HFS := Lib.hid hfs
  have HEND := Lib.hid (goT_end l)
  obtain ⟨n, hnm⟩ : ∃ n, l.length = n := ⟨_, rfl⟩
  obtain ⟨R, hR⟩ : ∃ R, rightT l = R := ⟨_, rfl⟩
  rw [hnm] at hn hc HEND ⊢
  rw [hR]
  have HN := Lib.hid hnm
  have HR := Lib.hid (show R = goT l 0 from hR.symm)
  clear hA hc hnc hPF hnm hR hfs
  go_enter Try.func20, Try.ntmps20
  go_wp2_with fail
  go_loopw [7] (fun i wr => ∃ k : Nat, k ≤ n ∧ i = .int .i64 k ∧ R = goT l k ∧ Below w.heap.size w wr) (fun i _ => n - (intOf i).toNat)
  case atStart => exact ⟨0, Nat.zero_le _, rfl, HR.out, bl w⟩
  case round =>
    obtain ⟨k, hk, rfl, hg, hW⟩ := hrel
    have HGK := Lib.hid hg
    have HW := Lib.hid hW
    clear hW hg
    by_cases hlt : k < n
    · have hlt' : (k : Int) < (n : Int) := by omega
      obtain ⟨q, hx⟩ : ∃ q, l[k]? = some q := ⟨_, List.getElem?_eq_getElem (by have := HN.out; omega)⟩
      obtain ⟨g, off, rfl, hX⟩ := (HA.out.below HW.out).cells3 hx
      have HV := Lib.hid hx
      have HX := Lib.hid hX
      have CR := Lib.hid (fun w => pspan_right q.f q.t w)
      have HBX := Lib.hid (show ∀ w', Below (wr.alloc (ocP q)).heap.size (wr.alloc (ocP q)) w' → BoxP w' wr.heap.size q from fun w' h => (boxP_new wr q).below h)
      have HB1 := Lib.hid (show Below wr.heap.size wr (wr.alloc (ocP q)) from (bl wr).alloc (Nat.le_refl _) _)
      obtain ⟨z0, z1, z2⟩ := hX
      clear hx
      rw [rightS_P] at CR
      cases hr : rightP q.f q.t with
      | false =>
        rw [hr] at CR
        have NX := Lib.hid (show R = false by
          rw [HGK.out]
          rcases Nat.eq_zero_or_pos k with rfl | hk0
          · rw [goT_zero HV.out, hr]; rfl
          · obtain ⟨j, rfl⟩ : ∃ j, k = j + 1 := ⟨k - 1, by omega⟩
            obtain ⟨p, hp⟩ : ∃ p, l[j]? = some p := ⟨_, List.getElem?_eq_getElem (by have := HN.out; omega)⟩
            rw [goT_succ hp HV.out, hr]; rfl)
        clear hr
        go_wp2_with (go_at_call 33; (with_reducible refine (CR.out _).mono ?_); rintro e w2 ⟨rfl, hb2⟩)
        go_ret
        exact ⟨ret_bool NX.out.symm, chain (chain HW.out HB1.out) hb2⟩
      | true =>
        rw [hr] at CR
        have HRT := Lib.hid hr
        clear hr
        rcases Nat.eq_zero_or_pos k with hk0 | hk0
        · subst hk0
          have hX0 := HX.out
          rw [Nat.zero_mul, Nat.add_zero] at hX0
          clear z0 z1 z2
          have HX0 := Lib.hid hX0
          obtain ⟨z0, z1, z2⟩ := hX0
          have NX := Lib.hid (show R = goT l 1 by rw [HGK.out, goT_zero HV.out, HRT.out]; rfl)
          go_wp2_with (go_at_call 33; (with_reducible refine (CR.out _).mono ?_); rintro e w2 ⟨rfl, hb2⟩)
          go_quiet (fail)
          go_wp2_with fail
          exact ⟨⟨1, by omega, by go_num, NX.out, belowN (chain (chain HW.out HB1.out) hb2) _⟩, by simp [intOf] <;> omega⟩
        · obtain ⟨j, hkj⟩ : ∃ j, k = j + 1 := ⟨k - 1, by omega⟩
          obtain ⟨p, hp⟩ : ∃ p, l[j]? = some p := ⟨_, List.getElem?_eq_getElem (by have := HN.out; omega)⟩
          obtain ⟨g', off', he, hP⟩ := (HA.out.below HW.out).cells3 hp
          injection he with he
          injection he with e1 e2 _
          subst e1 e2
          have HP := Lib.hid hp
          have HPP := Lib.hid hP
          have HG1 := Lib.hid (show R = (linkB p q && goT l (k + 1)) by
            have hV := HV.out
            rw [HGK.out, hkj]
            rw [hkj] at hV
            rw [goT_succ hp hV, HRT.out, Bool.true_and])
          have hkz : (0 : Int) < (k : Int) := by omega
          have hkz2 : 0 < k := hk0
          have hsub : IntKind.i64.wrap ((k : Int) - 1) = (j : Int) := by rw [IntWalk.i64_in _ (by omega)]; omega
          have hjn : (j : Int) < (n : Int) := by omega
          have hjn2 : j < n := by omega
          clear hp hP hkj
          by_cases h1 : q.f < p.t
          · have h1' : decide (q.f < p.t) = true := decide_eq_true h1
            have NX := Lib.hid (show R = false by
              have : linkB p q = false := by unfold linkB; rw [decide_eq_false (by omega), Bool.false_and]
              rw [HG1.out, this, Bool.false_and])
            go_wp2_with (go_at_call 33; (with_reducible refine (CR.out _).mono ?_); rintro e w2 ⟨rfl, hb2⟩; obtain ⟨x0, x1, x2⟩ := HBX.out _ hb2; obtain ⟨y0, y1, y2⟩ := (HPP.out.below HB1.out).below hb2)
            go_quiet (fail)
            go_wp2_with fail
            go_ret
            exact ⟨ret_bool NX.out.symm, belowN (chain (chain HW.out HB1.out) hb2) _⟩
          · have h1' : decide (q.f < p.t) = false := decide_eq_false h1
            have hsp : p.fs.length ≤ 1000000 := HFS.out p (List.mem_of_getElem? HP.out)
            have hsq : q.fs.length ≤ 1000000 := HFS.out q (List.mem_of_getElem? HV.out)
            have CO := Lib.hid (fun w' (h : Below wr.heap.size wr w') => goeson_any w' p q ((HPF.out p (List.mem_of_getElem? HP.out)).below (chain HW.out h)) ((HPF.out q (List.mem_of_getElem? HV.out)).below (chain HW.out h)) hsp hsq)
            have HL := Lib.hid (goesB_link (p := p) (q := q) (by omega))
            clear hsp hsq
            generalize goesB p q = s at *
            cases s with
            | true =>
              have NX := Lib.hid (show R = false by rw [HG1.out, HL.out]; rfl)
              go_wp2_with (go_at_call 33; (with_reducible refine (CR.out _).mono ?_); rintro e w2 ⟨rfl, hb2⟩; have HB2 := Lib.hid hb2; have MK := Lib.hid (show ∀ w', Below w2.heap.size w2 w' → (Below w2.heap.size w2 w' ∧ BoxP w' wr.heap.size q ∧ Cells3 w' g (off + j * 3) p) from fun w' h => ⟨h, HBX.out _ (chain hb2 h), (HPP.out.below HB1.out).below (chain hb2 h)⟩); clear hb2)
              first
                | (go_region_held3 (fun w' => Below w2.heap.size w2 w' ∧ BoxP w' wr.heap.size q ∧ Cells3 w' g (off + j * 3) p)
                    (first | exact MK.out _ ((bl w2).drew) | exact MK.out _ hb1 | fail)
                    (first | (go_at_call 34; (refine (CO.out _ (chain (chain HB1.out HB2.out) (by go_split_ands; assumption))).mono ?_); (rintro e w1 ⟨rfl, hb0⟩); (have hb1 := chain (by go_split_ands; assumption) hb0); clear hb0) | fail))
                | fail
              go_wp2_with fail
              go_ret
              exact ⟨ret_bool NX.out.symm, chain (chain (chain HW.out HB1.out) HB2.out) hb1⟩
            | false =>
              have NX := Lib.hid (show R = goT l (k + 1) by rw [HG1.out, HL.out]; rfl)
              go_wp2_with (go_at_call 33; (with_reducible refine (CR.out _).mono ?_); rintro e w2 ⟨rfl, hb2⟩; have HB2 := Lib.hid hb2; have MK := Lib.hid (show ∀ w', Below w2.heap.size w2 w' → (Below w2.heap.size w2 w' ∧ BoxP w' wr.heap.size q ∧ Cells3 w' g (off + j * 3) p) from fun w' h => ⟨h, HBX.out _ (chain hb2 h), (HPP.out.below HB1.out).below (chain hb2 h)⟩); clear hb2)
              first
                | (go_region_held3 (fun w' => Below w2.heap.size w2 w' ∧ BoxP w' wr.heap.size q ∧ Cells3 w' g (off + j * 3) p)
                    (first | exact MK.out _ ((bl w2).drew) | exact MK.out _ hb1 | fail)
                    (first | (go_at_call 34; (refine (CO.out _ (chain (chain HB1.out HB2.out) (by go_split_ands; assumption))).mono ?_); (rintro e w1 ⟨rfl, hb0⟩); (have hb1 := chain (by go_split_ands; assumption) hb0); clear hb0) | fail))
                | fail
              go_wp2_with fail
              exact ⟨⟨k + 1, by omega, by go_num, NX.out, chain (chain (chain HW.out HB1.out) HB2.out) hb1⟩, by simp [intOf] <;> omega⟩
    · obtain rfl : k = n := by omega
      have hlt' : ¬ (k : Int) < (k : Int) := by omega
      have NX := Lib.hid (show R = true by rw [HGK.out, HEND.out])
      go_wp2_with fail
      go_ret
      exact ⟨ret_bool NX.out.symm, HW.out⟩

end Go.Proofs.Ytnopbhlhdecimaa

/-
  The program's Order: a list of its own, in order, each version's fields cloned.
-/
namespace Go.Proofs.Ytnopbhlhdecimaa
open Go.RowKit

/-- All that a version says. -/
abbrev sayV (v : Vr) : Int × Int × ByteArray × Int × Int × List Fd × Bool := (v.id, v.st, v.ent, v.sf, v.se, v.fs, v.gone)
/-- Two lists of versions say the same. -/
def Alike (L O : List Vr) : Prop := L.map sayV = O.map sayV
theorem alike_same : ∀ L O : List Vr, Alike L O → sameVs L O = true
  | [], [], _ => rfl
  | [], _ :: _, h => by simp [Alike] at h
  | _ :: _, [], h => by simp [Alike] at h
  | a :: L, b :: O, h => by
    unfold Alike at h
    rw [List.map_cons, List.map_cons] at h
    injection h with h1 h2
    rw [sameVs, alike_same L O h2]
    obtain ⟨id, st, ent, sf, se, fa, fc, fs, gone⟩ := a
    obtain ⟨id', st', ent', sf', se', fa', fc', fs', gone'⟩ := b
    simp only [sayV, Prod.mk.injEq] at h1
    obtain ⟨rfl, rfl, rfl, rfl, rfl, rfl, rfl⟩ := h1
    simp [sameV, sameF_self]
theorem alike_set {L O : List Vr} (h : Alike L O) {t : Nat} {v : Vr} (hv : L[t]? = some v) (fa : Option Addr) (fc : Nat) : Alike (L.set t { v with fa := fa, fc := fc }) O := by
  unfold Alike at *
  rw [List.map_set, ← h]
  apply List.ext_getElem?
  intro j
  rw [List.getElem?_set]
  split
  · rename_i e
    subst e
    rw [List.getElem?_map, hv, List.length_map, if_pos (List.getElem?_eq_some_iff.1 hv).1]
    rfl
  · rfl
theorem alike_len {L O : List Vr} (h : Alike L O) : L.length = O.length := by
  have := congrArg List.length h
  simpa using this
theorem alike_mem {L O : List Vr} (h : Alike L O) {v : Vr} (hv : v ∈ L) : ∃ x ∈ O, x.fs = v.fs := by
  have : sayV v ∈ O.map sayV := by rw [← h]; exact List.mem_map.2 ⟨v, hv, rfl⟩
  obtain ⟨x, hx, e⟩ := List.mem_map.1 this
  simp only [sayV, Prod.mk.injEq] at e
  exact ⟨x, hx, e.2.2.2.2.2.1⟩
/-- The fields of a version lie, and outside of a block. -/
def KV (w : World) (g : Nat) (v : Vr) : Prop := VF w v ∧ ∀ (k : Nat) (f : Fd), v.fs[k]? = some f → ∀ a, v.fa = some a → a.block ≠ g
theorem KV.below {w w' : World} {g : Nat} {v : Vr} (h : KV w g v) (hb : Below w.heap.size w w') : KV w' g v := ⟨h.1.below hb, h.2⟩
theorem KV.set {w : World} {g : Nat} {v : Vr} (h : KV w g v) (o : Nat) (u : Value) : KV (w.setCell ⟨g, o, none⟩ u) g v := by
  refine ⟨⟨fun k f hf => ?_, h.1.2⟩, h.2⟩
  obtain ⟨b, off, e, c0, c1⟩ := h.1.1 k f hf
  have hne : b ≠ g := h.2 k f hf _ e
  exact ⟨b, off, e, (World.cell?_setCell_other _ _ _ _ (fun e => hne (by injection e with e; exact e.symm))).trans c0, (World.cell?_setCell_other _ _ _ _ (fun e => hne (by injection e with e; exact e.symm))).trans c1⟩
theorem KV.old {w w' : World} {g : Nat} {v : Vr} (h : VF w v) (hb : Below w.heap.size w w') (hg : w.heap.size ≤ g) : KV w' g v := by
  refine ⟨h.below hb, fun k f hf a ha => ?_⟩
  obtain ⟨b, off, e, c0, _⟩ := h.1 k f hf
  rw [ha] at e
  obtain rfl := Option.some.inj e
  have := lt_of_cell c0
  show b ≠ g
  omega
theorem KV.new {W w : World} {g : Nat} {v : Vr} {u : Value} (ho : OF W v.fs u w) (hg : g < W.heap.size) : ∃ A c, u = .slice A v.fs.length c ∧ KV w g { v with fa := A, fc := c } := by
  obtain ⟨A, c, e, h1, h2, h3⟩ := ho.list
  refine ⟨A, c, e, ⟨h1, h2, h3⟩, fun k f hf a ha => ?_⟩
  have hA : A = some a := ha
  have := ho.own.lt a.block (by rw [e, hA]; rfl)
  omega
end Go.Proofs.Ytnopbhlhdecimaa

/-
  A map from names to values: what is asked at a name is what fields said last; its entries, gone over in whatever order.
-/
namespace Go.Proofs.Ytnopbhlhdecimaa
open Go.RowKit
open Go.Maps (Keyed)

abbrev KT : TypeId := 9
abbrev VT : TypeId := 3
theorem keyS : Keyed Try.prog KT := Maps.string_keyed Try.underlying9
/-- How a value of a map reads. -/
def anyI (v : Value) : Option (DataW Unit × List MemPlace) :=
  match v with
  | .int .i64 a => some (.lit (.int .i64 a), [])
  | _ => none
theorem anyI_inv (v : Value) (y : DataW Unit × List MemPlace) (h : anyI v = some y) : ∃ c, v = .int .i64 c := by
  unfold anyI at h
  split at h
  · exact ⟨_, rfl⟩
  · cases h
theorem keyS_inv (key : Value) (kl : Lit) (h : keyOf Try.prog KT key = some kl) : ∃ x : ByteArray, key = .string x := by
  obtain ⟨x, hx, _⟩ := Maps.keyOf_str Try.underlying9 h
  exact ⟨_, hx⟩
set_option maxRecDepth 100000 in
theorem keyS_lit {x : ByteArray} {kl : Lit} (h : keyOf Try.prog KT (.string x) = some kl) : kl = .string x.data.toList := by
  obtain ⟨y, hy, hk, _⟩ := Maps.keyOf_str Try.underlying9 h
  injection hy with hy
  rw [hk, hy]
abbrev MapF (w : World) (B n : Nat) (D : DataW Unit) : Prop := w.ownsMap Try.prog KT anyI B n D
/-- What is asked at a name is what the fields say last. -/
def Says (D : DataW Unit) (l : List Fd) : Prop := Maps.IsMap D ∧ ∀ (s : ByteArray) (zd : DataW Unit), D.atKey (.string s.data.toList) zd = match lastL l s with | some v => .lit (.int .i64 v) | none => zd
theorem Says.nil : Says (.map []) [] := ⟨Maps.isMap_empty, fun _ _ => rfl⟩
theorem key_ne {a b : ByteArray} (h : nats a ≠ nats b) : (Lit.string a.data.toList) ≠ .string b.data.toList := fun e => by
  injection e with e
  exact h (by unfold nats; rw [e])
theorem keyLit (l : List UInt8) : Go.WideAt.IsKeyLit (.string l) := by trivial
theorem Says.put {D : DataW Unit} {l : List Fd} {f : Fd} (h : Says D l) : Says (D.put (.string f.n.data.toList) (.lit (.int .i64 f.v))) (l ++ [f]) := by
  refine ⟨h.1.put _ _, fun s zd => ?_⟩
  rw [lastL_append, lastL, lastL]
  by_cases e : nats f.n = nats s
  · have e2 := nats_inj e
    rw [if_pos e, ← e2, Maps.atKey_put_same h.1 (keyLit _)]
  · rw [if_neg e, Maps.atKey_put_other (key_ne (fun e' => e e'.symm)), h.2]
theorem Says.has {D : DataW Unit} {l : List Fd} (h : Says D l) (s : ByteArray) : Maps.has D (.string s.data.toList) = (lastL l s).isSome := by
  cases e : lastL l s with
  | some v => exact Maps.has_true_of_atKey (y := .lit (.int .i64 v)) (fun z => by rw [h.2, e])
  | none => exact Maps.has_false_of_atKey (fun z => by rw [h.2, e])
/-- The fields that have come of those that are said. -/
def Got (all : List Fd) (left : Lit → Bool) (acc : List Fd) : Prop := Apart acc ∧ ∀ s : ByteArray, getL acc s = if left (.string s.data.toList) = true then none else lastL all s
theorem Got.start {D : DataW Unit} {all : List Fd} (h : Says D all) : Got all (Maps.has D) [] := by
  refine ⟨List.Pairwise.nil, fun s => ?_⟩
  rw [h.has, getL]
  cases lastL all s <;> rfl
theorem getL_append : ∀ (l m : List Fd) (s : ByteArray), getL (l ++ m) s = match getL l s with | some v => some v | none => getL m s
  | [], _, _ => rfl
  | f :: l, m, s => by
    rw [List.cons_append, getL, getL]
    by_cases h : nats f.n = nats s
    · rw [if_pos h, if_pos h]
    · rw [if_neg h, if_neg h, getL_append l m s]
theorem Got.step {D : DataW Unit} {all acc : List Fd} {left : Lit → Bool} {x : ByteArray} {c : Int} (hg : Got all left acc) (h : Says D all) (hlk : left (.string x.data.toList) = true) (hat : ∀ zd, D.atKey (.string x.data.toList) zd = .lit (.int .i64 c)) :
    Got all (fun z => left z && !z.sameKey (.string x.data.toList)) (acc ++ [⟨x, c⟩]) := by
  have hx : getL acc x = none := by rw [hg.2, if_pos hlk]
  have hc : lastL all x = some c := by
    have := h.2 x .nil
    rw [hat] at this
    cases e : lastL all x with
    | none => rw [e] at this; cases this
    | some v =>
      rw [e] at this
      injection this with this
      injection this with _ this
      rw [this]
  refine ⟨apart_snoc hg.1 (fun g hgm e => ?_), fun s => ?_⟩
  · have := getL_mem hg.1 hgm
    rw [nats_inj e, hx] at this
    cases this
  · rw [getL_append, hg.2 s, getL, getL]
    by_cases e : nats x = nats s
    · have e2 := nats_inj e
      subst e2
      rw [if_pos hlk, if_pos rfl, if_neg (by simp [Lit.sameKey]), hc]
    · have k := Maps.sameKey_ne (key_ne (fun e' => e e'.symm) : (Lit.string s.data.toList) ≠ .string x.data.toList)
      simp only [k, if_neg e]
      cases left (.string s.data.toList)
      · simp
        cases lastL all s <;> rfl
      · simp
theorem Got.done {all acc m : List Fd} {left : Lit → Bool} (hg : Got all left acc) (hl : ∀ kl, left kl = false) (hp : acc.Perm m) (hs : m.Pairwise (fun x y => aheadB y.n x.n = false)) : m = overL all := by
  apply rises_ext _ _ (rises_of m hs (hg.1.perm hp)) (overL_rises _)
  intro s
  rw [overL_get, ← getL_perm hg.1 hp, hg.2, hl, if_neg (by simp)]
theorem map_size {w : World} {B n : Nat} {D : DataW Unit} (h : MapF w B n D) : Maps.size D ≤ n := by
  obtain ⟨es, clock, _, _, hs, rfl⟩ := h
  show (List.foldr DataW.insert [] _).length ≤ n
  rw [length_sorted, List.length_map, Array.length_toList]
  exact hs
/-- The map that the call made: block B, what it says of the fields that have been put. -/
structure OM (W : World) (l : List Fd) (D : DataW Unit) (w : World) : Prop where
  map : MapF w W.heap.size l.length D
  says : Says D l
  bel : Below W.heap.size W w
theorem OM.nil (W : World) : OM W [] (.map []) (W.alloc (.map #[] 0)) := ⟨World.ownsMap_made _ _ _ _, Says.nil, (bl W).alloc (Nat.le_refl _) _⟩
theorem OM.alloc {W w : World} {l : List Fd} {D : DataW Unit} (h : OM W l D w) (o : Obj) : OM W l D (w.alloc o) := ⟨h.map.alloc o, h.says, h.bel.alloc h.bel.size _⟩
theorem OM.put {W w w' : World} {l : List Fd} {D : DataW Unit} {f : Fd} (h : OM W l D w) (hm : w'.ownsMap Try.prog KT anyI W.heap.size (l.length + 1) (D.put (.string f.n.data.toList) (.lit (.int .i64 f.v)))) (hg : w.grownBy w' (some W.heap.size)) :
    OM W (l ++ [f]) (D.put (.string f.n.data.toList) (.lit (.int .i64 f.v))) w' :=
  ⟨by rw [List.length_append, List.length_singleton]; exact hm, h.says.put, h.bel.grown hg h.bel.size (fun j hj => by cases hj; exact Nat.le_refl _)⟩
theorem ne_iter {w : World} {base B r n cnt : Nat} {v : Value} {l : List Fd} {D : DataW Unit} {left : Lit → Bool} (h : ownF w base v l) (hr : w.ranges Try.prog KT anyI B r n D left cnt) : v.ownBlock ≠ some r ∧ v.ownBlock ≠ some B := by
  obtain ⟨es, clock, since, seen, c0, hb, _, _, _, hr, _⟩ := hr
  rcases h.2 with ⟨rfl, _⟩ | ⟨g, cap, cur, rfl, _, hg, _⟩
  · exact ⟨fun e => (by cases e), fun e => (by cases e)⟩
  · refine ⟨fun e => ?_, fun e => ?_⟩
    · obtain rfl := Option.some.inj e
      rw [hg] at hr; cases hr
    · obtain rfl := Option.some.inj e
      rw [hg] at hb; cases hb
/-- A block that is not the list's own is turned. -/
theorem OF.other {W w w' : World} {l : List Fd} {v : Value} {row : Option Nat} (h : OF W l v w) (hg : w.grownBy w' row) (hne : v.ownBlock ≠ row) (hr : ∀ j, row = some j → W.heap.size ≤ j) : OF W l v w' :=
  ⟨h.own.kept hg (by cases hv : v.ownBlock with
    | none => exact Or.inl rfl
    | some b => exact Or.inr (hv ▸ hne)), h.bel.grown hg h.bel.size hr⟩

end Go.Proofs.Ytnopbhlhdecimaa

/-
  The program's putter: a closure that puts a piece behind those of a list that it has captured.
-/
namespace Go.Proofs.Ytnopbhlhdecimaa
open Go.RowKit

/-- Whatever lay, lies, but for two blocks. -/
structure Kb2 (o1 o2 : Option Nat) (w w' : World) : Prop where
  os : w'.os = w.os
  tape : w'.tape = w.tape
  output : w'.output = w.output
  size : w.heap.size ≤ w'.heap.size
  block : ∀ c, c < w.heap.size → o1 ≠ some c → o2 ≠ some c → w'.heap[c]? = w.heap[c]?
theorem Kb2.of_below {o1 o2 : Option Nat} {w w' : World} (h : Below w.heap.size w w') : Kb2 o1 o2 w w' := ⟨h.os, h.tape, h.output, h.size, fun c hc _ _ => h.block c hc⟩
theorem Kb2.refl (o1 o2 : Option Nat) (w : World) : Kb2 o1 o2 w w := .of_below (bl w)
theorem Kb2.trans {o1 o2 : Option Nat} {a b c : World} (h : Kb2 o1 o2 a b) (k : Kb2 o1 o2 b c) : Kb2 o1 o2 a c := ⟨k.os.trans h.os, k.tape.trans h.tape, k.output.trans h.output, Nat.le_trans h.size k.size, fun i hi n1 n2 => (k.block i (Nat.lt_of_lt_of_le hi h.size) n1 n2).trans (h.block i hi n1 n2)⟩
theorem Kb2.below {o1 o2 : Option Nat} {a b c : World} (h : Kb2 o1 o2 a b) (k : Below b.heap.size b c) : Kb2 o1 o2 a c := h.trans (.of_below k)
theorem Kb2.set1 {o2 : Option Nat} {a w : World} {b i : Nat} (h : Kb2 (some b) o2 a w) (u : Value) : Kb2 (some b) o2 a (w.setCell ⟨b, i, none⟩ u) :=
  h.trans ⟨rfl, rfl, rfl, by simp [World.setCell], fun c _ n1 _ => Below.heap_setCell w ⟨b, i, none⟩ u c (fun e => n1 (by simp at e; rw [e]))⟩
theorem Kb2.set2 {o1 : Option Nat} {a w : World} {b i : Nat} (h : Kb2 o1 (some b) a w) (u : Value) : Kb2 o1 (some b) a (w.setCell ⟨b, i, none⟩ u) :=
  h.trans ⟨rfl, rfl, rfl, by simp [World.setCell], fun c _ _ n2 => Below.heap_setCell w ⟨b, i, none⟩ u c (fun e => n2 (by simp at e; rw [e]))⟩
theorem Kb2.grown {o1 o2 : Option Nat} {a w w' : World} (h : Kb2 o1 o2 a w) (hg : w.grownBy w' o2) : Kb2 o1 o2 a w' := h.trans ⟨hg.os, hg.tape, hg.output, hg.size, fun c hc _ n2 => hg.block c hc (fun e => n2 e.symm)⟩
theorem Kb2.to_below {o1 o2 : Option Nat} {w w' : World} {base : Nat} (h : Kb2 o1 o2 w w') (hb : base ≤ w.heap.size) (h1 : ∀ c, o1 = some c → base ≤ c) (h2 : ∀ c, o2 = some c → base ≤ c) : Below base w w' := ⟨h.os, h.tape, h.output, h.size, fun c hc => h.block c (by omega) (fun e => by have := h1 c e; omega) (fun e => by have := h2 c e; omega)⟩

abbrev TPc : TypeId := 45
abbrev TPs : TypeId := 22
abbrev TPp : TypeId := 95
/-- The fields of a piece lie where it says, in a block of fields. -/
def KF (w : World) (p : Pc) : Prop := PF w p ∧ (p.fs ≠ [] → ∀ a, p.fa = some a → ∃ cur, w.heap[a.block]? = some (.cells cur FT (0, 0)))
/-- Blocks of four types lie as they lay. -/
def KT4 (w w' : World) : Prop := ∀ (c : Nat) (cur : Array Value) (t : TypeId), (t = TPc ∨ t = TPs ∨ t = TPp ∨ t = FT) → w.heap[c]? = some (.cells cur t (0, 0)) → w'.heap[c]? = some (.cells cur t (0, 0))
theorem KT4.of_below {w w' : World} (h : Below w.heap.size w w') : KT4 w w' := fun c _ _ _ hc => (h.block c (Array.getElem?_eq_some_iff.1 hc).1).trans hc
theorem KF.pf_of {w w' : World} {p : Pc} (h : KF w p) (hk : ∀ (c : Nat) (cur : Array Value), w.heap[c]? = some (.cells cur FT (0, 0)) → w'.heap[c]? = some (.cells cur FT (0, 0))) : KF w' p := by
  refine ⟨⟨fun k f hf => ?_, h.1.2⟩, fun hn a ha => ?_⟩
  · obtain ⟨g, off, he, c0, c1⟩ := h.1.1 k f hf
    have hn : p.fs ≠ [] := fun e => by rw [e] at hf; simp at hf
    obtain ⟨cur, hcur⟩ := h.2 hn _ he
    have hcur : w.heap[g]? = some (.cells cur FT (0, 0)) := hcur
    have e : w'.heap[g]? = w.heap[g]? := (hk g cur hcur).trans hcur.symm
    exact ⟨g, off, he, (World.cell?_of_block (a := ⟨g, _, none⟩) e).trans c0, (World.cell?_of_block (a := ⟨g, _, none⟩) e).trans c1⟩
  · obtain ⟨cur, hcur⟩ := h.2 hn a ha
    exact ⟨cur, hk _ _ hcur⟩
theorem KF.kt {w w' : World} {p : Pc} (h : KF w p) (hk : KT4 w w') : KF w' p := h.pf_of fun c cur hc => hk c cur FT (.inr (.inr (.inr rfl))) hc
theorem KF.below {w w' : World} {p : Pc} (h : KF w p) (hb : Below w.heap.size w w') : KF w' p := h.kt (.of_below hb)
theorem KF.new {W w : World} {s : List Fd} {u : Value} (ho : OF W s u w) : ∃ A c, u = .slice A s.length c ∧ ∀ f t, KF w ⟨f, t, A, c, s⟩ := by
  obtain ⟨A, c, rfl, hF, hc, hn⟩ := ho.list
  refine ⟨A, c, rfl, fun f t => ⟨⟨hF, hc, hn⟩, fun hne a ha => ?_⟩⟩
  rcases ho.own.2 with ⟨e, h0⟩ | ⟨g, cap, cur, e, _, hg, _⟩
  · exact absurd (List.eq_nil_of_length_eq_zero h0) hne
  · injection e with e1
    have ha : A = some a := ha
    rw [e1] at ha
    cases ha
    exact ⟨cur, hg⟩
theorem KF.same {w : World} {p q : Pc} (h : KF w p) (h1 : q.fa = p.fa) (h2 : q.fc = p.fc) (h3 : q.fs = p.fs) : KF w q := by
  unfold KF PF at h ⊢
  rw [h1, h2, h3]; exact h
/-- A list of pieces in a variable, that a closure has captured. -/
structure PutB (base Q B : Nat) (L : List Pc) (v : Value) (w : World) : Prop where
  qb : Q < base
  bb : B < base
  ptr : Boxed w Q TPp (.pointer (some ⟨B, 0, none⟩))
  box : Boxed w B TPs v
  own : ownE EP w base v L
  kf : ∀ p ∈ L, KF w p
theorem PutB.kt {base Q B : Nat} {L : List Pc} {v : Value} {w w' : World} (h : PutB base Q B L v w) (hk : KT4 w w') : PutB base Q B L v w' := by
  refine ⟨h.qb, h.bb, hk _ _ _ (.inr (.inr (.inl rfl))) h.ptr, hk _ _ _ (.inr (.inl rfl)) h.box, ⟨h.own.1, ?_⟩, fun p hp => (h.kf p hp).kt hk⟩
  rcases h.own.2 with h2 | ⟨g, cap, cur, hv, hg, hh, r⟩
  · exact .inl h2
  · exact .inr ⟨g, cap, cur, hv, hg, hk _ _ _ (.inl rfl) hh, r⟩
theorem PutB.below {base Q B : Nat} {L : List Pc} {v : Value} {w w' : World} (h : PutB base Q B L v w) (hb : Below w.heap.size w w') : PutB base Q B L v w' := h.kt (.of_below hb)
theorem PutB.pcs {base Q B : Nat} {L : List Pc} {v : Value} {w : World} (h : PutB base Q B L v w) : PcsL w v L := ⟨ownE_list h.own, fun p hp => (h.kf p hp).1⟩
theorem PutB.ne {base Q B : Nat} {L : List Pc} {v : Value} {w : World} (h : PutB base Q B L v w) : Q ≠ B := fun e => by
  have h1 := h.ptr
  have h2 := h.box
  rw [e] at h1
  unfold Boxed at h1 h2
  rw [h1] at h2
  injection h2 with h2
  injection h2 with _ h2 _
  revert h2; decide
theorem PutB.lt {base Q B : Nat} {L : List Pc} {v : Value} {w : World} (h : PutB base Q B L v w) {g : Nat} (hg : v.ownBlock = some g) : base ≤ g ∧ g < w.heap.size := h.own.lt g hg
/-- Behind an append of a piece, and the store back. -/
theorem PutB.app {base Q B : Nat} {L : List Pc} {v v' : Value} {w w1 : World} {p : Pc} (h : PutB base Q B L v w) (_ : base ≤ w.heap.size) (hp : KF w p) (hg : w.grownBy w1 v.ownBlock) (hown : ownE EP w1 base v' (L ++ [p])) : PutB base Q B (L ++ [p]) v' (w1.setCell ⟨B, 0, none⟩ v') := by
  have hBw := h.box.lt
  have hQw := h.ptr.lt
  have hkB : some B ≠ v.ownBlock := fun e => by have := h.lt e.symm; have := h.bb; omega
  have hkQ : some Q ≠ v.ownBlock := fun e => by have := h.lt e.symm; have := h.qb; omega
  have b1 : Boxed w1 B TPs v := h.box.kept hg hkB
  have q1 : Boxed w1 Q TPp (.pointer (some ⟨B, 0, none⟩)) := h.ptr.kept hg hkQ
  have hset : ∀ c, c ≠ B → (w1.setCell ⟨B, 0, none⟩ v').heap[c]? = w1.heap[c]? := fun c hc => Below.heap_setCell w1 ⟨B, 0, none⟩ v' c hc
  refine ⟨h.qb, h.bb, ?_, b1.set v', ⟨hown.1, ?_⟩, fun q hq => ?_⟩
  · unfold Boxed
    rw [hset Q h.ne]
    exact q1
  · rcases hown.2 with h2 | ⟨g, cap, cur, hv, hg2, hh, r⟩
    · exact .inl h2
    · exact .inr ⟨g, cap, cur, hv, hg2, by rw [hset g (fun e => by have := h.bb; omega)]; exact hh, r⟩
  · have hq' : KF w q := by
      rcases List.mem_append.1 hq with hq | hq
      · exact h.kf q hq
      · obtain rfl := List.mem_singleton.1 hq
        exact hp
    refine hq'.pf_of fun c cur hc => ?_
    have hcw := (Array.getElem?_eq_some_iff.1 hc).1
    have hcB : c ≠ B := fun e => by
      have h2 := h.box
      unfold Boxed at h2
      rw [e, h2] at hc
      injection hc with hc
      injection hc with _ hc _
      revert hc; decide
    have hcv : some c ≠ v.ownBlock := fun e => by
      rcases h.own.2 with ⟨hv, _⟩ | ⟨g, cap, cur', hv, _, hh, _⟩
      · rw [hv] at e; cases e
      · rw [hv] at e
        cases e
        rw [hh] at hc
        injection hc with hc
        injection hc with _ hc _
        revert hc; decide
    rw [hset c hcB, hg.block c hcw hcv]
    exact hc
/-- Behind a store into the last piece. -/
theorem PutB.setLast {base Q B : Nat} {m : List Pc} {q : Pc} {g c n : Nat} {w : World} (h : PutB base Q B (m ++ [q]) (.slice (some ⟨g, 0, none⟩) n c) w) (hn : n = m.length + 1) (x : Int) : PutB base Q B (m ++ [{ q with t := x }]) (.slice (some ⟨g, 0, none⟩) n c) (w.setCell ⟨g, m.length * 3 + 1, none⟩ (.int .i64 x)) := by
  subst hn
  have hq : (m ++ [q])[m.length]? = some q := by simp
  have hset : (m ++ [q]).set m.length { q with t := x } = m ++ [{ q with t := x }] := by simp
  have hlen : (m ++ [q]).length = m.length + 1 := by simp
  have hw := h.own
  unfold ownE at hw
  rw [hlen] at hw
  have hs := (World.ownsRow.stored hw (m.length * 3 + 1) (.int .i64 x)).1
  rw [flat_setP _ _ _ x hq, hset] at hs
  have hlt := h.lt (g := g) rfl
  have hother : ∀ c, c ≠ g → (w.setCell ⟨g, m.length * 3 + 1, none⟩ (.int .i64 x)).heap[c]? = w.heap[c]? := fun c hc => Below.heap_setCell w ⟨g, m.length * 3 + 1, none⟩ _ c hc
  have hlen2 : (m ++ [{ q with t := x }]).length = m.length + 1 := by simp
  refine ⟨h.qb, h.bb, ?_, ?_, ?_, fun r hr => ?_⟩
  · unfold Boxed
    rw [hother Q (fun e => by have := h.qb; omega)]
    exact h.ptr
  · unfold Boxed
    rw [hother B (fun e => by have := h.bb; omega)]
    exact h.box
  · unfold ownE
    rw [hlen2]
    exact hs
  · have hr' : KF w r := by
      rcases List.mem_append.1 hr with hr | hr
      · exact h.kf r (by simp [hr])
      · obtain rfl := List.mem_singleton.1 hr
        exact (h.kf q (by simp)).same rfl rfl rfl
    refine hr'.pf_of fun c' cur hc => ?_
    rw [hother c' (fun e => ?_)]
    · exact hc
    · rcases h.own.2 with ⟨hv, _⟩ | ⟨g', cap, cur', hv, _, hh, _⟩
      · cases hv
      · injection hv with hv
        injection hv with hv
        injection hv with hv _ _
        rw [e, hv, hh] at hc
        injection hc with hc
        injection hc with _ hc _
        revert hc; decide

theorem PutB.grownQ {base Q B : Nat} {L : List Pc} {v : Value} {w w1 : World} {o : Obj} (h : PutB base Q B L v w) (hg : (w.drew.alloc o).grownBy w1 v.ownBlock) : w1.cell? ⟨Q, 0, none⟩ = some (.pointer (some ⟨B, 0, none⟩)) :=
  (((h.below (belowN (bl w) 1)).ptr.alloc o).kept hg (fun e => by have := h.lt e.symm; have := h.qb; omega)).cell
theorem PutB.grownB {base Q B : Nat} {L : List Pc} {v : Value} {w w1 : World} {o : Obj} (h : PutB base Q B L v w) (hg : (w.drew.alloc o).grownBy w1 v.ownBlock) : w1.cell? ⟨B, 0, none⟩ = some v :=
  (((h.below (belowN (bl w) 1)).box.alloc o).kept hg (fun e => by have := h.lt e.symm; have := h.bb; omega)).cell
theorem PutB.grownF {base Q B : Nat} {L : List Pc} {v : Value} {w w1 : World} {o : Obj} (h : PutB base Q B L v w) (hg : (w.drew.alloc o).grownBy w1 v.ownBlock) : w1.frozen? ⟨B, 0, none⟩ = false :=
  (((h.below (belowN (bl w) 1)).box.alloc o).kept hg (fun e => by have := h.lt e.symm; have := h.bb; omega)).frozen

/-- What the closure leaves. -/
def PutPost (base Q B : Nat) (L : List Pc) (p : Pc) (v : Value) (w : World) (e : Ending) (w' : World) : Prop :=
  e = .returned (.tuple #[]) ∧ ∃ v' A c, PutB base Q B (putP L { p with fa := A, fc := c }) v' w' ∧ Kb2 (some B) v.ownBlock w w'

theorem oneP (w : World) (p : Pc) : RowE EP (w.alloc (ocP p)) (some ⟨w.heap.size, 0, none⟩) [p] := rowE_one (E := EP) w p #[.int .i64 p.f, .int .i64 p.t, .slice p.fa p.fs.length p.fc] rfl TPc
theorem boxP_set {w : World} {b : Nat} {p : Pc} {A : Option Addr} {c : Nat} (h : BoxP w b p) : BoxP (w.setCell ⟨b, 2, none⟩ (.slice A p.fs.length c)) b { p with fa := A, fc := c } :=
  ⟨(World.cell?_setCell_other _ ⟨b, 2, none⟩ ⟨b, 0, none⟩ _ (by simp)).trans h.1, (World.cell?_setCell_other _ ⟨b, 2, none⟩ ⟨b, 1, none⟩ _ (by simp)).trans h.2.1, World.cell?_setCell_same _ ⟨b, 2, none⟩ _ h.2.2⟩

set_option maxHeartbeats 4000000 in
set_option maxRecDepth 100000 in
theorem pput_nil {base Q B : Nat} {v : Value} {w : World} {p : Pc} (h : PutB base Q B [] v w) (hbase : base ≤ w.heap.size) (hp : PF w p) (hps : p.fs.length ≤ 1000000) : Calls Try.prog 69 #[pv p, .pointer (some ⟨Q, 0, none⟩)] w (PutPost base Q B [] p v w) := by
  obtain ⟨A, c, hv, _⟩ := h.pcs.1
  have hb1 : Below w.heap.size w (w.alloc (ocP p)) := (bl w).alloc (Nat.le_refl _) _
  have hm1 : IntKind.i64.wrap ((0 : Int) - 1) = -1 := by decide
  have h1 := h.below hb1
  have x0 := h1.ptr.cell
  have x1 := h1.box.cell
  have HP := Lib.hid hp
  have HH := Lib.hid h
  have HB1 := Lib.hid hb1
  have HBASE := Lib.hid hbase
  simp only [List.length_nil] at hv
  subst hv
  clear h hp hb1 h1 hbase
  go_enter Try.func69, Try.ntmps69
  go_wp2_with fail
  go_quiet (fail)
  refine abstract_then (fun w' => Below w.heap.size w w' ∧ BoxP w' w.heap.size p ∧ w.heap.size < w'.heap.size ∧ w'.frozen? ⟨w.heap.size, 2, none⟩ = false ∧ w'.heap[w.heap.size]? = some (ocP p)) ⟨belowN HB1.out _, ((boxP_new w p).below (belowN (bl _) _)), by simp, by simp [go_sem], heap_alloc_new w _⟩ ?_
  rintro w1 ⟨hb1, hbx, hlt1, hfz, hob⟩
  have HOB := Lib.hid hob
  obtain ⟨b0, b1, b2⟩ := hbx
  have HB1 := Lib.hid hb1
  have HLT := Lib.hid hlt1
  have HBX := Lib.hid (show BoxP w1 w.heap.size p from ⟨b0, b1, b2⟩)
  have HFZ := Lib.hid hfz
  have CC := Lib.hid (cloneF_any w1 p.fa p.fc p.fs (HP.out.below hb1).1 HP.out.2.2 hps)
  clear hb1 x0 x1 hlt1 hfz hob
  go_wp2_with (go_at_call 23; (with_reducible refine CC.out.mono ?_); rintro e w2 ⟨u, rfl, hO⟩; obtain ⟨A2, c2, rfl, hkf⟩ := KF.new hO; obtain ⟨b0', b1', b2'⟩ := HBX.out.below hO.bel; have hf2 := keepf hO.bel HLT.out HFZ.out; have HO := Lib.hid hO; have HKF := Lib.hid hkf; clear hO hkf)
  refine abstract_worldW (fun w' => Below w.heap.size w w' ∧ BoxP w' w.heap.size { p with fa := A2, fc := c2 } ∧ KF w' { p with fa := A2, fc := c2 }) ⟨(chain HB1.out HO.out.bel).setCell (p := ⟨w.heap.size, 2, none⟩) (Nat.le_refl _) _, boxP_set (HBX.out.below HO.out.bel), ?_⟩ ?_
  · have hk := HKF.out p.f p.t
    refine KF.pf_of (hk.same rfl rfl rfl) fun c cur hc => ?_
    refine (Below.heap_setCell w2 ⟨w.heap.size, 2, none⟩ _ c (fun e => ?_)).trans hc
    have e2 := (HO.out.bel.block w.heap.size HLT.out).trans HOB.out
    rw [e] at hc
    rw [show w2.heap[w.heap.size]? = _ from e2] at hc
    injection hc with hc
    injection hc with _ hc _
    revert hc; decide
  rintro w3 ⟨hb3, ⟨y0, y1, y2⟩, hk3⟩
  have HB3 := Lib.hid hb3
  have HK3 := Lib.hid hk3
  have h3 := HH.out.below hb3
  have x0 := h3.ptr.cell
  have x0a : (w3.alloc (.cells #[.int .i64 p.f, .int .i64 p.t, .slice A2 p.fs.length c2] TPc)).cell? ⟨Q, 0, none⟩ = some (.pointer (some ⟨B, 0, none⟩)) := (h3.below ((bl w3).alloc (Nat.le_refl _) _)).ptr.cell
  have HH3 := Lib.hid h3
  clear hb3 hk3 h3 b0 b1 b2
  go_region_law (refine step_appE (E := EP) (xs := [({ p with fa := A2, fc := c2 } : Pc)]) rfl (.tmp 34) (.tmp 36) rfl rfl rfl (World.ownsRow.alloc (w := w3.drew) HH3.out.own _) rfl rfl (by first | exact oneP w3.drew { p with fa := A2, fc := c2 } | (have hrow := oneP w3.drew { p with fa := A2, fc := c2 }; simp at hrow ⊢; exact hrow)) (fun h => by cases h) (by simp) (by have h5 := HBASE.out; have h6 := HB3.out.size; simp; omega) ?_; intro v' w4 hown4 hg4 _; obtain ⟨g4, c4, hv4⟩ := own_at hown4 (by simp); simp only [List.nil_append, List.length_singleton] at hv4; subst hv4; have HP4 := Lib.hid (((HH3.out.below (belowN (bl w3) 1)).below ((bl w3.drew).alloc (Nat.le_refl _) _)).app (by have h5 := HBASE.out; have h6 := HB3.out.size; simp; omega) ((HK3.out.below (belowN (bl w3) 1)).below ((bl w3.drew).alloc (Nat.le_refl _) _)) hg4 hown4); have HK4 := Lib.hid (((Kb2.of_below (o1 := some B) (o2 := (Value.slice A 0 c).ownBlock) HB3.out).below (((bl w3).drew).alloc (by simp) _)).grown hg4); have y4 := HH3.out.grownQ hg4; have z4 := HH3.out.grownB hg4; have f4 := HH3.out.grownF hg4; clear hown4 hg4)
  all_goals go_end0
  all_goals exact ⟨rfl, _, A2, c2, HP4.out, HK4.out.set1 _⟩

set_option maxHeartbeats 4000000 in
set_option maxRecDepth 100000 in
theorem pput_more {base Q B : Nat} {w : World} {g c : Nat} {m : List Pc} {q p : Pc} (h : PutB base Q B (m ++ [q]) (.slice (some ⟨g, 0, none⟩) (m.length + 1) c) w) (hbase : base ≤ w.heap.size) (hp : PF w p) (hn : m.length ≤ 100000) (hqs : q.fs.length ≤ 1000000) (hps : p.fs.length ≤ 1000000) : Calls Try.prog 69 #[pv p, .pointer (some ⟨Q, 0, none⟩)] w (PutPost base Q B (m ++ [q]) p (.slice (some ⟨g, 0, none⟩) (m.length + 1) c) w) := by
  have HH := Lib.hid h
  have HP := Lib.hid hp
  have HBASE := Lib.hid hbase
  have HX := Lib.hid (show Cells3 w g (m.length * 3) q by
    obtain ⟨A2, c2, e2, hr, _⟩ := h.pcs.1
    injection e2 with e2 _ _
    rw [← e2] at hr
    have hx : (m ++ [q])[m.length]? = some q := by simp
    have k0 := hr.at hx (j := 0) rfl
    have k1 := hr.at hx (j := 1) rfl
    have k2 := hr.at hx (j := 2) rfl
    rw [Nat.zero_add] at k0 k1 k2
    exact ⟨k0, k1, k2⟩)
  have HFZ := Lib.hid (show ∀ w', Below w.heap.size w w' → w'.frozen? ⟨g, m.length * 3 + 1, none⟩ = false from fun w' hb => by
    have e := ownE_below h.own hb
    unfold ownE at e
    rw [show (m ++ [q]).length = m.length + 1 by simp] at e
    exact World.ownsRow.frozenAt e _)
  have HSET := Lib.hid (fun w' (hb : Below w.heap.size w w') (n : Nat) (hn : n = m.length + 1) (x : Int) => (show PutB base Q B (m ++ [{ q with t := x }]) (.slice (some ⟨g, 0, none⟩) n c) (w'.setCell ⟨g, m.length * 3 + 1, none⟩ (.int .i64 x)) by
    subst hn
    exact (h.below hb).setLast rfl x))
  have CO := Lib.hid (fun w' (hb : Below w.heap.size w w') => goeson_any w' q p ((h.kf q (by simp)).1.below hb) (hp.below hb) hqs hps)
  have HB1 := Lib.hid (show Below w.heap.size w (w.alloc (ocP p)) from (bl w).alloc (Nat.le_refl _) _)
  have MK := Lib.hid (show ∀ w', Below (w.alloc (ocP p)).heap.size (w.alloc (ocP p)) w' → (Below (w.alloc (ocP p)).heap.size (w.alloc (ocP p)) w' ∧ Cells3 w' g (m.length * 3) q ∧ BoxP w' w.heap.size p) from fun w' hb => ⟨hb, (HX.out.below HB1.out).below hb, (boxP_new w p).below hb⟩)
  have HN := Lib.hid hn
  have h1 := h.below HB1.out
  have x0 := h1.ptr.cell
  have x1 := h1.box.cell
  have NA := Lib.hid (show goesB q p = false → ∀ A c, putP (m ++ [q]) { p with fa := A, fc := c } = (m ++ [q]) ++ [{ p with fa := A, fc := c }] from fun hg A c => putP_app (by
    rintro ⟨e1, e2⟩
    have e1 : q.t = p.f := e1
    have e2 : sameF q.fs p.fs = true := e2
    rw [goesB, decide_eq_true e1, e2] at hg
    cases hg))
  have NJ := Lib.hid (show goesB q p = true → putP (m ++ [q]) { p with fa := none, fc := 0 } = m ++ [{ q with t := p.t }] from fun hg => putP_join (by
    rw [goesB, Bool.and_eq_true, decide_eq_true_eq] at hg
    exact hg))
  obtain ⟨n, hn1⟩ : ∃ n, m.length + 1 = n := ⟨_, rfl⟩
  obtain ⟨j, hj⟩ : ∃ j, m.length = j := ⟨_, rfl⟩
  have hsub : IntKind.i64.wrap ((n : Int) - 1) = (j : Int) := by rw [IntWalk.i64_in _ (by omega)]; omega
  have hjn : (j : Int) < (n : Int) := by omega
  have hjn2 : j < n := by omega
  have hj0 : (0 : Int) ≤ (j : Int) := by omega
  have HNJ := Lib.hid (show n = j + 1 by omega)
  rw [hn1] at HH x1 ⊢
  rw [hj] at HX HFZ HSET MK
  clear h h1 hp hn hqs hn1 hj hbase
  generalize goesB q p = s at *
  cases s with
  | true =>
    have NX := Lib.hid (NJ.out rfl)
    clear NA NJ hps
    go_enter Try.func69, Try.ntmps69
    go_wp2_with fail
    first
      | (go_region_held3 (fun w' => Below (w.alloc (ocP p)).heap.size (w.alloc (ocP p)) w' ∧ Cells3 w' g (j * 3) q ∧ BoxP w' w.heap.size p)
          (first | exact MK.out _ ((bl (w.alloc (ocP p))).drew) | exact MK.out _ hb1 | fail)
          (first | (go_at_call 34; (refine (CO.out _ (chain HB1.out (by go_split_ands; assumption))).mono ?_); (rintro e w1 ⟨rfl, hb0⟩); (have hb1 := chain (by go_split_ands; assumption) hb0); clear hb0) | fail))
      | fail
    have HB2 := Lib.hid (chain HB1.out hb1)
    obtain ⟨_, ⟨z0, z1, z2⟩, ⟨b0, b1, b2⟩⟩ := MK.out _ hb1
    have f1 := HFZ.out _ HB2.out
    go_wp2_with fail
    refine bodyPost_ret (results_none rfl _ _ _) rfl ?_
    exact ⟨rfl, _, none, 0, by rw [NX.out]; exact HSET.out _ HB2.out n HNJ.out p.t, (Kb2.of_below (o1 := some B) (o2 := some g) HB2.out).set2 _⟩
  | false =>
    have NX := Lib.hid (NA.out rfl)
    clear NA NJ
    go_enter Try.func69, Try.ntmps69
    go_wp2_with fail
    first
      | (go_region_held3 (fun w' => Below (w.alloc (ocP p)).heap.size (w.alloc (ocP p)) w' ∧ Cells3 w' g (j * 3) q ∧ BoxP w' w.heap.size p)
          (first | exact MK.out _ ((bl (w.alloc (ocP p))).drew) | exact MK.out _ hb1 | fail)
          (first | (go_at_call 34; (refine (CO.out _ (chain HB1.out (by go_split_ands; assumption))).mono ?_); (rintro e w1 ⟨rfl, hb0⟩); (have hb1 := chain (by go_split_ands; assumption) hb0); clear hb0) | fail))
      | fail
    refine abstract_then (fun w' => Below w.heap.size w w' ∧ BoxP w' w.heap.size p ∧ w.heap.size < w'.heap.size ∧ w'.frozen? ⟨w.heap.size, 2, none⟩ = false ∧ w'.heap[w.heap.size]? = some (ocP p)) ⟨chain HB1.out hb1, (boxP_new w p).below hb1, by have := hb1.size; simp at this; omega, keepf hb1 (by simp) (by simp [go_sem]), (hb1.block _ (by simp)).trans (heap_alloc_new w _)⟩ ?_
    clear hb1
    rintro w1 ⟨hb1, hbx, hlt1, hfz, hob⟩
    have HOB := Lib.hid hob
    obtain ⟨b0, b1, b2⟩ := hbx
    have HB1 := Lib.hid hb1
    have HLT := Lib.hid hlt1
    have HBX := Lib.hid (show BoxP w1 w.heap.size p from ⟨b0, b1, b2⟩)
    have HFZ := Lib.hid hfz
    have CC := Lib.hid (cloneF_any w1 p.fa p.fc p.fs (HP.out.below hb1).1 HP.out.2.2 hps)
    clear hb1 x0 x1 hlt1 hfz hob
    go_wp2_with (go_at_call 23; (with_reducible refine CC.out.mono ?_); rintro e w2 ⟨u, rfl, hO⟩; obtain ⟨A2, c2, rfl, hkf⟩ := KF.new hO; obtain ⟨b0', b1', b2'⟩ := HBX.out.below hO.bel; have hf2 := keepf hO.bel HLT.out HFZ.out; have HO := Lib.hid hO; have HKF := Lib.hid hkf; clear hO hkf)
    refine abstract_worldW (fun w' => Below w.heap.size w w' ∧ BoxP w' w.heap.size { p with fa := A2, fc := c2 } ∧ KF w' { p with fa := A2, fc := c2 }) ⟨(chain HB1.out HO.out.bel).setCell (p := ⟨w.heap.size, 2, none⟩) (Nat.le_refl _) _, boxP_set (HBX.out.below HO.out.bel), ?_⟩ ?_
    · have hk := HKF.out p.f p.t
      refine KF.pf_of (hk.same rfl rfl rfl) fun c cur hc => ?_
      refine (Below.heap_setCell w2 ⟨w.heap.size, 2, none⟩ _ c (fun e => ?_)).trans hc
      have e2 := (HO.out.bel.block w.heap.size HLT.out).trans HOB.out
      rw [e] at hc
      rw [show w2.heap[w.heap.size]? = _ from e2] at hc
      injection hc with hc
      injection hc with _ hc _
      revert hc; decide
    rintro w3 ⟨hb3, ⟨y0, y1, y2⟩, hk3⟩
    have HB3 := Lib.hid hb3
    have HK3 := Lib.hid hk3
    have h3 := HH.out.below hb3
    have x0 := h3.ptr.cell
    have x0a : (w3.alloc (.cells #[.int .i64 p.f, .int .i64 p.t, .slice A2 p.fs.length c2] TPc)).cell? ⟨Q, 0, none⟩ = some (.pointer (some ⟨B, 0, none⟩)) := (h3.below ((bl w3).alloc (Nat.le_refl _) _)).ptr.cell
    have HH3 := Lib.hid h3
    clear hb3 hk3 h3 b0 b1 b2
    go_region_law (refine step_appE (E := EP) (xs := [({ p with fa := A2, fc := c2 } : Pc)]) rfl (.tmp 34) (.tmp 36) rfl rfl rfl (World.ownsRow.alloc (w := w3.drew) HH3.out.own _) rfl rfl (by first | exact oneP w3.drew { p with fa := A2, fc := c2 } | (have hrow := oneP w3.drew { p with fa := A2, fc := c2 }; simp at hrow ⊢; exact hrow)) (fun h => by cases h) (by have := HN.out; simp; omega) (by have h5 := HBASE.out; have h6 := HB3.out.size; simp; omega) ?_; intro v' w4 hown4 hg4 _; obtain ⟨g4, c4, hv4⟩ := own_at hown4 (by simp); obtain ⟨n4, c5, hv5⟩ : ∃ n4 c5, v' = .slice (some ⟨g4, 0, none⟩) n4 c5 := ⟨_, _, hv4⟩; clear hv4; subst hv5; have HP4 := Lib.hid (((HH3.out.below (belowN (bl w3) 1)).below ((bl w3.drew).alloc (Nat.le_refl _) _)).app (by have h5 := HBASE.out; have h6 := HB3.out.size; simp; omega) ((HK3.out.below (belowN (bl w3) 1)).below ((bl w3.drew).alloc (Nat.le_refl _) _)) hg4 hown4); have HK4 := Lib.hid (((Kb2.of_below (o1 := some B) (o2 := (Value.slice (some ⟨g, 0, none⟩) n c).ownBlock) HB3.out).below (((bl w3).drew).alloc (by simp) _)).grown hg4); have y4 := HH3.out.grownQ hg4; have z4 := HH3.out.grownB hg4; have f4 := HH3.out.grownF hg4; clear hown4 hg4)
    all_goals go_end0
    all_goals exact ⟨rfl, _, A2, c2, by rw [NX.out A2 c2]; exact HP4.out, HK4.out.set1 _⟩


theorem pput_any {base Q B : Nat} {v : Value} {L : List Pc} {w : World} {p : Pc} (h : PutB base Q B L v w) (hbase : base ≤ w.heap.size) (hp : PF w p) (hn : L.length ≤ 100000) (hL : ∀ q ∈ L, q.fs.length ≤ 1000000) (hps : p.fs.length ≤ 1000000) : Calls Try.prog 69 #[pv p, .pointer (some ⟨Q, 0, none⟩)] w (PutPost base Q B L p v w) := by
  rcases List.eq_nil_or_concat L with rfl | ⟨m, q, rfl⟩
  · exact pput_nil h hbase hp hps
  · rw [List.concat_eq_append] at *
    obtain ⟨g, c, rfl⟩ := own_at h.own (by simp)
    rw [show (m ++ [q]).length = m.length + 1 by simp] at *
    exact pput_more h hbase hp (by omega) (hL q (by simp)) hps

end Go.Proofs.Ytnopbhlhdecimaa

/-
  Lists of changes that tell two timelines apart, in memory.
-/
namespace Go.Proofs.Ytnopbhlhdecimaa
open Go.RowKit

/-- A list of changes from one list of pieces to another one. -/
def IsD (E : El Ch) (w : World) (x : Value) (a b : List Pc) : Prop := ∃ L, ChsL E w x L ∧ DiffL a b L ∧ L.length ≤ 400
theorem IsD.below {E : El Ch} {w w' : World} {x : Value} {a b : List Pc} (h : IsD E w x a b) (hb : Below w.heap.size w w') : IsD E w' x a b := by
  obtain ⟨L, h1, h2⟩ := h
  exact ⟨L, h1.below hb, h2⟩
theorem diffL_pgs {a b : List Pc} {l m : List Ch} (h : DiffL a b l) (e : pgs m = pgs l) : DiffL a b m := ⟨by rw [e]; exact h.tl, fun x => by rw [e]; exact h.val x⟩
theorem diffL_few {a b : List Pc} {l : List Ch} (h : DiffL a b l) {n : Nat} (ha : ∀ p ∈ a, p.fs.length ≤ n) (hb : ∀ p ∈ b, p.fs.length ≤ n) : ∀ c ∈ l, c.os.length ≤ n ∧ c.ns.length ≤ n := fun c hc => by
  have h1 := fs_memg h.tl (pgC c) (List.mem_map.2 ⟨c, hc, rfl⟩)
  rw [h.val] at h1
  have h1 : diffV a b c.f = some (vC c) := h1
  unfold diffV at h1
  split at h1
  · unfold diffO at h1
    split at h1
    · cases h1
    · injection h1 with h1
      have e1 : firstF a c.f = c.os := congrArg (fun v : VC => v.2.2.1) h1
      have e2 : firstF b c.f = c.ns := congrArg (fun v : VC => v.2.2.2) h1
      rw [← e1, ← e2]
      exact ⟨firstF_few ha _, firstF_few hb _⟩
  · cases h1
theorem isD_own {w : World} {x : Value} {a b : List Pc} (h : IsD ED12 w x a b) : Calls Try.prog 11 #[x] w fun e w' => ∃ y, e = .returned y ∧ IsD ER12 w' y a b ∧ Below w.heap.size w w' := by
  obtain ⟨L, h1, h2, h3⟩ := h
  refine (own12_any w x L h1 (by omega)).mono ?_
  rintro e w' ⟨y, rfl, ho⟩
  exact ⟨y, rfl, ⟨L, own_chs ho h1.2 rfl, h2, h3⟩, ho.bel⟩
theorem isD_back {w : World} {x : Value} {a b : List Pc} (h : IsD ER12 w x a b) : Calls Try.prog 14 #[x] w fun e w' => ∃ y, e = .returned y ∧ IsD ER12 w' y b a ∧ Below w.heap.size w w' := by
  obtain ⟨L, h1, h2, h3⟩ := h
  refine (dback12_any w x L h1 (by omega)).mono ?_
  rintro e w' ⟨y, rfl, ho⟩
  refine ⟨y, rfl, ⟨L.map backC, ⟨ho.list, fun c hc => ?_⟩, diff_back h2, by rw [List.length_map]; exact h3⟩, ho.bel⟩
  obtain ⟨d, hd, rfl⟩ := List.mem_map.1 hc
  exact ((h1.2 d hd).below ho.bel).back
theorem isD_same {w : World} {x y : Value} {a b : List Pc} (hx : IsD ER12 w x a b) (hy : IsD ER12 w y a b) (ha : ∀ p ∈ a, p.fs.length ≤ 1000000) (hb : ∀ p ∈ b, p.fs.length ≤ 1000000) : Ret 10 #[x, y] w (.bool true) := by
  obtain ⟨L, h1, h2, h3⟩ := hx
  obtain ⟨M, k1, k2, k3⟩ := hy
  have f1 := diffL_few h2 ha hb
  have f2 := diffL_few k2 ha hb
  have := dsame12_any w x y L M h1 k1 (by omega) (fun c hc => by have := f1 c hc; omega) (fun c hc => by have := f2 c hc; omega)
  rwa [diff_same h2 k2] at this
theorem isD_of (w : World) (ua ub : Value) (a b : List Pc) (ha : PcsL w ua a) (hb : PcsL w ub b) (hna : a.length ≤ 100) (hnb : b.length ≤ 100) (hfa : ∀ p ∈ a, p.fs.length ≤ 1000000) (hfb : ∀ p ∈ b, p.fs.length ≤ 1000000) : Calls Try.prog 12 #[ua, ub] w fun e w' => ∃ x, e = .returned x ∧ IsD ER12 w' x a b ∧ Below w.heap.size w w' :=
  (dof12_any w ua ub a b ha hb hna hnb hfa hfb).mono fun _e _w' ⟨x, L, he, h1, h2, h3, h4⟩ => ⟨x, he, ⟨L, h1, h2, h3⟩, h4⟩

end Go.Proofs.Ytnopbhlhdecimaa

/-
  The program's over, Of and At: the fields of the versions that count and that are meant, laid over each other in order.
-/
namespace Go.Proofs.Ytnopbhlhdecimaa
open Go.RowKit

theorem insV_filter (p : Vr → Bool) : ∀ (a : List Vr) (x : Vr), SortedV a → (insV a x).filter p = if p x then insV (a.filter p) x else a.filter p
  | [], x, _ => by cases h : p x <;> simp [insV, h]
  | y :: a, x, hs => by
    obtain ⟨h1, h2⟩ := List.pairwise_cons.1 hs
    rw [insV]
    split
    · rename_i hle
      rw [List.filter_cons, insV_filter p a x h2]
      cases hy : p y
      · simp [hy]
      · cases hx : p x
        · simp [hy]
        · simp [hy, insV, hle]
    · rename_i hgt
      rw [List.filter_cons]
      cases hx : p x
      · simp
      · have hall : ∀ z ∈ (y :: a).filter p, x.st < z.st := fun z hz => by
          rcases List.mem_cons.1 (List.mem_filter.1 hz).1 with rfl | hz
          · omega
          · have := h1 z hz; omega
        simp only [if_true]
        revert hall
        generalize (y :: a).filter p = b
        intro hall
        cases b with
        | nil => rfl
        | cons z b =>
          have := hall z List.mem_cons_self
          rw [insV, if_neg (by omega)]
theorem foldl_filter (p : Vr → Bool) : ∀ (l a : List Vr), SortedV a → (l.foldl insV a).filter p = (l.filter p).foldl insV (a.filter p)
  | [], _, _ => rfl
  | x :: l, a, hs => by
    rw [List.foldl_cons, foldl_filter p l _ (insV_sorted a x hs), insV_filter p a x hs, List.filter_cons]
    cases hx : p x <;> simp
theorem ordL_filter (p : Vr → Bool) (l : List Vr) : ordL (l.filter p) = (ordL l).filter p := (foldl_filter p l [] List.Pairwise.nil).symm
/-- The fields of those that count and are meant. -/
def meantV (p : Vr → Bool) (l : List Vr) : List (List Fd) := ((ordL l).filter fun v => !v.gone && p v).map Vr.fs
theorem meant_all (l : List Vr) : overL (meantV (fun _ => true) l).flatten = ofL l := by
  unfold ofL countsV meantV
  simp only [Bool.and_true]
theorem meant_at (t : Int) (l : List Vr) : overL (meantV (fun v => rightS v.sf v.se && hasS v.sf v.se t) l).flatten = atL t l := by
  unfold atL ofL countsV meantV
  rw [ordL_filter, List.filter_filter]
  have e : (fun v : Vr => !v.gone && (rightS v.sf v.se && hasS v.sf v.se t)) = fun v => !v.gone && coversB v t := by
    funext v
    rw [coversB_eq]
    cases v.gone <;> simp
  rw [e]

end Go.Proofs.Ytnopbhlhdecimaa

/-
  Plain facts on turns: places that come and go, what counts at a time, which of those that count set a field last.
-/
namespace Go.Proofs.Ytnopbhlhdecimaa

/-- A place comes, or goes. -/
def togL : List Nat → Nat → List Nat
  | [], p => [p]
  | c :: l, p => if c < p then c :: togL l p else if c = p then l else p :: c :: l
abbrev Up (l : List Nat) : Prop := l.Pairwise (· < ·)
theorem togL_mem : ∀ (l : List Nat) (p q : Nat), Up l → (q ∈ togL l p ↔ (q ∈ l ∧ q ≠ p) ∨ (q = p ∧ p ∉ l))
  | [], p, q, _ => by simp [togL]
  | c :: l, p, q, h => by
    have h' := List.pairwise_cons.1 h
    have ih := togL_mem l p q h'.2
    rw [togL]
    split
    · rename_i hc
      rw [List.mem_cons, ih, List.mem_cons, List.mem_cons]
      constructor
      · rintro (rfl | ⟨h1, h2⟩ | ⟨rfl, h2⟩)
        · exact .inl ⟨.inl rfl, by omega⟩
        · exact .inl ⟨.inr h1, h2⟩
        · exact .inr ⟨rfl, fun e => e.elim (by omega) h2⟩
      · rintro (⟨rfl | h1, h2⟩ | ⟨rfl, h2⟩)
        · exact .inl rfl
        · exact .inr (.inl ⟨h1, h2⟩)
        · exact .inr (.inr ⟨rfl, fun e => h2 (.inr e)⟩)
    · rename_i hc
      split
      · rename_i he
        subst he
        constructor
        · intro hq
          have := h'.1 q hq
          exact .inl ⟨List.mem_cons_of_mem _ hq, by omega⟩
        · rintro (⟨h1, h2⟩ | ⟨rfl, h2⟩)
          · rcases List.mem_cons.1 h1 with h1 | h1
            · exact absurd h1 h2
            · exact h1
          · exact absurd List.mem_cons_self h2
      · rename_i he
        have hp : p ∉ c :: l := fun e => by
          rcases List.mem_cons.1 e with e | e
          · omega
          · have := h'.1 p e; omega
        rw [List.mem_cons]
        constructor
        · rintro (rfl | h1)
          · exact .inr ⟨rfl, hp⟩
          · exact .inl ⟨h1, fun e => hp (e ▸ h1)⟩
        · rintro (⟨h1, _⟩ | ⟨rfl, _⟩)
          · exact .inr h1
          · exact .inl rfl
theorem togL_up : ∀ (l : List Nat) (p : Nat), Up l → Up (togL l p)
  | [], p, _ => by simp [togL]
  | c :: l, p, h => by
    have h' := List.pairwise_cons.1 h
    rw [togL]
    split
    · rename_i hc
      refine List.pairwise_cons.2 ⟨fun q hq => ?_, togL_up l p h'.2⟩
      rcases (togL_mem l p q h'.2).1 hq with ⟨h1, _⟩ | ⟨rfl, _⟩
      · exact h'.1 q h1
      · exact hc
    · split
      · exact h'.2
      · refine List.pairwise_cons.2 ⟨fun q hq => ?_, h⟩
        rcases List.mem_cons.1 hq with rfl | hq
        · omega
        · have := h'.1 q hq; omega
theorem togL_length : ∀ (l : List Nat) (p : Nat), (togL l p).length ≤ l.length + 1
  | [], p => by simp [togL]
  | c :: l, p => by
    have := togL_length l p
    rw [togL]
    split
    · simp only [List.length_cons]; omega
    · split
      · simp only [List.length_cons]; omega
      · simp only [List.length_cons]; omega
/-- The place is there, or it is not. -/
theorem togL_out : ∀ (l : List Nat) (p k : Nat), (∀ j c, j < k → l[j]? = some c → c < p) → l[k]? = some p → togL l p = l.take k ++ l.drop (k + 1)
  | [], p, k, _, h => by simp at h
  | c :: l, p, 0, _, h => by
    obtain rfl : c = p := by simpa using h
    simp [togL]
  | c :: l, p, k + 1, h1, h => by
    have := h1 0 c (by omega) rfl
    rw [togL, if_pos this, togL_out l p k (fun j d hj hd => h1 (j + 1) d (by omega) (by simpa using hd)) (by simpa using h)]
    rfl
theorem togL_in : ∀ (l : List Nat) (p k : Nat), k ≤ l.length → (∀ j c, j < k → l[j]? = some c → c < p) → (∀ c, l[k]? = some c → p < c) → togL l p = l.take k ++ p :: l.drop k
  | [], p, k, hk, _, _ => by
    obtain rfl : k = 0 := by simpa using hk
    rfl
  | c :: l, p, 0, _, _, h => by
    have := h c rfl
    rw [togL, if_neg (by omega), if_neg (by omega)]
    rfl
  | c :: l, p, k + 1, hk, h1, h => by
    have := h1 0 c (by omega) rfl
    rw [togL, if_pos this, togL_in l p k (by simpa using hk) (fun j d hj hd => h1 (j + 1) d (by omega) (by simpa using hd)) (fun d hd => h d (by simpa using hd))]
    rfl
/-- Places that came and went. -/
def tgs (ps : List Nat) : List Nat := ps.foldl togL []
theorem tgs_snoc (ps : List Nat) (p : Nat) : tgs (ps ++ [p]) = togL (tgs ps) p := by unfold tgs; rw [List.foldl_append]; rfl
theorem tgs_fold : ∀ (ps l : List Nat), Up l → Up (ps.foldl togL l) ∧ ∀ q, q ∈ ps.foldl togL l ↔ ((if q ∈ l then 1 else 0) + ps.count q) % 2 = 1
  | [], l, h => ⟨h, fun q => by
    show q ∈ l ↔ _
    rw [List.count_nil]
    by_cases hq : q ∈ l
    · rw [if_pos hq]; exact ⟨fun _ => rfl, fun _ => hq⟩
    · rw [if_neg hq]; exact ⟨fun h => absurd h hq, fun h => by cases h⟩⟩
  | p :: ps, l, h => by
    obtain ⟨h1, h2⟩ := tgs_fold ps (togL l p) (togL_up l p h)
    refine ⟨h1, fun q => ?_⟩
    rw [List.foldl_cons, h2 q, List.count_cons]
    have hm := togL_mem l p q h
    by_cases he : q = p
    · subst he
      rw [beq_self_eq_true, if_pos rfl]
      by_cases hq : q ∈ l
      · rw [if_pos hq, if_neg (fun hh => (hm.1 hh).elim (fun k => k.2 rfl) (fun k => k.2 hq))]
        omega
      · rw [if_neg hq, if_pos (hm.2 (.inr ⟨rfl, hq⟩))]
        omega
    · have hpq : ¬ ((p == q) = true) := by
        rw [beq_iff_eq]
        exact fun e => he e.symm
      rw [if_neg hpq]
      by_cases hq : q ∈ l
      · rw [if_pos hq, if_pos (hm.2 (.inl ⟨hq, he⟩))]
        omega
      · rw [if_neg hq, if_neg (fun hh => (hm.1 hh).elim (fun k => hq k.1) (fun k => he k.1))]
        omega
theorem tgs_up (ps : List Nat) : Up (tgs ps) := (tgs_fold ps [] List.Pairwise.nil).1
theorem tgs_mem (ps : List Nat) (q : Nat) : q ∈ tgs ps ↔ ps.count q % 2 = 1 := by
  have := (tgs_fold ps [] List.Pairwise.nil).2 q
  rw [if_neg (by simp), Nat.zero_add] at this
  exact this
theorem up_ext : ∀ {a b : List Nat}, Up a → Up b → (∀ q, q ∈ a ↔ q ∈ b) → a = b
  | [], [], _, _, _ => rfl
  | [], y :: b, _, _, h => by have := (h y).2 (by simp); simp at this
  | x :: a, [], _, _, h => by have := (h x).1 (by simp); simp at this
  | x :: a, y :: b, ha, hb, h => by
    have ha' := List.pairwise_cons.1 ha
    have hb' := List.pairwise_cons.1 hb
    have e : x = y := by
      have h1 := (h x).1 (by simp)
      have h2 := (h y).2 (by simp)
      rcases List.mem_cons.1 h1 with h1 | h1
      · exact h1
      · rcases List.mem_cons.1 h2 with h2 | h2
        · exact h2.symm
        · have := ha'.1 y h2; have := hb'.1 x h1; omega
    subst e
    rw [up_ext ha'.2 hb'.2 (fun q => ?_)]
    have := h q
    rw [List.mem_cons, List.mem_cons] at this
    constructor
    · intro hq
      rcases this.1 (.inr hq) with e | e
      · have := ha'.1 q hq; omega
      · exact e
    · intro hq
      rcases this.2 (.inr hq) with e | e
      · have := hb'.1 q hq; omega
      · exact e
theorem up_lt_length : ∀ {a : List Nat} {n : Nat}, Up a → (∀ q ∈ a, q < n) → a.length ≤ n
  | a, n, h, hn => by
    have hs : ∀ (l : List Nat) (m : Nat), Up l → (∀ q ∈ l, m ≤ q ∧ q < n) → l.length + m ≤ n ∨ l = [] := by
      intro l
      induction l with
      | nil => intro m _ _; exact .inr rfl
      | cons c l ih =>
        intro m h h2
        have h' := List.pairwise_cons.1 h
        have hc := h2 c (by simp)
        rcases ih (c + 1) h'.2 (fun q hq => ⟨h'.1 q hq, (h2 q (List.mem_cons_of_mem _ hq)).2⟩) with e | e
        · left; rw [List.length_cons]; omega
        · left; rw [e]; simp; omega
    rcases hs a 0 h (fun q hq => ⟨Nat.zero_le _, hn q hq⟩) with e | e
    · omega
    · rw [e]; simp

/-- The turns of versions, from place n on, within a span. -/
def trnL (a : Int × Int) : Nat → List Vr → List (Int × Nat)
  | _, [] => []
  | n, v :: l => (endsV a v).map (fun t => (t, n)) ++ trnL a (n + 1) l
theorem trnL_snoc (a : Int × Int) : ∀ (l : List Vr) (n : Nat) (v : Vr), trnL a n (l ++ [v]) = trnL a n l ++ (endsV a v).map (fun t => (t, n + l.length))
  | [], n, v => by simp [trnL]
  | x :: l, n, v => by
    rw [List.cons_append, trnL, trnL_snoc a l (n + 1) v, trnL, List.append_assoc, List.length_cons, show n + 1 + l.length = n + (l.length + 1) by omega]
theorem trnL_length (a : Int × Int) : ∀ (l : List Vr) (n : Nat), (trnL a n l).length ≤ 2 * l.length
  | [], n => by simp [trnL]
  | x :: l, n => by
    have := trnL_length a l (n + 1)
    have := endsV_length a x
    rw [trnL, List.length_append, List.length_map, List.length_cons]; omega
theorem trnL_mem (a : Int × Int) : ∀ (l : List Vr) (n : Nat) (t : Int × Nat), t ∈ trnL a n l → ∃ v, n ≤ t.2 ∧ l[t.2 - n]? = some v ∧ t.1 ∈ endsV a v
  | [], n, t, h => by simp [trnL] at h
  | x :: l, n, t, h => by
    rw [trnL] at h
    rcases List.mem_append.1 h with h | h
    · obtain ⟨y, hy, rfl⟩ := List.mem_map.1 h
      exact ⟨x, Nat.le_refl _, by simp, hy⟩
    · obtain ⟨v, h1, h2, h3⟩ := trnL_mem a l (n + 1) t h
      refine ⟨v, by omega, ?_, h3⟩
      rw [show t.2 - n = (t.2 - (n + 1)) + 1 by omega, List.getElem?_cons_succ]
      exact h2
theorem map_count (l : List Int) (n i : Nat) : ((l.map (fun t => ((t, n) : Int × Nat))).map Prod.snd).count i = if i = n then l.length else 0 := by
  induction l with
  | nil => simp
  | cons x l ih =>
    rw [List.map_cons, List.map_cons, List.count_cons, ih]
    by_cases h : i = n
    · rw [if_pos h, if_pos h, if_pos (by simpa using h.symm), List.length_cons]
    · rw [if_neg h, if_neg h, if_neg (by simpa using fun e : n = i => h e.symm)]
theorem map_filter_le (l : List Int) (n : Nat) (x : Int) : (l.map (fun t => ((t, n) : Int × Nat))).filter (fun t => decide (t.1 ≤ x)) = (l.filter (fun t => decide (t ≤ x))).map (fun t => (t, n)) := by
  rw [List.filter_map]; rfl
/-- How often a place has turned up to a time. -/
theorem trn_count (a : Int × Int) (x : Int) : ∀ (l : List Vr) (n i : Nat), (((trnL a n l).filter (fun t => decide (t.1 ≤ x))).map Prod.snd).count i = if n ≤ i then (match l[i - n]? with | some v => ((endsV a v).filter (fun t => decide (t ≤ x))).length | none => 0) else 0
  | [], n, i => by
    simp [trnL]
  | v :: l, n, i => by
    have ih := trn_count a x l (n + 1) i
    rw [trnL, List.filter_append, List.map_append, List.count_append, ih, map_filter_le, map_count]
    by_cases h1 : n ≤ i
    · by_cases h2 : i = n
      · subst h2
        rw [if_pos rfl, if_neg (by omega), if_pos h1, Nat.sub_self]
        simp
      · rw [if_neg h2, if_pos (by omega), if_pos h1, show i - n = (i - (n + 1)) + 1 by omega, List.getElem?_cons_succ, Nat.zero_add]
    · rw [if_neg (by omega), if_neg (by omega), if_neg h1]
theorem ends_odd {a : Int × Int} {v : Vr} {x : Int} (ha : rightP a.1 a.2 = true) (h1 : a.1 ≤ x) (h2 : x < a.2) : ((endsV a v).filter (fun t => decide (t ≤ x))).length % 2 = 1 ↔ coversB v x = true := by
  unfold endsV
  by_cases hm : Co.meetB a.1 a.2 v.sf v.se = true
  · have hh := (meetB_iff _ _ _ _).1 hm
    have ra := (rightP_iff _ _).1 hh.1.1
    have rv := (rightP_iff _ _).1 hh.1.2
    cases hg : v.gone with
    | true =>
      simp only [hm, Bool.not_true, Bool.and_false]
      refine ⟨fun h => by simp at h, fun h => by rw [covers_iff, hg] at h; cases h.1⟩
    | false =>
      simp only [hm, Bool.not_false, Bool.and_true, if_true, Co.meetF, Co.meetT]
      rw [covers_iff, hg]
      by_cases c1 : max a.1 v.sf ≤ x
      · by_cases c2 : min a.2 v.se ≤ x
        · rw [List.filter_cons_of_pos (by simpa using c1), List.filter_cons_of_pos (by simpa using c2), List.filter_nil]
          refine ⟨fun h => by simp at h, fun h => by omega⟩
        · rw [List.filter_cons_of_pos (by simpa using c1), List.filter_cons_of_neg (by simpa using c2), List.filter_nil]
          refine ⟨fun _ => ⟨rfl, hh.1.2, by omega, by omega⟩, fun _ => rfl⟩
      · rw [List.filter_cons_of_neg (by simpa using c1), List.filter_cons_of_neg (by have := hh.2; simp; omega), List.filter_nil]
        refine ⟨fun h => by simp at h, fun h => by omega⟩
  · have hm : Co.meetB a.1 a.2 v.sf v.se = false := by simpa using hm
    simp only [hm, Bool.false_and]
    refine ⟨fun h => by simp at h, fun h => ?_⟩
    rw [covers_iff] at h
    rw [(meetB_iff _ _ _ _).2 ⟨⟨ha, h.2.1⟩, by omega⟩] at hm
    cases hm

/-- The turns in their order. -/
structure Trn (a : Int × Int) (L : List Vr) (T : List (Int × Nat)) : Prop where
  perm : T.Perm (trnL a 0 L)
  up : T.Pairwise (fun x y => x.1 ≤ y.1)
theorem trn_split {T : List (Int × Nat)} {k : Nat} {x : Int} (h1 : ∀ t ∈ T.take k, t.1 ≤ x) (h2 : ∀ t ∈ T.drop k, x < t.1) : T.take k = T.filter (fun t => decide (t.1 ≤ x)) := by
  have e := List.take_append_drop k T
  rw [show T.filter (fun t => decide (t.1 ≤ x)) = (T.take k ++ T.drop k).filter (fun t => decide (t.1 ≤ x)) by rw [e], List.filter_append, List.filter_eq_self.2 (fun t ht => by simpa using h1 t ht), List.filter_eq_nil_iff.2 (fun t ht => by have := h2 t ht; simpa using this), List.append_nil]
/-- Which places count at a time: those that turned once. -/
theorem Trn.counts {a : Int × Int} {L : List Vr} {T : List (Int × Nat)} (h : Trn a L T) {k : Nat} {x : Int} (ha : rightP a.1 a.2 = true) (hx1 : a.1 ≤ x) (hx2 : x < a.2) (h1 : ∀ t ∈ T.take k, t.1 ≤ x) (h2 : ∀ t ∈ T.drop k, x < t.1) (i : Nat) :
    i ∈ tgs ((T.take k).map Prod.snd) ↔ ∃ v, L[i]? = some v ∧ coversB v x = true := by
  have hc : ((T.take k).map Prod.snd).count i = (((trnL a 0 L).filter (fun t => decide (t.1 ≤ x))).map Prod.snd).count i := by
    rw [trn_split h1 h2]
    exact ((h.perm.filter _).map _).count_eq i
  rw [tgs_mem, hc, trn_count, if_pos (Nat.zero_le _), Nat.sub_zero]
  cases hv : L[i]? with
  | none =>
    simp only
    refine ⟨fun h => (by cases h), fun h => ?_⟩
    obtain ⟨v, h, _⟩ := h
    cases h
  | some v =>
    simp only
    rw [ends_odd ha hx1 hx2]
    exact ⟨fun h => ⟨v, rfl, h⟩, fun ⟨u, h, k⟩ => by cases h; exact k⟩
theorem Trn.mem {a : Int × Int} {L : List Vr} {T : List (Int × Nat)} (h : Trn a L T) {t : Int × Nat} (ht : t ∈ T) : rightP a.1 a.2 = true ∧ a.1 ≤ t.1 ∧ t.1 ≤ a.2 ∧ t.2 < L.length := by
  obtain ⟨v, _, h2, h3⟩ := trnL_mem a L 0 t (h.perm.mem_iff.1 ht)
  have hl := (List.getElem?_eq_some_iff.1 h2).1
  unfold endsV at h3
  split at h3
  · rename_i hh
    rw [Bool.and_eq_true] at hh
    have hm := (meetB_iff _ _ _ _).1 hh.1
    have ra := (rightP_iff _ _).1 hm.1.1
    have rv := (rightP_iff _ _).1 hm.1.2
    have := hm.2
    simp only [Co.meetF, Co.meetT, hh.1, if_true, List.mem_cons, List.not_mem_nil, or_false] at h3
    exact ⟨hm.1.1, by omega, by omega, by omega⟩
  · simp at h3
theorem Trn.none {a : Int × Int} {L : List Vr} {T : List (Int × Nat)} (h : Trn a L T) (hT : T = []) {x : Int} (ha : rightP a.1 a.2 = true) (hx1 : a.1 ≤ x) (hx2 : x < a.2) {v : Vr} (hv : v ∈ L) : coversB v x = false := by
  obtain ⟨i, hi⟩ := List.mem_iff_getElem?.1 hv
  have := h.counts (k := 0) ha hx1 hx2 (by simp) (by simp [hT]) i
  cases hc : coversB v x with
  | false => rfl
  | true =>
    have := this.2 ⟨v, hi, hc⟩
    simp [tgs] at this

end Go.Proofs.Ytnopbhlhdecimaa

/-
  Plain facts on Make from turn to turn: what those that set a field last make is what all make.
-/
namespace Go.Proofs.Ytnopbhlhdecimaa

abbrev hasN (f : List Fd) (s : ByteArray) : Bool := (lastL f s).isSome
/-- What lists of fields, told by their places, say last of a name. -/
def valP2 (F : Nat → List Fd) (C : List Nat) (s : ByteArray) : Option Int := lastL (C.map F).flatten s
theorem valP2_cons (F : Nat → List Fd) (c : Nat) (C : List Nat) (s : ByteArray) : valP2 F (c :: C) s = match valP2 F C s with | some v => some v | none => lastL (F c) s := by
  unfold valP2
  rw [List.map_cons, List.flatten_cons, lastL_append]
  cases lastL (List.map F C).flatten s <;> rfl
theorem valP2_none (F : Nat → List Fd) (s : ByteArray) : ∀ C : List Nat, valP2 F C s = none ↔ ∀ i ∈ C, lastL (F i) s = none
  | [] => by simp [valP2, lastL]
  | c :: C => by
    rw [valP2_cons]
    have ih := valP2_none F s C
    cases h : valP2 F C s with
    | some v =>
      simp only
      refine ⟨fun e => (by cases e), fun e => ?_⟩
      have := ih.2 (fun i hi => e i (List.mem_cons_of_mem _ hi))
      rw [h] at this; cases this
    | none =>
      simp only
      have := ih.1 h
      exact ⟨fun e i hi => (List.mem_cons.1 hi).elim (fun k => k ▸ e) (fun k => this i k), fun e => e c (by simp)⟩
theorem valP2_some (F : Nat → List Fd) (s : ByteArray) : ∀ {C : List Nat} {n : Int}, Up C → valP2 F C s = some n → ∃ i ∈ C, lastL (F i) s = some n ∧ ∀ j ∈ C, i < j → lastL (F j) s = none
  | [], n, _, h => by simp [valP2, lastL] at h
  | c :: C, n, hu, h => by
    have hu' := List.pairwise_cons.1 hu
    rw [valP2_cons] at h
    cases hc : valP2 F C s with
    | some v =>
      rw [hc] at h
      obtain ⟨i, hi, h1, h2⟩ := valP2_some F s hu'.2 hc
      refine ⟨i, List.mem_cons_of_mem _ hi, by rw [h1]; exact h, fun j hj hij => ?_⟩
      rcases List.mem_cons.1 hj with rfl | hj
      · have := hu'.1 i hi; omega
      · exact h2 j hj hij
    | none =>
      rw [hc] at h
      refine ⟨c, by simp, h, fun j hj hij => ?_⟩
      rcases List.mem_cons.1 hj with rfl | hj
      · omega
      · exact (valP2_none F s C).1 hc j hj
/-- Those that set a field last say all that is said last. -/
theorem valP2_sub (F : Nat → List Fd) {C P : List Nat} (hC : Up C) (hP : Up P) (hsub : ∀ i ∈ P, i ∈ C) {s : ByteArray} (hlast : ∀ i ∈ C, hasN (F i) s = true → (∀ j ∈ C, i < j → hasN (F j) s = false) → i ∈ P) : valP2 F P s = valP2 F C s := by
  cases hc : valP2 F C s with
  | none => exact (valP2_none F s P).2 fun i hi => (valP2_none F s C).1 hc i (hsub i hi)
  | some n =>
    obtain ⟨i, hi, h1, h2⟩ := valP2_some F s hC hc
    have hiP := hlast i hi (by simp [hasN, h1]) (fun j hj hij => by simp [hasN, h2 j hj hij])
    cases hp : valP2 F P s with
    | none => have := (valP2_none F s P).1 hp i hiP; rw [h1] at this; cases this
    | some m =>
      obtain ⟨i', hi', k1, k2⟩ := valP2_some F s hP hp
      rcases Nat.lt_trichotomy i i' with hlt | rfl | hgt
      · have := h2 i' (hsub i' hi') hlt; rw [k1] at this; cases this
      · rw [← k1, h1]
      · have := k2 i hiP hgt; rw [h1] at this; cases this

/-- The fields of the version at a place. -/
def fsAt (L : List Vr) (i : Nat) : List Fd := match L[i]? with | some v => v.fs | none => []
/-- The versions at places. -/
def thoseL (L : List Vr) (P : List Nat) : List Vr := P.filterMap (fun i => L[i]?)
theorem thoseL_snoc (L : List Vr) (P : List Nat) {i : Nat} {v : Vr} (h : L[i]? = some v) : thoseL L (P ++ [i]) = thoseL L P ++ [v] := by
  unfold thoseL
  rw [List.filterMap_append]
  simp [h]
theorem thoseL_length {L : List Vr} : ∀ {P : List Nat}, (∀ i ∈ P, i < L.length) → (thoseL L P).length = P.length
  | [], _ => rfl
  | i :: P, h => by
    have hi := h i (by simp)
    have ih := thoseL_length (P := P) (fun j hj => h j (List.mem_cons_of_mem _ hj))
    unfold thoseL at ih ⊢
    rw [List.filterMap_cons, List.getElem?_eq_getElem hi]
    simp only [List.length_cons, ih]
theorem thoseL_mem {L : List Vr} {P : List Nat} {v : Vr} (h : v ∈ thoseL L P) : ∃ i ∈ P, L[i]? = some v := by
  obtain ⟨i, hi, h⟩ := List.mem_filterMap.1 h
  exact ⟨i, hi, h⟩
theorem thoseL_fs {L : List Vr} : ∀ {P : List Nat}, (∀ i ∈ P, i < L.length) → (thoseL L P).map Vr.fs = P.map (fsAt L)
  | [], _ => rfl
  | i :: P, h => by
    have hi := h i (by simp)
    have ih := thoseL_fs (P := P) (fun j hj => h j (List.mem_cons_of_mem _ hj))
    unfold thoseL at ih ⊢
    rw [List.filterMap_cons, List.getElem?_eq_getElem hi]
    simp only [List.map_cons, ih, fsAt, List.getElem?_eq_getElem hi]
theorem thoseL_sorted {L : List Vr} (hL : SortedV L) : ∀ {P : List Nat}, Up P → SortedV (thoseL L P)
  | [], _ => List.Pairwise.nil
  | i :: P, h => by
    have h' := List.pairwise_cons.1 h
    have ih := thoseL_sorted hL h'.2
    unfold thoseL at ih ⊢
    rw [List.filterMap_cons]
    cases hv : L[i]? with
    | none => exact ih
    | some v =>
      refine List.pairwise_cons.2 ⟨fun u hu => ?_, ih⟩
      obtain ⟨j, hj, hu⟩ := List.mem_filterMap.1 hu
      exact sorted_le hL hv hu (Nat.le_of_lt (h'.1 j hj))
/-- Versions that are in order stay as they are. -/
theorem insV_last : ∀ (l : List Vr) (x : Vr), (∀ y ∈ l, y.st ≤ x.st) → insV l x = l ++ [x]
  | [], _, _ => rfl
  | y :: l, x, h => by
    rw [insV, if_pos (h y (by simp)), insV_last l x (fun z hz => h z (List.mem_cons_of_mem _ hz))]; rfl
theorem foldl_ord : ∀ (l a : List Vr), SortedV (a ++ l) → l.foldl insV a = a ++ l
  | [], a, _ => by simp
  | x :: l, a, h => by
    have h1 : ∀ y ∈ a, y.st ≤ x.st := fun y hy => (List.pairwise_append.1 h).2.2 y hy x (by simp)
    rw [List.foldl_cons, insV_last a x h1, foldl_ord l (a ++ [x]) (by rw [List.append_assoc]; exact h), List.append_assoc]; rfl
theorem ordL_self {l : List Vr} (h : SortedV l) : ordL l = l := foldl_ord l [] h

theorem alike_covers {L O : List Vr} (h : Alike L O) (x : Int) : (L.filter fun v => coversB v x).map Vr.fs = (O.filter fun v => coversB v x).map Vr.fs ∧ (L.any fun v => coversB v x) = O.any fun v => coversB v x := by
  induction L generalizing O with
  | nil =>
    cases O with
    | nil => exact ⟨rfl, rfl⟩
    | cons y O => simp [Alike] at h
  | cons v L ih =>
    cases O with
    | nil => simp [Alike] at h
    | cons u O =>
      unfold Alike at h ih
      rw [List.map_cons, List.map_cons] at h
      injection h with h1 h2
      obtain ⟨i1, i2⟩ := ih h2
      simp only [sayV, Prod.mk.injEq] at h1
      obtain ⟨_, _, _, e1, e2, e3, e4⟩ := h1
      have hc : coversB v x = coversB u x := by unfold coversB; rw [e1, e2, e4]
      rw [List.filter_cons, List.filter_cons, List.any_cons, List.any_cons, hc, i2]
      refine ⟨?_, rfl⟩
      split
      · rw [List.map_cons, List.map_cons, i1, e3]
      · exact i1
theorem alike_sorted {L O : List Vr} (h : Alike L O) (hs : SortedV O) : SortedV L := by
  have e : L.map Vr.st = O.map Vr.st := by
    have := congrArg (List.map (fun y : Int × Int × ByteArray × Int × Int × List Fd × Bool => y.2.1)) h
    rw [List.map_map, List.map_map] at this
    exact this
  have h1 : (O.map Vr.st).Pairwise (· ≤ ·) := List.pairwise_map.2 hs
  rw [← e] at h1
  exact List.pairwise_map.1 h1
/-- What versions make at a time, by those in order that cover it. -/
theorem at_said {l L : List Vr} (h : Alike L (ordL l)) (x : Int) : atL x l = overL ((L.filter fun v => coversB v x).map Vr.fs).flatten := by
  rw [(alike_covers h x).1, atL, ofL, countsV, ordL_filter, List.filter_filter]
  congr 3
  apply List.filter_congr
  intro v _
  cases hc : coversB v x with
  | false => simp
  | true =>
    rw [covers_iff] at hc
    simp [hc.1]
theorem any_said {l L : List Vr} (h : Alike L (ordL l)) (x : Int) : (l.any fun v => coversB v x) = L.any fun v => coversB v x := by
  rw [(alike_covers h x).2, Bool.eq_iff_iff, List.any_eq_true, List.any_eq_true]
  exact ⟨fun ⟨v, hv, k⟩ => ⟨v, (ordL_perm l).mem_iff.2 hv, k⟩, fun ⟨v, hv, k⟩ => ⟨v, (ordL_perm l).mem_iff.1 hv, k⟩⟩

/-- The places of the versions that cover a time. -/
def covP (L : List Vr) (x : Int) : List Nat := (List.range L.length).filter fun i => match L[i]? with | some v => coversB v x | none => false
theorem covP_up (L : List Vr) (x : Int) : Up (covP L x) := List.Pairwise.filter _ List.pairwise_lt_range
theorem covP_mem (L : List Vr) (x : Int) (i : Nat) : i ∈ covP L x ↔ ∃ v, L[i]? = some v ∧ coversB v x = true := by
  unfold covP
  rw [List.mem_filter, List.mem_range]
  constructor
  · rintro ⟨h1, h2⟩
    rw [List.getElem?_eq_getElem h1] at h2 ⊢
    exact ⟨_, rfl, h2⟩
  · rintro ⟨v, h1, h2⟩
    refine ⟨(List.getElem?_eq_some_iff.1 h1).1, ?_⟩
    rw [h1]; exact h2
theorem those_range : ∀ (L : List Vr), thoseL L (List.range L.length) = L := by
  intro L
  apply List.ext_getElem?
  intro j
  have : ∀ (n : Nat), n ≤ L.length → thoseL L (List.range n) = L.take n := by
    intro n
    induction n with
    | zero => intro _; rfl
    | succ n ih =>
      intro h
      have hn : n < L.length := by omega
      rw [List.range_succ, thoseL_snoc L _ (List.getElem?_eq_getElem hn), ih (by omega), List.take_succ_eq_append_getElem hn]
  rw [this _ (Nat.le_refl _), List.take_length]
theorem those_filter (L : List Vr) (p : Vr → Bool) : ∀ P : List Nat, (thoseL L P).filter p = thoseL L (P.filter fun i => match L[i]? with | some v => p v | none => false)
  | [] => rfl
  | i :: P => by
    have ih := those_filter L p P
    unfold thoseL at ih ⊢
    rw [List.filterMap_cons, List.filter_cons]
    cases hv : L[i]? with
    | none => simpa using ih
    | some v =>
      simp only
      rw [List.filter_cons]
      split
      · rename_i hp
        rw [List.filterMap_cons, hv]
        simp only [ih]
      · exact ih
theorem filter_covP (L : List Vr) (x : Int) : (L.filter fun v => coversB v x) = thoseL L (covP L x) := by
  rw [show (L.filter fun v => coversB v x) = (thoseL L (List.range L.length)).filter fun v => coversB v x by rw [those_range], those_filter]; rfl
/-- At a time, those that set a field last make what all make. -/
theorem at_those {l L : List Vr} (h : Alike L (ordL l)) {x : Int} {C P : List Nat} (hC : Up C) (hCm : ∀ i, i ∈ C ↔ ∃ v, L[i]? = some v ∧ coversB v x = true) (hP : Up P) (hsub : ∀ i ∈ P, i ∈ C)
    (hlast : ∀ s, ∀ i ∈ C, hasN (fsAt L i) s = true → (∀ j ∈ C, i < j → hasN (fsAt L j) s = false) → i ∈ P) : atL x (thoseL L P) = atL x l := by
  have hCe : C = covP L x := up_ext hC (covP_up L x) (fun q => (hCm q).trans (covP_mem L x q).symm)
  have hlt : ∀ i ∈ C, i < L.length := fun i hi => by
    obtain ⟨v, hv, _⟩ := (hCm i).1 hi
    exact (List.getElem?_eq_some_iff.1 hv).1
  have hLs := alike_sorted h (ordL_sorted l)
  have hPs := thoseL_sorted hLs hP
  rw [at_said (l := l) h, at_said (l := thoseL L P) (L := thoseL L P) (by rw [ordL_self hPs]; rfl), filter_covP L x, ← hCe]
  have e : (thoseL L P).filter (fun v => coversB v x) = thoseL L P := List.filter_eq_self.2 fun v hv => by
    obtain ⟨i, hi, hv⟩ := thoseL_mem hv
    obtain ⟨u, hu, hc⟩ := (hCm i).1 (hsub i hi)
    rw [hv] at hu
    cases hu
    exact hc
  rw [e, thoseL_fs hlt, thoseL_fs (fun i hi => hlt i (hsub i hi))]
  apply rises_ext _ _ (overL_rises _) (overL_rises _)
  intro s
  rw [overL_get, overL_get]
  exact valP2_sub (fsAt L) hC hP hsub (hlast s)

/-! ### From turn to turn -/
/-- What has been made up to a time. -/
structure MadeTo (g : Int → Option (List Fd)) (e : Int) (o : List Pc) : Prop where
  tl : TL o
  le : ∀ q ∈ o, q.t ≤ e
  fs : ∀ x, fsP o x = if x < e then g x else none
theorem MadeTo.start {g : Int → Option (List Fd)} {e : Int} (h : ∀ x, x < e → g x = none) : MadeTo g e [] := ⟨trivial, by simp, fun x => by
  split
  · rename_i hx; rw [h x hx]; rfl
  · rfl⟩
theorem MadeTo.skip {g : Int → Option (List Fd)} {e e' : Int} {o : List Pc} (h : MadeTo g e o) (hee : e ≤ e') (hg : ∀ x, e ≤ x → x < e' → g x = none) : MadeTo g e' o := ⟨h.tl, fun q hq => Int.le_trans (h.le q hq) hee, fun x => by
  rw [h.fs]
  by_cases h1 : x < e
  · rw [if_pos h1, if_pos (by omega)]
  · rw [if_neg h1]
    by_cases h2 : x < e'
    · rw [if_pos h2, hg x (by omega) h2]
    · rw [if_neg h2]⟩
theorem MadeTo.put {g : Int → Option (List Fd)} {o : List Pc} {p : Pc} (h : MadeTo g p.f o) (hp : rightP p.f p.t = true) (hg : ∀ x, p.f ≤ x → x < p.t → g x = some p.fs) : MadeTo g p.t (putP o p) := by
  have hpt := put_to h.tl hp h.le
  have hr := right_lt hp
  refine ⟨hpt.tl, hpt.le, fun x => ?_⟩
  rw [hpt.fs, h.fs]
  by_cases h1 : p.f ≤ x ∧ x < p.t
  · rw [if_pos h1, if_pos h1.2, hg x h1.1 h1.2]
  · rw [if_neg h1]
    by_cases h2 : x < p.f
    · rw [if_pos h2, if_pos (by omega)]
    · rw [if_neg h2, if_neg (by omega)]
theorem MadeTo.done {g : Int → Option (List Fd)} {e : Int} {o : List Pc} (h : MadeTo g e o) (hg : ∀ x, e ≤ x → g x = none) : TL o ∧ ∀ x, fsP o x = g x := ⟨h.tl, fun x => by
  rw [h.fs]
  split
  · rfl
  · rw [hg x (by omega)]⟩

/-- The time from which on the next turn's piece goes. -/
def fromT (a : Int × Int) (T : List (Int × Nat)) : Nat → Int
  | 0 => a.1
  | k + 1 => match T[k]? with | some t => t.1 | none => a.1
theorem Trn.took {a : Int × Int} {L : List Vr} {T : List (Int × Nat)} (h : Trn a L T) {k : Nat} (hk : k ≤ T.length) : ∀ t ∈ T.take k, t.1 ≤ fromT a T k := by
  intro t ht
  obtain ⟨j, hj⟩ := List.mem_iff_getElem?.1 ht
  have hjk : j < k := by have := (List.getElem?_eq_some_iff.1 hj).1; rw [List.length_take] at this; omega
  rw [List.getElem?_take_of_lt hjk] at hj
  cases k with
  | zero => omega
  | succ k =>
    rw [fromT, List.getElem?_eq_getElem (by omega)]
    simp only
    obtain ⟨h1, rfl⟩ := List.getElem?_eq_some_iff.1 hj
    rcases Nat.lt_or_ge j k with h2 | h2
    · exact List.pairwise_iff_getElem.1 h.up j k h1 (by omega) h2
    · obtain rfl : j = k := by omega
      exact Int.le_refl _
theorem Trn.left {a : Int × Int} {L : List Vr} {T : List (Int × Nat)} (h : Trn a L T) {k : Nat} {t : Int × Nat} (ht : T[k]? = some t) : ∀ u ∈ T.drop k, t.1 ≤ u.1 := by
  intro u hu
  obtain ⟨j, hj⟩ := List.mem_iff_getElem?.1 hu
  rw [List.getElem?_drop] at hj
  obtain ⟨h1, rfl⟩ := List.getElem?_eq_some_iff.1 ht
  obtain ⟨h2, rfl⟩ := List.getElem?_eq_some_iff.1 hj
  rcases Nat.eq_zero_or_pos j with rfl | hj0
  · exact Int.le_refl _
  · exact List.pairwise_iff_getElem.1 h.up k (k + j) h1 h2 (by omega)
theorem Trn.from_le {a : Int × Int} {L : List Vr} {T : List (Int × Nat)} (h : Trn a L T) {k : Nat} {t : Int × Nat} (ht : T[k]? = some t) : a.1 ≤ fromT a T k ∧ fromT a T k ≤ t.1 ∧ t.1 ≤ a.2 ∧ rightP a.1 a.2 = true ∧ t.2 < L.length := by
  have hm := h.mem (List.mem_of_getElem? ht)
  cases k with
  | zero => exact ⟨Int.le_refl _, hm.2.1, hm.2.2.1, hm.1, hm.2.2.2⟩
  | succ k =>
    have hk : k + 1 < T.length := (List.getElem?_eq_some_iff.1 ht).1
    have hk1 : T[k]? = some T[k] := List.getElem?_eq_getElem (by omega)
    have hm1 := h.mem (List.mem_of_getElem? hk1)
    rw [fromT, hk1]
    obtain ⟨h1, rfl⟩ := List.getElem?_eq_some_iff.1 ht
    exact ⟨hm1.2.1, List.pairwise_iff_getElem.1 h.up k (k + 1) (by omega) h1 (by omega), hm.2.2.1, hm.1, hm.2.2.2⟩
/-- What counts as of the turns that have come. -/
abbrev cntT (T : List (Int × Nat)) (k : Nat) : List Nat := tgs ((T.take k).map Prod.snd)
/-- .. and has a field of a name. -/
abbrev setT (L : List Vr) (T : List (Int × Nat)) (k : Nat) (s : ByteArray) : List Nat := tgs (((T.take k).map Prod.snd).filter fun i => hasN (fsAt L i) s)
theorem setT_mem (L : List Vr) (T : List (Int × Nat)) (k : Nat) (s : ByteArray) (i : Nat) : i ∈ setT L T k s ↔ i ∈ cntT T k ∧ hasN (fsAt L i) s = true := by
  rw [tgs_mem, tgs_mem]
  by_cases h : hasN (fsAt L i) s = true
  · rw [List.count_filter (p := fun i => hasN (fsAt L i) s) h]
    exact ⟨fun k => ⟨k, h⟩, fun k => k.1⟩
  · have hn : i ∉ (((T.take k).map Prod.snd).filter fun i => hasN (fsAt L i) s) := fun hm => h (List.mem_filter.1 hm).2
    rw [List.count_eq_zero.2 hn]
    exact ⟨fun k => (by cases k), fun k => absurd k.2 h⟩
theorem takeP_next {α : Type} {T : List α} {k : Nat} {t : α} (h : T[k]? = some t) : T.take (k + 1) = T.take k ++ [t] := by rw [List.take_add_one, h]; rfl
theorem cntT_next {T : List (Int × Nat)} {k : Nat} {t : Int × Nat} (h : T[k]? = some t) : cntT T (k + 1) = togL (cntT T k) t.2 := by
  unfold cntT
  rw [takeP_next h, List.map_append, List.map_cons, List.map_nil, tgs_snoc]
theorem setT_next {L : List Vr} {T : List (Int × Nat)} {k : Nat} {t : Int × Nat} (h : T[k]? = some t) (s : ByteArray) : setT L T (k + 1) s = if hasN (fsAt L t.2) s = true then togL (setT L T k s) t.2 else setT L T k s := by
  unfold setT
  rw [takeP_next h, List.map_append, List.map_cons, List.map_nil, List.filter_append, List.filter_cons]
  split
  · rw [List.filter_nil, tgs_snoc]
  · rw [List.filter_nil, List.append_nil]
theorem cntT_lt {a : Int × Int} {L : List Vr} {T : List (Int × Nat)} (h : Trn a L T) {k i : Nat} (hi : i ∈ cntT T k) : i < L.length := by
  rw [tgs_mem] at hi
  have : i ∈ (T.take k).map Prod.snd := List.count_pos_iff.1 (by omega)
  obtain ⟨t, ht, rfl⟩ := List.mem_map.1 this
  exact (h.mem (List.mem_of_mem_take ht)).2.2.2
/-- The places of those that set a field last. -/
def Setters (L : List Vr) (T : List (Int × Nat)) (k : Nat) (P : List Nat) : Prop := Up P ∧ ∀ i, i ∈ P ↔ ∃ s, (setT L T k s).getLast? = some i
theorem up_last {l : List Nat} (h : Up l) {i : Nat} (hi : l.getLast? = some i) : ∀ j ∈ l, j ≤ i := by
  rcases List.eq_nil_or_concat l with rfl | ⟨m, q, rfl⟩
  · simp at hi
  · rw [List.concat_eq_append] at h hi ⊢
    rw [show (m ++ [q]).getLast? = some q by simp] at hi
    cases hi
    intro j hj
    rcases List.mem_append.1 hj with hj | hj
    · exact Nat.le_of_lt ((List.pairwise_append.1 h).2.2 j hj i (by simp))
    · rw [List.mem_singleton.1 hj]; exact Nat.le_refl _
/-- One turn more. -/
theorem made_put {a : Int × Int} {l L : List Vr} {T : List (Int × Nat)} (hL : Alike L (ordL l)) (hT : Trn a L T) {k : Nat} {t : Int × Nat} (ht : T[k]? = some t) (hlt : fromT a T k < t.1) {P : List Nat} (hP : Setters L T k P) {o : List Pc} (ho : MadeTo (makeV a l) (fromT a T k) o) (hne : cntT T k ≠ [])
    (fa : Option Addr) (fc : Nat) : MadeTo (makeV a l) t.1 (putP o ⟨fromT a T k, t.1, fa, fc, atL (fromT a T k) (thoseL L P)⟩) := by
  obtain ⟨f1, f2, f3, f4, f5⟩ := hT.from_le ht
  have ra := (rightP_iff _ _).1 f4
  have hk : k ≤ T.length := by have := (List.getElem?_eq_some_iff.1 ht).1; omega
  have hcnt : ∀ x, fromT a T k ≤ x → x < t.1 → ∀ i, i ∈ cntT T k ↔ ∃ v, L[i]? = some v ∧ coversB v x = true := fun x h1 h2 i =>
    hT.counts f4 (by omega) (by omega) (fun u hu => by have := hT.took hk u hu; omega) (fun u hu => by have := hT.left ht u hu; omega) i
  have hat : atL (fromT a T k) (thoseL L P) = atL (fromT a T k) l := at_those hL (tgs_up _) (hcnt _ (Int.le_refl _) hlt) hP.1
    (fun i hi => by
      obtain ⟨s, hs⟩ := (hP.2 i).1 hi
      exact ((setT_mem L T k s i).1 (List.mem_of_getLast? hs)).1)
    (fun s i hi hh hj => (hP.2 i).2 ⟨s, by
      have hmem : i ∈ setT L T k s := (setT_mem L T k s i).2 ⟨hi, hh⟩
      obtain ⟨q, hq⟩ : ∃ q, (setT L T k s).getLast? = some q := by
        cases hl : (setT L T k s).getLast? with
        | none => rw [List.getLast?_eq_none_iff] at hl; rw [hl] at hmem; simp at hmem
        | some q => exact ⟨q, rfl⟩
      have hle := up_last (tgs_up _) hq i hmem
      have hqm := (setT_mem L T k s q).1 (List.mem_of_getLast? hq)
      rcases Nat.lt_or_ge i q with h1 | h1
      · have := hj q hqm.1 h1; rw [hqm.2] at this; cases this
      · rw [hq, show q = i by omega]⟩)
  refine MadeTo.put (p := ⟨fromT a T k, t.1, fa, fc, atL (fromT a T k) (thoseL L P)⟩) ho ((rightP_iff _ _).2 ⟨by show _ ≤ fromT a T k; omega, hlt, by show t.1 ≤ _; omega⟩) fun x h1 h2 => ?_
  have h1 : fromT a T k ≤ x := h1
  have h2 : x < t.1 := h2
  have hco : ∀ v ∈ l, coversB v x = coversB v (fromT a T k) := fun v hv => by
    have hv' := (ordL_perm l).mem_iff.2 hv
    have : sayV v ∈ L.map sayV := by rw [hL]; exact List.mem_map.2 ⟨v, hv', rfl⟩
    obtain ⟨u, hu, e⟩ := List.mem_map.1 this
    simp only [sayV, Prod.mk.injEq] at e
    obtain ⟨_, _, _, e1, e2, _, e4⟩ := e
    have hcu : ∀ y, coversB v y = coversB u y := fun y => by unfold coversB; rw [e1, e2, e4]
    obtain ⟨i, hi⟩ := List.mem_iff_getElem?.1 hu
    rw [hcu, hcu, Bool.eq_iff_iff]
    have k1 := hcnt x h1 h2 i
    have k2 := hcnt _ (Int.le_refl _) hlt i
    constructor
    · intro h
      obtain ⟨u', hu', hc⟩ := k2.1 (k1.2 ⟨u, hi, h⟩)
      rw [hi] at hu'; cases hu'; exact hc
    · intro h
      obtain ⟨u', hu', hc⟩ := k1.1 (k2.2 ⟨u, hi, h⟩)
      rw [hi] at hu'; cases hu'; exact hc
  obtain ⟨c1, c2⟩ := at_congr hco
  obtain ⟨i, hi⟩ := List.exists_mem_of_ne_nil _ hne
  obtain ⟨u, hu, hc⟩ := (hcnt _ (Int.le_refl _) hlt i).1 hi
  have hany : (l.any fun v => coversB v (fromT a T k)) = true := by
    rw [any_said hL, List.any_eq_true]
    exact ⟨u, List.mem_of_getElem? hu, hc⟩
  rw [makeV_in f4 (by omega) (by omega), c1, c2, hany, if_pos rfl, hat]
theorem made_skip {a : Int × Int} {l L : List Vr} {T : List (Int × Nat)} (hL : Alike L (ordL l)) (hT : Trn a L T) {k : Nat} {t : Int × Nat} (ht : T[k]? = some t) {o : List Pc} (ho : MadeTo (makeV a l) (fromT a T k) o) (hne : t.1 ≤ fromT a T k ∨ cntT T k = []) : MadeTo (makeV a l) t.1 o := by
  obtain ⟨f1, f2, f3, f4, f5⟩ := hT.from_le ht
  have hk : k ≤ T.length := by have := (List.getElem?_eq_some_iff.1 ht).1; omega
  refine ho.skip f2 fun x h1 h2 => ?_
  rcases hne with hne | hne
  · omega
  · rw [makeV_in f4 (by omega) (by omega), any_said hL, if_neg]
    intro h
    obtain ⟨v, hv, hc⟩ := List.any_eq_true.1 h
    obtain ⟨i, hi⟩ := List.mem_iff_getElem?.1 hv
    have := (hT.counts f4 (by omega) (by omega) (fun u hu => by have := hT.took hk u hu; omega) (fun u hu => by have := hT.left ht u hu; omega) i).2 ⟨v, hi, hc⟩
    have hne : tgs ((T.take k).map Prod.snd) = [] := hne
    rw [hne] at this
    simp at this
theorem made_start (a : Int × Int) (l : List Vr) : MadeTo (makeV a l) a.1 [] := .start fun x hx => makeV_out fun h => by omega
theorem made_stop {a : Int × Int} {l L : List Vr} {T : List (Int × Nat)} (hL : Alike L (ordL l)) (hT : Trn a L T) {o : List Pc} (ho : MadeTo (makeV a l) (fromT a T T.length) o) : TL o ∧ ∀ x, fsP o x = makeV a l x := by
  refine ho.done fun x hx => ?_
  by_cases hin : rightP a.1 a.2 = true ∧ a.1 ≤ x ∧ x < a.2
  · rw [makeV_in hin.1 hin.2.1 hin.2.2, any_said hL, if_neg]
    intro h
    obtain ⟨v, hv, hc⟩ := List.any_eq_true.1 h
    obtain ⟨i, hi⟩ := List.mem_iff_getElem?.1 hv
    have h1 := (hT.counts (k := T.length) hin.1 hin.2.1 hin.2.2 (fun u hu => by have := hT.took (Nat.le_refl _) u hu; omega) (by simp) i).2 ⟨v, hi, hc⟩
    rw [tgs_mem, List.take_length, (hT.perm.map _).count_eq i] at h1
    have e : ((trnL a 0 L).map Prod.snd) = ((trnL a 0 L).filter (fun t => decide (t.1 ≤ a.2))).map Prod.snd := by
      rw [List.filter_eq_self.2 fun t ht => ?_]
      have := (hT.mem (hT.perm.mem_iff.2 ht)).2.2.1
      simpa using this
    rw [e, trn_count, if_pos (Nat.zero_le _), Nat.sub_zero, hi] at h1
    simp only at h1
    unfold endsV at h1
    split at h1
    · rename_i hh
      rw [Bool.and_eq_true] at hh
      have hm := (meetB_iff _ _ _ _).1 hh.1
      have := hm.2
      simp only [Co.meetF, Co.meetT, hh.1, if_true] at h1
      rw [List.filter_cons_of_pos (by simp; omega), List.filter_cons_of_pos (by simp; omega)] at h1
      simp at h1
    · simp at h1
  · exact makeV_out hin

end Go.Proofs.Ytnopbhlhdecimaa

/-
  The program's same of both sides; what its Of has told so far, as it lies.
-/
namespace Go.Proofs.Ytnopbhlhdecimaa
open Go.RowKit

abbrev fsO (o : Option Pc) : List Fd := (o.map Pc.fs).getD []
def faO : Option Pc → Option Addr
  | none => none
  | some p => p.fa
def fcO : Option Pc → Nat
  | none => 0
  | some p => p.fc
theorem sdC_eq (o : Option Pc) : sdC o = #[.bool o.isSome, .slice (faO o) (fsO o).length (fcO o)] := by cases o <;> rfl
theorem bothV_eq (o1 o2 : Option Pc) : bothV o1 o2 = .agg #[.bool o1.isSome, .slice (faO o1) (fsO o1).length (fcO o1), .bool o2.isSome, .slice (faO o2) (fsO o2).length (fcO o2)] := by
  unfold bothV
  rw [sdC_eq, sdC_eq]; rfl
theorem ocB_eq (o1 o2 : Option Pc) : ocB o1 o2 = .cells #[.bool o1.isSome, .slice (faO o1) (fsO o1).length (fcO o1), .bool o2.isSome, .slice (faO o2) (fsO o2).length (fcO o2)] T2S := by
  unfold ocB
  rw [sdC_eq, sdC_eq]; rfl
/-- The fields of a side lie where it says. -/
def PFO (w : World) (o : Option Pc) : Prop := ListF w (.slice (faO o) (fsO o).length (fcO o)) (fsO o) ∧ Fields w (faO o) (fsO o) ∧ (faO o = none → fcO o = 0)
theorem pfo_of {w : World} {l : List Pc} {o : Option Pc} (h : ∀ p ∈ l, PF w p) (ho : ∀ p, o = some p → p ∈ l) : PFO w o := by
  cases o with
  | none => exact ⟨⟨none, 0, rfl, fun k f hf => by simp [fsO] at hf, Nat.le_refl _, fun _ => rfl⟩, fun k f hf => by simp [fsO] at hf, fun _ => rfl⟩
  | some p =>
    have hp := h p (ho p rfl)
    exact ⟨hp.list, hp.1, hp.2.2⟩
theorem fsO_few {l : List Pc} {n : Nat} {o : Option Pc} (h : ∀ p ∈ l, p.fs.length ≤ n) (ho : ∀ p, o = some p → p ∈ l) : (fsO o).length ≤ n := by
  cases o with
  | none => exact Nat.zero_le _
  | some p => exact h p (ho p rfl)
/-- Have both sides the same? -/
def sameO (o1 o2 : Option Pc) : Bool := (o1.isSome == o2.isSome) && sameF (fsO o1) (fsO o2)
theorem sameO_iff (o1 o2 : Option Pc) : sameO o1 o2 = true ↔ o1.map Pc.fs = o2.map Pc.fs := by
  unfold sameO
  cases o1 with
  | none => cases o2 with
    | none => simp [fsO, sameF_self]
    | some q => simp
  | some p => cases o2 with
    | none => simp
    | some q =>
      simp only [Option.isSome_some, beq_self_eq_true, Bool.true_and, Option.map_some, Option.some.injEq, fsO, Option.getD_some]
      exact ⟨sameF_eq _ _, fun h => by rw [h]; exact sameF_self _⟩
set_option maxHeartbeats 4000000 in
set_option maxRecDepth 10000 in
theorem psameo_any (w : World) (o1 o2 : Option Pc) (h1 : PFO w o1) (h2 : PFO w o2) (n1 : (fsO o1).length ≤ 1000000) (n2 : (fsO o2).length ≤ 1000000) : Ret 22 #[bothV o1 o2] w (.bool (sameO o1 o2)) := by
  have CS := Lib.hid (fun w' (h : Below w.heap.size w w') => psame_any w' (.slice (faO o1) (fsO o1).length (fcO o1)) (.slice (faO o2) (fsO o2).length (fcO o2)) (fsO o1) (fsO o2) (h1.1.below h) (h2.1.below h) (by omega) (by omega))
  have HB := Lib.hid (show Below w.heap.size w (w.alloc (ocB o1 o2)) from (bl w).alloc (Nat.le_refl _) _)
  rw [bothV_eq]
  rw [ocB_eq] at HB
  have HS : sameO o1 o2 = ((o1.isSome == o2.isSome) && sameF (fsO o1) (fsO o2)) := rfl
  rw [HS]
  clear h1 h2 n1 n2 HS
  generalize sameF (fsO o1) (fsO o2) = s at *
  generalize (fsO o1).length = m1 at *
  generalize (fsO o2).length = m2 at *
  generalize o1.isSome = x1 at *
  generalize o2.isSome = x2 at *
  generalize faO o1 = A1 at *
  generalize faO o2 = A2 at *
  generalize fcO o1 = c1 at *
  generalize fcO o2 = c2 at *
  cases x1 <;> cases x2
  all_goals
    go_enter Try.func22, Try.ntmps22
    go_wp2_with (go_at_call 38; (with_reducible refine (CS.out _ HB.out).mono ?_); rintro e w2 ⟨rfl, hb2⟩; have HB2 := Lib.hid hb2; clear hb2)
    go_ret
    first
      | exact ⟨rfl, chain HB.out HB2.out⟩
      | exact ⟨rfl, HB.out⟩

abbrev TDc : TypeId := 60
abbrev TDs : TypeId := 25
/-- Blocks of changes, of lists of them and of fields lie as they lay. -/
def KTD (w w' : World) : Prop := ∀ (c : Nat) (cur : Array Value) (t : TypeId), (t = TDs ∨ t = TDc ∨ t = FT) → w.heap[c]? = some (.cells cur t (0, 0)) → w'.heap[c]? = some (.cells cur t (0, 0))
theorem KTD.of_below {w w' : World} (h : Below w.heap.size w w') : KTD w w' := fun c _ _ _ hc => (h.block c (Array.getElem?_eq_some_iff.1 hc).1).trans hc
theorem KTD.of_it {B : Nat} {w w' : World} (h : ItStep B w w') : KTD w w' := fun c cur t ht hc => h.other hc fun cur' t' h1 e => by
  injection e with _ e _
  subst e
  unfold itT at h1
  revert ht h1
  rcases Nat.lt_trichotomy 0 1 with _ | _ | _ <;> (intro ht h1; rcases ht with rfl | rfl | rfl <;> rcases h1 with h1 | h1 | h1 <;> revert h1 <;> decide)
theorem KTD.of_obj {w : World} {l : Nat} {o : Obj} (h : w.heap[l]? = some o) (ho : o.isCells = false) (o' : Obj) : KTD w (w.putObj l o') := fun c cur t _ hc => (World.putObj_heap_other fun e => by
  rw [e, h] at hc
  injection hc with hc
  rw [hc] at ho
  cases ho).trans hc
/-- The fields of a change lie where it says, in blocks of fields. -/
def FB (w : World) (A : Option Addr) (s : List Fd) : Prop := s ≠ [] → ∀ a, A = some a → ∃ cur, w.heap[a.block]? = some (.cells cur FT (0, 0))
def CKF (w : World) (c : Ch) : Prop := CF w c ∧ FB w c.oa c.os ∧ FB w c.na c.ns
theorem fields_ft {w w' : World} {A : Option Addr} {s : List Fd} (h : Fields w A s) (hb : FB w A s) (hk : ∀ (c : Nat) (cur : Array Value), w.heap[c]? = some (.cells cur FT (0, 0)) → w'.heap[c]? = some (.cells cur FT (0, 0))) : Fields w' A s ∧ FB w' A s := by
  refine ⟨fun k f hf => ?_, fun hn a ha => ?_⟩
  · obtain ⟨g, off, he, c0, c1⟩ := h k f hf
    have hn : s ≠ [] := fun e => by rw [e] at hf; simp at hf
    obtain ⟨cur, hcur⟩ := hb hn _ he
    have hcur : w.heap[g]? = some (.cells cur FT (0, 0)) := hcur
    have e : w'.heap[g]? = w.heap[g]? := (hk g cur hcur).trans hcur.symm
    exact ⟨g, off, he, (World.cell?_of_block (a := ⟨g, _, none⟩) e).trans c0, (World.cell?_of_block (a := ⟨g, _, none⟩) e).trans c1⟩
  · obtain ⟨cur, hcur⟩ := hb hn a ha
    exact ⟨cur, hk _ _ hcur⟩
theorem CKF.ft {w w' : World} {c : Ch} (h : CKF w c) (hk : ∀ (c : Nat) (cur : Array Value), w.heap[c]? = some (.cells cur FT (0, 0)) → w'.heap[c]? = some (.cells cur FT (0, 0))) : CKF w' c := by
  obtain ⟨⟨⟨h1, h2⟩, ⟨h3, h4⟩⟩, h5, h6⟩ := h
  obtain ⟨k1, k2⟩ := fields_ft h1 h5 hk
  obtain ⟨k3, k4⟩ := fields_ft h3 h6 hk
  exact ⟨⟨⟨k1, h2⟩, ⟨k3, h4⟩⟩, k2, k4⟩
theorem CKF.kt {w w' : World} {c : Ch} (h : CKF w c) (hk : KTD w w') : CKF w' c := h.ft fun c cur hc => hk c cur FT (.inr (.inr rfl)) hc
theorem FB.new {W w : World} {s : List Fd} {u : Value} (ho : OF W s u w) : ∃ A c, u = .slice A s.length c ∧ Fields w A s ∧ s.length ≤ c ∧ (A = none → c = 0) ∧ FB w A s := by
  obtain ⟨A, c, rfl, h⟩ := KF.new ho
  obtain ⟨⟨h1, h2, h3⟩, h4⟩ := h 0 0
  exact ⟨A, c, rfl, h1, h2, h3, h4⟩
/-- What Of has told so far. -/
structure OfS (w : World) (B : Nat) (a b : List Pc) (e : Int) (W : World) : Prop where
  bel : Below w.heap.size w W
  lst : ∃ v L, Boxed W B TDs v ∧ ownE ED12 W w.heap.size v L ∧ OfI a b e L ∧ ∀ c ∈ L, CKF W c
theorem OfS.kt {w W W' : World} {B : Nat} {a b : List Pc} {e : Int} (h : OfS w B a b e W) (hk : KTD W W') (hb : Below w.heap.size w W') : OfS w B a b e W' := by
  obtain ⟨_, v, L, h1, h2, h3, h4⟩ := h
  refine ⟨hb, v, L, hk _ _ _ (.inl rfl) h1, ⟨h2.1, ?_⟩, h3, fun c hc => (h4 c hc).kt hk⟩
  rcases h2.2 with h5 | ⟨g, cap, cur, hv, hg, hh, r⟩
  · exact .inl h5
  · exact .inr ⟨g, cap, cur, hv, hg, hk _ _ _ (.inr (.inl rfl)) hh, r⟩
theorem OfS.it {w W W' : World} {B C : Nat} {a b : List Pc} {e : Int} (h : OfS w B a b e W) (hs : ItStep C W W') (hC : w.heap.size ≤ C) : OfS w B a b e W' := h.kt (.of_it hs) (hs.below h.bel (Nat.le_refl _) hC)
theorem OfS.obj {w W : World} {B : Nat} {a b : List Pc} {e : Int} (h : OfS w B a b e W) {l : Nat} {o : Obj} (hl : w.heap.size ≤ l) (ho : W.heap[l]? = some o) (hc : o.isCells = false) (o' : Obj) : OfS w B a b e (W.putObj l o') := h.kt (.of_obj ho hc o') (h.bel.grown (grownBy_putObj' W l o') h.bel.size fun k e => by cases e; exact hl)
/-- What is neither a variable nor a list's own block lies behind an append and the store back. -/
theorem kept_appD {W w9 : World} {tmp : Obj} {v v' : Value} {n₀ B k : Nat} {xs : List Value} (hrow : W.ownsRow n₀ TDc 6 v k xs) (hg : (W.alloc tmp).grownBy w9 v.ownBlock) {c : Nat} {o : Obj} (hc : W.heap[c]? = some o) (ho : ∀ cur, o ≠ .cells cur TDc (0, 0)) (hcB : c ≠ B) : (w9.setCell ⟨B, 0, none⟩ v').heap[c]? = some o := by
  have hlt := (Array.getElem?_eq_some_iff.1 hc).1
  rw [heap_set2 w9 v' hcB, hg.block c (by simp; omega) (fun e => ?_), Go.RowKit.Below.heap_alloc W tmp c hlt]
  · exact hc
  · rcases hrow.2 with ⟨rfl, _⟩ | ⟨g, cap, cur, rfl, _, hh, _⟩
    · cases e
    · cases e
      rw [hh] at hc
      injection hc with hc
      exact ho cur hc.symm
/-- A change told behind the others. -/
theorem OfS.put {w W w1 : World} {B : Nat} {a b : List Pc} {t : Int} {v v' : Value} {L : List Ch} {c : Ch} {tmp : Obj} (hbel : Below w.heap.size w W) (hB : w.heap.size ≤ B) (hv : Boxed W B TDs v) (hown : ownE ED12 W w.heap.size v L) (hck : ∀ d ∈ L, CKF W d) (hc : CKF W c)
    (hg : (W.alloc tmp).grownBy w1 v.ownBlock) (hown' : ownE ED12 w1 w.heap.size v' (L ++ [c])) (hof : OfI a b t (L ++ [c])) : OfS w B a b t (w1.setCell ⟨B, 0, none⟩ v') ∧ KeepsOthers W (w1.setCell ⟨B, 0, none⟩ v') ∧ KpX (· < w.heap.size) W (w1.setCell ⟨B, 0, none⟩ v') := by
  obtain ⟨q1, q2, q3, q4, q5⟩ := Boxed.appended (t := TDs) (e := TDc) (size := 6) hv (by decide) hown hbel.size hB hown' hg
  have hft : ∀ (c : Nat) (cur : Array Value), W.heap[c]? = some (.cells cur FT (0, 0)) → (w1.setCell ⟨B, 0, none⟩ v').heap[c]? = some (.cells cur FT (0, 0)) := fun c cur hcc => kept_appD hown hg hcc (fun cur' e => by injection e with _ e _; revert e; decide) (fun e => by
    have h2 := hv
    unfold Boxed at h2
    rw [e, h2] at hcc
    injection hcc with hcc
    injection hcc with _ hcc _
    revert hcc; decide)
  refine ⟨⟨hbel.trans q5, v', L ++ [c], q2, q3, hof, fun d hd => ?_⟩, q4, fun k o hk hx ho => ?_⟩
  · rcases List.mem_append.1 hd with hd | hd
    · exact (hck d hd).ft hft
    · rw [List.mem_singleton.1 hd]
      exact hc.ft hft
  · rcases hx with hx | ⟨cur, t, ht, rfl⟩
    · have hx : k < w.heap.size := hx
      exact (q5.block k hx).trans hk
    · refine kept_appD hown hg hk (fun cur' e => ?_) (fun e => ?_)
      · injection e with _ e _
        subst e
        unfold itT at ht
        rcases ht with h | h | h <;> revert h <;> decide
      · have h2 := hv
        unfold Boxed at h2
        rw [e, h2] at hk
        injection hk with hk
        injection hk with _ hk _
        subst hk
        unfold itT at ht
        rcases ht with h | h | h <;> revert h <;> decide
/-- What lies in a round's two variables. -/
abbrev SD (b' : Nat) (f t : Int) (o1 o2 : Option Pc) (Z : World) : Prop := Z.cell? ⟨b', 0, none⟩ = some (.int .i64 f) ∧ Z.cell? ⟨b', 1, none⟩ = some (.int .i64 t) ∧ Z.cell? ⟨b' + 1, 0, none⟩ = some (.bool o1.isSome) ∧ Z.cell? ⟨b' + 1, 1, none⟩ = some (.slice (faO o1) (fsO o1).length (fcO o1)) ∧ Z.cell? ⟨b' + 1, 2, none⟩ = some (.bool o2.isSome) ∧ Z.cell? ⟨b' + 1, 3, none⟩ = some (.slice (faO o2) (fsO o2).length (fcO o2))
theorem sd_of {b' : Nat} {f t : Int} {o1 o2 : Option Pc} {Z : World} (h1 : Z.heap[b']? = some (ocS f t)) (h2 : Z.heap[b' + 1]? = some (ocB o1 o2)) : SD b' f t o1 o2 Z := by
  rw [ocB_eq] at h2
  refine ⟨?_, ?_, ?_, ?_, ?_, ?_⟩ <;> simp [World.cell?, h1, h2]
/-- Fields that a call has made. -/
structure FG (w : World) (A : Option Addr) (c : Nat) (s : List Fd) : Prop where
  fl : Fields w A s
  le : s.length ≤ c
  no : A = none → c = 0
  fb : FB w A s
theorem FG.below {w w' : World} {A : Option Addr} {c : Nat} {s : List Fd} (h : FG w A c s) (hb : Below w.heap.size w w') : FG w' A c s := by
  obtain ⟨k1, k2⟩ := fields_ft h.fl h.fb (w' := w') fun k cur hk => (hb.block k (Array.getElem?_eq_some_iff.1 hk).1).trans hk
  exact ⟨k1, h.le, h.no, k2⟩
theorem FG.ckf {w : World} {f t : Int} {x y : Bool} {A1 A2 : Option Addr} {c1 c2 : Nat} {s1 s2 : List Fd} (h1 : FG w A1 c1 s1) (h2 : FG w A2 c2 s2) : CKF w ⟨f, t, x, y, A1, c1, s1, A2, c2, s2⟩ := ⟨⟨⟨h1.fl, h1.le, h1.no⟩, ⟨h2.fl, h2.le, h2.no⟩⟩, h1.fb, h2.fb⟩
theorem keptD {W w9 : World} {tmp : Obj} {v : Value} {n₀ k : Nat} {xs : List Value} (hrow : W.ownsRow n₀ TDc 6 v k xs) (hg : (W.alloc tmp).grownBy w9 v.ownBlock) {c : Nat} {o : Obj} (hc : W.heap[c]? = some o) (ho : ∀ cur, o ≠ .cells cur TDc (0, 0)) : w9.heap[c]? = some o := by
  have hlt := (Array.getElem?_eq_some_iff.1 hc).1
  rw [hg.block c (by simp; omega) (fun e => ?_), Go.RowKit.Below.heap_alloc W tmp c hlt]
  · exact hc
  · rcases hrow.2 with ⟨rfl, _⟩ | ⟨g, cap, cur, rfl, _, hh, _⟩
    · cases e
    · cases e
      rw [hh] at hc
      injection hc with hc
      exact ho cur hc.symm
theorem own_atD {w : World} {base : Nat} {v : Value} {L : List Ch} (h : ownE ED12 w base v L) (hL : L ≠ []) : ∃ g n c, v = .slice (some ⟨g, 0, none⟩) n c := by
  rcases h.2 with ⟨_, h0⟩ | ⟨g, cap, cur, hv, _⟩
  · exact absurd (List.eq_nil_of_length_eq_zero h0) hL
  · exact ⟨g, _, cap, hv⟩
/-- A list of changes of the call's own, and their fields. -/
structure OfR (w : World) (v : Value) (L : List Ch) (W : World) : Prop where
  bel : Below w.heap.size w W
  own : ownE ED12 W w.heap.size v L
  ck : ∀ c ∈ L, CKF W c
theorem OfR.obj {w W : World} {v : Value} {L : List Ch} (h : OfR w v L W) {l : Nat} {o : Obj} (hl : w.heap.size ≤ l) (ho : W.heap[l]? = some o) (hc : o.isCells = false) (o' : Obj) : OfR w v L (W.putObj l o') := by
  have hk := KTD.of_obj ho hc o'
  refine ⟨h.bel.grown (grownBy_putObj' W l o') h.bel.size fun k e => by cases e; exact hl, ⟨h.own.1, ?_⟩, fun c hc => (h.ck c hc).kt hk⟩
  rcases h.own.2 with h5 | ⟨g, cap, cur, hv, hg, hh, r⟩
  · exact .inl h5
  · exact .inr ⟨g, cap, cur, hv, hg, hk _ _ _ (.inr (.inl rfl)) hh, r⟩
theorem OfR.chs {w W : World} {v : Value} {L : List Ch} (h : OfR w v L W) : ChsL ED12 W v L := ⟨ownE_list h.own, fun c hc => (h.ck c hc).1⟩
theorem pcs_rowB {w : World} {u : Value} {l : List Pc} (h : PcsL w u l) : RowB (· < w.heap.size) w u l := by
  obtain ⟨⟨A, c, rfl, hA, hc, hn⟩, _⟩ := h
  refine ⟨⟨A, c, rfl, hA, hc, hn⟩, fun hl g hg => ?_⟩
  cases l with
  | nil => exact absurd rfl hl
  | cons p m =>
    obtain ⟨g', off, rfl, hX⟩ := hA.cells3 (k := 0) rfl
    cases hg
    exact lt_of_cell hX.1

end Go.Proofs.Ytnopbhlhdecimaa

/-
  Deferred calls, of which there are none, at a function's end.
-/
namespace Go.Proofs.Ytnopbhlhdecimaa
open Go.RowKit

/-- Deferred calls, of which there are none, at the end. -/
theorem leaves_all {F : Fence} {n : Nat} {P : Program} {fn : Func} {tmps : Array Value} {R : Ending → World → Prop} (X : World → Prop)
    (base : Nat) (hX : ∀ w D, base ≤ D → X w → w.heap[D]? = some (.deferred (some [])) → X (w.putObj D (.deferred none))) (hend : ∀ w', X w' → LeavesIn F n P fn tmps R [] .returning w') :
    ∀ (ds : List Nat) (w : World), ds.Nodup → (∀ D ∈ ds, base ≤ D ∧ w.heap[D]? = some (.deferred (some []))) → X w → LeavesInM F n P fn tmps R (ds.map fun D => { target := .collected D, args := #[] }) .returning w
  | [], w, _, _, hx => hend w hx
  | D :: ds, w, hd, h, hx => by
    have hd' := List.nodup_cons.1 hd
    obtain ⟨hDb, hD⟩ := h D (by simp)
    refine ⟨by simp, .inl ⟨D, _, rfl, run_takeDeferred hD, ?_⟩⟩
    refine leaves_all X base hX hend ds _ hd'.2 (fun D' hD' => ⟨(h D' (List.mem_cons_of_mem _ hD')).1, ?_⟩) (hX w D hDb hx hD)
    have hne : D' ≠ D := fun e => hd'.1 (e ▸ hD')
    exact (World.putObj_heap_other hne).trans (h D' (List.mem_cons_of_mem _ hD')).2


end Go.Proofs.Ytnopbhlhdecimaa

/-
  The program's Of.
-/
namespace Go.Proofs.Ytnopbhlhdecimaa
open Go.RowKit

attribute [local go_sem] Oper.semAt_some

/-- What Of leaves. -/
def POfPost (a b : List Pc) (w : World) (e : Ending) (w' : World) : Prop := ∃ x, e = .returned x ∧ IsD ED12 w' x a b ∧ Below w.heap.size w w'
set_option maxHeartbeats 4000000 in
set_option maxRecDepth 100000 in
theorem pdof_none (w : World) (ua ub : Value) (a b : List Pc) (ha : PcsL w ua a) (hb : PcsL w ub b) (hna : a.length ≤ 40) (hnb : b.length ≤ 40) (hfa : ∀ p ∈ a, p.fs.length ≤ 20) (hfb : ∀ p ∈ b, p.fs.length ≤ 20) (hr : ¬ (rightT a && rightT b) = true) : Calls Try.prog 9 #[ua, ub] w (POfPost a b w) := by
  have CRA := Lib.hid (fun w' (h : Below w.heap.size w w') => ptright_any w' ua a (ha.below h) (by omega) (fun p hp => by have := hfa p hp; omega))
  have CRB := Lib.hid (fun w' (h : Below w.heap.size w w') => ptright_any w' ub b (hb.below h) (by omega) (fun p hp => by have := hfb p hp; omega))
  have HD := Lib.hid (show ∀ w', IsD ED12 w' (.slice none 0 0) a b from fun w' => ⟨[], ⟨ListE.nil _, fun c hc => by simp at hc⟩, diff_none hr, Nat.zero_le _⟩)
  obtain ⟨A, c, hua, _⟩ := ha.1
  obtain ⟨B, d, hub, _⟩ := hb.1
  obtain ⟨n, hnm⟩ : ∃ n, a.length = n := ⟨_, rfl⟩
  obtain ⟨n', hnm'⟩ : ∃ n, b.length = n := ⟨_, rfl⟩
  rw [hnm] at hua
  rw [hnm'] at hub
  subst hua hub
  clear ha hb hna hnb hfa hfb hnm hnm'
  cases h1 : rightT a with
  | false =>
    rw [h1] at CRA
    clear h1 hr
    go_enter Try.func9, Try.ntmps9
    go_wp2_with (go_at_call 20; (with_reducible refine (CRA.out _ (bl w)).mono ?_); rintro e w2 ⟨rfl, hb2⟩)
    go_ret
    exact ⟨_, rfl, HD.out _, hb2⟩
  | true =>
    have h2 : rightT b = false := by
      cases h2 : rightT b with
      | false => rfl
      | true => rw [h1, h2] at hr; exact absurd rfl hr
    rw [h1] at CRA
    rw [h2] at CRB
    clear h1 h2 hr
    go_enter Try.func9, Try.ntmps9
    go_wp2_with (first
      | (go_at_call 20; (with_reducible refine (CRA.out _ (bl w)).mono ?_); rintro e w2 ⟨rfl, hb2⟩)
      | (go_at_call 20; (with_reducible refine (CRB.out _ hb2).mono ?_); rintro e w3 ⟨rfl, hb3⟩))
    go_ret
    exact ⟨_, rfl, HD.out _, chain hb2 hb3⟩

set_option linter.unusedSimpArgs false in
set_option maxHeartbeats 8000000 in
set_option maxRecDepth 100000 in
theorem pdof_some (w : World) (ua ub : Value) (a b : List Pc) (ha : PcsL w ua a) (hb : PcsL w ub b) (hna : a.length ≤ 40) (hnb : b.length ≤ 40) (hfa : ∀ p ∈ a, p.fs.length ≤ 20) (hfb : ∀ p ∈ b, p.fs.length ≤ 20) (hr : (rightT a && rightT b) = true) : Calls Try.prog 9 #[ua, ub] w (POfPost a b w) := by
  have hr2 := hr
  rw [Bool.and_eq_true] at hr2
  obtain ⟨h1, h2⟩ := hr2
  have HTA := Lib.hid ((rightT_iff a).1 h1)
  have HTB := Lib.hid ((rightT_iff b).1 h2)
  have CRA := Lib.hid (fun w' (h : Below w.heap.size w w') => ptright_any w' ua a (ha.below h) (by omega) (fun p hp => by have := hfa p hp; omega))
  have CRB := Lib.hid (fun w' (h : Below w.heap.size w w') => ptright_any w' ub b (hb.below h) (by omega) (fun p hp => by have := hfb p hp; omega))
  rw [h1] at CRA
  rw [h2] at CRB
  have HPA := Lib.hid ha
  have HPB := Lib.hid hb
  have HNA := Lib.hid hna
  have HNB := Lib.hid hnb
  have HFA := Lib.hid hfa
  have HFB := Lib.hid hfb
  obtain ⟨A, c, hua, _⟩ := ha.1
  obtain ⟨B, d, hub, _⟩ := hb.1
  obtain ⟨n, hnm⟩ : ∃ n, a.length = n := ⟨_, rfl⟩
  obtain ⟨n', hnm'⟩ : ∃ n, b.length = n := ⟨_, rfl⟩
  rw [hnm] at hua
  rw [hnm'] at hub
  subst hua hub
  have CST := Lib.hid (fun w' => pstretches_any w' A B n n' c d)
  clear ha hb hna hnb hfa hfb hnm hnm' h1 h2 hr
  refine (callsIn_wide (n := 4)).1 ?_
  refine callsIn_of_wp_marks Try.func9 rfl trivial ?_ rfl
  simp only [Try.ntmps9, List.size_toArray, List.length_cons, List.length_nil, Nat.reduceAdd, Nat.reduceSub, Array.replicate_succ, Array.replicate_zero, List.push_toArray, List.append_toArray, List.nil_append, List.cons_append]
  gi_wp2_with (first
    | (refine ⟨trivial, ?_⟩; gi_at_call 20; with_reducible refine (callsIn_wide.2 (CRA.out _ (bl w))).mono ?_; rintro e w2 ⟨rfl, hb2⟩)
    | (refine ⟨trivial, ?_⟩; gi_at_call 20; with_reducible refine (callsIn_wide.2 (CRB.out _ hb2)).mono ?_; rintro e w3 ⟨rfl, hb3⟩)
    | (refine ⟨trivial, ?_⟩; gi_at_call 21; with_reducible refine (callsIn_wide.2 (CST.out _)).mono ?_; rintro e w4 ⟨rfl, hw4⟩))
  rw [← hw4]
  have hs3 : w.heap.size ≤ w3.heap.size := Nat.le_trans hb2.size hb3.size
  have hs4 : w4.heap.size = w3.heap.size + 2 := by rw [hw4]; simp
  have HB3 := Lib.hid (chain hb2 hb3)
  have HB34 := Lib.hid (show Below w3.heap.size w3 w4 by
    rw [hw4]
    have h1 : Below w3.heap.size w3 (w3.alloc (.cells #[.slice none 0 0] TDs)) := (bl w3).alloc (Nat.le_refl _) _
    exact h1.alloc h1.size _)
  have HBX := Lib.hid (show Boxed w4 w3.heap.size TDs (.slice none 0 0) by
    rw [hw4]
    exact (Boxed.new w3 TDs _).alloc _)
  have HPX := Lib.hid (show w4.heap[w3.heap.size + 1]? = some (.cells #[.slice A n c, .slice B n' d] T2P (0, 0)) by
    rw [hw4]
    have h := heap_alloc_new (w3.alloc (.cells #[.slice none 0 0] TDs)) (.cells #[.slice A n c, .slice B n' d] T2P)
    rwa [show (w3.alloc (.cells #[.slice none 0 0] TDs)).heap.size = w3.heap.size + 1 by simp] at h)
  clear hw4 hb2 hb3 CRA CRB CST
  refine range_strch (gf := 35) (lb := #[.pointer (some ⟨w3.heap.size + 1, 0, none⟩)]) rfl (enters_of Try.func35 (by kernel_rfl) rfl) (· < w.heap.size) a b rfl (fun e W => OfS w w3.heap.size a b e W)
    (fun s A' B' h hs => h.it hs (by omega)) (fun s A' l o o' h hl ho hc => h.obj (by omega) ho hc o') ?run ?h0
    (fun f t o1 o2 b' => { tmps := #[Value.slice A n c, Value.slice B n' d, undef, undef, Value.slice none 0 0, Value.pointer (some { block := w3.heap.size, off := 0 }), Value.pointer (some { block := b', off := 0 }), Value.pointer (some { block := b' + 1, off := 0 }), Value.slice A n c, Value.bool true, Value.bool false, Value.bool false, Value.slice B n' d, Value.bool true, Value.bool false, Value.bool false, Value.slice A n c, Value.slice B n' d, Value.agg #[Value.slice A n c, Value.slice B n' d], Value.func (Fn.func 35) #[] #[Value.pointer (some { block := w3.heap.size + 1, off := 0 })], Value.agg #[Value.int .i64 f, Value.int .i64 t], Value.agg #[Value.bool o1.isSome, Value.slice (faO o1) (fsO o1).length (fcO o1), Value.bool o2.isSome, Value.slice (faO o2) (fsO o2).length (fcO o2)], undef, undef, undef, undef, undef, undef, undef, undef, undef, undef, undef, undef, undef, undef, undef, undef, undef, undef, undef, undef, undef, undef], defers := [] }) ?assign ?body ?done
  case run =>
    intro l J W hb hsz hJ hY h0
    refine strch_in 3 (· < w.heap.size) a b l (w3.heap.size + 1) J W hJ hY (fun k (hk : k < w.heap.size) => by omega) A B n c n' d ((hb.block _ (by omega)).trans HPX.out) ?_ ?_ (tl_rs HTA.out) (tl_rs HTB.out) (by have := HNA.out; omega) (by have := HNB.out; omega) h0
    · exact (pcs_rowB HPA.out).low fun k (hk : k < w.heap.size) => (hb.block k (by omega)).trans ((HB34.out.block k (by omega)).trans (HB3.out.block k hk))
    · exact (pcs_rowB HPB.out).low fun k (hk : k < w.heap.size) => (hb.block k (by omega)).trans ((HB34.out.block k (by omega)).trans (HB3.out.block k hk))
  case h0 => exact ⟨chain HB3.out HB34.out, _, [], HBX.out, ownE_nil _ _, .start a b, fun c hc => by simp at hc⟩
  case assign =>
    intro l f t o1 o2 W K hK
    rw [bothV_eq]
    rw [ocB_eq] at hK
    gi_wp2
    exact hK
  case body =>
    rintro l f t o1 o2 W b' hI hst hb' hbs hbb
    obtain ⟨hbel, v, L, hv, hown, hof, hck⟩ := hI
    have HBEL := Lib.hid hbel
    have HV := Lib.hid hv
    have HOWN := Lib.hid hown
    have HOF := Lib.hid hof
    have HCK := Lib.hid hck
    have HST := Lib.hid hst
    have HPO1 := Lib.hid (pfo_of (fun p hp => (HPA.out.2 p hp).below hbel) hst.m1)
    have HPO2 := Lib.hid (pfo_of (fun p hp => (HPB.out.2 p hp).below hbel) hst.m2)
    have hf1 := fsO_few HFA.out hst.m1
    have hf2 := fsO_few HFB.out hst.m2
    have HF1 := Lib.hid hf1
    have HF2 := Lib.hid hf2
    have CSM := Lib.hid (psameo_any W o1 o2 HPO1.out HPO2.out (by omega) (by omega))
    rw [bothV_eq] at CSM
    have HBS := Lib.hid hbs
    have HBB := Lib.hid hbb
    have HLB := Lib.hid (Array.getElem?_eq_some_iff.1 hbs).1
    have HLC := Lib.hid (Array.getElem?_eq_some_iff.1 hbb).1
    have HLV := Lib.hid hv.lt
    have CC1 := Lib.hid (fun W' (h : Below W.heap.size W W') => cloneF_any W' (faO o1) (fcO o1) (fsO o1) (HPO1.out.2.1.below h) HPO1.out.2.2 (by omega))
    have CC2 := Lib.hid (fun W' (h : Below W.heap.size W W') => cloneF_any W' (faO o2) (fcO o2) (fsO o2) (HPO2.out.2.1.below h) HPO2.out.2.2 (by omega))
    rw [ocB_eq] at hbb
    have hB0 : w.heap.size ≤ w3.heap.size := hs3
    have HLEN := Lib.hid (show L.length ≤ 161 by have h1 := hof.few; have := HNA.out; have := HNB.out; omega)
    have s0 : W.cell? ⟨b', 0, none⟩ = some (.int .i64 f) := by simp [World.cell?, hbs]
    have s1 : W.cell? ⟨b', 1, none⟩ = some (.int .i64 t) := by simp [World.cell?, hbs]
    have y0 : W.cell? ⟨b' + 1, 0, none⟩ = some (.bool o1.isSome) := by simp [World.cell?, hbb]
    have y1 : W.cell? ⟨b' + 1, 1, none⟩ = some (.slice (faO o1) (fsO o1).length (fcO o1)) := by simp [World.cell?, hbb]
    have y2 : W.cell? ⟨b' + 1, 2, none⟩ = some (.bool o2.isSome) := by simp [World.cell?, hbb]
    have y3 : W.cell? ⟨b' + 1, 3, none⟩ = some (.slice (faO o2) (fsO o2).length (fcO o2)) := by simp [World.cell?, hbb]
    have x0 := hv.cell
    clear hbel hv hown hof hck hst hf1 hf2 hbs hbb
    by_cases hsm : sameO o1 o2 = true
    · rw [hsm] at CSM
      have HDQ := Lib.hid ((sameO_iff o1 o2).1 hsm)
      clear hsm
      gi_wp2_with (refine ⟨trivial, ?_⟩; gi_at_call 22; with_reducible refine (callsIn_inRound CSM.out).mono ?_; rintro e w5 ⟨rfl, hb5⟩; have HB5 := Lib.hid hb5; clear hb5)
      exact ⟨(keeps_below HB5.out).from _, .of_below HB5.out, OfS.kt (W := W) ⟨HBEL.out, v, L, HV.out, HOWN.out, HOF.out.skip HST.out HDQ.out, HCK.out⟩ (.of_below HB5.out) (chain HBEL.out HB5.out)⟩
    · have HDQ := Lib.hid (show ¬ o1.map Pc.fs = o2.map Pc.fs from fun h => hsm ((sameO_iff o1 o2).2 h))
      have hsm2 : sameO o1 o2 = false := by simpa using hsm
      rw [hsm2] at CSM
      clear hsm hsm2
      gi_wp2_with (refine ⟨trivial, ?_⟩; gi_at_call 22; with_reducible refine (callsIn_inRound CSM.out).mono ?_; rintro e w5 ⟨rfl, hb5⟩; have HB5 := Lib.hid hb5; clear hb5)
      have z0 := keepc HB5.out s0
      have z1 := keepc HB5.out s1
      have u0 := keepc HB5.out y0
      have u1 := keepc HB5.out y1
      have u2 := keepc HB5.out y2
      have u3 := keepc HB5.out y3
      have HB5D := Lib.hid (HB5.out.drew)
      refine region_inRound (SD b' f t o1 o2) (by kernel_rfl) (by kernel_rfl) ⟨z0, z1, u0, u1, u2, u3⟩ (fun hHeld => ?_)
      refine wpAnyH_take (i := 2) (oi := _) (v := .pointer (some ⟨b' + 1, 0, none⟩)) rfl (by kernel_rfl) (by kernel_rfl) (by kernel_rfl) (fun _ _ _ h => h) (Or.inl ⟨by rfl, ?_⟩) (by assumption) ?_
      · rintro Z ⟨h1, h2, h3, h4, h5, h6⟩
        go_simp
      try simp only [Act.put, List.setIfInBounds_toArray, List.set_cons_zero, List.set_cons_succ]
      refine wpAnyH_take (i := 3) (oi := _) (v := .pointer (some ⟨b' + 1, 0, none⟩)) rfl (by kernel_rfl) (by kernel_rfl) (by kernel_rfl) (fun _ _ _ h => h) (Or.inl ⟨by rfl, ?_⟩) (by assumption) ?_
      · rintro Z ⟨h1, h2, h3, h4, h5, h6⟩
        go_simp
      try simp only [Act.put, List.setIfInBounds_toArray, List.set_cons_zero, List.set_cons_succ]
      refine wpAnyH_take (i := 4) (oi := _) (v := .bool o1.isSome) rfl (by kernel_rfl) (by kernel_rfl) (by kernel_rfl) (fun _ _ _ h => h) (Or.inl ⟨by rfl, ?_⟩) (by assumption) ?_
      · rintro Z ⟨h1, h2, h3, h4, h5, h6⟩
        go_simp
      try simp only [Act.put, List.setIfInBounds_toArray, List.set_cons_zero, List.set_cons_succ]
      refine wpAnyH_take (i := 5) (oi := _) (v := .pointer (some ⟨b' + 1, 2, none⟩)) rfl (by kernel_rfl) (by kernel_rfl) (by kernel_rfl) (fun _ _ _ h => h) (Or.inl ⟨by rfl, ?_⟩) (by assumption) ?_
      · rintro Z ⟨h1, h2, h3, h4, h5, h6⟩
        go_simp
      try simp only [Act.put, List.setIfInBounds_toArray, List.set_cons_zero, List.set_cons_succ]
      refine wpAnyH_take (i := 6) (oi := _) (v := .pointer (some ⟨b' + 1, 2, none⟩)) rfl (by kernel_rfl) (by kernel_rfl) (by kernel_rfl) (fun _ _ _ h => h) (Or.inl ⟨by rfl, ?_⟩) (by assumption) ?_
      · rintro Z ⟨h1, h2, h3, h4, h5, h6⟩
        go_simp
      try simp only [Act.put, List.setIfInBounds_toArray, List.set_cons_zero, List.set_cons_succ]
      refine wpAnyH_take (i := 7) (oi := _) (v := .bool o2.isSome) rfl (by kernel_rfl) (by kernel_rfl) (by kernel_rfl) (fun _ _ _ h => h) (Or.inl ⟨by rfl, ?_⟩) (by assumption) ?_
      · rintro Z ⟨h1, h2, h3, h4, h5, h6⟩
        go_simp
      try simp only [Act.put, List.setIfInBounds_toArray, List.set_cons_zero, List.set_cons_succ]
      refine wpAnyH_take (i := 8) (oi := _) (v := .pointer (some ⟨b' + 1, 0, none⟩)) rfl (by kernel_rfl) (by kernel_rfl) (by kernel_rfl) (fun _ _ _ h => h) (Or.inl ⟨by rfl, ?_⟩) (by assumption) ?_
      · rintro Z ⟨h1, h2, h3, h4, h5, h6⟩
        go_simp
      try simp only [Act.put, List.setIfInBounds_toArray, List.set_cons_zero, List.set_cons_succ]
      refine wpAnyH_take (i := 9) (oi := _) (v := .pointer (some ⟨b' + 1, 1, none⟩)) rfl (by kernel_rfl) (by kernel_rfl) (by kernel_rfl) (fun _ _ _ h => h) (Or.inl ⟨by rfl, ?_⟩) (by assumption) ?_
      · rintro Z ⟨h1, h2, h3, h4, h5, h6⟩
        go_simp
      try simp only [Act.put, List.setIfInBounds_toArray, List.set_cons_zero, List.set_cons_succ]
      refine wpAnyH_take (i := 10) (oi := _) (v := .slice (faO o1) (fsO o1).length (fcO o1)) rfl (by kernel_rfl) (by kernel_rfl) (by kernel_rfl) (fun _ _ _ h => h) (Or.inl ⟨by rfl, ?_⟩) (by assumption) ?_
      · rintro Z ⟨h1, h2, h3, h4, h5, h6⟩
        go_simp
      try simp only [Act.put, List.setIfInBounds_toArray, List.set_cons_zero, List.set_cons_succ]
      refine wpAnyH_take (i := 12) (oi := _) (v := .pointer (some ⟨b' + 1, 2, none⟩)) rfl (by kernel_rfl) (by kernel_rfl) (by kernel_rfl) (fun _ _ _ h => h) (Or.inl ⟨by rfl, ?_⟩) (by assumption) ?_
      · rintro Z ⟨h1, h2, h3, h4, h5, h6⟩
        go_simp
      try simp only [Act.put, List.setIfInBounds_toArray, List.set_cons_zero, List.set_cons_succ]
      refine wpAnyH_take (i := 13) (oi := _) (v := .pointer (some ⟨b' + 1, 3, none⟩)) rfl (by kernel_rfl) (by kernel_rfl) (by kernel_rfl) (fun _ _ _ h => h) (Or.inl ⟨by rfl, ?_⟩) (by assumption) ?_
      · rintro Z ⟨h1, h2, h3, h4, h5, h6⟩
        go_simp
      try simp only [Act.put, List.setIfInBounds_toArray, List.set_cons_zero, List.set_cons_succ]
      refine wpAnyH_take (i := 14) (oi := _) (v := .slice (faO o2) (fsO o2).length (fcO o2)) rfl (by kernel_rfl) (by kernel_rfl) (by kernel_rfl) (fun _ _ _ h => h) (Or.inl ⟨by rfl, ?_⟩) (by assumption) ?_
      · rintro Z ⟨h1, h2, h3, h4, h5, h6⟩
        go_simp
      try simp only [Act.put, List.setIfInBounds_toArray, List.set_cons_zero, List.set_cons_succ]
      refine wpAnyH_take (i := 1) (oi := _) (v := .agg #[.int .i64 f, .int .i64 t]) rfl (by kernel_rfl) (by kernel_rfl) (by kernel_rfl) (fun _ _ _ h => h) (Or.inl ⟨by rfl, ?_⟩) (by assumption) ?_
      · rintro Z ⟨h1, h2, h3, h4, h5, h6⟩
        go_simp
      try simp only [Act.put, List.setIfInBounds_toArray, List.set_cons_zero, List.set_cons_succ]
      clear z0 z1 u0 u1 u2 u3 s0 s1 y0 y1 y2 y3
      refine wpAnyH_ready (rs := [0, 11]) (by kernel_rfl) (by simp) ?_
      refine AllReadyH.cons (o := _) rfl (fun K hK => ?_) ?_
      · skip
        have l0 := keepc HB5D.out x0
        go_simp
        refine hK.out _ _ hHeld (fun hHeld => ?_)
        clear hK K
        try simp only [Act.put, List.setIfInBounds_toArray, List.set_cons_zero, List.set_cons_succ]
        clear l0
        refine wpAnyH_ready (rs := [11]) (by kernel_rfl) (by simp) ?_
        refine AllReadyH.cons (o := _) rfl (fun K hK => ?_) ?_
        · skip
          go_simp
          go_at_call 23
          with_reducible refine (CC1.out _ HB5D.out).mono ?_
          rintro e w8 ⟨u, rfl, hO⟩
          obtain ⟨A1, c1, rfl, hF, hl, hn, hfb⟩ := FB.new hO
          have HG1 := Lib.hid (show FG w8 A1 c1 (fsO o1) from ⟨hF, hl, hn, hfb⟩)
          have HC1 := Lib.hid hO.bel
          have HB8 := Lib.hid (chain HB5D.out hO.bel)
          clear hO hF hl hn hfb
          go_wp2_with fail
          refine hK.out _ _ (sd_of ((HB8.out.block _ HLB.out).trans HBS.out) ((HB8.out.block _ HLC.out).trans HBB.out)) (fun hHeld => ?_)
          clear hK K
          try simp only [Act.put, List.setIfInBounds_toArray, List.set_cons_zero, List.set_cons_succ]
          refine wpAnyH_ready (rs := [15]) (by kernel_rfl) (by simp) ?_
          refine AllReadyH.cons (o := _) rfl (fun K hK => ?_) ?_
          · skip
            go_simp
            go_at_call 23
            with_reducible refine (CC2.out _ HB8.out).mono ?_
            rintro e w9 ⟨u, rfl, hO⟩
            obtain ⟨A2, c2, rfl, hF, hl, hn, hfb⟩ := FB.new hO
            have HG2 := Lib.hid (show FG w9 A2 c2 (fsO o2) from ⟨hF, hl, hn, hfb⟩)
            have HC2 := Lib.hid hO.bel
            have HB9 := Lib.hid (chain HB8.out hO.bel)
            clear hO hF hl hn hfb
            go_wp2_with fail
            refine hK.out _ _ (sd_of ((HB9.out.block _ HLB.out).trans HBS.out) ((HB9.out.block _ HLC.out).trans HBB.out)) (fun hHeld => ?_)
            clear hK K
            try simp only [Act.put, List.setIfInBounds_toArray, List.set_cons_zero, List.set_cons_succ]
            refine wpAnyH_take (i := 16) (oi := _) (v := .agg #[.int .i64 f, .int .i64 t, .bool o1.isSome, .bool o2.isSome, .slice A1 (fsO o1).length c1, .slice A2 (fsO o2).length c2]) rfl (by kernel_rfl) (by kernel_rfl) (by kernel_rfl) (fun _ _ _ h => h) (Or.inl ⟨by rfl, ?_⟩) (by assumption) ?_
            · rintro Z ⟨h1, h2, h3, h4, h5, h6⟩
              go_simp
            try simp only [Act.put, List.setIfInBounds_toArray, List.set_cons_zero, List.set_cons_succ]
            refine wpAnyH_ready (rs := [17]) (by kernel_rfl) (by simp) ?_
            refine AllReadyH.cons (o := _) rfl (fun K hK => ?_) ?_
            · skip
              have HB10 := Lib.hid (show Below W.heap.size W (w9.alloc (.cells #[.int .i64 f, .int .i64 t, .bool o1.isSome, .bool o2.isSome, .slice A1 (fsO o1).length c1, .slice A2 (fsO o2).length c2] TDc)) from HB9.out.alloc HB9.out.size _)
              go_simp
              refine hK.out _ _ (sd_of ((HB10.out.block _ HLB.out).trans HBS.out) ((HB10.out.block _ HLC.out).trans HBB.out)) (fun hHeld => ?_)
              clear hK K
              try simp only [Act.put, List.setIfInBounds_toArray, List.set_cons_zero, List.set_cons_succ]
              have HV9 := Lib.hid ((HB9.out.block _ HLV.out).trans HV.out)
              have HOWN9 := Lib.hid (ownE_below HOWN.out HB9.out)
              have HCK9 := Lib.hid (show ∀ d ∈ L, CKF w9 d from fun d hd => (HCK.out d hd).kt (.of_below HB9.out))
              have HC9 := Lib.hid (show CKF w9 ⟨f, t, o1.isSome, o2.isSome, A1, c1, fsO o1, A2, c2, fsO o2⟩ from FG.ckf (HG1.out.below HC2.out) HG2.out)
              refine wpAnyH_ready (rs := [18]) (by kernel_rfl) (by simp) ?_
              refine AllReadyH.cons (o := _) rfl (fun K hK => ?_) ?_
              · refine step_appE (E := ED12) (xs := [(⟨f, t, o1.isSome, o2.isSome, A1, c1, fsO o1, A2, c2, fsO o2⟩ : Ch)]) rfl (.tmp 24) (.tmp 41) rfl rfl rfl (World.ownsRow.alloc HOWN9.out _) rfl rfl (by have hrow := rowE_one (E := ED12) w9 (⟨f, t, o1.isSome, o2.isSome, A1, c1, fsO o1, A2, c2, fsO o2⟩ : Ch) #[.int .i64 f, .int .i64 t, .bool o1.isSome, .bool o2.isSome, .slice A1 (fsO o1).length c1, .slice A2 (fsO o2).length c2] rfl TDc; first | exact hrow | (simp at hrow ⊢; exact hrow)) (fun h => by cases h) (by have := HLEN.out; simp; omega) (by have := (chain HBEL.out HB10.out).size; simp at this ⊢; omega) ?_
                intro v' w11 hown' hg _
                have HPUT := Lib.hid (OfS.put (chain HBEL.out HB9.out) hB0 HV9.out HOWN9.out HCK9.out HC9.out hg hown' (HOF.out.put HTA.out HTB.out rfl HST.out HDQ.out rfl rfl rfl rfl))
                have k1 : w11.heap[b']? = some (ocS f t) := keptD HOWN9.out hg ((HB9.out.block _ HLB.out).trans HBS.out) (fun cur e => by injection e with _ e _; revert e; decide)
                have k2 : w11.heap[b' + 1]? = some (ocB o1 o2) := keptD HOWN9.out hg ((HB9.out.block _ HLC.out).trans HBB.out) (fun cur e => by injection e with _ e _; revert e; decide)
                have hbx : Boxed w11 w3.heap.size TDs v := ((show Boxed w9 w3.heap.size TDs v from HV9.out).alloc _).kept hg ((show Boxed w9 w3.heap.size TDs v from HV9.out).not_row (by decide) HOWN9.out)
                have hfz := hbx.frozen
                have hcz := hbx.cell
                have HK1 := Lib.hid k1
                have HK2 := Lib.hid k2
                have HNE := Lib.hid (show b' ≠ w3.heap.size ∧ b' + 1 ≠ w3.heap.size by omega)
                obtain ⟨g', n2, cap', hv'⟩ := own_atD hown' (by simp)
                clear hg hown' hbx k1 k2
                refine hK.out _ _ (sd_of HK1.out HK2.out) (fun hHeld => ?_)
                clear hK K
                try simp only [Act.put, List.setIfInBounds_toArray, List.set_cons_zero, List.set_cons_succ]
                refine wpAnyH_ready (rs := [19]) (by kernel_rfl) (by simp) ?_
                refine AllReadyH.cons (o := _) rfl (fun K hK => ?_) ?_
                · rw [hv']
                  go_simp
                  refine hK.out _ _ (sd_of ((heap_set2 _ _ HNE.out.1).trans HK1.out) ((heap_set2 _ _ HNE.out.2).trans HK2.out)) (fun hHeld => ?_)
                  refine wpAnyH_done (by kernel_rfl) ?_ _
                  refine ⟨rfl, ?_⟩
                  rw [← hv']
                  exact ⟨((keeps_below HB9.out).trans HPUT.out.2.1).from _, (KpX.of_below HB9.out).trans HPUT.out.2.2, HPUT.out.1⟩
                · exact AllReadyH.nil
              · exact AllReadyH.nil
            · exact AllReadyH.nil
          · exact AllReadyH.nil
        · exact AllReadyH.nil
      refine AllReadyH.cons (o := _) rfl (fun K hK => ?_) ?_
      · skip
        go_simp
        go_at_call 23
        with_reducible refine (CC1.out _ HB5D.out).mono ?_
        rintro e w8 ⟨u, rfl, hO⟩
        obtain ⟨A1, c1, rfl, hF, hl, hn, hfb⟩ := FB.new hO
        have HG1 := Lib.hid (show FG w8 A1 c1 (fsO o1) from ⟨hF, hl, hn, hfb⟩)
        have HC1 := Lib.hid hO.bel
        have HB8 := Lib.hid (chain HB5D.out hO.bel)
        clear hO hF hl hn hfb
        go_wp2_with fail
        refine hK.out _ _ (sd_of ((HB8.out.block _ HLB.out).trans HBS.out) ((HB8.out.block _ HLC.out).trans HBB.out)) (fun hHeld => ?_)
        clear hK K
        try simp only [Act.put, List.setIfInBounds_toArray, List.set_cons_zero, List.set_cons_succ]
        refine wpAnyH_ready (rs := [0, 15]) (by kernel_rfl) (by simp) ?_
        refine AllReadyH.cons (o := _) rfl (fun K hK => ?_) ?_
        · skip
          have l0 := keepc HB8.out x0
          go_simp
          refine hK.out _ _ hHeld (fun hHeld => ?_)
          clear hK K
          try simp only [Act.put, List.setIfInBounds_toArray, List.set_cons_zero, List.set_cons_succ]
          clear l0
          refine wpAnyH_ready (rs := [15]) (by kernel_rfl) (by simp) ?_
          refine AllReadyH.cons (o := _) rfl (fun K hK => ?_) ?_
          · skip
            go_simp
            go_at_call 23
            with_reducible refine (CC2.out _ HB8.out).mono ?_
            rintro e w9 ⟨u, rfl, hO⟩
            obtain ⟨A2, c2, rfl, hF, hl, hn, hfb⟩ := FB.new hO
            have HG2 := Lib.hid (show FG w9 A2 c2 (fsO o2) from ⟨hF, hl, hn, hfb⟩)
            have HC2 := Lib.hid hO.bel
            have HB9 := Lib.hid (chain HB8.out hO.bel)
            clear hO hF hl hn hfb
            go_wp2_with fail
            refine hK.out _ _ (sd_of ((HB9.out.block _ HLB.out).trans HBS.out) ((HB9.out.block _ HLC.out).trans HBB.out)) (fun hHeld => ?_)
            clear hK K
            try simp only [Act.put, List.setIfInBounds_toArray, List.set_cons_zero, List.set_cons_succ]
            refine wpAnyH_take (i := 16) (oi := _) (v := .agg #[.int .i64 f, .int .i64 t, .bool o1.isSome, .bool o2.isSome, .slice A1 (fsO o1).length c1, .slice A2 (fsO o2).length c2]) rfl (by kernel_rfl) (by kernel_rfl) (by kernel_rfl) (fun _ _ _ h => h) (Or.inl ⟨by rfl, ?_⟩) (by assumption) ?_
            · rintro Z ⟨h1, h2, h3, h4, h5, h6⟩
              go_simp
            try simp only [Act.put, List.setIfInBounds_toArray, List.set_cons_zero, List.set_cons_succ]
            refine wpAnyH_ready (rs := [17]) (by kernel_rfl) (by simp) ?_
            refine AllReadyH.cons (o := _) rfl (fun K hK => ?_) ?_
            · skip
              have HB10 := Lib.hid (show Below W.heap.size W (w9.alloc (.cells #[.int .i64 f, .int .i64 t, .bool o1.isSome, .bool o2.isSome, .slice A1 (fsO o1).length c1, .slice A2 (fsO o2).length c2] TDc)) from HB9.out.alloc HB9.out.size _)
              go_simp
              refine hK.out _ _ (sd_of ((HB10.out.block _ HLB.out).trans HBS.out) ((HB10.out.block _ HLC.out).trans HBB.out)) (fun hHeld => ?_)
              clear hK K
              try simp only [Act.put, List.setIfInBounds_toArray, List.set_cons_zero, List.set_cons_succ]
              have HV9 := Lib.hid ((HB9.out.block _ HLV.out).trans HV.out)
              have HOWN9 := Lib.hid (ownE_below HOWN.out HB9.out)
              have HCK9 := Lib.hid (show ∀ d ∈ L, CKF w9 d from fun d hd => (HCK.out d hd).kt (.of_below HB9.out))
              have HC9 := Lib.hid (show CKF w9 ⟨f, t, o1.isSome, o2.isSome, A1, c1, fsO o1, A2, c2, fsO o2⟩ from FG.ckf (HG1.out.below HC2.out) HG2.out)
              refine wpAnyH_ready (rs := [18]) (by kernel_rfl) (by simp) ?_
              refine AllReadyH.cons (o := _) rfl (fun K hK => ?_) ?_
              · refine step_appE (E := ED12) (xs := [(⟨f, t, o1.isSome, o2.isSome, A1, c1, fsO o1, A2, c2, fsO o2⟩ : Ch)]) rfl (.tmp 24) (.tmp 41) rfl rfl rfl (World.ownsRow.alloc HOWN9.out _) rfl rfl (by have hrow := rowE_one (E := ED12) w9 (⟨f, t, o1.isSome, o2.isSome, A1, c1, fsO o1, A2, c2, fsO o2⟩ : Ch) #[.int .i64 f, .int .i64 t, .bool o1.isSome, .bool o2.isSome, .slice A1 (fsO o1).length c1, .slice A2 (fsO o2).length c2] rfl TDc; first | exact hrow | (simp at hrow ⊢; exact hrow)) (fun h => by cases h) (by have := HLEN.out; simp; omega) (by have := (chain HBEL.out HB10.out).size; simp at this ⊢; omega) ?_
                intro v' w11 hown' hg _
                have HPUT := Lib.hid (OfS.put (chain HBEL.out HB9.out) hB0 HV9.out HOWN9.out HCK9.out HC9.out hg hown' (HOF.out.put HTA.out HTB.out rfl HST.out HDQ.out rfl rfl rfl rfl))
                have k1 : w11.heap[b']? = some (ocS f t) := keptD HOWN9.out hg ((HB9.out.block _ HLB.out).trans HBS.out) (fun cur e => by injection e with _ e _; revert e; decide)
                have k2 : w11.heap[b' + 1]? = some (ocB o1 o2) := keptD HOWN9.out hg ((HB9.out.block _ HLC.out).trans HBB.out) (fun cur e => by injection e with _ e _; revert e; decide)
                have hbx : Boxed w11 w3.heap.size TDs v := ((show Boxed w9 w3.heap.size TDs v from HV9.out).alloc _).kept hg ((show Boxed w9 w3.heap.size TDs v from HV9.out).not_row (by decide) HOWN9.out)
                have hfz := hbx.frozen
                have hcz := hbx.cell
                have HK1 := Lib.hid k1
                have HK2 := Lib.hid k2
                have HNE := Lib.hid (show b' ≠ w3.heap.size ∧ b' + 1 ≠ w3.heap.size by omega)
                obtain ⟨g', n2, cap', hv'⟩ := own_atD hown' (by simp)
                clear hg hown' hbx k1 k2
                refine hK.out _ _ (sd_of HK1.out HK2.out) (fun hHeld => ?_)
                clear hK K
                try simp only [Act.put, List.setIfInBounds_toArray, List.set_cons_zero, List.set_cons_succ]
                refine wpAnyH_ready (rs := [19]) (by kernel_rfl) (by simp) ?_
                refine AllReadyH.cons (o := _) rfl (fun K hK => ?_) ?_
                · rw [hv']
                  go_simp
                  refine hK.out _ _ (sd_of ((heap_set2 _ _ HNE.out.1).trans HK1.out) ((heap_set2 _ _ HNE.out.2).trans HK2.out)) (fun hHeld => ?_)
                  refine wpAnyH_done (by kernel_rfl) ?_ _
                  refine ⟨rfl, ?_⟩
                  rw [← hv']
                  exact ⟨((keeps_below HB9.out).trans HPUT.out.2.1).from _, (KpX.of_below HB9.out).trans HPUT.out.2.2, HPUT.out.1⟩
                · exact AllReadyH.nil
              · exact AllReadyH.nil
            · exact AllReadyH.nil
          · exact AllReadyH.nil
        refine AllReadyH.cons (o := _) rfl (fun K hK => ?_) ?_
        · skip
          go_simp
          go_at_call 23
          with_reducible refine (CC2.out _ HB8.out).mono ?_
          rintro e w9 ⟨u, rfl, hO⟩
          obtain ⟨A2, c2, rfl, hF, hl, hn, hfb⟩ := FB.new hO
          have HG2 := Lib.hid (show FG w9 A2 c2 (fsO o2) from ⟨hF, hl, hn, hfb⟩)
          have HC2 := Lib.hid hO.bel
          have HB9 := Lib.hid (chain HB8.out hO.bel)
          clear hO hF hl hn hfb
          go_wp2_with fail
          refine hK.out _ _ (sd_of ((HB9.out.block _ HLB.out).trans HBS.out) ((HB9.out.block _ HLC.out).trans HBB.out)) (fun hHeld => ?_)
          clear hK K
          try simp only [Act.put, List.setIfInBounds_toArray, List.set_cons_zero, List.set_cons_succ]
          refine wpAnyH_take (i := 16) (oi := _) (v := .agg #[.int .i64 f, .int .i64 t, .bool o1.isSome, .bool o2.isSome, .slice A1 (fsO o1).length c1, .slice A2 (fsO o2).length c2]) rfl (by kernel_rfl) (by kernel_rfl) (by kernel_rfl) (fun _ _ _ h => h) (Or.inl ⟨by rfl, ?_⟩) (by assumption) ?_
          · rintro Z ⟨h1, h2, h3, h4, h5, h6⟩
            go_simp
          try simp only [Act.put, List.setIfInBounds_toArray, List.set_cons_zero, List.set_cons_succ]
          have HVC9 := Lib.hid (keepc HB9.out x0)
          have HVC10 := Lib.hid (keepc (show Below W.heap.size W (w9.alloc (.cells #[.int .i64 f, .int .i64 t, .bool o1.isSome, .bool o2.isSome, .slice A1 (fsO o1).length c1, .slice A2 (fsO o2).length c2] TDc)) from HB9.out.alloc HB9.out.size _) x0)
          refine wpAnyH_ready (rs := [0, 17]) (by kernel_rfl) (by simp) ?_
          refine AllReadyH.cons (o := _) rfl (fun K hK => ?_) ?_
          · skip
            have l0 := HVC9.out
            go_simp
            refine hK.out _ _ hHeld (fun hHeld => ?_)
            clear hK K
            try simp only [Act.put, List.setIfInBounds_toArray, List.set_cons_zero, List.set_cons_succ]
            clear l0
            refine wpAnyH_ready (rs := [17]) (by kernel_rfl) (by simp) ?_
            refine AllReadyH.cons (o := _) rfl (fun K hK => ?_) ?_
            · skip
              have HB10 := Lib.hid (show Below W.heap.size W (w9.alloc (.cells #[.int .i64 f, .int .i64 t, .bool o1.isSome, .bool o2.isSome, .slice A1 (fsO o1).length c1, .slice A2 (fsO o2).length c2] TDc)) from HB9.out.alloc HB9.out.size _)
              go_simp
              refine hK.out _ _ (sd_of ((HB10.out.block _ HLB.out).trans HBS.out) ((HB10.out.block _ HLC.out).trans HBB.out)) (fun hHeld => ?_)
              clear hK K
              try simp only [Act.put, List.setIfInBounds_toArray, List.set_cons_zero, List.set_cons_succ]
              have HV9 := Lib.hid ((HB9.out.block _ HLV.out).trans HV.out)
              have HOWN9 := Lib.hid (ownE_below HOWN.out HB9.out)
              have HCK9 := Lib.hid (show ∀ d ∈ L, CKF w9 d from fun d hd => (HCK.out d hd).kt (.of_below HB9.out))
              have HC9 := Lib.hid (show CKF w9 ⟨f, t, o1.isSome, o2.isSome, A1, c1, fsO o1, A2, c2, fsO o2⟩ from FG.ckf (HG1.out.below HC2.out) HG2.out)
              refine wpAnyH_ready (rs := [18]) (by kernel_rfl) (by simp) ?_
              refine AllReadyH.cons (o := _) rfl (fun K hK => ?_) ?_
              · refine step_appE (E := ED12) (xs := [(⟨f, t, o1.isSome, o2.isSome, A1, c1, fsO o1, A2, c2, fsO o2⟩ : Ch)]) rfl (.tmp 24) (.tmp 41) rfl rfl rfl (World.ownsRow.alloc HOWN9.out _) rfl rfl (by have hrow := rowE_one (E := ED12) w9 (⟨f, t, o1.isSome, o2.isSome, A1, c1, fsO o1, A2, c2, fsO o2⟩ : Ch) #[.int .i64 f, .int .i64 t, .bool o1.isSome, .bool o2.isSome, .slice A1 (fsO o1).length c1, .slice A2 (fsO o2).length c2] rfl TDc; first | exact hrow | (simp at hrow ⊢; exact hrow)) (fun h => by cases h) (by have := HLEN.out; simp; omega) (by have := (chain HBEL.out HB10.out).size; simp at this ⊢; omega) ?_
                intro v' w11 hown' hg _
                have HPUT := Lib.hid (OfS.put (chain HBEL.out HB9.out) hB0 HV9.out HOWN9.out HCK9.out HC9.out hg hown' (HOF.out.put HTA.out HTB.out rfl HST.out HDQ.out rfl rfl rfl rfl))
                have k1 : w11.heap[b']? = some (ocS f t) := keptD HOWN9.out hg ((HB9.out.block _ HLB.out).trans HBS.out) (fun cur e => by injection e with _ e _; revert e; decide)
                have k2 : w11.heap[b' + 1]? = some (ocB o1 o2) := keptD HOWN9.out hg ((HB9.out.block _ HLC.out).trans HBB.out) (fun cur e => by injection e with _ e _; revert e; decide)
                have hbx : Boxed w11 w3.heap.size TDs v := ((show Boxed w9 w3.heap.size TDs v from HV9.out).alloc _).kept hg ((show Boxed w9 w3.heap.size TDs v from HV9.out).not_row (by decide) HOWN9.out)
                have hfz := hbx.frozen
                have hcz := hbx.cell
                have HK1 := Lib.hid k1
                have HK2 := Lib.hid k2
                have HNE := Lib.hid (show b' ≠ w3.heap.size ∧ b' + 1 ≠ w3.heap.size by omega)
                obtain ⟨g', n2, cap', hv'⟩ := own_atD hown' (by simp)
                clear hg hown' hbx k1 k2
                refine hK.out _ _ (sd_of HK1.out HK2.out) (fun hHeld => ?_)
                clear hK K
                try simp only [Act.put, List.setIfInBounds_toArray, List.set_cons_zero, List.set_cons_succ]
                refine wpAnyH_ready (rs := [19]) (by kernel_rfl) (by simp) ?_
                refine AllReadyH.cons (o := _) rfl (fun K hK => ?_) ?_
                · rw [hv']
                  go_simp
                  refine hK.out _ _ (sd_of ((heap_set2 _ _ HNE.out.1).trans HK1.out) ((heap_set2 _ _ HNE.out.2).trans HK2.out)) (fun hHeld => ?_)
                  refine wpAnyH_done (by kernel_rfl) ?_ _
                  refine ⟨rfl, ?_⟩
                  rw [← hv']
                  exact ⟨((keeps_below HB9.out).trans HPUT.out.2.1).from _, (KpX.of_below HB9.out).trans HPUT.out.2.2, HPUT.out.1⟩
                · exact AllReadyH.nil
              · exact AllReadyH.nil
            · exact AllReadyH.nil
          refine AllReadyH.cons (o := _) rfl (fun K hK => ?_) ?_
          · skip
            have HB10 := Lib.hid (show Below W.heap.size W (w9.alloc (.cells #[.int .i64 f, .int .i64 t, .bool o1.isSome, .bool o2.isSome, .slice A1 (fsO o1).length c1, .slice A2 (fsO o2).length c2] TDc)) from HB9.out.alloc HB9.out.size _)
            go_simp
            refine hK.out _ _ (sd_of ((HB10.out.block _ HLB.out).trans HBS.out) ((HB10.out.block _ HLC.out).trans HBB.out)) (fun hHeld => ?_)
            clear hK K
            try simp only [Act.put, List.setIfInBounds_toArray, List.set_cons_zero, List.set_cons_succ]
            refine wpAnyH_ready (rs := [0]) (by kernel_rfl) (by simp) ?_
            refine AllReadyH.cons (o := _) rfl (fun K hK => ?_) ?_
            · skip
              have l0 := HVC10.out
              go_simp
              refine hK.out _ _ hHeld (fun hHeld => ?_)
              clear hK K
              try simp only [Act.put, List.setIfInBounds_toArray, List.set_cons_zero, List.set_cons_succ]
              clear l0
              have HV9 := Lib.hid ((HB9.out.block _ HLV.out).trans HV.out)
              have HOWN9 := Lib.hid (ownE_below HOWN.out HB9.out)
              have HCK9 := Lib.hid (show ∀ d ∈ L, CKF w9 d from fun d hd => (HCK.out d hd).kt (.of_below HB9.out))
              have HC9 := Lib.hid (show CKF w9 ⟨f, t, o1.isSome, o2.isSome, A1, c1, fsO o1, A2, c2, fsO o2⟩ from FG.ckf (HG1.out.below HC2.out) HG2.out)
              refine wpAnyH_ready (rs := [18]) (by kernel_rfl) (by simp) ?_
              refine AllReadyH.cons (o := _) rfl (fun K hK => ?_) ?_
              · refine step_appE (E := ED12) (xs := [(⟨f, t, o1.isSome, o2.isSome, A1, c1, fsO o1, A2, c2, fsO o2⟩ : Ch)]) rfl (.tmp 24) (.tmp 41) rfl rfl rfl (World.ownsRow.alloc HOWN9.out _) rfl rfl (by have hrow := rowE_one (E := ED12) w9 (⟨f, t, o1.isSome, o2.isSome, A1, c1, fsO o1, A2, c2, fsO o2⟩ : Ch) #[.int .i64 f, .int .i64 t, .bool o1.isSome, .bool o2.isSome, .slice A1 (fsO o1).length c1, .slice A2 (fsO o2).length c2] rfl TDc; first | exact hrow | (simp at hrow ⊢; exact hrow)) (fun h => by cases h) (by have := HLEN.out; simp; omega) (by have := (chain HBEL.out HB10.out).size; simp at this ⊢; omega) ?_
                intro v' w11 hown' hg _
                have HPUT := Lib.hid (OfS.put (chain HBEL.out HB9.out) hB0 HV9.out HOWN9.out HCK9.out HC9.out hg hown' (HOF.out.put HTA.out HTB.out rfl HST.out HDQ.out rfl rfl rfl rfl))
                have k1 : w11.heap[b']? = some (ocS f t) := keptD HOWN9.out hg ((HB9.out.block _ HLB.out).trans HBS.out) (fun cur e => by injection e with _ e _; revert e; decide)
                have k2 : w11.heap[b' + 1]? = some (ocB o1 o2) := keptD HOWN9.out hg ((HB9.out.block _ HLC.out).trans HBB.out) (fun cur e => by injection e with _ e _; revert e; decide)
                have hbx : Boxed w11 w3.heap.size TDs v := ((show Boxed w9 w3.heap.size TDs v from HV9.out).alloc _).kept hg ((show Boxed w9 w3.heap.size TDs v from HV9.out).not_row (by decide) HOWN9.out)
                have hfz := hbx.frozen
                have hcz := hbx.cell
                have HK1 := Lib.hid k1
                have HK2 := Lib.hid k2
                have HNE := Lib.hid (show b' ≠ w3.heap.size ∧ b' + 1 ≠ w3.heap.size by omega)
                obtain ⟨g', n2, cap', hv'⟩ := own_atD hown' (by simp)
                clear hg hown' hbx k1 k2
                refine hK.out _ _ (sd_of HK1.out HK2.out) (fun hHeld => ?_)
                clear hK K
                try simp only [Act.put, List.setIfInBounds_toArray, List.set_cons_zero, List.set_cons_succ]
                refine wpAnyH_ready (rs := [19]) (by kernel_rfl) (by simp) ?_
                refine AllReadyH.cons (o := _) rfl (fun K hK => ?_) ?_
                · rw [hv']
                  go_simp
                  refine hK.out _ _ (sd_of ((heap_set2 _ _ HNE.out.1).trans HK1.out) ((heap_set2 _ _ HNE.out.2).trans HK2.out)) (fun hHeld => ?_)
                  refine wpAnyH_done (by kernel_rfl) ?_ _
                  refine ⟨rfl, ?_⟩
                  rw [← hv']
                  exact ⟨((keeps_below HB9.out).trans HPUT.out.2.1).from _, (KpX.of_below HB9.out).trans HPUT.out.2.2, HPUT.out.1⟩
                · exact AllReadyH.nil
              · exact AllReadyH.nil
            · exact AllReadyH.nil
          exact AllReadyH.nil
        exact AllReadyH.nil
      exact AllReadyH.nil
  case done =>
    rintro D W hD ⟨hbel, v, L, hv, hown, hof, hck⟩ hK
    have x0 := hv.cell
    have HOF := Lib.hid hof
    have HR := Lib.hid (show OfR w v L W from ⟨hbel, hown, hck⟩)
    clear hbel hv hown hof hck
    gi_wp2
    refine leaves_all (fun W' => OfR w v L W') w4.heap.size (fun W' D' hD' h ho => h.obj (by omega) ho rfl _) ?_ [D] W (by simp) (fun D' hD' => by rw [List.mem_singleton.1 hD']; exact ⟨hD, hK⟩) HR.out
    intro W' hR
    refine ⟨_, results_tmp rfl _ _ _, v, rfl, ⟨L, hR.chs, HOF.out.done, by have h1 := HOF.out.few; have := HNA.out; have := HNB.out; omega⟩, hR.bel⟩

end Go.Proofs.Ytnopbhlhdecimaa

/-
  The program's rising: a list of versions of its own, in order by stamps.
-/
namespace Go.Proofs.Ytnopbhlhdecimaa
open Go.RowKit Go.Sort

/-- How stamps are told apart. -/
def cmpI (a b : Int) : Int := if a < b then -1 else if b < a then 1 else 0
def cfV (x y : Vr) : Int := cmpI x.st y.st
theorem stampV : StampLt cfV := fun x y => by
  unfold ltOf cfV cmpI
  by_cases h : x.st < y.st
  · simp [h]
  · by_cases h2 : y.st < x.st <;> simp [h, h2]
theorem isNaN_any (a : Int) (w : World) : Calls Try.prog 68 #[.int .i64 a] w fun e w' => e = .returned (.bool false) ∧ w' = w := by
  go_enter Try.func68, Try.ntmps68
  go_wp2_with fail
  go_ret
  exact ⟨by simp, rfl⟩
set_option maxHeartbeats 1000000 in
theorem compare_any (a b : Int) (w : World) : Calls Try.prog 52 #[.int .i64 a, .int .i64 b] w fun e w' => e = .returned (.int .i64 (cmpI a b)) ∧ w' = w := by
  have CN := Lib.hid isNaN_any
  by_cases h1 : a < b
  · have HE := Lib.hid (show cmpI a b = -1 by simp [cmpI, h1])
    go_enter Try.func52, Try.ntmps52
    go_wp2_with (go_at_call 68; (with_reducible refine (CN.out _ _).mono ?_); rintro e w2 ⟨rfl, h2⟩; obtain rfl := h2.symm)
    go_ret
    exact ⟨by rw [HE.out]; rfl, rfl⟩
  · by_cases h2 : b < a
    · have HE := Lib.hid (show cmpI a b = 1 by simp [cmpI, h1, h2])
      go_enter Try.func52, Try.ntmps52
      go_wp2_with (go_at_call 68; (with_reducible refine (CN.out _ _).mono ?_); rintro e w2 ⟨rfl, h2⟩; obtain rfl := h2.symm)
      go_ret
      exact ⟨by rw [HE.out]; rfl, rfl⟩
    · have HE := Lib.hid (show cmpI a b = 0 by simp [cmpI, h1, h2])
      go_enter Try.func52, Try.ntmps52
      go_wp2_with (go_at_call 68; (with_reducible refine (CN.out _ _).mono ?_); rintro e w2 ⟨rfl, h2⟩; obtain rfl := h2.symm)
      go_ret
      exact ⟨by rw [HE.out]; rfl, rfl⟩

end Go.Proofs.Ytnopbhlhdecimaa

/-
  The program's Clip: pieces are put one behind the other.
-/
namespace Go.Proofs.Ytnopbhlhdecimaa
open Go.RowKit

/-- Pieces that were put one behind the other. -/
structure PutAll (M L : List Pc) : Prop where
  tl : TL L
  le : ∀ q ∈ L, ∃ p ∈ M, q.t ≤ p.t
  fs : ∀ x, fsP L x = fsP M x
  len : L.length ≤ M.length
  few : ∀ q ∈ L, ∃ p ∈ M, q.fs = p.fs
theorem PutAll.nil : PutAll [] [] := ⟨trivial, by simp, fun _ => rfl, Nat.le_refl _, by simp⟩
theorem PutAll.step {M L : List Pc} {p : Pc} (h : PutAll M L) (hp : rightP p.f p.t = true) (hle : ∀ q ∈ M, q.t ≤ p.f) (A : Option Addr) (c : Nat) : PutAll (M ++ [p]) (putP L { p with fa := A, fc := c }) := by
  have hL : ∀ q ∈ L, q.t ≤ p.f := fun q hq => by
    obtain ⟨r, hr, h1⟩ := h.le q hq
    have := hle r hr
    omega
  have hpt := put_to (p := { p with fa := A, fc := c }) h.tl hp hL
  refine ⟨hpt.tl, fun q hq => ⟨p, by simp, hpt.le q hq⟩, fun x => ?_, ?_, fun q hq => ?_⟩
  · rw [hpt.fs, fsP_append, fsP_one, ← h.fs]
    show (if p.f ≤ x ∧ x < p.t then some p.fs else fsP L x) = _
    by_cases hx : p.f ≤ x ∧ x < p.t
    · rw [if_pos hx, fs_past (fun q hq => by have := hL q hq; omega)]
      simp only
      rw [if_pos (has_at hp hx.1 hx.2)]
    · rw [if_neg hx, if_neg (fun hh => by rw [hasP_iff] at hh; exact hx hh.2)]
      cases fsP L x <;> rfl
  · have := hpt.len
    have := h.len
    rw [List.length_append, List.length_singleton]; omega
  · rcases hpt.mem q hq with e | ⟨r, hr, e⟩
    · exact ⟨p, by simp, e⟩
    · obtain ⟨s, hs, e2⟩ := h.few r hr
      exact ⟨s, List.mem_append.2 (.inl hs), e.trans e2⟩
/-- Pieces that rise. -/
def RiseP (M : List Pc) : Prop := (∀ p ∈ M, rightP p.f p.t = true) ∧ M.Pairwise (fun p q => p.t ≤ q.f)
theorem tl_rise {l : List Pc} (h : TL l) : RiseP l := ⟨h.rights, (tl_pair h).imp fun k => k.1⟩
theorem RiseP.at {M : List Pc} (h : RiseP M) {k : Nat} {p : Pc} (hp : M[k]? = some p) : rightP p.f p.t = true ∧ ∀ q ∈ M.take k, q.t ≤ p.f := by
  refine ⟨h.1 p (List.mem_of_getElem? hp), fun q hq => ?_⟩
  obtain ⟨j, hj⟩ := List.mem_iff_getElem?.1 hq
  have hjk : j < k := by have := (List.getElem?_eq_some_iff.1 hj).1; rw [List.length_take] at this; omega
  rw [List.getElem?_take_of_lt hjk] at hj
  obtain ⟨h1, rfl⟩ := List.getElem?_eq_some_iff.1 hj
  obtain ⟨h2, rfl⟩ := List.getElem?_eq_some_iff.1 hp
  exact List.pairwise_iff_getElem.1 h.2 j k h1 h2 hjk

theorem putter_any (w : World) (B : Nat) : Calls Try.prog 56 #[.pointer (some ⟨B, 0, none⟩)] w fun e w' => e = .returned (.func (.func 69) #[] #[.pointer (some ⟨w.heap.size, 0, none⟩)]) ∧ w' = w.alloc (.cells #[.pointer (some ⟨B, 0, none⟩)] TPp) := by
  go_enter Try.func56, Try.ntmps56
  go_wp2_with fail
  go_ret
  exact ⟨rfl, rfl⟩
theorem PutB.start (w : World) : PutB (w.heap.size + 2) (w.heap.size + 1) w.heap.size [] (.slice none 0 0) ((w.alloc (.cells #[.slice none 0 0] TPs)).alloc (.cells #[.pointer (some ⟨w.heap.size, 0, none⟩)] TPp)) := by
  refine ⟨by omega, by omega, ?_, ?_, ownE_nil _ _, by simp⟩
  · have h := heap_alloc_new (w.alloc (.cells #[.slice none 0 0] TPs)) (.cells #[.pointer (some ⟨w.heap.size, 0, none⟩)] TPp)
    rw [show (w.alloc (.cells #[.slice none 0 0] TPs)).heap.size = w.heap.size + 1 by simp] at h
    exact h
  · have h := Boxed.new w TPs (.slice none 0 0)
    exact h.alloc _
theorem Kb.kb2 {B : Nat} {o2 : Option Nat} {W w w' : World} (h : Kb (some B) W w) (k : Kb2 (some B) o2 w w') (h2 : ∀ c, o2 = some c → W.heap.size ≤ c) : Kb (some B) W w' :=
  ⟨Nat.le_trans h.1 k.size, fun c hc hn => (k.block c (Nat.lt_of_lt_of_le hc h.1) hn (fun e => by have := h2 c e; omega)).trans (h.2 c hc hn)⟩
theorem clip_rise {a : Int × Int} {l : List Pc} (h : TL l) {t : Nat} {p q : Pc} (hp : l[t]? = some p) (hq : clipP a p = some q) : rightP q.f q.t = true ∧ ∀ r ∈ clipL a (l.take t), r.t ≤ q.f := by
  have c := clip_some hq
  refine ⟨c.1, fun r hr => ?_⟩
  obtain ⟨s, hs, hr⟩ := List.mem_filterMap.1 hr
  have d := clip_some hr
  have := ((tl_rise h).at hp).2 s hs
  omega

set_option maxHeartbeats 4000000 in
set_option maxRecDepth 100000 in
theorem ptclip_any (w : World) (a : Int × Int) (u : Value) (l : List Pc) (hl : PcsL w u l) (hn : l.length ≤ 1000) (hfs : ∀ p ∈ l, p.fs.length ≤ 1000000) : Calls Try.prog 49 #[.agg #[.int .i64 a.1, .int .i64 a.2], u] w fun e w' => ∃ x, e = .returned x ∧ HasTL w' x (clipG a l) ∧ Below w.heap.size w w' := by
  have CR := Lib.hid (fun w' (h : Below w.heap.size w w') => ptright_any w' u l (hl.below h) hn hfs)
  obtain ⟨⟨A, c, rfl, hA, hc, hnc⟩, hPF⟩ := hl
  have HA := Lib.hid hA
  have HPF := Lib.hid hPF
  have HFS := Lib.hid hfs
  obtain ⟨n, hnm⟩ : ∃ n, l.length = n := ⟨_, rfl⟩
  rw [hnm] at hn hc CR ⊢
  have HN := Lib.hid hnm
  obtain ⟨af, at', rfl⟩ : ∃ af at', a = (af, at') := ⟨a.1, a.2, rfl⟩
  have HB1 := Lib.hid (show Below w.heap.size w (w.alloc (ocS af at')) from (bl w).alloc (Nat.le_refl _) _)
  have HS1 := Lib.hid (boxS_new w af at')
  clear hA hc hnc hPF hnm hfs
  cases hr : rightT l with
  | false =>
    rw [hr] at CR
    have HG := Lib.hid (show ∀ x, clipG (af, at') l x = none from fun x => by unfold clipG; rw [hr]; rfl)
    clear hr
    go_enter Try.func49, Try.ntmps49
    go_wp2_with (go_at_call 20; (with_reducible refine (CR.out _ HB1.out).mono ?_); rintro e w2 ⟨rfl, hb2⟩)
    go_ret
    exact ⟨_, rfl, ⟨[], TimeL.nil _ _ HG.out⟩, chain HB1.out hb2⟩
  | true =>
    rw [hr] at CR
    have HTL := Lib.hid ((rightT_iff l).1 hr)
    have HG := Lib.hid (show ∀ x, fsP (clipL (af, at') l) x = clipG (af, at') l x from fun x => by unfold clipG; rw [hr]; rfl)
    clear hr
    go_enter Try.func49, Try.ntmps49
    go_wp2_with (first
      | (go_at_call 20; (with_reducible refine (CR.out _ HB1.out).mono ?_); rintro e w2 ⟨rfl, hb2⟩; have HB2 := Lib.hid hb2; clear hb2)
      | (go_at_call 56; (with_reducible refine (putter_any _ _).mono ?_); rintro e w3 ⟨rfl, hw3⟩; have HW3 := Lib.hid hw3; clear hw3))
    refine abstract_worldW (fun W => Below w.heap.size w W ∧ BoxS W w.heap.size af at' ∧ PutB W.heap.size (w2.heap.size + 1) w2.heap.size [] (.slice none 0 0) W ∧ w.heap.size < w2.heap.size) ⟨?_, ?_, ?_, ?_⟩ ?_
    · rw [HW3.out]
      exact ((chain HB1.out HB2.out).alloc (chain HB1.out HB2.out).size _).alloc (by have := (chain HB1.out HB2.out).size; simp; omega) _
    · rw [HW3.out]
      exact (HS1.out.below HB2.out).below (((bl w2).alloc (Nat.le_refl _) _).alloc (by simp) _)
    · rw [HW3.out]
      have h := PutB.start w2
      rw [show w2.heap.size + 2 = ((w2.alloc (.cells #[.slice none 0 0] TPs)).alloc (.cells #[.pointer (some ⟨w2.heap.size, 0, none⟩)] TPp)).heap.size by simp] at h
      exact h
    · have := HB2.out.size
      simp at this
      omega
    rintro W3 ⟨hbw, hsb, hpb, hwB⟩
    have HS3 := Lib.hid hsb
    have HB3 := Lib.hid hbw
    have HP3 := Lib.hid hpb
    have HWB := Lib.hid hwB
    clear hbw hsb hpb hwB CR HW3 HB2
    generalize w2.heap.size = B at *
    go_loopw [17] (fun i wr => ∃ (t : Nat) (L : List Pc) (v : Value), t ≤ n ∧ i = .int .i64 (t : Nat) ∧ PutAll (clipL (af, at') (l.take t)) L ∧ PutB W3.heap.size (B + 1) B L v wr ∧ Kb (some B) W3 wr ∧ Below w.heap.size w wr) (fun i _ => n - (intOf i).toNat)
    case atStart => exact ⟨0, [], _, Nat.zero_le _, rfl, PutAll.nil, HP3.out, Kb.refl _ _, HB3.out⟩
    case round =>
      obtain ⟨t, L, v, ht, rfl, hPA, hPB, hKB, hBW⟩ := hrel
      have HPA := Lib.hid hPA
      have HPB := Lib.hid hPB
      have HKB := Lib.hid hKB
      have HBW := Lib.hid hBW
      clear hPA hPB hKB hBW
      by_cases hlt : t < n
      · have hlt' : (t : Int) < (n : Int) := by omega
        obtain ⟨p, hx⟩ : ∃ p, l[t]? = some p := ⟨_, List.getElem?_eq_getElem (by have := HN.out; omega)⟩
        obtain ⟨g, off, rfl, hX⟩ := (HA.out.below HBW.out).cells3 hx
        have HX := Lib.hid hX
        have HSZ := Lib.hid (show W3.heap.size ≤ wr.heap.size from HKB.out.1)
        have hSB : BoxS wr w.heap.size af at' := ⟨HKB.out.cell HS3.out.1 (fun e => by injection e with e; have := HWB.out; omega), HKB.out.cell HS3.out.2 (fun e => by injection e with e; have := HWB.out; omega)⟩
        have HSB := Lib.hid hSB
        have HB4 := Lib.hid (show Below wr.heap.size wr (wr.alloc (ocP p)) from (bl wr).alloc (Nat.le_refl _) _)
        obtain ⟨y0, y1⟩ := hSB.below HB4.out
        have CM := Lib.hid (fun w => Co.meet_any af at' p.f p.t w)
        have HBX := Lib.hid (show ∀ w', Below (wr.alloc (ocP p)).heap.size (wr.alloc (ocP p)) w' → BoxP w' wr.heap.size p from fun w' h => (boxP_new wr p).below h)
        have HPP := Lib.hid (show PF w p from HPF.out p (List.mem_of_getElem? hx))
        have HPL := Lib.hid (show p.fs.length ≤ 1000000 from HFS.out p (List.mem_of_getElem? hx))
        have hstep := clip_next (a := (af, at')) hx
        have NXF := Lib.hid (show Co.meetB af at' p.f p.t = false → clipL (af, at') (l.take t) = clipL (af, at') (l.take (t + 1)) from fun h => by rw [hstep]; unfold clipP; rw [show Co.meetB (af, at').1 (af, at').2 p.f p.t = false from h]; simp)
        have NXT := Lib.hid (show Co.meetB af at' p.f p.t = true → (clipL (af, at') (l.take t) ++ [⟨Co.meetF af at' p.f p.t, Co.meetT af at' p.f p.t, p.fa, p.fc, p.fs⟩] = clipL (af, at') (l.take (t + 1))) ∧ rightP (Co.meetF af at' p.f p.t) (Co.meetT af at' p.f p.t) = true ∧ ∀ r ∈ clipL (af, at') (l.take t), r.t ≤ Co.meetF af at' p.f p.t from fun h => by
          have hc : clipP (af, at') p = some ⟨Co.meetF af at' p.f p.t, Co.meetT af at' p.f p.t, p.fa, p.fc, p.fs⟩ := by unfold clipP; rw [if_pos h]
          have hri := clip_rise HTL.out hx hc
          refine ⟨?_, hri⟩
          rw [hstep, hc]; rfl)
        have HLEN := Lib.hid (show L.length ≤ 1000 by have h1 := HPA.out.len; have h2 := clip_length (af, at') (l.take t); rw [List.length_take] at h2; omega)
        have HLF := Lib.hid (show ∀ q ∈ L, q.fs.length ≤ 1000000 from fun q hq => by
          obtain ⟨r, hr, e⟩ := HPA.out.few q hq
          obtain ⟨s, hs, hr⟩ := List.mem_filterMap.1 hr
          rw [e, (clip_some hr).2.2.2.1]
          exact HFS.out s (List.mem_of_mem_take hs))
        obtain ⟨z0, z1, z2⟩ := hX
        clear hx hstep hSB
        generalize Co.meetF af at' p.f p.t = mf at *
        generalize Co.meetT af at' p.f p.t = mt at *
        generalize Co.meetB af at' p.f p.t = mb at *
        cases mb with
        | false =>
          have NX := Lib.hid (NXF.out rfl)
          go_wp2_with (go_at_call 57; (with_reducible refine (CM.out _).mono ?_); rintro e w5 ⟨rfl, hb5⟩; have HB5 := Lib.hid (chain HB4.out hb5); clear hb5)
          have HB6 := Lib.hid (HB5.out.alloc HB5.out.size (ocS mf mt))
          exact ⟨⟨t + 1, L, v, by omega, by go_num, by rw [← NX.out]; exact HPA.out, HPB.out.below HB6.out, HKB.out.trans (Kb.of_below HB6.out), chain HBW.out HB6.out⟩, by simp [intOf] <;> omega⟩
        | true =>
          obtain ⟨nx1, nx2, nx3⟩ := NXT.out rfl
          have NX1 := Lib.hid nx1
          have NX2 := Lib.hid nx2
          have NX3 := Lib.hid nx3
          clear nx1 nx2 nx3 NXT NXF
          go_wp2_with (first
            | (go_at_call 57; (with_reducible refine (CM.out _).mono ?_); rintro e w5 ⟨rfl, hb5⟩; obtain ⟨x0, x1, x2⟩ := HBX.out _ (hb5.alloc hb5.size (ocS mf mt)); have HB6 := Lib.hid ((chain HB4.out hb5).alloc (chain HB4.out hb5).size (ocS mf mt)); have CP := Lib.hid (pput_any (p := ⟨mf, mt, p.fa, p.fc, p.fs⟩) (HPB.out.below HB6.out) (Nat.le_trans HSZ.out HB6.out.size) (HPP.out.below (chain HBW.out HB6.out)) (Nat.le_trans HLEN.out (by omega)) HLF.out HPL.out); clear hb5)
            | (go_at_call 69; (with_reducible refine CP.out.mono ?_); rintro e w6 ⟨rfl, v', A6, c6, hpb6, hk6⟩; have HPB6 := Lib.hid hpb6; have HK6 := Lib.hid hk6; clear hpb6 hk6))
          have hv : ∀ c, v.ownBlock = some c → W3.heap.size ≤ c := fun c e => (HPB.out.lt e).1
          refine ⟨⟨t + 1, _, v', by omega, by go_num, ?_, HPB6.out, (HKB.out.trans (Kb.of_below HB6.out)).kb2 HK6.out hv, ?_⟩, by simp [intOf] <;> omega⟩
          · rw [← NX1.out]
            exact HPA.out.step (p := ⟨mf, mt, p.fa, p.fc, p.fs⟩) NX2.out NX3.out A6 c6
          · refine (chain HBW.out HB6.out).trans (HK6.out.to_below (chain HBW.out HB6.out).size (fun c e => by injection e with e; have := HWB.out; omega) (fun c e => by have h1 := hv c e; have h2 := HB3.out.size; omega))
      · obtain rfl : t = n := by omega
        have hlt' : ¬ (t : Int) < (t : Int) := by omega
        have x0 := HPB.out.box.cell
        have NX := Lib.hid (show clipL (af, at') (l.take t) = clipL (af, at') l by rw [List.take_of_length_le (by have := HN.out; omega)])
        have HLEN := Lib.hid (show L.length ≤ 1000 by have h1 := HPA.out.len; have h2 := clip_length (af, at') (l.take t); rw [List.length_take] at h2; omega)
        go_wp2_with fail
        go_ret
        exact ⟨_, rfl, ⟨L, HPB.out.pcs, HPA.out.tl, fun x => by rw [HPA.out.fs, NX.out]; exact HG.out x, HLEN.out⟩, HBW.out⟩

end Go.Proofs.Ytnopbhlhdecimaa
