/-
  Texts joined into one: what the program's and the document's calls give back, piece by piece.
-/
import Derived.Test.YtnopbhlhdecimaaMg1
import Derived.Test.YtnopbhlhdecimaaMg2
import Derived.Test.YtnopbhlhdecimaaMg3
import Derived.Test.YtnopbhlhdecimaaRows
import Derived.BigQuiet
import Derived.ChangeAlike
import Derived.ChangeKeysEq
import Derived.Deep.AppendLies
import Derived.Deep.CutBlock
import Derived.Deep.CutRange
import Derived.Deep.Light
import Derived.Deep.QuietTactic
import Derived.Deep.RegionHeld3
import Derived.Deep.RegionLaw
import Derived.Handy
import Derived.Laws.BytesArg
import Derived.Laws.OwnMore
import Derived.Laws.Strings
import Derived.Laws.StructEq
import Derived.Lib.Hide
import Derived.Lib.SmallJoins
import Derived.Maps.AppendAt
import Derived.OneCell
import Derived.OwnWalk
import Derived.ProofKit
import Derived.RegionTactic
import Derived.StillTailTactics
import Derived.WalkArith
import Derived.WalkKit
import Derived.WalkLawsBesides
import Derived.WalkSpells
import Derived.OrdersIn
import Derived.RangeFuncBox
import Derived.RangeFuncLeaves
import Derived.RangeFuncNested
import Derived.LoopIn
import Derived.LoopNIn
import Derived.OwnWalkIn
import Derived.Shelf.Abstract
import Derived.Shelf.RegionOpen
import Derived.TacticsInMore
import Derived.Shelf.SlSortCmp.NoneTotal
import Derived.Test.YtnopbhlhdecimaaProg
import Derived.Deep.LoopGhost
import Derived.Shelf.SlSortCmp.KitK
import Derived.Sort.WalkB12
import Derived.Sort.WalkB2
import Derived.Lib.Bytealg

/-
  The document's Of.
-/
namespace Go.Proofs.Ytnopbhlhdecimaa
open Go.RowKit

abbrev TCh : TypeId := 49
/-- A change in a box of its own. -/
def ObjC (w : World) (b : Nat) (c : Ch) : Prop := w.heap[b]? = some (.cells #[.int .i64 c.f, .int .i64 c.t, .bool c.had, .bool c.has, .slice c.oa c.os.length c.oc, .slice c.na c.ns.length c.nc] TCh (0, 0))
theorem ObjC.below {w w' : World} {b : Nat} {c : Ch} (h : ObjC w b c) (hb : Below w.heap.size w w') : ObjC w' b c := (hb.block b (Array.getElem?_eq_some_iff.1 h).1).trans h
theorem ObjC.lt {w : World} {b : Nat} {c : Ch} (h : ObjC w b c) : b < w.heap.size := (Array.getElem?_eq_some_iff.1 h).1
theorem ObjC.cells {w : World} {b : Nat} {c : Ch} (h : ObjC w b c) : BoxC w b c := by
  unfold ObjC at h
  refine ⟨?_, ?_, ?_, ?_, ?_, ?_⟩ <;> simp [World.cell?, h]
theorem ObjC.frozen {w : World} {b : Nat} {c : Ch} (h : ObjC w b c) (i : Nat) : w.frozen? ⟨b, i, none⟩ = false := by
  unfold ObjC at h
  simp [World.frozen?, h]
theorem heap_setC {w : World} {g o : Nat} {c : Array Value} {t : TypeId} (h : w.heap[g]? = some (.cells c t (0, 0))) (u : Value) : (w.setCell ⟨g, o, none⟩ u).heap[g]? = some (.cells (c.setIfInBounds o u) t (0, 0)) := by
  have hlt := (Array.getElem?_eq_some_iff.1 h).1
  have h' : w.heap[g] = .cells c t (0, 0) := by simpa [Array.getElem?_eq_getElem hlt] using h
  show (w.heap.modify g _)[g]? = _
  rw [Array.getElem?_eq_getElem (by simpa using hlt), Array.getElem_modify_self, h']
  rfl
theorem ObjC.setOld {w : World} {b : Nat} {c : Ch} (h : ObjC w b c) (A : Option Addr) (s : List Fd) (k : Nat) (x : Bool) : ObjC ((w.setCell ⟨b, 4, none⟩ (.slice A s.length k)).setCell ⟨b, 2, none⟩ (.bool x)) b { c with oa := A, oc := k, os := s, had := x } := by
  have h1 := heap_setC (o := 2) (heap_setC (o := 4) h (.slice A s.length k)) (.bool x)
  simpa [ObjC] using h1
theorem ObjC.setNew {w : World} {b : Nat} {c : Ch} (h : ObjC w b c) (A : Option Addr) (s : List Fd) (k : Nat) (x : Bool) : ObjC ((w.setCell ⟨b, 5, none⟩ (.slice A s.length k)).setCell ⟨b, 3, none⟩ (.bool x)) b { c with na := A, nc := k, ns := s, has := x } := by
  have h1 := heap_setC (o := 3) (heap_setC (o := 5) h (.slice A s.length k)) (.bool x)
  simpa [ObjC] using h1
theorem putC_none (c : Ch) : putC [] c = [] ++ [c] := rfl
theorem putC_app {m : List Ch} {q c : Ch} (h : ¬ (q.t = c.f ∧ alikeC q c = true)) : putC (m ++ [q]) c = (m ++ [q]) ++ [c] := by
  unfold putC
  rw [show (m ++ [q]).getLast? = some q by simp]
  simp only
  rw [if_neg]
  rw [Bool.and_eq_true, decide_eq_true_eq]
  exact h
theorem putC_join {m : List Ch} {q c : Ch} (h : q.t = c.f ∧ alikeC q c = true) : putC (m ++ [q]) c = m ++ [{ q with t := c.t }] := by
  unfold putC
  rw [show (m ++ [q]).getLast? = some q by simp, List.dropLast_concat]
  simp only
  rw [if_pos]
  rw [Bool.and_eq_true, decide_eq_true_eq]
  exact h
theorem flat_setC : ∀ (L : List Ch) (t : Nat) (c : Ch) (x : Int), L[t]? = some c → (flatE ER12 L).set (t * 6 + 1) (.int .i64 x) = flatE ER12 (L.set t { c with t := x })
  | [], t, c, x, h => by simp at h
  | d :: L, 0, c, x, h => by
    obtain rfl : d = c := by simpa using h
    simp [flatE, ER12, cellsCh]
  | d :: L, t + 1, c, x, h => by
    have ih := flat_setC L t c x (by simpa using h)
    rw [List.set_cons_succ]
    unfold flatE at ih ⊢
    rw [List.flatMap_cons, List.flatMap_cons, ← ih]
    show (cellsCh d ++ _).set _ _ = _
    rw [show (t + 1) * 6 + 1 = t * 6 + 1 + 6 by omega, List.set_append_right _ _ (by simp [cellsCh])]
    simp [cellsCh]
    rfl
/-- Behind a store into the last change of a list of the call's own. -/
theorem oe_setLast {W w : World} {m : List Ch} {q : Ch} {g c n : Nat} (h : OE ER12 W (m ++ [q]) (.slice (some ⟨g, 0, none⟩) n c) w) (hn : n = m.length + 1) (x : Int) : OE ER12 W (m ++ [{ q with t := x }]) (.slice (some ⟨g, 0, none⟩) n c) (w.setCell ⟨g, m.length * 6 + 1, none⟩ (.int .i64 x)) := by
  subst hn
  have hq : (m ++ [q])[m.length]? = some q := by simp
  have hset : (m ++ [q]).set m.length { q with t := x } = m ++ [{ q with t := x }] := by simp
  have hlen : (m ++ [q]).length = m.length + 1 := by simp
  have hw := h.own
  unfold ownE at hw
  rw [hlen] at hw
  have hs := (World.ownsRow.stored hw (m.length * 6 + 1) (.int .i64 x)).1
  rw [flat_setC _ _ _ x hq, hset] at hs
  have hlen2 : (m ++ [{ q with t := x }]).length = m.length + 1 := by simp
  refine ⟨?_, h.bel.setCell (p := ⟨g, m.length * 6 + 1, none⟩) ((h.own.lt g rfl).1) _⟩
  unfold ownE
  rw [hlen2]
  exact hs
theorem ownP_empty {w : World} {b base : Nat} (h : w.heap[b]? = some (.cells #[] 45 (0, 0))) (hb : base ≤ b) : ownE EP w base (.slice (some ⟨b, 0, none⟩) 0 0) ([] : List Pc) := ownE_empty (E := EP) h hb
theorem firstF_few {l : List Pc} {n : Nat} (h : ∀ p ∈ l, p.fs.length ≤ n) (x : Int) : (firstF l x).length ≤ n := by
  unfold firstF
  cases hx : fsP l x with
  | none => exact Nat.zero_le _
  | some s => exact fs_small h hx
theorem cf_new {w : World} {a b : List Pc} {e1 e2 x : Int} {A2 A3 : Option Addr} {c2 c3 : Nat} (ha : ∀ p ∈ a, PF w p) (hb : ∀ p ∈ b, PF w p) (h2 : AtD a x A2 c2) (h3 : AtD b x A3 c3) (p q : Bool) : CF w ⟨e1, e2, p, q, A2, c2, firstF a x, A3, c3, firstF b x⟩ := ⟨h2.pf ha e1 e2, h3.pf hb e1 e2⟩
/-- What is put keeps what each change has. -/
theorem putC_all {l : List Ch} {c : Ch} (R : Ch → Prop) (hR : ∀ (q : Ch) (x : Int), R q → R { q with t := x }) (hl : ∀ q ∈ l, R q) (hc : R c) : ∀ q ∈ putC l c, R q := by
  rcases List.eq_nil_or_concat l with rfl | ⟨m, q, rfl⟩
  · intro d hd
    rw [putC_none] at hd
    simp at hd
    rw [hd]; exact hc
  · rw [List.concat_eq_append] at hl ⊢
    by_cases h : q.t = c.f ∧ alikeC q c = true
    · rw [putC_join h]
      intro d hd
      rcases List.mem_append.1 hd with hd | hd
      · exact hl d (List.mem_append_left _ hd)
      · rw [List.mem_singleton.1 hd]
        exact hR q _ (hl q (by simp))
    · rw [putC_app h]
      intro d hd
      rcases List.mem_append.1 hd with hd | hd
      · exact hl d hd
      · rw [List.mem_singleton.1 hd]; exact hc

theorem nil_or_snocC (l : List Ch) : l = [] ∨ ∃ m q, l = m ++ [q] := by
  rcases List.eq_nil_or_concat l with h | ⟨m, q, h⟩
  · exact .inl h
  · exact .inr ⟨m, q, by rw [h, List.concat_eq_append]⟩
theorem own_atC {w : World} {base : Nat} {v : Value} {L : List Ch} (h : ownE ER12 w base v L) (hL : L ≠ []) : ∃ g c, v = .slice (some ⟨g, 0, none⟩) L.length c := by
  rcases h.2 with ⟨_, h0⟩ | ⟨g, cap, cur, hv, _⟩
  · exact absurd (List.eq_nil_of_length_eq_zero h0) hL
  · exact ⟨g, cap, hv⟩
theorem oe_lastC {W w : World} {m : List Ch} {q : Ch} {g n c : Nat} (h : OE ER12 W (m ++ [q]) (.slice (some ⟨g, 0, none⟩) n c) w) : Cells6 w g (m.length * 6) q := by
  obtain ⟨A2, c2, e2, hr, _⟩ := h.list
  injection e2 with e2 _ _
  rw [← e2] at hr
  have hx : (m ++ [q])[m.length]? = some q := by simp
  have k0 := hr.at hx (j := 0) rfl
  have k1 := hr.at hx (j := 1) rfl
  have k2 := hr.at hx (j := 2) rfl
  have k3 := hr.at hx (j := 3) rfl
  have k4 := hr.at hx (j := 4) rfl
  have k5 := hr.at hx (j := 5) rfl
  rw [Nat.zero_add] at k0 k1 k2 k3 k4 k5
  exact ⟨k0, k1, k2, k3, k4, k5⟩

/-- What the document's Of leaves. -/
def Of12Post (a b : List Pc) (w : World) (e : Ending) (w' : World) : Prop := ∃ x L, e = .returned x ∧ ChsL ER12 w' x L ∧ DiffL a b L ∧ L.length ≤ 400 ∧ Below w.heap.size w w'

set_option maxHeartbeats 16000000 in
set_option maxRecDepth 100000 in
theorem dof12_none (w : World) (ua ub : Value) (a b : List Pc) (ha : PcsL w ua a) (hb : PcsL w ub b) (hna : a.length ≤ 100) (hnb : b.length ≤ 100) (hfa : ∀ p ∈ a, p.fs.length ≤ 1000000) (hfb : ∀ p ∈ b, p.fs.length ≤ 1000000) (hr : ¬ (rightT a && rightT b) = true) : Calls Try.prog 12 #[ua, ub] w fun e w' => e = .returned (.slice none 0 0) ∧ Below w.heap.size w w' := by
  have CRA := Lib.hid (fun w' (h : Below w.heap.size w w') => dtright_any w' ua a (ha.below h) (by omega) (fun p hp => by have := hfa p hp; omega))
  have CRB := Lib.hid (fun w' (h : Below w.heap.size w w') => dtright_any w' ub b (hb.below h) (by omega) (fun p hp => by have := hfb p hp; omega))
  obtain ⟨A, c, hua, _⟩ := ha.1
  obtain ⟨B, d, hub, _⟩ := hb.1
  obtain ⟨n, hnm⟩ : ∃ n, a.length = n := ⟨_, rfl⟩
  obtain ⟨n', hnm'⟩ : ∃ n, b.length = n := ⟨_, rfl⟩
  rw [hnm] at hua
  rw [hnm'] at hub
  subst hua hub
  clear ha hb hna hnb hfa hfb hnm hnm'
  cases h1 : rightT a with
  | false =>
    rw [h1] at CRA
    clear h1 hr
    go_enter Try.func12, Try.ntmps12
    go_wp2_with (go_at_call 19; (with_reducible refine (CRA.out _ (bl w)).mono ?_); rintro e w2 ⟨rfl, hb2⟩)
    go_ret
    exact ⟨rfl, hb2⟩
  | true =>
    have h2 : rightT b = false := by
      cases h2 : rightT b with
      | false => rfl
      | true => rw [h1, h2] at hr; exact absurd rfl hr
    rw [h1] at CRA
    rw [h2] at CRB
    clear h1 h2 hr
    go_enter Try.func12, Try.ntmps12
    go_wp2_with (first
      | (go_at_call 19; (with_reducible refine (CRA.out _ (bl w)).mono ?_); rintro e w2 ⟨rfl, hb2⟩)
      | (go_at_call 19; (with_reducible refine (CRB.out _ hb2).mono ?_); rintro e w3 ⟨rfl, hb3⟩))
    go_ret
    exact ⟨rfl, chain hb2 hb3⟩

set_option maxHeartbeats 16000000 in
set_option maxRecDepth 100000 in
theorem dof12_some (w : World) (ua ub : Value) (a b : List Pc) (ha : PcsL w ua a) (hb : PcsL w ub b) (hna : a.length ≤ 100) (hnb : b.length ≤ 100) (hfa : ∀ p ∈ a, p.fs.length ≤ 1000000) (hfb : ∀ p ∈ b, p.fs.length ≤ 1000000) (hr : (rightT a && rightT b) = true) : Calls Try.prog 12 #[ua, ub] w (Of12Post a b w) := by
  have hr2 := hr
  rw [Bool.and_eq_true] at hr2
  obtain ⟨h1, h2⟩ := hr2
  have HR := Lib.hid hr
  have HTA := Lib.hid ((rightT_iff a).1 h1)
  have HTB := Lib.hid ((rightT_iff b).1 h2)
  have CRA := Lib.hid (fun w' (h : Below w.heap.size w w') => dtright_any w' ua a (ha.below h) (by omega) (fun p hp => by have := hfa p hp; omega))
  have CRB := Lib.hid (fun w' (h : Below w.heap.size w w') => dtright_any w' ub b (hb.below h) (by omega) (fun p hp => by have := hfb p hp; omega))
  rw [h1] at CRA
  rw [h2] at CRB
  have CAA := Lib.hid (fun w' (h : Below w.heap.size w w') (x : Int) => dtat_any w' ua a x (ha.below h) (by omega))
  have CAB := Lib.hid (fun w' (h : Below w.heap.size w w') (x : Int) => dtat_any w' ub b x (hb.below h) (by omega))
  have HFA := Lib.hid hfa
  have HFB := Lib.hid hfb
  have HPA := Lib.hid ha.2
  have HPB := Lib.hid hb.2
  obtain ⟨A, c, hua, hA, _, hnc⟩ := ha.1
  obtain ⟨B, d, hub, hB, _, hnd⟩ := hb.1
  obtain ⟨n, hnm⟩ : ∃ n, a.length = n := ⟨_, rfl⟩
  obtain ⟨n', hnm'⟩ : ∃ n, b.length = n := ⟨_, rfl⟩
  rw [hnm] at hua hna
  rw [hnm'] at hub hnb
  subst hua hub
  have HA := Lib.hid hA
  have HB := Lib.hid hB
  have HNC := Lib.hid hnc
  have HND := Lib.hid hnd
  have HN := Lib.hid hnm
  have HN' := Lib.hid hnm'
  clear ha hb hfa hfb hnm hnm' h1 h2 hr hA hB hnc hnd
  go_enter Try.func12, Try.ntmps12
  go_upto_region 3 with (first
    | (go_at_call 19; (with_reducible refine (CRA.out _ (bl w)).mono ?_); rintro e w1 ⟨rfl, hb1⟩)
    | (go_at_call 19; (with_reducible refine (CRB.out _ hb1).mono ?_); rintro e w2 ⟨rfl, hb2⟩; have HB2 := Lib.hid (chain hb1 hb2); clear hb1 hb2))
  have hown0 : ownE EP (w2.alloc (.cells #[] 45)) w2.heap.size (.slice (some ⟨w2.heap.size, 0, none⟩) 0 0) ([] : List Pc) := ownP_empty (heap_alloc_new w2 _) (Nat.le_refl _)
  have hbel0 : Below w2.heap.size w2 (w2.alloc (.cells #[] 45)) := (bl w2).alloc (Nat.le_refl _) _
  have HA2 := Lib.hid (HA.out.below HB2.out)
  have HBB2 := Lib.hid (HB.out.below HB2.out)
  go_wp2_with (first
    | (at_builtin; refine wpList_appE (E := EP) rfl (.tmp 18) (.tmp 19) rfl rfl (base := w2.heap.size) (ts := []) (xs := a) rfl hown0 rfl HN.out.symm (HA2.out.below hbel0) HNC.out (by have := HN.out; simp; omega) (by simp) ?_; intro v3 w3 hown3 hg3; have hbel3 : Below w2.heap.size w2 w3 := below_grownE hbel0 hg3 (fun r hr => (hown0.lt r hr).1); clear hown0 hbel0 hg3)
    | (at_builtin; refine wpList_appE (E := EP) rfl (.tmp 20) (.tmp 21) rfl rfl (base := w2.heap.size) (ts := [] ++ a) (xs := b) rfl hown3 rfl HN'.out.symm (HBB2.out.below hbel3) HND.out (by have := HN.out; have := HN'.out; simp; omega) hbel3.size ?_; intro v4 w4 hown4 hg4; have hbel4 : Below w2.heap.size w2 w4 := below_grownE hbel3 hg4 (fun r hr => (hown3.lt r hr).1); have HBEL4 := Lib.hid (chain HB2.out hbel4); clear hown3 hbel3 hg4 hbel4)
    | fail)
  simp only [List.nil_append] at hown4
  have HL4 := Lib.hid (show PcsL w4 v4 (a ++ b) from ⟨ownE_list hown4, fun p hp => by rcases List.mem_append.1 hp with hp | hp <;> first | exact (HPA.out p hp).below HBEL4.out | exact (HPB.out p hp).below HBEL4.out⟩)
  obtain ⟨A4, c4, hv4, _⟩ := HL4.out.1
  have CE := Lib.hid (dends12_any w4 v4 (a ++ b) HL4.out (by have := HN.out; have := HN'.out; rw [List.length_append]; omega))
  obtain ⟨ts, hts⟩ : ∃ ts, Co.riseL ((a ++ b).flatMap endsP) = ts := ⟨_, rfl⟩
  rw [hts] at CE
  have HST := Lib.hid (show Stepsg ts (diffV a b) from steps_diff HTA.out HTB.out (by rw [← hts]; exact Co.riseL_pw _) (fun y => by rw [← hts, Co.mem_riseL]; rfl))
  have HTL := Lib.hid (show ts.length ≤ 400 by
    rw [← hts]
    have h1 := Co.riseL_length ((a ++ b).flatMap endsP)
    have h2 := endsP_len (a ++ b)
    rw [List.length_append] at h2
    have := HN.out
    have := HN'.out
    omega)
  clear hts
  clear hown4
  go_wp2_with (go_at_call 25; (with_reducible refine CE.out.mono ?_); rintro e w5 ⟨v5, rfl, hown5, hb5⟩; obtain ⟨A6, c6, rfl, hI6⟩ := Co.own_ints hown5; have HI := Lib.hid hI6; have HW5 := Lib.hid (chain HBEL4.out hb5); clear hown5 hI6 hb5)
  obtain ⟨n2, hn2⟩ : ∃ n2, ts.length = n2 := ⟨_, rfl⟩
  have HN2 := Lib.hid hn2
  rw [hn2] at HTL ⊢
  have h400 := HTL.out
  clear hn2 CRA CRB
  go_loopw [6, 7] (fun o i wr => ∃ (k : Nat) (L : List Ch), (k + 1 ≤ n2 ∨ (n2 = 0 ∧ k = 0)) ∧ i = .int .i64 (k : Nat) ∧ MadeC ts a b k L ∧ OE ER12 w5 L o wr ∧ (∀ q ∈ L, CF w5 q) ∧ (∀ q ∈ L, q.os.length ≤ 1000000 ∧ q.ns.length ≤ 1000000)) (fun _ i _ => n2 - (intOf i).toNat)
  case atStart => exact ⟨0, [], by omega, rfl, MadeTg.start HST.out, OE.nil w5, by simp, by simp⟩
  case round =>
    obtain ⟨k, L, hk, rfl, hM, hO, hC, hF⟩ := hrel
    have HM := Lib.hid hM
    have HO := Lib.hid hO
    have HC := Lib.hid hC
    have HF := Lib.hid hF
    clear hM hO hC hF
    obtain ⟨m, hm⟩ : ∃ m, k + 1 = m := ⟨_, rfl⟩
    have HMM := Lib.hid hm
    have hk1 : IntKind.i64.wrap ((k : Int) + 1) = (m : Int) := by rw [IntWalk.i64_in _ (by omega)]; omega
    by_cases hlt : k + 1 < n2
    · have hlt' : (m : Int) < (n2 : Int) := by omega
      have hmn : m < n2 := by omega
      have hkn : (k : Int) < (n2 : Int) := by omega
      have hkn2 : k < n2 := by omega
      obtain ⟨e1, he1⟩ : ∃ e, ts[k]? = some e := ⟨_, List.getElem?_eq_getElem (by have := HN2.out; omega)⟩
      obtain ⟨e2, he2⟩ : ∃ e, ts[k + 1]? = some e := ⟨_, List.getElem?_eq_getElem (by have := HN2.out; omega)⟩
      obtain ⟨gi, oi, rfl, hc1⟩ := HI.out k e1 he1
      obtain ⟨gi', oi', he, hc2⟩ := HI.out (k + 1) e2 he2
      injection he with he
      injection he with q1 q2 _
      subst q1 q2
      have HC1 := Lib.hid hc1
      have HC2 := Lib.hid (show w5.cell? ⟨gi, oi + m, none⟩ = some (.int .i64 e2) by rw [← hm]; exact hc2)
      have HE1 := Lib.hid he1
      have HE2 := Lib.hid he2
      have HLL := Lib.hid (show L.length ≤ 400 by have h1 := HM.out.len; unfold pgs at h1; rw [List.length_map] at h1; omega)
      have HDV := Lib.hid (diffV_at HR.out e1)
      have HS1 := Lib.hid (show (firstF a e1).length ≤ 1000000 from firstF_few HFA.out e1)
      have HS2 := Lib.hid (show (firstF b e1).length ≤ 1000000 from firstF_few HFB.out e1)
      have CA := Lib.hid (fun w' (h : Below w.heap.size w w') => CAA.out w' h e1)
      have CB := Lib.hid (fun w' (h : Below w.heap.size w w') => CAB.out w' h e1)
      have HWW := Lib.hid (chain HW5.out HO.out.bel)
      have q0 : ∀ o : Obj, (wr.alloc o).cell? ⟨gi, oi + k, none⟩ = some (.int .i64 e1) := fun o => keepc ((bl wr).alloc (Nat.le_refl _) o) (keepc HO.out.bel HC1.out)
      have q1 : ∀ o : Obj, (wr.alloc o).cell? ⟨gi, oi + m, none⟩ = some (.int .i64 e2) := fun o => keepc ((bl wr).alloc (Nat.le_refl _) o) (keepc HO.out.bel HC2.out)
      have z0 := keepc HO.out.bel HC1.out
      have z1 := keepc HO.out.bel HC2.out
      have HCF := Lib.hid (fun A2 c2 A3 c3 (h2 : AtD a e1 A2 c2) (h3 : AtD b e1 A3 c3) (p q : Bool) => cf_new (e1 := e1) (e2 := e2) HPA.out HPB.out h2 h3 p q)
      generalize firstF a e1 = s1 at *
      generalize firstF b e1 = s2 at *
      generalize (fsP a e1).isSome = p1 at *
      generalize (fsP b e1).isSome = p2 at *
      clear hc1 hc2 he1 he2 hm
      go_upto_region 8 with fail
      go_region
      refine abstract_then (fun W => Below wr.heap.size wr W ∧ ObjC W wr.heap.size ⟨e1, e2, false, false, none, 0, [], none, 0, []⟩) ⟨((bl wr).alloc (Nat.le_refl _) _).drew, heap_alloc_new wr _⟩ ?_
      rintro W1 ⟨hb1, ho1⟩
      obtain ⟨cb, hcb⟩ : ∃ cb, wr.heap.size = cb := ⟨_, rfl⟩
      have HCB := Lib.hid (show wr.heap.size ≤ cb by omega)
      rw [show ObjC W1 wr.heap.size = ObjC W1 cb by rw [hcb]] at ho1
      have HB1 := Lib.hid hb1
      have HO1 := Lib.hid ho1
      have z0 := keepc hb1 z0
      have CA1 := Lib.hid (CA.out W1 (chain HWW.out hb1))
      have hslot : (Value.pointer (some ⟨wr.heap.size, 0, none⟩)) = .pointer (some ⟨cb, 0, none⟩) := by rw [hcb]
      rw [hslot]
      clear hb1 ho1 hslot hcb q0 q1 z1
      go_upto_region 10 with (go_at_call 26; (with_reducible refine CA1.out.mono ?_); rintro e w6 ⟨A2, c2, rfl, hD2, hb2⟩; have HD2 := Lib.hid hD2; have HB2' := Lib.hid (chain HB1.out hb2); have HO2 := Lib.hid (HO1.out.below hb2); obtain ⟨x0, x1, x2, x3, x4, x5⟩ := (HO1.out.below hb2).cells; have f2 := (HO1.out.below hb2).frozen 2; have f4 := (HO1.out.below hb2).frozen 4; clear hD2 hb2)
      refine abstract_worldW (fun W => Below wr.heap.size wr W ∧ ObjC W cb ⟨e1, e2, p1, false, A2, c2, s1, none, 0, []⟩) ⟨(HB2'.out.setCell (p := ⟨cb, 4, none⟩) HCB.out _).setCell (p := ⟨cb, 2, none⟩) HCB.out _, HO2.out.setOld A2 s1 c2 p1⟩ ?_
      clear x0 x1 x2 x3 x4 x5 f2 f4 CA1 HB1 HO1 HB2' HO2 z0
      rintro W2 ⟨hb1, ho1⟩
      have HB1 := Lib.hid hb1
      have HO1 := Lib.hid ho1
      have z0 := keepc hb1 (keepc HO.out.bel HC1.out)
      have CB1 := Lib.hid (CB.out W2 (chain HWW.out hb1))
      clear hb1 ho1
      go_upto_region 11 with (go_at_call 26; (with_reducible refine CB1.out.mono ?_); rintro e w7 ⟨A3, c3, rfl, hD3, hb2⟩; have HD3 := Lib.hid hD3; have HB2' := Lib.hid (chain HB1.out hb2); have HO2 := Lib.hid (HO1.out.below hb2); obtain ⟨x0, x1, x2, x3, x4, x5⟩ := (HO1.out.below hb2).cells; have f3 := (HO1.out.below hb2).frozen 3; have f5 := (HO1.out.below hb2).frozen 5; clear hD3 hb2)
      refine abstract_worldW (fun W => Below wr.heap.size wr W ∧ ObjC W cb ⟨e1, e2, p1, p2, A2, c2, s1, A3, c3, s2⟩) ⟨(HB2'.out.setCell (p := ⟨cb, 5, none⟩) HCB.out _).setCell (p := ⟨cb, 3, none⟩) HCB.out _, HO2.out.setNew A3 s2 c3 p2⟩ ?_
      clear x0 x1 x2 x3 x4 x5 f3 f5 CB1 HB1 HO1 HB2' HO2 z0
      rintro W3 ⟨hb3, ho3⟩
      have HB3 := Lib.hid hb3
      have HO3 := Lib.hid ho3
      have HCC := Lib.hid (HCF.out A2 c2 A3 c3 HD2.out HD3.out p1 p2)
      have HC3 := Lib.hid (HCC.out.below (chain HWW.out hb3))
      have CSM := Lib.hid (dsamel_any W3 (.slice A2 s1.length c2) (.slice A3 s2.length c3) s1 s2 HC3.out.old HC3.out.new (by have := HS1.out; omega) (by have := HS2.out; omega))
      obtain ⟨x0, x1, x2, x3, x4, x5⟩ := ho3.cells
      clear hb3 ho3 CA CB HCF
      generalize hsm : sameF s1 s2 = sm at *
      clear hsm
      obtain ⟨ch, hch⟩ : ∃ ch : Ch, ch = ⟨e1, e2, p1, p2, A2, c2, s1, A3, c3, s2⟩ := ⟨_, rfl⟩
      have HO3c := Lib.hid (show ObjC W3 cb ch by rw [hch]; exact HO3.out)
      have HCCc := Lib.hid (show CF w5 ch by rw [hch]; exact HCC.out.below HW5.out)
      have HSS := Lib.hid (show ch.os.length ≤ 1000000 ∧ ch.ns.length ≤ 1000000 by rw [hch]; exact ⟨HS1.out, HS2.out⟩)
      clear HO3 HCC HC3
      by_cases hskip : (p1 == p2 && sm) = true
      · rw [Bool.and_eq_true] at hskip
        obtain ⟨hp, rfl⟩ := hskip
        obtain rfl : p1 = p2 := by simpa using hp
        have NM := Lib.hid (MadeTg.skip HST.out HM.out HE1.out HE2.out (by rw [HDV.out]; simp))
        clear hch hp
        cases p1
        all_goals
          go_wp2_with (go_at_call 27; (with_reducible refine CSM.out.mono ?_); rintro e w8 ⟨rfl, hb8⟩; have HB8 := Lib.hid hb8; clear hb8)
          exact ⟨⟨k + 1, L, by have := HMM.out; omega, by have := HMM.out; go_num, NM.out, HO.out.below (chain HB3.out HB8.out), HC.out, HF.out⟩, by have := HMM.out; simp [intOf] <;> omega⟩
      · have HMN := Lib.hid (show MadeC ts a b (k + 1) (putC L ch) by
          rw [hch]
          exact MadeC.put HST.out HM.out (c := ⟨e1, e2, p1, p2, A2, c2, s1, A3, c3, s2⟩) HE1.out HE2.out (by rw [HDV.out, if_neg hskip]))
        have hcase : (p1 = true ∧ p2 = false) ∨ (p1 = false ∧ p2 = true) ∨ (p1 = true ∧ p2 = true ∧ sm = false) ∨ (p1 = false ∧ p2 = false ∧ sm = false) := by cases p1 <;> cases p2 <;> cases sm <;> simp_all
        clear hch hskip HDV
        rcases hcase with ⟨rfl, rfl⟩ | ⟨rfl, rfl⟩ | ⟨rfl, rfl, rfl⟩ | ⟨rfl, rfl, rfl⟩
        all_goals
          go_upto_region 12 with (go_at_call 27; (with_reducible refine CSM.out.mono ?_); rintro e w8 ⟨rfl, hb8⟩; have HB8 := Lib.hid hb8; clear hb8)
          first
            | refine abstract_worldW (fun W => Below wr.heap.size wr W ∧ ObjC W cb ch) ⟨chain HB3.out HB8.out, HO3c.out.below HB8.out⟩ ?_
            | refine abstract_worldW (fun W => Below wr.heap.size wr W ∧ ObjC W cb ch) ⟨HB3.out, HO3c.out⟩ ?_
          clear x0 x1 x2 x3 x4 x5 CSM HO3c HB3
          rintro W4 ⟨hb4, ho4⟩
          have HO4 := Lib.hid ho4
          have HOW := Lib.hid (HO.out.below hb4)
          obtain ⟨x0, x1, x2, x3, x4, x5⟩ := ho4.cells
          clear hb4 ho4
          rcases nil_or_snocC L with rfl | ⟨mm, q, rfl⟩
          · obtain ⟨A0, c0, hu6, _⟩ := HO.out.list
            simp only [List.length_nil] at hu6
            subst hu6
            have hm1 : IntKind.i64.wrap ((0 : Int) - 1) = -1 := by decide
            go_wp2_with fail
            go_quiet (fail)
            refine abstract_then (fun W => Below W4.heap.size W4 W) (belowN (bl _) _) ?_
            rintro W5 hb5
            have HO5 := Lib.hid (HOW.out.below hb5)
            obtain ⟨y0, y1, y2, y3, y4, y5⟩ := (HO4.out.below hb5).cells
            clear hb5 x0 x1 x2 x3 x4 x5
            go_wp2_with (first
              | (at_builtin; refine wpList_appE (E := ER12) (xs := [ch]) rfl (.tmp 109) (.tmp 111) rfl rfl (base := w5.heap.size) rfl (World.ownsRow.alloc HO5.out.own _) rfl rfl (by have hrow := rowE_one (E := ER12) W5 ch #[.int .i64 ch.f, .int .i64 ch.t, .bool ch.had, .bool ch.has, .slice ch.oa ch.os.length ch.oc, .slice ch.na ch.ns.length ch.nc] rfl TCh; first | exact hrow | (simp at hrow ⊢; exact hrow)) (fun h => by cases h) (by have := HLL.out; simp at this ⊢ <;> omega) (by have := HO5.out.bel.size; simp; omega) ?_; intro v' w9 hown9 hg9; have HN9 := Lib.hid ((HO5.out.below ((bl W5).alloc (Nat.le_refl _) _)).grown hg9 hown9); clear hown9 hg9)
              | go_in)
            exact ⟨⟨k + 1, putC [] ch, by have := HMM.out; omega, by have := HMM.out; go_num, HMN.out, HN9.out, putC_all (CF w5) (fun _ _ h => h) HC.out HCCc.out, putC_all (fun q => q.os.length ≤ 1000000 ∧ q.ns.length ≤ 1000000) (fun _ _ h => h) HF.out HSS.out⟩, by have := HMM.out; simp [intOf] <;> omega⟩
          · obtain ⟨g, cL, hu6⟩ := own_atC HO.out.own (by simp)
            obtain ⟨n3, hn3⟩ : ∃ n3, (mm ++ [q]).length = n3 := ⟨_, rfl⟩
            obtain ⟨j, hj⟩ : ∃ j, mm.length = j := ⟨_, rfl⟩
            rw [hn3] at hu6
            subst hu6
            have hn3j : n3 = j + 1 := by rw [← hn3, ← hj]; simp
            have HNJ := Lib.hid hn3j
            have hn4 : n3 ≤ 400 := by have := HLL.out; omega
            have hsub : IntKind.i64.wrap ((n3 : Int) - 1) = (j : Int) := by rw [IntWalk.i64_in _ (by omega)]; omega
            have hjn : (j : Int) < (n3 : Int) := by omega
            have hjn2 : j < n3 := by omega
            have hj0 : (0 : Int) ≤ (j : Int) := by omega
            have HJ := Lib.hid hj
            have HX := Lib.hid (show ∀ W, Below W4.heap.size W4 W → Cells6 W g (j * 6) q from fun W h => by rw [← hj]; exact oe_lastC (HOW.out.below h))
            have HFZ := Lib.hid (show ∀ W, Below W4.heap.size W4 W → W.frozen? ⟨g, j * 6 + 1, none⟩ = false from fun W h => by
              have e := (HOW.out.below h).own
              unfold ownE at e
              rw [hn3] at e
              exact World.ownsRow.frozenAt e _)
            have CAL := Lib.hid (fun W (h : Below W4.heap.size W4 W) => dalike_any q ch W ((HC.out q (by simp)).below ((HOW.out.below h).bel)) (HCCc.out.below ((HOW.out.below h).bel)) (by have := HF.out q (by simp); omega) (by have := HSS.out; omega))
            have NA := Lib.hid (putC_app (m := mm) (q := q) (c := ch))
            have NJ := Lib.hid (putC_join (m := mm) (q := q) (c := ch))
            have MK := Lib.hid (show ∀ W, Below W4.heap.size W4 W → (Below W4.heap.size W4 W ∧ Cells6 W g (j * 6) q ∧ BoxC W cb ch) from fun W h => ⟨h, HX.out W h, (HO4.out.below h).cells⟩)
            clear hn3 hj hn3j
            by_cases hq : q.t = ch.f
            · have h1' : (q.t == ch.f) = true := by simpa using hq
              have HQ := Lib.hid hq
              clear hq
              generalize hal : alikeC q ch = al at *
              clear hal
              cases al with
              | true =>
                have NX := Lib.hid (NJ.out ⟨HQ.out, rfl⟩)
                clear NA NJ
                go_wp2_with fail
                first
                  | (go_region_held3 (fun W => Below W4.heap.size W4 W ∧ Cells6 W g (j * 6) q ∧ BoxC W cb ch)
                      (first | exact MK.out _ ((bl W4).drew) | exact MK.out _ hb7 | fail)
                      (first | (go_at_call 24; (with_reducible refine (CAL.out _ ((bl W4).drew)).mono ?_); (rintro e w7 ⟨rfl, hb0⟩); (have hb7 := chain ((bl W4).drew) hb0); clear hb0) | fail))
                  | fail
                have HO5 := Lib.hid (HOW.out.below hb7)
                obtain ⟨_, ⟨k0, k1, k2, k3, k4, k5⟩, ⟨y0, y1, y2, y3, y4, y5⟩⟩ := MK.out _ hb7
                have f1 := HFZ.out _ hb7
                clear x0 x1 x2 x3 x4 x5
                go_wp2_with fail
                exact ⟨⟨k + 1, putC (mm ++ [q]) ch, by have := HMM.out; omega, by have := HMM.out; go_num, HMN.out, by
                  rw [NX.out]
                  have h := oe_setLast HO5.out (by rw [HJ.out]; exact HNJ.out) ch.t
                  rw [HJ.out] at h
                  exact h, putC_all (CF w5) (fun _ _ h => h) HC.out HCCc.out, putC_all (fun q => q.os.length ≤ 1000000 ∧ q.ns.length ≤ 1000000) (fun _ _ h => h) HF.out HSS.out⟩, by have := HMM.out; simp [intOf] <;> omega⟩
              | false =>
                have NX := Lib.hid (NA.out (fun hh => by cases hh.2))
                clear NA NJ
                go_wp2_with fail
                first
                  | (go_region_held3 (fun W => Below W4.heap.size W4 W ∧ Cells6 W g (j * 6) q ∧ BoxC W cb ch)
                      (first | exact MK.out _ ((bl W4).drew) | exact MK.out _ hb7 | fail)
                      (first | (go_at_call 24; (with_reducible refine (CAL.out _ ((bl W4).drew)).mono ?_); (rintro e w7 ⟨rfl, hb0⟩); (have hb7 := chain ((bl W4).drew) hb0); clear hb0) | fail))
                  | fail
                have HO5 := Lib.hid (HOW.out.below hb7)
                obtain ⟨_, ⟨k0, k1, k2, k3, k4, k5⟩, ⟨y0, y1, y2, y3, y4, y5⟩⟩ := MK.out _ hb7
                obtain ⟨W5, hW5⟩ : ∃ W5, w7 = W5 := ⟨_, rfl⟩
                subst hW5
                clear x0 x1 x2 x3 x4 x5
                go_wp2_with (first
                  | (at_builtin; refine wpList_appE (E := ER12) (xs := [ch]) rfl (.tmp 109) (.tmp 111) rfl rfl (base := w5.heap.size) rfl (World.ownsRow.alloc HO5.out.own _) rfl rfl (by have hrow := rowE_one (E := ER12) w7 ch #[.int .i64 ch.f, .int .i64 ch.t, .bool ch.had, .bool ch.has, .slice ch.oa ch.os.length ch.oc, .slice ch.na ch.ns.length ch.nc] rfl TCh; first | exact hrow | (simp at hrow ⊢; exact hrow)) (fun h => by cases h) (by have := HLL.out; simp at this ⊢ <;> omega) (by have := HO5.out.bel.size; simp; omega) ?_; intro v' w9 hown9 hg9; have HN9 := Lib.hid ((HO5.out.below ((bl w7).alloc (Nat.le_refl _) _)).grown hg9 hown9); clear hown9 hg9)
                  | go_in)
                exact ⟨⟨k + 1, putC (mm ++ [q]) ch, by have := HMM.out; omega, by have := HMM.out; go_num, HMN.out, by rw [NX.out]; exact HN9.out, putC_all (CF w5) (fun _ _ h => h) HC.out HCCc.out, putC_all (fun q => q.os.length ≤ 1000000 ∧ q.ns.length ≤ 1000000) (fun _ _ h => h) HF.out HSS.out⟩, by have := HMM.out; simp [intOf] <;> omega⟩
            · have h1' : (q.t == ch.f) = false := by simpa using hq
              have NX := Lib.hid (NA.out (fun hh => hq hh.1))
              clear NA NJ
              obtain ⟨k0, k1, k2, k3, k4, k5⟩ := HX.out W4 (bl W4)
              go_wp2_with fail
              go_quiet (fail)
              refine abstract_then (fun W => Below W4.heap.size W4 W) (belowN (bl _) _) ?_
              rintro W5 hb5
              have HO5 := Lib.hid (HOW.out.below hb5)
              obtain ⟨y0, y1, y2, y3, y4, y5⟩ := (HO4.out.below hb5).cells
              clear hb5 x0 x1 x2 x3 x4 x5 k0 k1 k2 k3 k4 k5
              go_wp2_with (first
                | (at_builtin; refine wpList_appE (E := ER12) (xs := [ch]) rfl (.tmp 109) (.tmp 111) rfl rfl (base := w5.heap.size) rfl (World.ownsRow.alloc HO5.out.own _) rfl rfl (by have hrow := rowE_one (E := ER12) W5 ch #[.int .i64 ch.f, .int .i64 ch.t, .bool ch.had, .bool ch.has, .slice ch.oa ch.os.length ch.oc, .slice ch.na ch.ns.length ch.nc] rfl TCh; first | exact hrow | (simp at hrow ⊢; exact hrow)) (fun h => by cases h) (by have := HLL.out; simp at this ⊢ <;> omega) (by have := HO5.out.bel.size; simp; omega) ?_; intro v' w9 hown9 hg9; have HN9 := Lib.hid ((HO5.out.below ((bl W5).alloc (Nat.le_refl _) _)).grown hg9 hown9); clear hown9 hg9)
                | go_in)
              exact ⟨⟨k + 1, putC (mm ++ [q]) ch, by have := HMM.out; omega, by have := HMM.out; go_num, HMN.out, by rw [NX.out]; exact HN9.out, putC_all (CF w5) (fun _ _ h => h) HC.out HCCc.out, putC_all (fun q => q.os.length ≤ 1000000 ∧ q.ns.length ≤ 1000000) (fun _ _ h => h) HF.out HSS.out⟩, by have := HMM.out; simp [intOf] <;> omega⟩
    · have hlt' : ¬ (m : Int) < (n2 : Int) := by omega
      go_wp2_with fail
      go_ret
      refine ⟨_, L, rfl, ⟨HO.out.list, fun c hc => (HC.out c hc).below HO.out.bel⟩, ?_, by have h1 := HM.out.len; unfold pgs at h1; rw [List.length_map] at h1; omega, chain HW5.out HO.out.bel⟩
      rcases hk with hk | ⟨h0, rfl⟩
      · exact MadeC.diff HST.out HM.out (by have := HN2.out; omega)
      · have hl : ts = [] := List.eq_nil_of_length_eq_zero (by have := HN2.out; omega)
        obtain rfl : L = [] := by
          have h1 := HM.out.len
          unfold pgs at h1
          rw [List.length_map] at h1
          exact List.eq_nil_of_length_eq_zero (by omega)
        exact ⟨trivial, fun x => (HST.out.behind x (by rw [hl]; simp)).symm⟩

theorem dof12_any (w : World) (ua ub : Value) (a b : List Pc) (ha : PcsL w ua a) (hb : PcsL w ub b) (hna : a.length ≤ 100) (hnb : b.length ≤ 100) (hfa : ∀ p ∈ a, p.fs.length ≤ 1000000) (hfb : ∀ p ∈ b, p.fs.length ≤ 1000000) : Calls Try.prog 12 #[ua, ub] w (Of12Post a b w) := by
  by_cases hr : (rightT a && rightT b) = true
  · exact dof12_some w ua ub a b ha hb hna hnb hfa hfb hr
  · refine (dof12_none w ua ub a b ha hb hna hnb hfa hfb hr).mono ?_
    rintro e w' ⟨rfl, hb2⟩
    exact ⟨_, [], rfl, ⟨ListE.nil _, fun c hc => by simp at hc⟩, diff_none hr, Nat.zero_le _, hb2⟩

end Go.Proofs.Ytnopbhlhdecimaa

/-
  The document's Over of fields.
-/
namespace Go.Proofs.Ytnopbhlhdecimaa
open Go.RowKit

theorem ownF_lower {w : World} {b b' : Nat} {v : Value} {l : List Fd} (hb : b ≤ b') (h : ownF w b' v l) : ownF w b v l := by
  refine ⟨h.1, ?_⟩
  rcases h.2 with h2 | ⟨g, cap, cur, hv, hg, r⟩
  · exact .inl h2
  · exact .inr ⟨g, cap, cur, hv, by omega, r⟩
theorem OF.from {W w w' : World} {l : List Fd} {v : Value} (hb : Below W.heap.size W w) (h : OF w l v w') : OF W l v w' := ⟨ownF_lower hb.size h.own, chain hb h.bel⟩

end Go.Proofs.Ytnopbhlhdecimaa

/-
  Two timelines gone over side by side: plain facts.
-/
namespace Go.Proofs.Ytnopbhlhdecimaa

/-- Pieces that rise. -/
abbrev Rs (M : List Pc) : Prop := (∀ p ∈ M, rightP p.f p.t = true) ∧ M.Pairwise (fun p q => p.t ≤ q.f)
theorem tl_rs {l : List Pc} (h : TL l) : Rs l := ⟨h.rights, (tl_pair h).imp fun k => k.1⟩
theorem Rs.tail {p : Pc} {l : List Pc} (h : Rs (p :: l)) : Rs l := ⟨fun q hq => h.1 q (List.mem_cons_of_mem _ hq), (List.pairwise_cons.1 h.2).2⟩
theorem Rs.head {p : Pc} {l : List Pc} (h : Rs (p :: l)) : rightP p.f p.t = true ∧ ∀ q ∈ l, p.t ≤ q.f := ⟨h.1 p (by simp), (List.pairwise_cons.1 h.2).1⟩
/-- What a member has is told at each of its times. -/
theorem rs_in : ∀ {l : List Pc}, Rs l → ∀ {p : Pc}, p ∈ l → ∀ {x : Int}, p.f ≤ x → x < p.t → fsP l x = some p.fs
  | [], _, p, hp, _, _, _ => by simp at hp
  | q :: l, h, p, hp, x, h1, h2 => by
    rcases List.mem_cons.1 hp with rfl | hp
    · rw [fsP, valP, if_pos (has_at h.head.1 h1 h2)]; rfl
    · have hq := h.head.2 p hp
      have hn : ¬ hasP q x = true := fun hh => by rw [hasP_iff] at hh; omega
      have ih := rs_in h.tail hp h1 h2
      rw [fsP] at ih ⊢
      rw [valP, if_neg hn]
      exact ih
theorem fs_some {l : List Pc} {x : Int} {s : List Fd} (h : fsP l x = some s) : ∃ p ∈ l, hasP p x = true ∧ p.fs = s := by
  rw [fsP] at h
  cases hv : valP l x with
  | none => rw [hv] at h; cases h
  | some p =>
    rw [hv] at h
    injection h with h
    exact ⟨p, (valP_mem hv).1, (valP_mem hv).2, h⟩
theorem fs_out {l : List Pc} {x : Int} (h : x < -1099511627776 ∨ 1099511627776 ≤ x) : fsP l x = none := fsP_none fun p hp hh => by
  rw [hasP_iff] at hh
  omega
/-- The pieces without those at the beginning that end at a time or ahead of it. -/
def fromP (t : Int) : List Pc → List Pc
  | [] => []
  | p :: l => if p.t ≤ t then fromP t l else p :: l
theorem fromP_drop (t : Int) : ∀ l : List Pc, ∃ k, k ≤ l.length ∧ fromP t l = l.drop k
  | [] => ⟨0, Nat.le_refl _, rfl⟩
  | p :: l => by
    rw [fromP]
    split
    · obtain ⟨k, h1, h2⟩ := fromP_drop t l
      exact ⟨k + 1, by simp; omega, by rw [h2]; rfl⟩
    · exact ⟨0, Nat.zero_le _, rfl⟩
theorem fromP_len (t : Int) (l : List Pc) : (fromP t l).length ≤ l.length := by
  obtain ⟨k, _, h⟩ := fromP_drop t l
  rw [h, List.length_drop]; omega
theorem fromP_mem {t : Int} {l : List Pc} {p : Pc} (h : p ∈ fromP t l) : p ∈ l := by
  obtain ⟨k, _, e⟩ := fromP_drop t l
  rw [e] at h
  exact List.mem_of_mem_drop h
theorem fromP_rs {t : Int} {l : List Pc} (h : Rs l) : Rs (fromP t l) := by
  obtain ⟨k, _, e⟩ := fromP_drop t l
  exact ⟨fun p hp => h.1 p (fromP_mem hp), by rw [e]; exact h.2.sublist (List.drop_sublist k l)⟩
theorem tl_drop : ∀ {l : List Pc} (k : Nat), TL l → TL (l.drop k)
  | l, 0, h => by rw [List.drop_zero]; exact h
  | [], k + 1, _ => trivial
  | p :: l, k + 1, h => by rw [List.drop_succ_cons]; exact tl_drop k h.tail
theorem fromP_tl {t : Int} {l : List Pc} (h : TL l) : TL (fromP t l) := by
  obtain ⟨k, _, e⟩ := fromP_drop t l
  rw [e]; exact tl_drop k h
theorem fromP_fs {t : Int} : ∀ {l : List Pc} {x : Int}, t ≤ x → fsP (fromP t l) x = fsP l x
  | [], x, _ => rfl
  | p :: l, x, hx => by
    rw [fromP]
    split
    · have hn : ¬ hasP p x = true := fun hh => by rw [hasP_iff] at hh; omega
      rw [fromP_fs hx, fsP, fsP, valP, if_neg hn]
    · rfl
theorem fromP_head {t : Int} : ∀ {l : List Pc} {p : Pc} {m : List Pc}, fromP t l = p :: m → t < p.t
  | [], _, _, h => by cases h
  | q :: l, p, m, h => by
    rw [fromP] at h
    split at h
    · exact fromP_head h
    · injection h with h1 h2
      subst h1
      omega
theorem fromP_step {t : Int} {l : List Pc} {k : Nat} {p : Pc} (h : l[k]? = some p) (hp : p.t ≤ t) : fromP t (l.drop k) = fromP t (l.drop (k + 1)) := by
  have e : l.drop k = p :: l.drop (k + 1) := by
    obtain ⟨h1, rfl⟩ := List.getElem?_eq_some_iff.1 h
    exact List.drop_eq_getElem_cons h1
  rw [e, fromP, if_pos hp]
theorem fromP_stop {t : Int} {l : List Pc} {k : Nat} {p : Pc} (h : l[k]? = some p) (hp : ¬ p.t ≤ t) : fromP t (l.drop k) = l.drop k := by
  have e : l.drop k = p :: l.drop (k + 1) := by
    obtain ⟨h1, rfl⟩ := List.getElem?_eq_some_iff.1 h
    exact List.drop_eq_getElem_cons h1
  rw [e, fromP, if_neg hp]

/-- What pieces have at a time, and how far. -/
def beginO (f : Int) : List Pc → Option Pc
  | [] => none
  | p :: _ => if f < p.f then none else some p
def beginT (f t : Int) : List Pc → Int
  | [] => t
  | p :: _ => if f < p.f then min t p.f else min t p.t
theorem begin_lt {f t : Int} {l : List Pc} (hl : ∀ p m, l = p :: m → f < p.t) (hft : f < t) : f < beginT f t l ∧ beginT f t l ≤ t := by
  cases l with
  | nil => exact ⟨hft, Int.le_refl _⟩
  | cons p m =>
    have := hl p m rfl
    rw [beginT]
    split <;> omega
theorem begin_fs {f t x : Int} {l : List Pc} (hr : Rs l) (h1 : f ≤ x) (h2 : x < beginT f t l) : fsP l x = (beginO f l).map Pc.fs := by
  cases l with
  | nil => rfl
  | cons p m =>
    rw [beginT] at h2
    rw [beginO]
    split at h2
    · rename_i hlt
      rw [if_pos hlt]
      exact fsP_none fun q hq hh => by
        rw [hasP_iff] at hh
        have hp := right_lt hr.head.1
        rcases List.mem_cons.1 hq with rfl | hq
        · omega
        · have := hr.head.2 q hq
          omega
    · rename_i hlt
      rw [if_neg hlt]
      exact rs_in hr (by simp) (by omega) (by omega)
theorem begin_end {f t : Int} {l : List Pc} : beginT f t l = t ∨ beginT f t l ∈ l.flatMap endsP := by
  cases l with
  | nil => exact .inl rfl
  | cons p m =>
    rw [beginT]
    split
    · by_cases h : t ≤ p.f
      · exact .inl (by omega)
      · exact .inr (List.mem_flatMap.2 ⟨p, by simp, by rw [show min t p.f = p.f by omega]; simp [endsP]⟩)
    · by_cases h : t ≤ p.t
      · exact .inl (by omega)
      · exact .inr (List.mem_flatMap.2 ⟨p, by simp, by rw [show min t p.t = p.t by omega]; simp [endsP]⟩)
theorem begin_mem {f : Int} {l : List Pc} {p : Pc} (h : beginO f l = some p) : p ∈ l := by
  cases l with
  | nil => cases h
  | cons q m =>
    rw [beginO] at h
    split at h
    · cases h
    · injection h with h
      rw [← h]; simp
/-- One stretch: what both have all along. -/
structure Strch (a b : List Pc) (f t : Int) (o1 o2 : Option Pc) : Prop where
  lo : -1099511627776 ≤ f
  lt : f < t
  hi : t ≤ 1099511627776
  v1 : ∀ x, f ≤ x → x < t → fsP a x = o1.map Pc.fs
  v2 : ∀ x, f ≤ x → x < t → fsP b x = o2.map Pc.fs
  m1 : ∀ p, o1 = some p → p ∈ a
  m2 : ∀ p, o2 = some p → p ∈ b
  ed : t = 1099511627776 ∨ t ∈ endsD a b
/-- What is left of a list from a time on. -/
structure Left (a r : List Pc) (f : Int) : Prop where
  rs : Rs r
  sub : ∀ p ∈ r, p ∈ a
  fs : ∀ x, f ≤ x → fsP r x = fsP a x
theorem Left.start {a : List Pc} (h : Rs a) (f : Int) : Left a a f := ⟨h, fun _ h => h, fun _ _ => rfl⟩
theorem Left.next {a r : List Pc} {f : Int} (h : Left a r f) (t : Int) (ht : f ≤ t) : Left a (fromP t r) t := ⟨fromP_rs h.rs, fun p hp => h.sub p (fromP_mem hp), fun x hx => by rw [fromP_fs hx]; exact h.fs x (by omega)⟩
theorem Left.more {a r : List Pc} {f t : Int} (h : Left a r f) (ht : f ≤ t) : Left a r t := ⟨h.rs, h.sub, fun x hx => h.fs x (by omega)⟩
theorem ends_sub {a r : List Pc} (h : ∀ p ∈ r, p ∈ a) {x : Int} (hx : x ∈ r.flatMap endsP) : x ∈ a.flatMap endsP := by
  obtain ⟨p, hp, hx⟩ := List.mem_flatMap.1 hx
  exact List.mem_flatMap.2 ⟨p, h p hp, hx⟩
theorem strch_next {a b ra rb : List Pc} {f : Int} (hf : -1099511627776 ≤ f) (hf2 : f < 1099511627776) (ha : Left a (fromP f ra) f) (hb : Left b (fromP f rb) f) :
    Strch a b f (beginT f (beginT f 1099511627776 (fromP f ra)) (fromP f rb)) (beginO f (fromP f ra)) (beginO f (fromP f rb)) := by
  have h1 := begin_lt (l := fromP f ra) (t := 1099511627776) (fun p m h => fromP_head h) hf2
  have h2 := begin_lt (l := fromP f rb) (fun p m h => fromP_head h) h1.1
  refine ⟨hf, h2.1, by omega, fun x k1 k2 => ?_, fun x k1 k2 => ?_, fun p hp => ha.sub p (begin_mem hp), fun p hp => hb.sub p (begin_mem hp), ?_⟩
  · rw [← ha.fs x k1]
    exact begin_fs (t := 1099511627776) ha.rs k1 (by omega)
  · rw [← hb.fs x k1]
    exact begin_fs hb.rs k1 k2
  · unfold endsD
    rw [List.flatMap_append, List.mem_append]
    rcases begin_end (f := f) (t := beginT f 1099511627776 (fromP f ra)) (l := fromP f rb) with h | h
    · rw [h]
      rcases begin_end (f := f) (t := 1099511627776) (l := fromP f ra) with h | h
      · exact .inl h
      · exact .inr (.inl (ends_sub ha.sub h))
    · exact .inr (.inr (ends_sub hb.sub h))

/-- At an end of a timeline's piece what it has turns. -/
theorem ends_turn1 : ∀ {a : List Pc}, TL a → ∀ {p : Pc}, p ∈ a → fsP a p.t ≠ some p.fs
  | [], _, p, hp => by simp at hp
  | q :: l, h, p, hp => by
    rcases List.mem_cons.1 hp with rfl | hp
    · exact fs_end h
    · have ih := ends_turn1 h.tail hp
      have h1 := h.behind p hp
      have h2 := right_lt (h.tail.rights p hp)
      rw [fs_tail h, if_neg (by omega)] at ih
      exact ih
theorem ends_turn {a : List Pc} (h : TL a) {e : Int} (he : e ∈ a.flatMap endsP) : fsP a (e - 1) ≠ fsP a e := by
  obtain ⟨p, hp, he⟩ := List.mem_flatMap.1 he
  have hr := right_lt (h.rights p hp)
  simp only [endsP, List.mem_cons, List.not_mem_nil, or_false] at he
  rcases he with rfl | rfl
  · intro k
    rw [rs_in (tl_rs h) hp (Int.le_refl _) hr.2.1] at k
    obtain ⟨q, hq, hh, hs⟩ := fs_some k
    rw [hasP_iff] at hh
    have ht : q.t = p.f := by
      by_cases e : q.t ≤ p.f
      · omega
      · exfalso
        have k1 := rs_in (tl_rs h) hq (x := p.f) (by omega) (by omega)
        -- the two pieces overlap: the list is told at each time by one of them; so they are one
        have key : ∀ {l : List Pc}, Rs l → ∀ {p q : Pc}, p ∈ l → q ∈ l → q.f < p.f → q.t ≤ p.f := by
          intro l
          induction l with
          | nil => intro _ p q hp; simp at hp
          | cons r l ih =>
            intro hl p q hp hq hlt
            have hr0 := right_lt hl.head.1
            rcases List.mem_cons.1 hp with hp1 | hp1
            · rcases List.mem_cons.1 hq with hq1 | hq1
              · rw [hp1, hq1] at hlt; omega
              · have := hl.head.2 q hq1; rw [hp1] at hlt; omega
            · rcases List.mem_cons.1 hq with hq1 | hq1
              · rw [hq1]; exact hl.head.2 p hp1
              · exact ih hl.tail hp1 hq1 hlt
        exact e (key (tl_rs h) hp hq (by omega))
    have := ends_turn1 h hq
    rw [ht, hs] at this
    exact this (rs_in (tl_rs h) hp (Int.le_refl _) hr.2.1)
  · rw [rs_in (tl_rs h) hp (x := p.t - 1) (by omega) (by omega)]
    exact fun k => ends_turn1 h hp k.symm

/-- Told by their beginnings, pieces of any kind are no more than the times that they may begin at. -/
theorem nodup_few {l S : List Int} (h : l.Nodup) (hs : ∀ x ∈ l, x ∈ S) : l.length ≤ S.length := h.length_le_of_subset hs
theorem endsD_length (a b : List Pc) : (endsD a b).length ≤ 2 * (a.length + b.length) := by
  have := flat2_length endsP (fun _ => Nat.le_refl 2) (a ++ b)
  unfold endsD
  rw [List.length_append] at this
  omega

open Classical in
/-- The changes told so far. -/
structure OfI (a b : List Pc) (e : Int) (L : List Ch) : Prop where
  tl : TLg (pgs L)
  le : ∀ c ∈ L, c.t ≤ e
  val : ∀ x, fsPg (pgs L) x = if x < e then diffV a b x else none
  st : ∀ c ∈ L, c.f ∈ (-1099511627776) :: endsD a b
  at' : e = -1099511627776 ∨ e = 1099511627776 ∨ e ∈ endsD a b
theorem diffV_out {a b : List Pc} {x : Int} (h : x < -1099511627776 ∨ 1099511627776 ≤ x) : diffV a b x = none := by
  unfold diffV
  split
  · rw [fs_out h, fs_out h, diffO, if_pos rfl]
  · rfl
theorem OfI.start (a b : List Pc) : OfI a b (-1099511627776) [] := ⟨trivial, by simp, fun x => by
  split
  · rename_i h
    rw [diffV_out (.inl h)]; rfl
  · rfl, by simp, .inl rfl⟩
theorem tlg_pair {V : Type} : ∀ {l : List (Pg V)}, TLg l → l.Pairwise (fun p q => p.t ≤ q.f)
  | [], _ => .nil
  | _ :: _, h => .cons (fun q hq => h.behind q hq) (tlg_pair h.tail)
theorem OfI.few {a b : List Pc} {e : Int} {L : List Ch} (h : OfI a b e L) : L.length ≤ 1 + 2 * (a.length + b.length) := by
  have h1 : (L.map Ch.f).Nodup := by
    have hp := tlg_pair h.tl
    unfold pgs at hp
    rw [List.pairwise_map] at hp
    rw [List.Nodup, List.pairwise_map]
    refine (hp.imp_of_mem (S := fun c d : Ch => c.f ≠ d.f) fun {c d} hc hd k => ?_)
    have := right_lt (h.tl.rights (pgC c) (List.mem_map.2 ⟨c, hc, rfl⟩))
    have k : c.t ≤ d.f := k
    have e1 : (pgC c).f = c.f := rfl
    have e2 : (pgC c).t = c.t := rfl
    omega
  have h2 := nodup_few h1 (S := (-1099511627776) :: endsD a b) (fun x hx => by
    obtain ⟨c, hc, rfl⟩ := List.mem_map.1 hx
    exact h.st c hc)
  have h3 := endsD_length a b
  rw [List.length_map, List.length_cons] at h2
  omega
theorem diffO_inj {p q p' q' : Option (List Fd)} {v : VC} (h : diffO p q = some v) (k : diffO p' q' = some v) : p = p' ∧ q = q' := by
  unfold diffO at h k
  split at h
  · cases h
  · split at k
    · cases k
    · injection h with h
      injection k with k
      rw [← k] at h
      simp only [Prod.mk.injEq] at h
      obtain ⟨e1, e2, e3, e4⟩ := h
      refine ⟨?_, ?_⟩
      · cases p <;> cases p' <;> simp_all
      · cases q <;> cases q' <;> simp_all
theorem fsg_in {V : Type} : ∀ {l : List (Pg V)}, TLg l → ∀ {p : Pg V}, p ∈ l → ∀ {x : Int}, p.f ≤ x → x < p.t → fsPg l x = some p.v
  | [], _, p, hp, _, _, _ => by simp at hp
  | q :: l, h, p, hp, x, h1, h2 => by
    rcases List.mem_cons.1 hp with rfl | hp
    · exact fs_headg h h1 h2
    · have hq := h.behind p hp
      have ih := fsg_in h.tail hp h1 h2
      rw [fs_tailg h, if_neg (by omega)] at ih
      exact ih
/-- Nothing is different along a stretch. -/
theorem OfI.skip {a b : List Pc} {e t : Int} {L : List Ch} {o1 o2 : Option Pc} (h : OfI a b e L) (hs : Strch a b e t o1 o2) (hd : o1.map Pc.fs = o2.map Pc.fs) : OfI a b t L := by
  refine ⟨h.tl, fun c hc => by have := h.le c hc; have := hs.lt; omega, fun x => ?_, h.st, ?_⟩
  · rw [h.val]
    have := hs.lt
    by_cases h1 : x < e
    · rw [if_pos h1, if_pos (by omega)]
    · rw [if_neg h1]
      by_cases h2 : x < t
      · rw [if_pos h2]
        unfold diffV
        split
        · rw [hs.v1 x (by omega) h2, hs.v2 x (by omega) h2, hd, diffO, if_pos rfl]
        · rfl
      · rw [if_neg h2]
  · rcases hs.ed with h | h
    · exact .inr (.inl h)
    · exact .inr (.inr h)
/-- A change is told of a stretch. -/
theorem OfI.put {a b : List Pc} {e : Int} {L : List Ch} {o1 o2 : Option Pc} (ha : TL a) (hb : TL b) (h : OfI a b e L) {c : Ch} (hf : c.f = e) (hs : Strch a b e c.t o1 o2) (hd : o1.map Pc.fs ≠ o2.map Pc.fs)
    (h1 : c.had = o1.isSome) (h2 : c.has = o2.isSome) (h3 : c.os = (o1.map Pc.fs).getD []) (h4 : c.ns = (o2.map Pc.fs).getD []) : OfI a b c.t (L ++ [c]) := by
  have hr : (rightT a && rightT b) = true := by rw [(rightT_iff _).2 ha, (rightT_iff _).2 hb]; rfl
  have hv : ∀ x, e ≤ x → x < c.t → diffV a b x = some (vC c) := fun x k1 k2 => by
    unfold diffV
    rw [if_pos hr, hs.v1 x k1 k2, hs.v2 x k1 k2, diffO, if_neg hd]
    unfold vC
    rw [h1, h2, h3, h4]
    cases o1 <;> cases o2 <;> rfl
  have hlo := hs.lo
  have hlt := hs.lt
  have hhi := hs.hi
  have hrc : rightP c.f c.t = true := by rw [hf]; simp only [rightP, Bool.and_eq_true, decide_eq_true_eq]; omega
  have hpg : pgs (L ++ [c]) = pgs L ++ [pgC c] := by unfold pgs; rw [List.map_append]; rfl
  refine ⟨?_, fun d hd => ?_, fun x => ?_, fun d hd => ?_, ?_⟩
  · rw [hpg]
    refine h.tl.snoc hrc fun q hq => ?_
    have hqm : q ∈ pgs L := List.mem_of_getLast? hq
    obtain ⟨d, hdL, rfl⟩ := List.mem_map.1 hqm
    have hdt := h.le d hdL
    refine ⟨show d.t ≤ c.f by omega, fun (k : d.t = c.f) k2 => ?_⟩
    have hdr := right_lt (h.tl.rights _ hqm)
    have e1 : (pgC d).f = d.f := rfl
    have e2 : (pgC d).t = d.t := rfl
    rw [e1, e2] at hdr
    have hx := fsg_in h.tl hqm (x := e - 1) (by rw [e1]; omega) (by rw [e2]; omega)
    rw [h.val, if_pos (by omega)] at hx
    have hy := hv e (Int.le_refl _) hlt
    have k3 : some (pgC d).v = some (vC c) := congrArg some k2
    rw [k3] at hx
    rw [diffV, if_pos hr] at hx hy
    obtain ⟨t1, t2⟩ := diffO_inj hx hy
    rcases h.at' with h0 | h0 | h0
    · omega
    · omega
    · unfold endsD at h0
      rw [List.flatMap_append, List.mem_append] at h0
      rcases h0 with h0 | h0
      · exact ends_turn ha h0 t1
      · exact ends_turn hb h0 t2
  · rcases List.mem_append.1 hd with hd | hd
    · have := h.le d hd; omega
    · rw [List.mem_singleton.1 hd]; exact Int.le_refl _
  · rw [hpg, fsP_appendg, h.val, fsP_oneg]
    by_cases k1 : x < e
    · rw [if_pos k1, if_pos (c := x < c.t) (by omega), if_neg (c := hasPg (pgC c) x = true) (fun hh => by
        rw [hasP_iffg] at hh
        have e1 : (pgC c).f = c.f := rfl
        rw [e1] at hh
        omega)]
      cases diffV a b x <;> rfl
    · rw [if_neg k1]
      simp only
      by_cases k2 : x < c.t
      · rw [if_pos (c := x < c.t) k2, if_pos (c := hasPg (pgC c) x = true) (has_atg (p := pgC c) hrc (show c.f ≤ x by omega) k2), hv x (by omega) k2]
      · rw [if_neg (c := x < c.t) k2, if_neg (c := hasPg (pgC c) x = true) (fun hh => by
          rw [hasP_iffg] at hh
          have e1 : (pgC c).t = c.t := rfl
          rw [e1] at hh
          omega)]
  · rcases List.mem_append.1 hd with hd | hd
    · exact h.st d hd
    · rw [List.mem_singleton.1 hd, hf]
      rcases h.at' with h0 | h0 | h0
      · rw [h0]; simp
      · omega
      · exact List.mem_cons_of_mem _ h0
  · rcases hs.ed with h | h
    · exact .inr (.inl h)
    · exact .inr (.inr h)
theorem OfI.done {a b : List Pc} {L : List Ch} (h : OfI a b 1099511627776 L) : DiffL a b L := ⟨h.tl, fun x => by
  rw [h.val]
  split
  · rfl
  · exact (diffV_out (.inr (by omega))).symm⟩

end Go.Proofs.Ytnopbhlhdecimaa

/-
  Changes applied, stretch by stretch: plain facts.
-/
namespace Go.Proofs.Ytnopbhlhdecimaa

/-- One piece alone tells whether a list has what a change says it had. -/
theorem had_says {r : List Pc} {c : Ch} (hr : TL r) (hh : ∀ p m, r = p :: m → c.f < p.t) (hc : rightP c.f c.t = true) : (∀ x, c.f ≤ x → x < c.t → fsP (r.take 1) x = oldC c) ↔ SaysC r c := by
  have hcr := right_lt hc
  cases r with
  | nil => exact Iff.rfl
  | cons p m =>
    have hp := hh p m rfl
    have hpr := right_lt hr.head
    have one : ∀ x, fsP ((p :: m).take 1) x = if p.f ≤ x ∧ x < p.t then some p.fs else none := fun x => by
      show fsP [p] x = _
      rw [fsP_one]
      by_cases h : p.f ≤ x ∧ x < p.t
      · rw [if_pos h, if_pos (has_at hr.head h.1 h.2)]
      · rw [if_neg h, if_neg (fun k => h ((hasP_iff p x).1 k).2)]
    constructor
    · intro h x h1 h2
      have hx := h x h1 h2
      rw [one] at hx
      by_cases k : p.f ≤ x ∧ x < p.t
      · rw [if_pos k] at hx
        rw [← hx]
        exact fs_head hr k.1 k.2
      · rw [if_neg k] at hx
        have h0 := h c.f (Int.le_refl _) hcr.2.1
        rw [one, ← hx] at h0
        have k1 : c.f < p.f := by
          by_cases k1 : p.f ≤ c.f
          · rw [if_pos ⟨k1, hp⟩] at h0; cases h0
          · omega
        have k2 : c.t ≤ p.f := by
          by_cases k2 : p.f < c.t
          · have h3 := h p.f (by omega) k2
            rw [one, ← hx, if_pos ⟨Int.le_refl _, hpr.2.1⟩] at h3
            cases h3
          · omega
        rw [← hx]
        exact fs_below hr (by omega)
    · intro h x h1 h2
      rw [one, ← h x h1 h2]
      by_cases k : p.f ≤ x ∧ x < p.t
      · rw [if_pos k]
        exact (fs_head hr k.1 k.2).symm
      · rw [if_neg k]
        by_cases k1 : x < p.f
        · exact (fs_below hr k1).symm
        · exfalso
          have k2 : p.t ≤ x := by omega
          have k3 : p.f ≤ x := by omega
          -- at the first piece's end what it has turns: so a change that goes over it is not what the list has
          by_cases k4 : c.f < p.f
          · have e1 := h c.f (Int.le_refl _) hcr.2.1
            have e2 := h p.f (by omega) (by omega)
            rw [fs_below hr k4] at e1
            rw [fs_head hr (Int.le_refl _) hpr.2.1, ← e1] at e2
            cases e2
          · have e1 := h c.f (Int.le_refl _) hcr.2.1
            have e2 := h p.t (by omega) (by omega)
            rw [fs_head hr (by omega) hp] at e1
            exact fs_end hr (e2.trans e1.symm)
/-- What is left of a timeline from a time on. -/
structure LeftT (a r : List Pc) (f : Int) : Prop where
  tl : TL r
  fs : ∀ x, f ≤ x → fsP r x = fsP a x
  sub : ∀ p ∈ r, p ∈ a
  len : r.length ≤ a.length
theorem LeftT.start {a : List Pc} (h : TL a) (f : Int) : LeftT a a f := ⟨h, fun _ _ => rfl, fun _ h => h, Nat.le_refl _⟩
theorem LeftT.next {a r : List Pc} {f t : Int} (h : LeftT a r f) (ht : f ≤ t) : LeftT a (fromP t r) t := ⟨fromP_tl h.tl, fun x hx => by rw [fromP_fs hx]; exact h.fs x (by omega), fun p hp => h.sub p (fromP_mem hp), Nat.le_trans (fromP_len t r) h.len⟩
theorem LeftT.more {a r : List Pc} {f t : Int} (h : LeftT a r f) (ht : f ≤ t) : LeftT a r t := ⟨h.tl, fun x hx => h.fs x (by omega), h.sub, h.len⟩
theorem LeftT.says {a r : List Pc} {c : Ch} (h : LeftT a r c.f) : SaysC r c ↔ SaysC a c := by
  unfold SaysC
  constructor
  · intro k x h1 h2; rw [← h.fs x h1]; exact k x h1 h2
  · intro k x h1 h2; rw [h.fs x h1]; exact k x h1 h2
/-- What the old is, as a list. -/
def oldP (c : Ch) : List Pc := if c.had = true then [⟨c.f, c.t, c.oa, c.oc, c.os⟩] else []
theorem sameP_fs : ∀ {a b : List Pc}, sameP a b = true → ∀ x, fsP a x = fsP b x
  | [], [], _, _ => rfl
  | [], _ :: _, h, _ => by cases h
  | _ :: _, [], h, _ => by cases h
  | p :: a, q :: b, h, x => by
    rw [sameP, Bool.and_eq_true, sameP1, Bool.and_eq_true, Bool.and_eq_true, decide_eq_true_eq, decide_eq_true_eq] at h
    obtain ⟨⟨⟨h1, h2⟩, h3⟩, h4⟩ := h
    have ih := sameP_fs h4 x
    have e : hasP p x = hasP q x := by rw [hasP, hasP, h1, h2]
    unfold fsP at ih ⊢
    rw [valP, valP, e]
    split
    · show some p.fs = some q.fs
      rw [sameF_eq _ _ h3]
    · exact ih
theorem old_tl {c : Ch} (hc : rightP c.f c.t = true) : TL (oldP c) := by
  unfold oldP
  split
  · exact hc
  · trivial
theorem old_fs {c : Ch} (hc : rightP c.f c.t = true) (x : Int) : fsP (oldP c) x = if c.f ≤ x ∧ x < c.t then oldC c else none := by
  unfold oldP oldC
  split
  · rw [fsP_one]
    by_cases h : c.f ≤ x ∧ x < c.t
    · rw [if_pos h, if_pos (has_at (p := ⟨c.f, c.t, c.oa, c.oc, c.os⟩) hc h.1 h.2)]
    · rw [if_neg h, if_neg (fun k => h ((hasP_iff _ x).1 k).2)]
  · split <;> rfl
theorem had_iff {r R : List Pc} {c : Ch} (hr : TL r) (hh : ∀ p m, r = p :: m → c.f < p.t) (hc : rightP c.f c.t = true) (hR : TL R) (hfs : ∀ x, fsP R x = fsP (clipL (c.f, c.t) (r.take 1)) x) : sameP R (oldP c) = true ↔ SaysC r c := by
  rw [← had_says hr hh hc]
  have hx : ∀ x, fsP R x = if c.f ≤ x ∧ x < c.t then fsP (r.take 1) x else none := fun x => by
    rw [hfs, clip_fs]
    by_cases h : c.f ≤ x ∧ x < c.t
    · rw [if_pos h, if_pos]
      rw [Bool.and_eq_true]
      exact ⟨hc, by simp only [inP, Bool.and_eq_true, decide_eq_true_eq]; exact h⟩
    · rw [if_neg h, if_neg]
      rw [Bool.and_eq_true]
      rintro ⟨_, k⟩
      simp only [inP, Bool.and_eq_true, decide_eq_true_eq] at k
      exact h k
  constructor
  · intro h x h1 h2
    have := sameP_fs h x
    rw [hx, old_fs hc, if_pos ⟨h1, h2⟩, if_pos ⟨h1, h2⟩] at this
    exact this
  · intro h
    refine tl_same hR (old_tl hc) fun x => ?_
    rw [hx, old_fs hc]
    by_cases k : c.f ≤ x ∧ x < c.t
    · rw [if_pos k, if_pos k]; exact h x k.1 k.2
    · rw [if_neg k, if_neg k]

/-- Changes that may be applied rise. -/
theorem wrong0_rise {a : List Pc} : ∀ {l : List Ch} {e : Option Int}, wrongC a e l = 0 → (∀ c ∈ l, rightP c.f c.t = true) ∧ l.Pairwise (fun c d => c.t ≤ d.f) ∧ ∀ t, e = some t → ∀ c ∈ l, t ≤ c.f
  | [], _, _ => ⟨by simp, .nil, by simp⟩
  | c :: l, e, h => by
    rw [wrongC] at h
    split at h
    · cases h
    · rename_i h1
      split at h
      · cases h
      · rename_i h2
        split at h
        · cases h
        · have hc : rightP c.f c.t = true := by
            cases hb : rightP c.f c.t with
            | true => rfl
            | false => exact absurd hb h1
          have hcr := right_lt hc
          obtain ⟨i1, i2, i3⟩ := wrong0_rise h
          have i3 := i3 c.t rfl
          refine ⟨fun d hd => ?_, .cons i3 i2, fun t ht d hd => ?_⟩
          · rcases List.mem_cons.1 hd with rfl | hd
            · exact hc
            · exact i1 d hd
          · have h0 : t ≤ c.f := by
              by_cases k : c.f < t
              · exact absurd ⟨t, ht, k⟩ h2
              · omega
            rcases List.mem_cons.1 hd with rfl | hd
            · exact h0
            · have := i3 d hd; omega
/-- The times of changes as pieces; those of them that have something. -/
abbrev chP1 (c : Ch) : Pc := ⟨c.f, c.t, c.na, c.nc, c.ns⟩
def chP (l : List Ch) : List Pc := l.map chP1
def apP (l : List Ch) : List Pc := (l.filter fun c => c.has).map chP1
theorem chP_rs {l : List Ch} (h1 : ∀ c ∈ l, rightP c.f c.t = true) (h2 : l.Pairwise (fun c d => c.t ≤ d.f)) : Rs (chP l) := ⟨fun p hp => by
  obtain ⟨c, hc, rfl⟩ := List.mem_map.1 hp
  exact h1 c hc, List.pairwise_map.2 h2⟩
theorem chP_next {l : List Ch} {k : Nat} {c : Ch} (h : l[k]? = some c) : chP (l.take (k + 1)) = chP (l.take k) ++ [chP1 c] := by
  unfold chP
  rw [List.take_add_one, h, Option.toList_some, List.map_append]; rfl
theorem apP_next {l : List Ch} {k : Nat} {c : Ch} (h : l[k]? = some c) : apP (l.take (k + 1)) = if c.has = true then apP (l.take k) ++ [chP1 c] else apP (l.take k) := by
  unfold apP
  rw [List.take_add_one, h, Option.toList_some, List.filter_append, List.map_append]
  by_cases k : c.has = true
  · rw [if_pos k]; simp [k]
  · rw [if_neg k]; simp [k]
theorem chP_fs {l : List Ch} (h1 : ∀ c ∈ l, rightP c.f c.t = true) (x : Int) : fsP (chP l) x = (newAt l x).map Ch.ns := by
  induction l with
  | nil => rfl
  | cons c l ih =>
    have ih := ih fun d hd => h1 d (List.mem_cons_of_mem _ hd)
    unfold chP fsP at ih ⊢
    rw [List.map_cons, valP, newAt]
    by_cases k : c.f ≤ x ∧ x < c.t
    · rw [if_pos (has_at (p := chP1 c) (h1 c (by simp)) k.1 k.2), if_pos (by rw [Bool.and_eq_true, decide_eq_true_eq, decide_eq_true_eq]; exact k)]
      rfl
    · rw [if_neg (fun h => k ((hasP_iff _ x).1 h).2), if_neg (fun h => k (by rw [Bool.and_eq_true, decide_eq_true_eq, decide_eq_true_eq] at h; exact h))]
      exact ih
def newV (l : List Ch) (x : Int) : Option (List Fd) := match newAt l x with
  | some c => newC c
  | none => none
theorem apP_fs : ∀ {l : List Ch}, (∀ c ∈ l, rightP c.f c.t = true) → l.Pairwise (fun c d => c.t ≤ d.f) → ∀ x, fsP (apP l) x = newV l x
  | [], _, _, _ => rfl
  | c :: l, h1, h2, x => by
    obtain ⟨h3, h4⟩ := List.pairwise_cons.1 h2
    have ih := apP_fs (fun d hd => h1 d (List.mem_cons_of_mem _ hd)) h4 x
    have hc := h1 c (by simp)
    unfold newV at ih ⊢
    rw [newAt]
    by_cases k : c.f ≤ x ∧ x < c.t
    · rw [if_pos (by rw [Bool.and_eq_true, decide_eq_true_eq, decide_eq_true_eq]; exact k)]
      simp only
      unfold apP newC
      by_cases k2 : c.has = true
      · rw [List.filter_cons_of_pos (by simpa using k2), List.map_cons, if_pos k2, fsP, valP, if_pos (has_at (p := chP1 c) hc k.1 k.2)]
        rfl
      · rw [List.filter_cons_of_neg (by simpa using k2), if_neg k2]
        refine fsP_none fun p hp hh => ?_
        obtain ⟨d, hd, rfl⟩ := List.mem_map.1 hp
        have := h3 d ((List.mem_filter.1 hd).1)
        rw [hasP_iff] at hh
        have hh : _ ∧ d.f ≤ x ∧ x < d.t := hh
        omega
    · rw [if_neg (fun h => k (by rw [Bool.and_eq_true, decide_eq_true_eq, decide_eq_true_eq] at h; exact h)), ← ih]
      unfold apP
      by_cases k2 : c.has = true
      · rw [List.filter_cons_of_pos (by simpa using k2), List.map_cons, fsP, valP, if_neg (fun h => k ((hasP_iff _ x).1 h).2)]
        rfl
      · rw [List.filter_cons_of_neg (by simpa using k2)]
/-- Pieces that lie apart, in whatever order. -/
abbrev apartP (p q : Pc) : Prop := p.t ≤ q.f ∨ q.t ≤ p.f
theorem dj_in : ∀ {M : List Pc}, M.Pairwise apartP → ∀ {p : Pc}, p ∈ M → ∀ {x : Int}, hasP p x = true → fsP M x = some p.fs
  | [], _, p, hp, _, _ => by simp at hp
  | q :: M, h, p, hp, x, hx => by
    rcases List.mem_cons.1 hp with rfl | hp
    · rw [fsP, valP, if_pos hx]; rfl
    · have hq := (List.pairwise_cons.1 h).1 p hp
      have ih := dj_in (List.pairwise_cons.1 h).2 hp hx
      rw [fsP] at ih ⊢
      rw [valP, if_neg (fun hh => by rw [hasP_iff] at hh hx; unfold apartP at hq; omega)]
      exact ih
theorem apart_symm {p q : Pc} (h : apartP p q) : apartP q p := h.symm
theorem dj_perm {M M' : List Pc} (hp : M.Perm M') (hd : M.Pairwise apartP) (x : Int) : fsP M x = fsP M' x := by
  have hd' : M'.Pairwise apartP := (hp.pairwise_iff (fun {_ _} h => apart_symm h)).1 hd
  cases h : fsP M x with
  | some s =>
    obtain ⟨p, hpm, hx, rfl⟩ := fs_some h
    exact (dj_in hd' (hp.mem_iff.1 hpm) hx).symm
  | none =>
    cases h' : fsP M' x with
    | none => rfl
    | some s =>
      obtain ⟨p, hpm, hx, rfl⟩ := fs_some h'
      rw [dj_in hd (hp.mem_iff.2 hpm) hx] at h
      cases h
/-- Sorted by their spans they rise. -/
theorem dj_sorted {M : List Pc} (hr : ∀ p ∈ M, rightP p.f p.t = true) (hd : M.Pairwise apartP) (hs : M.Pairwise (fun p q => p.f ≤ q.f)) : Rs M := by
  refine ⟨hr, ?_⟩
  refine ((hd.and hs).imp_of_mem (S := fun p q : Pc => p.t ≤ q.f) fun {p q} hp hq h => ?_)
  have h1 := right_lt (hr p hp)
  have h2 := right_lt (hr q hq)
  obtain ⟨h3, h4⟩ := h
  rcases h3 with h3 | h3
  · exact h3
  · omega

/-- What has been applied so far. -/
structure ApM (a : List Pc) (l : List Ch) (e : Int) (M : List Pc) : Prop where
  ri : ∀ p ∈ M, rightP p.f p.t = true
  dj : M.Pairwise apartP
  val : ∀ x, fsP M x = if x < e then appV a l x else fsP (apP l) x
  le : ∀ p ∈ M, p.t ≤ e ∨ ∃ c ∈ l, c.f = p.f ∧ c.t = p.t
  st : ∀ p ∈ M, p.f ∈ (-1099511627776) :: endsD a (chP l)
  at' : e = -1099511627776 ∨ e = 1099511627776 ∨ e ∈ endsD a (chP l)
  few : ∀ p ∈ M, p ∈ apP l ∨ ∃ q ∈ a, p.fs = q.fs ∧ p.fa = q.fa ∧ p.fc = q.fc
theorem newAt_out {l : List Ch} (h1 : ∀ c ∈ l, rightP c.f c.t = true) {x : Int} (h : x < -1099511627776 ∨ 1099511627776 ≤ x) : newAt l x = none := by
  cases k : newAt l x with
  | none => rfl
  | some c =>
    obtain ⟨hc, k1, k2⟩ := newAt_mem k
    have := right_lt (h1 c hc)
    omega
theorem apP_mem {l : List Ch} {p : Pc} (h : p ∈ apP l) : ∃ c ∈ l, p = chP1 c := by
  obtain ⟨c, hc, rfl⟩ := List.mem_map.1 h
  exact ⟨c, (List.mem_filter.1 hc).1, rfl⟩
theorem ApM.start {a : List Pc} {l : List Ch} (h1 : ∀ c ∈ l, rightP c.f c.t = true) (h2 : l.Pairwise (fun c d => c.t ≤ d.f)) : ApM a l (-1099511627776) (apP l) := by
  refine ⟨fun p hp => ?_, ?_, fun x => ?_, fun p hp => ?_, fun p hp => ?_, .inl rfl, fun p hp => .inl hp⟩
  · obtain ⟨c, hc, rfl⟩ := apP_mem hp
    exact h1 c hc
  · unfold apP
    refine List.pairwise_map.2 ((h2.sublist List.filter_sublist).imp fun h => .inl h)
  · split
    · rename_i hx
      rw [apP_fs h1 h2, newV, appV, newAt_out h1 (.inl hx), fs_out (.inl hx)]
    · rfl
  · obtain ⟨c, hc, rfl⟩ := apP_mem hp
    exact .inr ⟨c, hc, rfl, rfl⟩
  · obtain ⟨c, hc, rfl⟩ := apP_mem hp
    refine List.mem_cons_of_mem _ ?_
    unfold endsD
    exact List.mem_flatMap.2 ⟨chP1 c, List.mem_append.2 (.inr (List.mem_map.2 ⟨c, hc, rfl⟩)), by simp [endsP]⟩
theorem ApM.count {a : List Pc} {l : List Ch} {e : Int} {M : List Pc} (h : ApM a l e M) : M.length ≤ 1 + 2 * (a.length + l.length) := by
  have h1 : (M.map Pc.f).Nodup := by
    rw [List.Nodup, List.pairwise_map]
    refine (h.dj.imp_of_mem (S := fun p q : Pc => p.f ≠ q.f) fun {p q} hp hq k => ?_)
    have := right_lt (h.ri p hp)
    have := right_lt (h.ri q hq)
    unfold apartP at k
    omega
  have h2 := nodup_few h1 (S := (-1099511627776) :: endsD a (chP l)) (fun x hx => by
    obtain ⟨c, hc, rfl⟩ := List.mem_map.1 hx
    exact h.st c hc)
  have h3 := endsD_length a (chP l)
  rw [List.length_map, List.length_cons] at h2
  unfold chP at h3
  rw [List.length_map] at h3
  unfold chP at h2
  omega
theorem strch_new {a : List Pc} {l : List Ch} {e t : Int} {o1 o2 : Option Pc} (h1 : ∀ c ∈ l, rightP c.f c.t = true) (hs : Strch a (chP l) e t o1 o2) {x : Int} (k1 : e ≤ x) (k2 : x < t) : (newAt l x).map Ch.ns = o2.map Pc.fs := by
  rw [← chP_fs h1, hs.v2 x k1 k2]
theorem ApM.skip {a : List Pc} {l : List Ch} {e t : Int} {M : List Pc} {o1 o2 : Option Pc} (h1 : ∀ c ∈ l, rightP c.f c.t = true) (h2 : l.Pairwise (fun c d => c.t ≤ d.f)) (h : ApM a l e M) (hs : Strch a (chP l) e t o1 o2) (hd : o1 = none ∨ o2.isSome = true) : ApM a l t M := by
  have hlt := hs.lt
  refine ⟨h.ri, h.dj, fun x => ?_, fun p hp => ?_, h.st, ?_, h.few⟩
  · rw [h.val]
    by_cases k1 : x < e
    · rw [if_pos k1, if_pos (by omega)]
    · rw [if_neg k1]
      by_cases k2 : x < t
      · rw [if_pos k2, apP_fs h1 h2, newV, appV]
        have hn := strch_new h1 hs (x := x) (by omega) k2
        cases hc : newAt l x with
        | some c => rfl
        | none =>
          rw [hc] at hn
          rcases hd with hd | hd
          · show none = fsP a x
            rw [hs.v1 x (by omega) k2, hd]; rfl
          · cases o2 with
            | none => cases hd
            | some q => cases hn
      · rw [if_neg k2]
  · rcases h.le p hp with k | k
    · exact .inl (by omega)
    · exact .inr k
  · rcases hs.ed with h | h
    · exact .inr (.inl h)
    · exact .inr (.inr h)
theorem ApM.put {a : List Pc} {l : List Ch} {e t : Int} {M : List Pc} {q : Pc} (h1 : ∀ c ∈ l, rightP c.f c.t = true) (h2 : l.Pairwise (fun c d => c.t ≤ d.f)) (h : ApM a l e M) (hs : Strch a (chP l) e t (some q) none) : ApM a l t (M ++ [⟨e, t, q.fa, q.fc, q.fs⟩]) := by
  have hlt := hs.lt
  have hlo := hs.lo
  have hhi := hs.hi
  have hr : rightP e t = true := by simp only [rightP, Bool.and_eq_true, decide_eq_true_eq]; omega
  have hnew : ∀ x, e ≤ x → x < t → newAt l x = none := fun x k1 k2 => by
    have hn := strch_new h1 hs k1 k2
    cases hc : newAt l x with
    | some c => rw [hc] at hn; cases hn
    | none => rfl
  refine ⟨fun p hp => ?_, ?_, fun x => ?_, fun p hp => ?_, fun p hp => ?_, ?_, fun p hp => ?_⟩
  · rcases List.mem_append.1 hp with hp | hp
    · exact h.ri p hp
    · rw [List.mem_singleton.1 hp]; exact hr
  · refine List.pairwise_append.2 ⟨h.dj, List.pairwise_singleton _ _, fun p hp r hr => ?_⟩
    rw [List.mem_singleton.1 hr]
    show p.t ≤ e ∨ t ≤ p.f
    rcases h.le p hp with k | ⟨c, hc, k1, k2⟩
    · exact .inl k
    · by_cases k3 : p.t ≤ e
      · exact .inl k3
      · by_cases k4 : t ≤ p.f
        · exact .inr k4
        · exfalso
          have hcr := right_lt (h1 c hc)
          have h3 := newAt_none (hnew (max e p.f) (by omega) (by omega)) c hc
          omega
  · rw [fsP_append, h.val, fsP_one]
    by_cases k1 : x < e
    · rw [if_pos k1, if_pos (c := x < t) (by omega), if_neg (c := hasP ⟨e, t, q.fa, q.fc, q.fs⟩ x = true) (fun hh => by
        rw [hasP_iff] at hh
        have hh : _ ∧ e ≤ x ∧ x < t := hh
        omega)]
      cases appV a l x <;> rfl
    · rw [if_neg k1]
      by_cases k2 : x < t
      · have hn := hnew x (by omega) k2
        rw [if_pos (c := x < t) k2, apP_fs h1 h2, newV, hn, appV, hn]
        simp only
        rw [if_pos (has_at (p := ⟨e, t, q.fa, q.fc, q.fs⟩) hr (by show e ≤ x; omega) k2), hs.v1 x (by omega) k2]
        rfl
      · rw [if_neg (c := x < t) k2, if_neg (c := hasP ⟨e, t, q.fa, q.fc, q.fs⟩ x = true) (fun hh => by
          rw [hasP_iff] at hh
          have hh : _ ∧ e ≤ x ∧ x < t := hh
          omega)]
        cases fsP (apP l) x <;> rfl
  · rcases List.mem_append.1 hp with hp | hp
    · rcases h.le p hp with k | k
      · exact .inl (by omega)
      · exact .inr k
    · rw [List.mem_singleton.1 hp]; exact .inl (Int.le_refl _)
  · rcases List.mem_append.1 hp with hp | hp
    · exact h.st p hp
    · rw [List.mem_singleton.1 hp]
      show e ∈ _
      rcases h.at' with h0 | h0 | h0
      · rw [h0]; simp
      · omega
      · exact List.mem_cons_of_mem _ h0
  · rcases hs.ed with h | h
    · exact .inr (.inl h)
    · exact .inr (.inr h)
  · rcases List.mem_append.1 hp with hp | hp
    · exact h.few p hp
    · rw [List.mem_singleton.1 hp]
      exact .inr ⟨q, hs.m1 q rfl, rfl, rfl, rfl⟩
theorem ApM.done {a : List Pc} {l : List Ch} {M : List Pc} (h1 : ∀ c ∈ l, rightP c.f c.t = true) (h2 : l.Pairwise (fun c d => c.t ≤ d.f)) (h : ApM a l 1099511627776 M) (x : Int) : fsP M x = appV a l x := by
  rw [h.val]
  split
  · rfl
  · rename_i hx
    rw [apP_fs h1 h2, newV, appV, newAt_out h1 (.inr (by omega)), fs_out (.inr (by omega))]

end Go.Proofs.Ytnopbhlhdecimaa

/-
  The program's from, begin, same: what pieces are left from a time on, what they have there, and how far.
-/
namespace Go.Proofs.Ytnopbhlhdecimaa
open Go.RowKit

theorem RowE.move {w : World} {g off : Nat} {l : List Pc} (h : RowE EP w (some ⟨g, off, none⟩) l) (k : Nat) : RowE EP w (some ⟨g, off + k * 3, none⟩) (l.drop k) := fun i p hp => by
  rw [List.getElem?_drop] at hp
  obtain ⟨g', off', he, hc⟩ := h (k + i) p hp
  injection he with he
  injection he with e1 e2 _
  subst e1 e2
  refine ⟨g, off + k * 3, rfl, fun j u hu => ?_⟩
  have := hc j u hu
  rw [show off + k * 3 + i * EP.sz + j = off + (k + i) * EP.sz + j by show off + k * 3 + i * 3 + j = off + (k + i) * 3 + j; omega]
  exact this
def lenV : Value → Nat
  | .slice _ n _ => n
  | _ => 0
/-- A list of pieces as a value, and the block that it lies in. -/
structure RowB (X : Nat → Prop) (w : World) (u : Value) (l : List Pc) : Prop where
  lay : ∃ A c, u = .slice A l.length c ∧ RowE EP w A l ∧ l.length ≤ c ∧ (A = none → c = 0)
  blk : l ≠ [] → ∀ g, u.ownBlock = some g → X g
set_option maxHeartbeats 4000000 in
set_option maxRecDepth 10000 in
theorem pfrom_any (X : Nat → Prop) (w : World) (u : Value) (t : Int) (l : List Pc) (hl : RowB X w u l) (hn : l.length ≤ 100000) : Calls Try.prog 36 #[.int .i64 t, u] w fun e w' => (∃ v, e = .returned v ∧ RowB X w v (fromP t l)) ∧ w' = w := by
  obtain ⟨⟨A, c, rfl, hA, hc, hnc⟩, hX⟩ := hl
  by_cases h0 : l = []
  · subst h0
    have HX := Lib.hid (show RowB X w (.slice A 0 c) (fromP t []) from ⟨⟨A, c, rfl, hA, hc, hnc⟩, fun h => absurd rfl h⟩)
    simp only [List.length_nil]
    clear hA hc hnc hX hn
    go_enter Try.func36, Try.ntmps36
    go_wp2_with fail
    go_loop [1] (fun u => u = .slice A 0 c) (fun _ => 0)
    case atStart => rfl
    case round =>
      subst hrel
      go_wp2_with fail
      go_ret
      exact ⟨⟨_, rfl, HX.out⟩, rfl⟩
  · obtain ⟨p, hp⟩ : ∃ p, l[0]? = some p := ⟨_, List.getElem?_eq_getElem (List.length_pos_iff.2 h0)⟩
    obtain ⟨g, off, rfl, _⟩ := hA 0 p hp
    obtain ⟨n, hnm⟩ : ∃ n, l.length = n := ⟨_, rfl⟩
    rw [hnm] at hc hn hX ⊢
    have HN := Lib.hid hnm
    have HA := Lib.hid hA
    have HX := Lib.hid (show X g from hX h0 g rfl)
    clear hp hA hX hnm h0 hnc
    go_enter Try.func36, Try.ntmps36
    go_wp2_with fail
    go_loop [1] (fun u => ∃ k m q o : Nat, k + m = n ∧ m ≤ q ∧ (m ≠ 0 → o = off + k * 3) ∧ u = .slice (some ⟨g, o, none⟩) m q ∧ fromP t (l.drop k) = fromP t l) (fun u => lenV u)
    case atStart => exact ⟨0, n, c, off, by omega, hc, fun _ => by omega, rfl, by rw [List.drop_zero]⟩
    case round =>
      obtain ⟨k, m, q, o, hkm, hmq, ho, rfl, hd⟩ := hrel
      have HD := Lib.hid hd
      have HKM := Lib.hid hkm
      clear hd hkm
      rcases Nat.eq_zero_or_pos m with rfl | hm
      · clear ho
        have HE := Lib.hid (show fromP t l = [] by rw [← HD.out, List.drop_of_length_le (by have := HN.out; have := HKM.out; omega)]; rfl)
        go_wp2_with fail
        go_ret
        exact ⟨⟨_, rfl, by rw [HE.out]; exact ⟨⟨_, q, rfl, fun k p hp => by simp at hp, Nat.zero_le _, fun h => by cases h⟩, fun h => absurd rfl h⟩⟩, rfl⟩
      · have HO := Lib.hid (ho (by omega))
        clear ho
        have hm0 : (0 : Int) < (m : Int) := by omega
        have hm0' : decide ((0 : Int) < (m : Int)) = true := by simpa using hm
        have hq1 : (1 : Int) ≤ (q : Int) := by omega
        have hm1 : (1 : Int) ≤ (m : Int) := by omega
        have hmq' : (m : Int) ≤ (q : Int) := by omega
        obtain ⟨p, hx⟩ : ∃ p, l[k]? = some p := ⟨_, List.getElem?_eq_getElem (by have := HN.out; have := HKM.out; omega)⟩
        obtain ⟨g', off', he, hX⟩ := HA.out.cells3 hx
        injection he with he
        injection he with e1 e2 _
        subst e1 e2
        rw [← HO.out] at hX
        obtain ⟨z0, z1, z2⟩ := hX
        have HR := Lib.hid (show RowE EP w (some ⟨g, o, none⟩) (l.drop k) by rw [HO.out]; exact HA.out.move k)
        have HX2 := Lib.hid hx
        clear hx
        by_cases hp : p.t ≤ t
        · have hp' : decide (p.t ≤ t) = true := by simpa using hp
          have HNX := Lib.hid (show fromP t (l.drop (k + 1)) = fromP t l by rw [← fromP_step HX2.out hp]; exact HD.out)
          go_wp2_with fail
          go_round
          case rel =>
            refine ⟨k + 1, m - 1, q - 1, if q = 1 then o else o + 3, by have := HKM.out; omega, by omega, fun _ => ?_, ?_, HNX.out⟩
            · rw [if_neg (by omega)]
              have := HO.out
              omega
            · by_cases h1 : q = 1
              · rw [if_pos h1, if_pos h1]
              · rw [if_neg h1, if_neg h1]
          case measure => simp [lenV]; omega
        · have hp' : decide (p.t ≤ t) = false := by simpa using hp
          have HE := Lib.hid (show fromP t l = l.drop k by rw [← HD.out]; exact fromP_stop HX2.out hp)
          have HLM := Lib.hid (show (l.drop k).length = m by rw [List.length_drop]; have := HN.out; have := HKM.out; omega)
          go_wp2_with fail
          go_ret
          exact ⟨⟨.slice (some ⟨g, o, none⟩) m q, rfl, by rw [HE.out]; exact ⟨⟨_, q, by rw [HLM.out], HR.out, by rw [HLM.out]; exact hmq, fun h => by cases h⟩, fun _ g2 h2 => by cases h2; exact HX.out⟩⟩, rfl⟩

/-- What one of two timelines has, as a value. -/
def sdV : Option Pc → Value
  | none => .agg #[.bool false, .slice none 0 0]
  | some p => .agg #[.bool true, .slice p.fa p.fs.length p.fc]
/-- The world in which begin's words are said: its span in a box, its answer's first part in another one. -/
structure BgW (w : World) (f t : Int) (W : World) : Prop where
  bel : Below w.heap.size w W
  sp : BoxS W w.heap.size f t
  c0 : W.cell? ⟨w.heap.size + 1, 0, none⟩ = some (.bool false)
  c1 : W.cell? ⟨w.heap.size + 1, 1, none⟩ = some (.slice none 0 0)
  f0 : W.frozen? ⟨w.heap.size + 1, 0, none⟩ = false
  f1 : W.frozen? ⟨w.heap.size + 1, 1, none⟩ = false
theorem bgW_new (w : World) (f t : Int) : BgW w f t ((w.alloc (ocS f t)).alloc (.cells #[.bool false, .slice none 0 0] 56)) := by
  have hb1 : Below w.heap.size w (w.alloc (ocS f t)) := (bl w).alloc (Nat.le_refl _) _
  refine ⟨hb1.alloc hb1.size _, ⟨?_, ?_⟩, ?_, ?_, ?_, ?_⟩ <;> simp [go_sem]
theorem BgW.store {w W : World} {f t : Int} (h : BgW w f t W) (n : Nat) (x y : Value) : Below w.heap.size w (((W.setCell ⟨w.heap.size + 1, 0, none⟩ x).setCell ⟨w.heap.size + 1, 1, none⟩ y).drewN n) := belowN ((h.bel.setCell (p := ⟨w.heap.size + 1, 0, none⟩) (Nat.le_succ _) x).setCell (p := ⟨w.heap.size + 1, 1, none⟩) (Nat.le_succ _) y) n
set_option maxHeartbeats 4000000 in
set_option maxRecDepth 10000 in
theorem pbegin_any (X : Nat → Prop) (w : World) (u : Value) (f t : Int) (l : List Pc) (hl : RowB X w u l) (hn : l.length ≤ 100000) : Calls Try.prog 37 #[u, .agg #[.int .i64 f, .int .i64 t]] w fun e w' => e = .returned (.tuple #[sdV (beginO f l), .int .i64 (beginT f t l)]) ∧ Below w.heap.size w w' := by
  obtain ⟨⟨A, c, rfl, hA, hc, hnc⟩, _⟩ := hl
  cases l with
  | nil =>
    simp only [List.length_nil]
    clear hA hc hnc hn
    go_enter Try.func37, Try.ntmps37
    go_wp2_with fail
    refine abstract_worldW (fun W => BgW w f t W) (bgW_new w f t) ?_
    rintro W hW
    obtain ⟨hb, ⟨s0, s1⟩, c0, c1, f0, f1⟩ := hW
    have HW := Lib.hid (show BgW w f t W from ⟨hb, ⟨s0, s1⟩, c0, c1, f0, f1⟩)
    clear hb
    go_region
    all_goals go_wp2_with fail
    all_goals refine bodyPost_ret (v := .tuple #[sdV none, .int .i64 t]) (by simp [results, Try.results37, go_sem, c0, c1, sdV]) rfl ⟨rfl, HW.out.store 1 _ _⟩
  | cons p m =>
    obtain ⟨g, off, rfl, hX⟩ := hA.cells3 (k := 0) rfl
    obtain ⟨n, hnm⟩ : ∃ n, (p :: m).length = n := ⟨_, rfl⟩
    rw [hnm]
    have hn0 : ((n : Int) == 0) = false := by
      rw [beq_eq_false_iff_ne]
      have : (p :: m).length = m.length + 1 := rfl
      omega
    have hn1 : (0 : Int) < (n : Int) := by
      have : (p :: m).length = m.length + 1 := rfl
      omega
    have hn1' : 0 < n := by omega
    have hgl : g < w.heap.size := lt_of_cell hX.1
    have hg1 : ¬ (g = w.heap.size + 1) := by omega
    have hg2 : ¬ (w.heap.size + 1 = g) := by omega
    rw [show off + 0 * 3 = off by omega] at hX
    have HX := Lib.hid hX
    clear hA hc hnc hn hnm hX hgl
    by_cases h : f < p.f
    · have h' : decide (f < p.f) = true := by simpa using h
      have HE := Lib.hid (show beginO f (p :: m) = none ∧ beginT f t (p :: m) = min t p.f from ⟨by rw [beginO, if_pos h], by rw [beginT, if_pos h]⟩)
      rw [HE.out.1, HE.out.2]
      clear h
      go_enter Try.func37, Try.ntmps37
      go_wp2_with fail
      refine abstract_worldW (fun W => BgW w f t W) (bgW_new w f t) ?_
      rintro W hW
      obtain ⟨hb, ⟨s0, s1⟩, c0, c1, f0, f1⟩ := hW
      have HW := Lib.hid (show BgW w f t W from ⟨hb, ⟨s0, s1⟩, c0, c1, f0, f1⟩)
      obtain ⟨z0, z1, z2⟩ := HX.out.below hb
      clear hb
      go_region
      all_goals go_wp2_with fail
      all_goals go_region
      all_goals go_wp2_with fail
      all_goals refine bodyPost_ret (v := .tuple #[sdV none, .int .i64 (min t p.f)]) (by simp [results, Try.results37, go_sem, c0, c1, sdV]) rfl ⟨rfl, HW.out.store 2 _ _⟩
    · have h' : decide (f < p.f) = false := by simpa using h
      have HE := Lib.hid (show beginO f (p :: m) = some p ∧ beginT f t (p :: m) = min t p.t from ⟨by rw [beginO, if_neg h], by rw [beginT, if_neg h]⟩)
      rw [HE.out.1, HE.out.2]
      clear h
      go_enter Try.func37, Try.ntmps37
      go_wp2_with fail
      refine abstract_worldW (fun W => BgW w f t W) (bgW_new w f t) ?_
      rintro W hW
      obtain ⟨hb, ⟨s0, s1⟩, c0, c1, f0, f1⟩ := hW
      have HW := Lib.hid (show BgW w f t W from ⟨hb, ⟨s0, s1⟩, c0, c1, f0, f1⟩)
      obtain ⟨z0, z1, z2⟩ := HX.out.below hb
      clear hb
      go_region
      all_goals go_wp2_with fail
      all_goals go_region
      all_goals go_wp2_with fail
      all_goals refine bodyPost_ret (v := .tuple #[sdV (some p), .int .i64 (min t p.t)]) (by simp [results, Try.results37, go_sem, c0, c1, sdV]) rfl ⟨rfl, HW.out.store 2 _ _⟩

end Go.Proofs.Ytnopbhlhdecimaa

/-
  A range over a function that writes variables of its own; a region that draws its order, within a round.
-/
namespace Go.Proofs.Ytnopbhlhdecimaa
open Go.RowKit

/-- A post that is left in the normal way alone. -/
def OnlyN (K : Act → World → Prop) : Exit → Act → World → Prop := fun e a w => e = .normal ∧ K a w
theorem only_out {K : Act → World → Prop} : ¬ LetsOut (OnlyN K) := fun h => by
  obtain ⟨a, w, h, _⟩ := h
  cases h
/-- No operation of a region defers a call. -/
def noDefer1 (o : Oper) : Bool := match o.op with
  | .defer _ => false
  | _ => true
def noDefer (ops : Array Oper) : Prop := ops.toList.all noDefer1 = true
theorem noDefer_of {ops : Array Oper} (h : noDefer ops) {o : Oper} (ho : o ∈ ops.toList) (c : Call) : o.op ≠ .defer c := fun e => by
  have h1 := List.all_eq_true.1 h o ho
  rw [noDefer1, e] at h1
  cases h1
theorem about_wide (P : Program) (o : Oper) (w : World) (a : Act) (l : Nat) : ∀ f, o.about P w a.eval = some f → (Fence.wide.inRound l).fn f := fun _ _ => trivial
theorem op_inRound {P : Program} {o : Oper} {a : Act} {w : World} {next : Act → World → Prop} {Q : Exit → Act → World → Prop} {l n : Nat} (hd : ∀ c, o.op ≠ .defer c) (h : o.wp P a w next Q) : o.wpIn (Fence.wide.inRound l) n P a w next Q := by
  refine ⟨about_wide P o w a l, ?_⟩
  rw [Oper.semAt_eq _ _ _ hd]
  unfold Oper.wp at h
  generalize (execOp a.eval o).run P w = r at *
  cases r with
  | ok x w' =>
    cases x <;> simp only [Oper.upon, Oper.uponIn] at h ⊢
    case value v => exact h
    case skip => exact h
    case defer d => exact h
    case enter f args =>
      refine ⟨fun h => (by cases h), ?_⟩
      have h2 := (callsIn_wide (n := n - 1)).2 h
      refine CallsIn.mono (F := Fence.wide) h2 fun e w'' he => ?_
      cases e with
      | returned v => exact he
      | panicked c => exact he
      | outgrown => exact he
    case row row args =>
      refine ⟨fun h => (by cases h), fun c cs _ => ?_⟩
      obtain ⟨v, w'', hr, hs⟩ := h c cs
      exact ⟨v, w'', hr, stepsIn_wide.2 hs⟩
    all_goals exact h.elim
  | halt x w' =>
    cases x <;> simp only [Oper.upon, Oper.uponIn] at h ⊢
    case panic v => exact h
    all_goals exact h.elim
theorem any_inRound {P : Program} {md : Region.Mode} {ops : Array Oper} {K : Act → World → Prop} {l n : Nat} (hd : noDefer ops) :
    ∀ (fuel : Nat) (listed : Array Bool) (a : Act) (w : World), wpAny P md ops (OnlyN K) fuel listed a w → wpAnyIn (Fence.wide.inRound l) n P md ops (OnlyN K) fuel listed a w
  | 0, _, _, _, h => h
  | fuel + 1, listed, a, w, h => by
    refine ⟨h.1, fun i hi => ?_⟩
    have h2 := h.2 i hi
    unfold wpOp at h2
    unfold wpOpIn
    split
    · rename_i ho
      rw [ho] at h2
      exact any_inRound hd fuel _ _ _ h2
    · rename_i o ho
      rw [ho] at h2
      simp only at h2
      have hm : o ∈ ops.toList := by
        have := Array.mem_of_getElem? ho
        simpa using this
      split
      · rename_i hw
        rw [if_pos hw] at h2
        rcases h2 with h2 | ⟨_, h2⟩
        · exact op_inRound (noDefer_of hd hm) (Oper.wp_mono (fun a w => any_inRound hd fuel _ a w) h2)
        · exact absurd h2 only_out
      · rename_i hw
        rw [if_neg hw] at h2
        exact ⟨about_wide P o w a l, any_inRound hd fuel _ _ _ h2⟩
theorem callsIn_inRound {P : Program} {f : FuncId} {args : Array Value} {w : World} {R : Ending → World → Prop} {l n : Nat} (h : Calls P f args w R) : CallsIn (Fence.wide.inRound l) n P f args w R := (callsIn_wide (n := n)).2 h
/-- A region that draws its order, within a round: while S holds. -/
theorem region_inRound {P : Program} {id : Nat} {ops : Array Oper} {Q : Exit → Act → World → Prop} {a : Act} {w : World} {l n : Nat} (S : World → Prop) (hm : P.follows .mixedOrders = true) (hd : ops.toList.all noDefer1 = true) (hS : S w.drew)
    (h : S w.drew → wpAnyH P .any ops (OnlyN (Q .normal)) S ops.size (Array.replicate ops.size false) a w.drew) : (Code.region id ops true).wpIn (Fence.wide.inRound l) n P Q a w := by
  refine Go.wpIn_mono (Q := OnlyN (Q .normal)) (wpIn_region_any hm (any_inRound hd _ _ _ _ (wpAny_of_held _ _ _ _ (h hS)))) ?_
  rintro e a w ⟨rfl, h⟩
  exact h
theorem keeps_below {W W' : World} (h : Below W.heap.size W W') : KeepsOthers W W' := ⟨h.size, fun k _ hk _ => (h.block k (Array.getElem?_eq_some_iff.1 hk).1).trans hk⟩

abbrev T2P : TypeId := 54
abbrev TSp : TypeId := 42
abbrev T2S : TypeId := 57
/-- The types of the iterator's own variables. -/
def itT (t : TypeId) : Prop := t = T2P ∨ t = TSp ∨ t = T2S
/-- A step of the iterator: new memory, or a store into a variable of its own that lies at B or beyond. -/
def ItStep (B : Nat) (W W' : World) : Prop := ∃ row, W.grownBy W' row ∧ ∀ r, row = some r → B ≤ r ∧ ∃ cur t, itT t ∧ W.heap[r]? = some (.cells cur t (0, 0))
theorem ItStep.less {B B' : Nat} {W W' : World} (h : ItStep B' W W') (hB : B ≤ B') : ItStep B W W' := by
  obtain ⟨row, h1, h2⟩ := h
  exact ⟨row, h1, fun r e => ⟨Nat.le_trans hB (h2 r e).1, (h2 r e).2⟩⟩
theorem ItStep.of_below {B : Nat} {W W' : World} (h : Below W.heap.size W W') : ItStep B W W' := ⟨none, ⟨h.os, h.tape, h.output, h.size, fun k hk _ => h.block k hk⟩, fun r e => by cases e⟩
theorem ItStep.other {B : Nat} {W W' : World} (h : ItStep B W W') {c : Nat} {o : Obj} (hc : W.heap[c]? = some o) (ho : ∀ cur t, itT t → o ≠ .cells cur t (0, 0)) : W'.heap[c]? = some o := by
  obtain ⟨row, h1, h2⟩ := h
  refine (h1.block c (Array.getElem?_eq_some_iff.1 hc).1 fun e => ?_).trans hc
  obtain ⟨_, cur, t, ht, h3⟩ := h2 c e.symm
  rw [hc] at h3
  injection h3 with h3
  exact ho cur t ht h3
theorem ItStep.below {B n : Nat} {w W W' : World} (h : ItStep B W W') (hb : Below n w W) (hn0 : n ≤ w.heap.size) (hn : n ≤ B) : Below n w W' := by
  obtain ⟨row, h1, h2⟩ := h
  exact hb.grown h1 (Nat.le_trans hn0 hb.size) (fun k e => Nat.le_trans hn (h2 k e).1)
/-- What a round keeps: the iterator's variables, and the blocks that it reads. -/
def KpX (X : Nat → Prop) (W W' : World) : Prop := ∀ c o, W.heap[c]? = some o → (X c ∨ ∃ cur t, itT t ∧ o = .cells cur t (0, 0)) → o.isCells = true → W'.heap[c]? = some o
theorem KpX.trans {X : Nat → Prop} {A B C : World} (h : KpX X A B) (k : KpX X B C) : KpX X A C := fun c _ hc hx ho => k c _ (h c _ hc hx ho) hx ho
theorem KpX.of_below {X : Nat → Prop} {W W' : World} (h : Below W.heap.size W W') : KpX X W W' := fun c _ hc _ _ => (h.block c (Array.getElem?_eq_some_iff.1 hc).1).trans hc
theorem KpX.putObj {X : Nat → Prop} {W : World} {l : Nat} {o : Obj} (h : W.heap[l]? = some o) (ho : o.isCells = false) (o' : Obj) : KpX X W (W.putObj l o') := fun c o2 hc _ h2 => by
  refine (World.putObj_heap_other fun e => ?_).trans hc
  rw [e, h] at hc
  injection hc with hc
  rw [hc, h2] at ho
  cases ho
/-- What one side has, as cells. -/
def sdC : Option Pc → Array Value
  | none => #[.bool false, .slice none 0 0]
  | some p => #[.bool true, .slice p.fa p.fs.length p.fc]
/-- What both have, as a value. -/
def bothV (o1 o2 : Option Pc) : Value := .agg (sdC o1 ++ sdC o2)
abbrev ocB (o1 o2 : Option Pc) : Obj := .cells (sdC o1 ++ sdC o2) T2S
/-- How a round is left. -/
def endP (B : Nat) (X : Nat → Prop) (I : Int → World → Prop) (t : Int) (W : World) : Exit → Act → World → Prop
  | .normal, _, W' => KeepsFrom B W W' ∧ KpX X W W' ∧ I t W'
  | _, _, _ => False

theorem range_strch {n : Nat} {g : Operand} {ps : Array Tmp} {assign body : Code} {Q : Exit → Act → World → Prop} {a : Act} {w : World} {gf : Nat} {lb : Array Value} (hg : a.eval g = .func (.func gf) #[] lb) (eg : ∀ args w, (callFunc gf args).run Try.prog w = .ok (.enter gf args) w)
    (X : Nat → Prop) (la ma : List Pc) (hps : ps.size = 2) (I : Int → World → Prop) (hIt : ∀ s A B, I s A → ItStep w.heap.size A B → I s B) (hIo : ∀ s A l o o', I s A → w.heap.size ≤ l → A.heap[l]? = some o → o.isCells = false → I s (A.putObj l o'))
    (hrun : ∀ (l : Nat) (J : Int → World → Prop) (W : World), Below w.heap.size w W → W.heap.size = w.heap.size + 2 → (∀ s A B, J s A → ItStep W.heap.size A B → J s B) →
      (∀ f t o1 o2 W1, J f W1 → Strch la ma f t o1 o2 → YieldAt Fence.wide (n - 1 - 1) Try.prog l #[sp2 (f, t), bothV o1 o2] W1 fun e W' => e = .returned (.bool true) ∧ J t W' ∧ KpX X W1 W') →
      J (-1099511627776) W → CallsIn Fence.wide (n - 1) Try.prog gf (#[.func (.yield l) #[] #[]] ++ lb) W fun e W' => (∃ v, e = .returned v) ∧ J 1099511627776 W')
    (h0 : I (-1099511627776) w) (a₁ : Int → Int → Option Pc → Option Pc → Nat → Act)
    (hassign : ∀ (l : Nat) (f t : Int) (o1 o2 : Option Pc) (W : World) (K : Act → World → Prop), K (a₁ f t o1 o2 W.heap.size) ((W.alloc (ocS f t)).alloc (ocB o1 o2)) →
      assign.wpIn (Fence.wide.inRound l) (n - 1 - 1) Try.prog (Exit.then K (fun _ _ _ => False)) { tmps := (ps.zip #[sp2 (f, t), bothV o1 o2]).foldl (fun t (p, v) => t.setIfInBounds p v) a.tmps, defers := [] } W)
    (hbody : ∀ (l : Nat) (f t : Int) (o1 o2 : Option Pc) (W : World) (b : Nat), I f W → Strch la ma f t o1 o2 → w.heap.size ≤ b → W.heap[b]? = some (ocS f t) → W.heap[b + 1]? = some (ocB o1 o2) →
      body.wpIn (Fence.wide.inRound l) (n - 1 - 1) Try.prog (endP w.heap.size X I t W) (a₁ f t o1 o2 b) W)
    (hdone : ∀ (D : Nat) (W : World), w.heap.size ≤ D → I 1099511627776 W → W.heap[D]? = some (.deferred (some [])) → Q .normal { a with defers := { target := .collected D, args := #[] } :: a.defers } W) :
    (Code.rangeFunc g ps assign body).wpIn Fence.wide n Try.prog Q a w := by
  refine wpIn_rangeFunc fun fn hfn => ?_
  obtain ⟨lp, hlp⟩ : ∃ lp : LoopState → Loop, lp = fun s => { state := s, pending := none, fn, tmps := a.tmps, params := ps, assign, body, defers := w.heap.size } := ⟨_, rfl⟩
  obtain ⟨W1, hW1⟩ : ∃ W1, (w.alloc (.deferred (some []))).alloc (.loop (lp .ready)) = W1 := ⟨_, rfl⟩
  have hb0 : Below w.heap.size w (w.alloc (.deferred (some []))) := (bl w).alloc (Nat.le_refl _) _
  have hb1 : Below w.heap.size w W1 := by rw [← hW1]; exact hb0.alloc hb0.size _
  have hsz : W1.heap.size = w.heap.size + 2 := by rw [← hW1]; simp
  have hl1 : W1.heap[w.heap.size + 1]? = some (.loop (lp .ready)) := by
    rw [← hW1]
    have h := World.alloc_heap_new (w.alloc (.deferred (some []))) (.loop (lp .ready))
    rwa [World.size_alloc] at h
  have hd1 : W1.heap[w.heap.size]? = some (.deferred (some [])) := by
    rw [← hW1]
    exact (Go.RowKit.Below.heap_alloc _ _ _ (by simp)).trans (World.alloc_heap_new w _)
  refine ⟨w.heap.size + 1, [{ target := .collected w.heap.size, args := #[] }], W1, { target := .fn (.func gf) lb, args := #[.func (.yield (w.heap.size + 1)) #[] #[]] }, W1, gf,
    #[.func (.yield (w.heap.size + 1)) #[] #[]] ++ lb, W1, ?_, ?_, fun _ _ => trivial, ?_, fun h => (by cases h), ?_⟩
  · rw [← hW1, hlp]
    exact run_enterLoop_outer _ _ _ _ _
  · simp only [resolve, hg]
    simp [go_sem]
  · simp [invoke, go_sem, eg]
  -- what the iterator is handed: the caller's own word, the loop's record ready, the block for deferred calls as it lay
  have own : ∀ {s : Int} {A B : World}, ItStep W1.heap.size A B → (I s A ∧ A.heap[w.heap.size + 1]? = some (.loop (lp .ready)) ∧ A.heap[w.heap.size]? = some (.deferred (some []))) → (I s B ∧ B.heap[w.heap.size + 1]? = some (.loop (lp .ready)) ∧ B.heap[w.heap.size]? = some (.deferred (some []))) := fun hs h =>
    ⟨hIt _ _ _ h.1 (hs.less (by omega)), hs.other h.2.1 (fun _ _ _ e => by cases e), hs.other h.2.2 (fun _ _ _ e => by cases e)⟩
  refine (hrun (w.heap.size + 1) (fun s W => I s W ∧ W.heap[w.heap.size + 1]? = some (.loop (lp .ready)) ∧ W.heap[w.heap.size]? = some (.deferred (some []))) W1 hb1 hsz (fun _ _ _ h hs => own hs h) ?_ ⟨hIt _ _ _ h0 (.of_below hb1), hl1, hd1⟩).mono ?_
  · rintro f t o1 o2 W ⟨hi, hl, hk⟩ hst
    have hllt : w.heap.size + 1 < W.heap.size := (Array.getElem?_eq_some_iff.1 hl).1
    have hy := run_yield (P := Try.prog) (args := #[sp2 (f, t), bothV o1 o2]) hl (by rw [hlp]; exact hps.symm)
    rw [hlp] at hy
    refine ⟨fn, _, assign, body, hy, roundIn_of_wpIn hfn (hassign _ f t o1 o2 W _ ?_)⟩
    have ha1 : Below W.heap.size W (W.alloc (ocS f t)) := (bl W).alloc (Nat.le_refl _) _
    have ha2 : Below W.heap.size W ((W.alloc (ocS f t)).alloc (ocB o1 o2)) := ha1.alloc ha1.size _
    have hl2 := (ha2.block _ hllt).trans hl
    have hk2 := (ha2.block _ (by omega)).trans hk
    refine ⟨_, run_beginRound hl2 (by rw [hlp]), ?_⟩
    have hi2 : I f (((W.alloc (ocS f t)).alloc (ocB o1 o2)).putObj (w.heap.size + 1) (.loop { lp .ready with state := .busy })) := hIo _ _ _ _ _ (hIt _ _ _ hi (.of_below ha2)) (by omega) hl2 rfl
    have hsz2 : ((W.alloc (ocS f t)).alloc (ocB o1 o2)).heap.size = W.heap.size + 2 := by simp
    have hl3 : (((W.alloc (ocS f t)).alloc (ocB o1 o2)).putObj (w.heap.size + 1) (.loop { lp .ready with state := .busy })).heap[w.heap.size + 1]? = some (.loop { lp .ready with state := .busy }) := World.putObj_heap_same (by omega)
    have hk3 : (((W.alloc (ocS f t)).alloc (ocB o1 o2)).putObj (w.heap.size + 1) (.loop { lp .ready with state := .busy })).heap[w.heap.size]? = some (.deferred (some [])) := (World.putObj_heap_other (by omega)).trans hk2
    have hx2 : KpX X W (((W.alloc (ocS f t)).alloc (ocB o1 o2)).putObj (w.heap.size + 1) (.loop { lp .ready with state := .busy })) := (KpX.of_below ha2).trans (KpX.putObj hl2 rfl _)
    have hbs : (((W.alloc (ocS f t)).alloc (ocB o1 o2)).putObj (w.heap.size + 1) (.loop { lp .ready with state := .busy })).heap[W.heap.size]? = some (ocS f t) := by
      refine (World.putObj_heap_other (by omega)).trans ((Go.RowKit.Below.heap_alloc _ _ _ (by simp)).trans (World.alloc_heap_new W _))
    have hbb : (((W.alloc (ocS f t)).alloc (ocB o1 o2)).putObj (w.heap.size + 1) (.loop { lp .ready with state := .busy })).heap[W.heap.size + 1]? = some (ocB o1 o2) := by
      refine (World.putObj_heap_other (by omega)).trans ?_
      have h := World.alloc_heap_new (W.alloc (ocS f t)) (ocB o1 o2)
      rwa [World.size_alloc] at h
    refine Go.wpIn_mono (hbody _ f t o1 o2 _ W.heap.size hi2 hst (by omega) hbs hbb) ?_
    intro e a3 W3 hp
    cases e with
    | normal =>
      obtain ⟨hkf, hkx, hi3⟩ := hp
      have hl4 := hkf.same _ _ (by omega) hl3 rfl
      have hk4 := hkf.same _ _ (Nat.le_refl _) hk3 rfl
      have hend := run_endRound (P := Try.prog) none hl4
      refine ⟨_, _, hend, rfl, ⟨hIo _ _ _ _ _ hi3 (by omega) hl4 rfl, ?_, (World.putObj_heap_other (by omega)).trans hk4⟩, (hx2.trans hkx).trans (KpX.putObj hl4 rfl _)⟩
      rw [World.putObj_heap_same (Array.getElem?_eq_some_iff.1 hl4).1, hlp]
      rfl
    | _ => exact hp.elim
  · rintro e W2 ⟨⟨v, rfl⟩, hi, hl, hk⟩
    have hend := run_endLoop (P := Try.prog) hl (by rw [hlp]; simp)
    rw [hlp] at hend
    exact ⟨none, _, hend, hdone _ _ (Nat.le_refl _) (hIo _ _ _ _ _ hi (by omega) hl rfl) ((World.putObj_heap_other (by omega)).trans hk)⟩

end Go.Proofs.Ytnopbhlhdecimaa

/-
  The program's stretches: an iterator with variables of its own.
-/
namespace Go.Proofs.Ytnopbhlhdecimaa
open Go.RowKit

attribute [local go_sem] Oper.semAt_some

theorem pstretches_any (w : World) (A B : Option Addr) (n m c d : Nat) : Calls Try.prog 21 #[.agg #[.slice A n c, .slice B m d]] w fun e w' => e = .returned (.func (.func 35) #[] #[.pointer (some ⟨w.heap.size, 0, none⟩)]) ∧ w' = w.alloc (.cells #[.slice A n c, .slice B m d] T2P) := by
  go_enter Try.func21, Try.ntmps21
  go_wp2_with fail
  go_ret
  exact ⟨rfl, rfl⟩

/-- The iterator's variable of what is left. -/
structure RestI (X : Nat → Prop) (la ma : List Pc) (R : Nat) (f : Int) (ra rb : List Pc) (w : World) : Prop where
  box : ∃ A n c B m d, w.heap[R]? = some (.cells #[.slice A n c, .slice B m d] T2P (0, 0)) ∧ RowB X w (.slice A n c) ra ∧ RowB X w (.slice B m d) rb
  la : Left la ra f
  ma : Left ma rb f
  na : ra.length ≤ 100000
  nb : rb.length ≤ 100000
theorem RowB.kept {X : Nat → Prop} {w w' : World} {u : Value} {l : List Pc} (h : RowB X w u l) (k : KpX X w w') : RowB X w' u l := by
  obtain ⟨⟨A, c, rfl, hr, hc, hn⟩, hb⟩ := h
  refine ⟨⟨A, c, rfl, fun i p hp => ?_, hc, hn⟩, hb⟩
  obtain ⟨g, off, rfl, hcell⟩ := hr i p hp
  refine ⟨g, off, rfl, fun j u hu => ?_⟩
  have h1 := hcell j u hu
  have hX : X g := hb (fun e => by rw [e] at hp; simp at hp) g rfl
  obtain ⟨o, ho, hoc⟩ := cells_of_cell h1
  have ho : w.heap[g]? = some o := ho
  refine (World.cell?_of_block (w := w) ?_).trans h1
  show w'.heap[g]? = w.heap[g]?
  rw [ho]
  exact k g o ho (.inl hX) hoc
theorem RowB.it {X : Nat → Prop} {w w' : World} {B : Nat} {u : Value} {l : List Pc} (h : RowB X w u l) (k : ItStep B w w') (hX : ∀ c, X c → ∀ cur t, itT t → w.heap[c]? ≠ some (.cells cur t (0, 0))) : RowB X w' u l := by
  obtain ⟨⟨A, c, rfl, hr, hc, hn⟩, hb⟩ := h
  refine ⟨⟨A, c, rfl, fun i p hp => ?_, hc, hn⟩, hb⟩
  obtain ⟨g, off, rfl, hcell⟩ := hr i p hp
  refine ⟨g, off, rfl, fun j u hu => ?_⟩
  have h1 := hcell j u hu
  have hXg : X g := hb (fun e => by rw [e] at hp; simp at hp) g rfl
  obtain ⟨o, ho, hoc⟩ := cells_of_cell h1
  have ho : w.heap[g]? = some o := ho
  refine (World.cell?_of_block (w := w) ?_).trans h1
  show w'.heap[g]? = w.heap[g]?
  rw [ho]
  exact k.other ho fun cur t ht e => hX g hXg cur t ht (by rw [ho, e])

theorem RowB.low {X : Nat → Prop} {w w' : World} {u : Value} {l : List Pc} (h : RowB X w u l) (hX : ∀ c, X c → w'.heap[c]? = w.heap[c]?) : RowB X w' u l := by
  obtain ⟨⟨A, c, rfl, hr, hc, hn⟩, hb⟩ := h
  refine ⟨⟨A, c, rfl, fun i p hp => ?_, hc, hn⟩, hb⟩
  obtain ⟨g, off, rfl, hcell⟩ := hr i p hp
  exact ⟨g, off, rfl, fun j u hu => (World.cell?_of_block (w := w) (hX g (hb (fun e => by rw [e] at hp; simp at hp) g rfl))).trans (hcell j u hu)⟩
theorem heap_setI {w : World} {g o : Nat} {c : Array Value} {t : TypeId} (h : w.heap[g]? = some (.cells c t (0, 0))) (u : Value) : (w.setCell ⟨g, o, none⟩ u).heap[g]? = some (.cells (c.setIfInBounds o u) t (0, 0)) := by
  have hlt := (Array.getElem?_eq_some_iff.1 h).1
  have h' : w.heap[g] = .cells c t (0, 0) := by simpa [Array.getElem?_eq_getElem hlt] using h
  show (w.heap.modify g _)[g]? = _
  rw [Array.getElem?_eq_getElem (by simpa using hlt), Array.getElem_modify_self, h']
  rfl
theorem heap_set2 (w : World) {g c o : Nat} (u : Value) (h : c ≠ g) : (w.setCell ⟨g, o, none⟩ u).heap[c]? = w.heap[c]? := Go.RowKit.Below.heap_setCell w ⟨g, o, none⟩ u c h
theorem ItStep.set {B : Nat} {w : World} {g o : Nat} {c : Array Value} {t : TypeId} (h : w.heap[g]? = some (.cells c t (0, 0))) (ht : itT t) (hB : B ≤ g) (u : Value) : ItStep B w (w.setCell ⟨g, o, none⟩ u) :=
  ⟨some g, ⟨rfl, rfl, rfl, by simp [World.setCell], fun k _ hk => heap_set2 w u (fun e => hk (by rw [e]))⟩, fun r e => by cases e; exact ⟨hB, c, t, ht, h⟩⟩
/-- Where the iterator's variables lie. -/
structure ItE (X : Nat → Prop) (J : Int → World → Prop) (B R b : Nat) : Prop where
  hJ : ∀ s A' B', J s A' → ItStep B A' B' → J s B'
  hX : ∀ c, X c → c < B
  hR : B ≤ R
  hb : R < b
/-- Amid a round: what they hold. -/
structure InA (X : Nat → Prop) (J : Int → World → Prop) (R b : Nat) (f : Int) (ra rb : List Pc) (te : Int) (o1 o2 : Option Pc) (w : World) : Prop where
  j : J f w
  rest : ∃ A n c A' n' c', w.heap[R]? = some (.cells #[.slice A n c, .slice A' n' c'] T2P (0, 0)) ∧ RowB X w (.slice A n c) ra ∧ RowB X w (.slice A' n' c') rb
  sp : w.heap[b]? = some (ocS f te)
  both : w.heap[b + 1]? = some (ocB o1 o2)
section
variable {X : Nat → Prop} {J : Int → World → Prop} {B R b : Nat} {f te : Int} {ra rb : List Pc} {o1 o2 : Option Pc} {w : World}
theorem InA.below (E : ItE X J B R b) (h : InA X J R b f ra rb te o1 o2 w) {w' : World} (hb : Below w.heap.size w w') : InA X J R b f ra rb te o1 o2 w' := by
  obtain ⟨hj, ⟨A, n, c, A', n', c', h1, h2, h3⟩, h4, h5⟩ := h
  have key : ∀ k o, w.heap[k]? = some o → w'.heap[k]? = some o := fun k o hk => (hb.block k (Array.getElem?_eq_some_iff.1 hk).1).trans hk
  have hB : B < w.heap.size := by have := (Array.getElem?_eq_some_iff.1 h1).1; have := E.hR; omega
  exact ⟨E.hJ _ _ _ hj (.of_below hb), ⟨A, n, c, A', n', c', key _ _ h1, h2.low fun k hk => hb.block k (by have := E.hX k hk; omega), h3.low fun k hk => hb.block k (by have := E.hX k hk; omega)⟩, key _ _ h4, key _ _ h5⟩
theorem InA.set0 (E : ItE X J B R b) (h : InA X J R b f ra rb te o1 o2 w) {A2 : Option Addr} {n2 c2 : Nat} {ra' : List Pc} (hr : RowB X w (.slice A2 n2 c2) ra') : InA X J R b f ra' rb te o1 o2 (w.setCell ⟨R, 0, none⟩ (.slice A2 n2 c2)) := by
  obtain ⟨hj, ⟨A, n, c, A', n', c', h1, h2, h3⟩, h4, h5⟩ := h
  have e1 := E.hR
  have e2 := E.hb
  have low : ∀ k, X k → (w.setCell ⟨R, 0, none⟩ (.slice A2 n2 c2)).heap[k]? = w.heap[k]? := fun k hk => heap_set2 w _ (by have := E.hX k hk; omega)
  exact ⟨E.hJ _ _ _ hj (.set h1 (.inl rfl) E.hR _), ⟨A2, n2, c2, A', n', c', heap_setI h1 _, hr.low low, h3.low low⟩, (heap_set2 w _ (by omega)).trans h4, (heap_set2 w _ (by omega)).trans h5⟩
theorem InA.set1 (E : ItE X J B R b) (h : InA X J R b f ra rb te o1 o2 w) {A2 : Option Addr} {n2 c2 : Nat} {rb' : List Pc} (hr : RowB X w (.slice A2 n2 c2) rb') : InA X J R b f ra rb' te o1 o2 (w.setCell ⟨R, 1, none⟩ (.slice A2 n2 c2)) := by
  obtain ⟨hj, ⟨A, n, c, A', n', c', h1, h2, h3⟩, h4, h5⟩ := h
  have e1 := E.hR
  have e2 := E.hb
  have low : ∀ k, X k → (w.setCell ⟨R, 1, none⟩ (.slice A2 n2 c2)).heap[k]? = w.heap[k]? := fun k hk => heap_set2 w _ (by have := E.hX k hk; omega)
  exact ⟨E.hJ _ _ _ hj (.set h1 (.inl rfl) E.hR _), ⟨A, n, c, A2, n2, c2, heap_setI h1 _, h2.low low, hr.low low⟩, (heap_set2 w _ (by omega)).trans h4, (heap_set2 w _ (by omega)).trans h5⟩
theorem InA.setTo (E : ItE X J B R b) (h : InA X J R b f ra rb te o1 o2 w) (t : Int) : InA X J R b f ra rb t o1 o2 (w.setCell ⟨b, 1, none⟩ (.int .i64 t)) := by
  obtain ⟨hj, ⟨A, n, c, A', n', c', h1, h2, h3⟩, h4, h5⟩ := h
  have e1 := E.hR
  have e2 := E.hb
  have low : ∀ k, X k → (w.setCell ⟨b, 1, none⟩ (.int .i64 t)).heap[k]? = w.heap[k]? := fun k hk => heap_set2 w _ (by have := E.hX k hk; omega)
  exact ⟨E.hJ _ _ _ hj (.set h4 (.inr (.inl rfl)) (by omega) _), ⟨A, n, c, A', n', c', (heap_set2 w _ (by omega)).trans h1, h2.low low, h3.low low⟩, heap_setI h4 _, (heap_set2 w _ (by omega)).trans h5⟩
theorem sdC_of {o : Option Pc} {x : Bool} {A : Option Addr} {n c : Nat} (h : sdV o = .agg #[.bool x, .slice A n c]) : sdC o = #[.bool x, .slice A n c] := by
  cases o with
  | none => unfold sdV at h; injection h with h
  | some p => unfold sdV at h; injection h with h
theorem sdV_is (o : Option Pc) : ∃ x A n c, sdV o = .agg #[.bool x, .slice A n c] := by
  cases o with
  | none => exact ⟨_, _, _, _, rfl⟩
  | some p => exact ⟨_, _, _, _, rfl⟩
theorem InA.both0 (E : ItE X J B R b) (h : InA X J R b f ra rb te o1 o2 w) {o : Option Pc} {x : Bool} {A : Option Addr} {n c : Nat} (ho : sdV o = .agg #[.bool x, .slice A n c]) : InA X J R b f ra rb te o o2 ((w.setCell ⟨b + 1, 0, none⟩ (.bool x)).setCell ⟨b + 1, 1, none⟩ (.slice A n c)) := by
  obtain ⟨hj, ⟨A1, n1, c1, A', n', c', h1, h2, h3⟩, h4, h5⟩ := h
  have e1 := E.hR
  have e2 := E.hb
  obtain ⟨x1, A3, n3, c3, h6⟩ := sdV_is o1
  obtain ⟨x2, A4, n4, c4, h7⟩ := sdV_is o2
  have k5 := h5
  unfold ocB at k5
  rw [sdC_of h6, sdC_of h7] at k5
  have s1 := heap_setI (o := 0) k5 (.bool x)
  have s2 := heap_setI (o := 1) s1 (.slice A n c)
  have other : ∀ k, k ≠ b + 1 → ((w.setCell ⟨b + 1, 0, none⟩ (.bool x)).setCell ⟨b + 1, 1, none⟩ (.slice A n c)).heap[k]? = w.heap[k]? := fun k hk => (heap_set2 _ _ hk).trans (heap_set2 _ _ hk)
  have low : ∀ k, X k → ((w.setCell ⟨b + 1, 0, none⟩ (.bool x)).setCell ⟨b + 1, 1, none⟩ (.slice A n c)).heap[k]? = w.heap[k]? := fun k hk => other k (by have := E.hX k hk; omega)
  refine ⟨E.hJ _ _ _ (E.hJ _ _ _ hj (.set k5 (.inr (.inr rfl)) (by omega) _)) (.set s1 (.inr (.inr rfl)) (by omega) _), ⟨A1, n1, c1, A', n', c', (other _ (by omega)).trans h1, h2.low low, h3.low low⟩, (other _ (by omega)).trans h4, ?_⟩
  unfold ocB
  rw [sdC_of ho, sdC_of h7, s2]
  rfl
theorem InA.both1 (E : ItE X J B R b) (h : InA X J R b f ra rb te o1 o2 w) {o : Option Pc} {x : Bool} {A : Option Addr} {n c : Nat} (ho : sdV o = .agg #[.bool x, .slice A n c]) : InA X J R b f ra rb te o1 o ((w.setCell ⟨b + 1, 2, none⟩ (.bool x)).setCell ⟨b + 1, 3, none⟩ (.slice A n c)) := by
  obtain ⟨hj, ⟨A1, n1, c1, A', n', c', h1, h2, h3⟩, h4, h5⟩ := h
  have e1 := E.hR
  have e2 := E.hb
  obtain ⟨x1, A3, n3, c3, h6⟩ := sdV_is o1
  obtain ⟨x2, A4, n4, c4, h7⟩ := sdV_is o2
  have k5 := h5
  unfold ocB at k5
  rw [sdC_of h6, sdC_of h7] at k5
  have s1 := heap_setI (o := 2) k5 (.bool x)
  have s2 := heap_setI (o := 3) s1 (.slice A n c)
  have other : ∀ k, k ≠ b + 1 → ((w.setCell ⟨b + 1, 2, none⟩ (.bool x)).setCell ⟨b + 1, 3, none⟩ (.slice A n c)).heap[k]? = w.heap[k]? := fun k hk => (heap_set2 _ _ hk).trans (heap_set2 _ _ hk)
  have low : ∀ k, X k → ((w.setCell ⟨b + 1, 2, none⟩ (.bool x)).setCell ⟨b + 1, 3, none⟩ (.slice A n c)).heap[k]? = w.heap[k]? := fun k hk => other k (by have := E.hX k hk; omega)
  refine ⟨E.hJ _ _ _ (E.hJ _ _ _ hj (.set k5 (.inr (.inr rfl)) (by omega) _)) (.set s1 (.inr (.inr rfl)) (by omega) _), ⟨A1, n1, c1, A', n', c', (other _ (by omega)).trans h1, h2.low low, h3.low low⟩, (other _ (by omega)).trans h4, ?_⟩
  unfold ocB
  rw [sdC_of h6, sdC_of ho, s2]
  rfl
end
/-- The cells of the iterator's variables. -/
theorem InA.cells {X : Nat → Prop} {J : Int → World → Prop} {R b : Nat} {f te : Int} {ra rb : List Pc} {o1 o2 : Option Pc} {w : World} (h : InA X J R b f ra rb te o1 o2 w) : ∃ A n c A' n' c', w.cell? ⟨R, 0, none⟩ = some (.slice A n c) ∧ w.cell? ⟨R, 1, none⟩ = some (.slice A' n' c') ∧ w.frozen? ⟨R, 0, none⟩ = false ∧ w.frozen? ⟨R, 1, none⟩ = false ∧ RowB X w (.slice A n c) ra ∧ RowB X w (.slice A' n' c') rb ∧ w.cell? ⟨b, 0, none⟩ = some (.int .i64 f) ∧ w.cell? ⟨b, 1, none⟩ = some (.int .i64 te) ∧ w.frozen? ⟨b, 1, none⟩ = false := by
  obtain ⟨hj, ⟨A, n, c, A', n', c', h1, h2, h3⟩, h4, h5⟩ := h
  exact ⟨A, n, c, A', n', c', by simp [World.cell?, h1], by simp [World.cell?, h1], by simp [World.frozen?, h1], by simp [World.frozen?, h1], h2, h3, by simp [World.cell?, h4], by simp [World.cell?, h4], by simp [World.frozen?, h4]⟩
theorem InA.sides {X : Nat → Prop} {J : Int → World → Prop} {R b : Nat} {f te : Int} {ra rb : List Pc} {o1 o2 : Option Pc} {w : World} (h : InA X J R b f ra rb te o1 o2 w) {x y : Bool} {A : Option Addr} {n c : Nat} {B : Option Addr} {m d : Nat} (h1 : sdV o1 = .agg #[.bool x, .slice A n c]) (h2 : sdV o2 = .agg #[.bool y, .slice B m d]) :
    w.cell? ⟨b + 1, 0, none⟩ = some (.bool x) ∧ w.cell? ⟨b + 1, 1, none⟩ = some (.slice A n c) ∧ w.cell? ⟨b + 1, 2, none⟩ = some (.bool y) ∧ w.cell? ⟨b + 1, 3, none⟩ = some (.slice B m d) ∧ w.frozen? ⟨b + 1, 0, none⟩ = false ∧ w.frozen? ⟨b + 1, 1, none⟩ = false ∧ w.frozen? ⟨b + 1, 2, none⟩ = false ∧ w.frozen? ⟨b + 1, 3, none⟩ = false := by
  have h5 := h.both
  unfold ocB at h5
  rw [sdC_of h1, sdC_of h2] at h5
  refine ⟨?_, ?_, ?_, ?_, ?_, ?_, ?_, ?_⟩ <;> simp [World.cell?, World.frozen?, h5]
theorem rowB_is {X : Nat → Prop} {w : World} {u : Value} {l : List Pc} (h : RowB X w u l) : ∃ A n c, u = .slice A n c := by
  obtain ⟨⟨A, c, rfl, _⟩, _⟩ := h
  exact ⟨A, _, c, rfl⟩
/-- Behind so many of both. -/
def InK (X : Nat → Prop) (J : Int → World → Prop) (R b : Nat) (f : Int) (ra rb : List Pc) (w : World) : Nat → Prop
  | 0 => InA X J R b f ra rb 1099511627776 none none w
  | 1 => InA X J R b f (fromP f ra) rb (beginT f 1099511627776 (fromP f ra)) (beginO f (fromP f ra)) none w
  | _ => InA X J R b f (fromP f ra) (fromP f rb) (beginT f (beginT f 1099511627776 (fromP f ra)) (fromP f rb)) (beginO f (fromP f ra)) (beginO f (fromP f rb)) w

set_option maxRecDepth 100000 in
set_option maxHeartbeats 4000000 in
theorem strch_in (n : Nat) (X : Nat → Prop) (la ma : List Pc) (l P : Nat) (J : Int → World → Prop) (W : World) (hJ : ∀ s A B, J s A → ItStep W.heap.size A B → J s B)
    (hY : ∀ f t o1 o2 W1, J f W1 → Strch la ma f t o1 o2 → YieldAt Fence.wide (n - 1) Try.prog l #[sp2 (f, t), bothV o1 o2] W1 fun e W' => e = .returned (.bool true) ∧ J t W' ∧ KpX X W1 W')
    (hX : ∀ c, X c → c < W.heap.size) (A B : Option Addr) (na c nb d : Nat) (hP : W.heap[P]? = some (.cells #[.slice A na c, .slice B nb d] T2P (0, 0))) (ha : RowB X W (.slice A na c) la) (hb : RowB X W (.slice B nb d) ma) (hra : Rs la) (hrb : Rs ma) (hna : la.length ≤ 100000) (hnb : ma.length ≤ 100000) (h0 : J (-1099511627776) W) :
    CallsIn Fence.wide n Try.prog 35 #[.func (.yield l) #[] #[], .pointer (some ⟨P, 0, none⟩)] W fun e W' => (∃ v, e = .returned v) ∧ J 1099511627776 W' := by
  have p0 : W.cell? ⟨P, 0, none⟩ = some (.slice A na c) := by simp [World.cell?, hP]
  have p1 : W.cell? ⟨P, 1, none⟩ = some (.slice B nb d) := by simp [World.cell?, hP]
  refine callsIn_of_wp Try.func35 rfl trivial ?_ rfl
  simp only [Try.ntmps35, List.size_toArray, List.length_cons, List.length_nil, Nat.reduceAdd, Nat.reduceSub, Array.replicate_succ, Array.replicate_zero, List.push_toArray, List.append_toArray, List.nil_append, List.cons_append]
  have HP := Lib.hid hP
  have HA := Lib.hid ha
  have HB := Lib.hid hb
  have HRA := Lib.hid hra
  have HRB := Lib.hid hrb
  have HY := Lib.hid hY
  have HJ := Lib.hid hJ
  have HX := Lib.hid hX
  have H0 := Lib.hid h0
  have HNA := Lib.hid hna
  have HNB := Lib.hid hnb
  clear hP ha hb hra hrb hY hJ hX h0 hna hnb
  gi_wp2
  gi_loopw [4] (fun i wr => ∃ (f : Int) (ra rb : List Pc), i = .int .i64 f ∧ -1099511627776 ≤ f ∧ f ≤ 1099511627776 ∧ J f wr ∧ RestI X la ma W.heap.size f ra rb wr)
    (fun i _ => (1099511627776 - intOf i).toNat)
  case atStart =>
    have hb := (bl W).alloc (Nat.le_refl _) (.cells #[.slice A na c, .slice B nb d] T2P)
    exact ⟨_, la, ma, rfl, Int.le_refl _, by decide, HJ.out _ _ _ H0.out (.of_below hb), ⟨⟨_, _, _, _, _, _, heap_alloc_new W _, HA.out.low fun k hk => hb.block k (HX.out k hk), HB.out.low fun k hk => hb.block k (HX.out k hk)⟩, .start HRA.out _, .start HRB.out _, HNA.out, HNB.out⟩⟩
  case round =>
    obtain ⟨f, ra, rb, rfl, hf1, hf2, hJr, hR⟩ := hrel
    obtain ⟨⟨A1, n1, c1, B1, m1, d1, hbox, hr1, hr2⟩, hla, hma, hn1, hn2⟩ := hR
    have HJR := Lib.hid hJr
    have HLA := Lib.hid hla
    have HMA := Lib.hid hma
    have HN1 := Lib.hid hn1
    have HN2 := Lib.hid hn2
    have hlt0 := (Array.getElem?_eq_some_iff.1 hbox).1
    have HE := Lib.hid (show ItE X J W.heap.size W.heap.size wr.heap.size from ⟨HJ.out, HX.out, Nat.le_refl _, hlt0⟩)
    have HBX := Lib.hid hbox
    have HR1 := Lib.hid hr1
    have HR2 := Lib.hid hr2
    clear hJr hla hma hn1 hn2 hbox hr1 hr2
    by_cases hlt : f < 1099511627776
    · gi_wp2
      refine wpIn_wide.2 ?_
      obtain ⟨wq, hwq⟩ : ∃ wq, wq = wr := ⟨_, rfl⟩
      subst hwq
      go_loopw [13] (fun i W' => ∃ k : Nat, k ≤ 2 ∧ i = .int .i64 k ∧ InK X J W.heap.size wq.heap.size f ra rb W' k) (fun i _ => 2 - (intOf i).toNat)
      case atStart =>
        have h1 : Below wq.heap.size wq (wq.alloc (ocS f 1099511627776)) := (bl wq).alloc (Nat.le_refl _) _
        have h2 := h1.alloc h1.size (ocB none none)
        have key : ∀ k o, wq.heap[k]? = some o → ((wq.alloc (ocS f 1099511627776)).alloc (ocB none none)).heap[k]? = some o := fun k o hk => (h2.block k (Array.getElem?_eq_some_iff.1 hk).1).trans hk
        refine ⟨0, by omega, rfl, HJ.out _ _ _ HJR.out (.of_below h2), ⟨_, _, _, _, _, _, key _ _ HBX.out, HR1.out.low fun k hk => h2.block k (by have := HX.out k hk; omega), HR2.out.low fun k hk => h2.block k (by have := HX.out k hk; omega)⟩, ?_, ?_⟩
        · exact (Go.RowKit.Below.heap_alloc (wq.alloc (ocS f 1099511627776)) _ wq.heap.size (by simp)).trans (heap_alloc_new wq _)
        · have h := heap_alloc_new (wq.alloc (ocS f 1099511627776)) (ocB none none)
          rw [show (wq.alloc (ocS f 1099511627776)).heap.size = wq.heap.size + 1 by simp] at h
          exact h
      case round =>
        obtain ⟨k, hk, rfl, hI⟩ := hrel
        rcases (show k = 0 ∨ k = 1 ∨ k = 2 by omega) with rfl | rfl | rfl
        · have hI : InA X J W.heap.size wq.heap.size f ra rb 1099511627776 none none _ := hI
          have HI := Lib.hid hI
          obtain ⟨A, n, c, A', n', c', x0, x1, fz0, fz1, hr1, hr2, _⟩ := hI.cells
          have CF := Lib.hid (pfrom_any X _ _ f ra hr1 HN1.out)
          clear hI hr1 hr2
          go_upto_region 9 with (go_at_call 36; (with_reducible refine CF.out.mono ?_); rintro e w2 ⟨⟨v, rfl, hv⟩, rfl⟩; obtain ⟨A2, n2, c2, rfl⟩ := rowB_is hv; have HV := Lib.hid hv; clear hv)
          refine abstract_worldW (fun Z => InA X J W.heap.size wq.heap.size f (fromP f ra) rb 1099511627776 none none Z) (HI.out.set0 HE.out HV.out) ?_
          clear x0 x1 fz0 fz1 CF HI
          rintro Z hZ
          have HZ := Lib.hid hZ
          obtain ⟨A3, n3, c3, A4, n4, c4, x0, x1, fz0, fz1, hr1, hr2, s0, s1, fs1⟩ := hZ.cells
          obtain ⟨oa, A6, n6, c6, hsa⟩ := sdV_is none
          obtain ⟨y0, y1, y2, y3, fy0, fy1, fy2, fy3⟩ := hZ.sides hsa rfl
          obtain ⟨ob, A5, n5, c5, hsd⟩ := sdV_is (beginO f (fromP f ra))
          have CB := Lib.hid (fun Z' (h : Below Z.heap.size Z Z') => pbegin_any X Z' (.slice A3 n3 c3) f 1099511627776 (fromP f ra) (hr1.low fun k hk => h.block k (by have := HE.out.hX k hk; have := HE.out.hR; have := (Array.getElem?_eq_some_iff.1 HZ.out.sp).1; omega)) (Nat.le_trans (fromP_len f ra) HN1.out))
          rw [hsd] at CB
          have HSD := Lib.hid hsd
          have HSA := Lib.hid hsa
          clear hsd hsa hZ hr1 hr2
          go_region_with (go_at_call 37; (with_reducible refine (CB.out _ ((bl Z).drew)).mono ?_); (rintro e w3 ⟨rfl, hb3⟩); (have HZ3 := Lib.hid (HZ.out.below HE.out (chain ((bl Z).drew) hb3))); (obtain ⟨_, _, _, _, _, _, x0', x1', _, _, _, _, s0', s1', fs1'⟩ := HZ3.out.cells); (obtain ⟨y0', y1', y2', y3', fy0', fy1', fy2', fy3'⟩ := HZ3.out.sides HSA.out rfl); clear hb3)
          all_goals go_wp2_with fail
          all_goals exact ⟨⟨1, by omega, by go_num, (HZ3.out.both0 HE.out HSD.out).setTo HE.out _⟩, by simp [intOf]⟩
        · have hI : InA X J W.heap.size wq.heap.size f (fromP f ra) rb (beginT f 1099511627776 (fromP f ra)) (beginO f (fromP f ra)) none _ := hI
          have HI := Lib.hid hI
          obtain ⟨A, n, c, A', n', c', x0, x1, fz0, fz1, hr1, hr2, _⟩ := hI.cells
          have CF := Lib.hid (pfrom_any X _ _ f rb hr2 HN2.out)
          clear hI hr1 hr2
          go_upto_region 9 with (go_at_call 36; (with_reducible refine CF.out.mono ?_); rintro e w2 ⟨⟨v, rfl, hv⟩, rfl⟩; obtain ⟨A2, n2, c2, rfl⟩ := rowB_is hv; have HV := Lib.hid hv; clear hv)
          refine abstract_worldW (fun Z => InA X J W.heap.size wq.heap.size f (fromP f ra) (fromP f rb) (beginT f 1099511627776 (fromP f ra)) (beginO f (fromP f ra)) none Z) (HI.out.set1 HE.out HV.out) ?_
          clear x0 x1 fz0 fz1 CF HI
          rintro Z hZ
          have HZ := Lib.hid hZ
          obtain ⟨A3, n3, c3, A4, n4, c4, x0, x1, fz0, fz1, hr1, hr2, s0, s1, fs1⟩ := hZ.cells
          obtain ⟨oa, A6, n6, c6, hsa⟩ := sdV_is (beginO f (fromP f ra))
          obtain ⟨y0, y1, y2, y3, fy0, fy1, fy2, fy3⟩ := hZ.sides hsa rfl
          obtain ⟨ob, A5, n5, c5, hsd⟩ := sdV_is (beginO f (fromP f rb))
          have CB := Lib.hid (fun Z' (h : Below Z.heap.size Z Z') => pbegin_any X Z' (.slice A4 n4 c4) f (beginT f 1099511627776 (fromP f ra)) (fromP f rb) (hr2.low fun k hk => h.block k (by have := HE.out.hX k hk; have := HE.out.hR; have := (Array.getElem?_eq_some_iff.1 HZ.out.sp).1; omega)) (Nat.le_trans (fromP_len f rb) HN2.out))
          rw [hsd] at CB
          have HSD := Lib.hid hsd
          have HSA := Lib.hid hsa
          clear hsd hsa hZ hr1 hr2
          go_region_with (go_at_call 37; (with_reducible refine (CB.out _ ((bl Z).drew)).mono ?_); (rintro e w3 ⟨rfl, hb3⟩); (have HZ3 := Lib.hid (HZ.out.below HE.out (chain ((bl Z).drew) hb3))); (obtain ⟨_, _, _, _, _, _, x0', x1', _, _, _, _, s0', s1', fs1'⟩ := HZ3.out.cells); (obtain ⟨y0', y1', y2', y3', fy0', fy1', fy2', fy3'⟩ := HZ3.out.sides HSA.out rfl); clear hb3)
          all_goals go_wp2_with fail
          all_goals exact ⟨⟨2, by omega, by go_num, (HZ3.out.both1 HE.out HSD.out).setTo HE.out _⟩, by simp [intOf]⟩
        · go_wp2_with fail
          have hI : InA X J W.heap.size wq.heap.size f (fromP f ra) (fromP f rb) (beginT f (beginT f 1099511627776 (fromP f ra)) (fromP f rb)) (beginO f (fromP f ra)) (beginO f (fromP f rb)) _ := hI
          have hst := strch_next hf1 hlt (HLA.out.next f (Int.le_refl _)) (HMA.out.next f (Int.le_refl _))
          obtain ⟨A, n', c, A', n'', c', x0, x1, fz0, fz1, hr1, hr2, s0, s1, fs1⟩ := hI.cells
          obtain ⟨oa, A6, n6, c6, hsa⟩ := sdV_is (beginO f (fromP f ra))
          obtain ⟨ob, A7, n7, c7, hsb⟩ := sdV_is (beginO f (fromP f rb))
          obtain ⟨y0, y1, y2, y3, fy0, fy1, fy2, fy3⟩ := hI.sides hsa hsb
          have HI := Lib.hid hI
          generalize beginT f (beginT f 1099511627776 (fromP f ra)) (fromP f rb) = t2 at *
          obtain ⟨fn, tmps, assign, body, hy, hR⟩ := HY.out f t2 _ _ _ hI.j hst
          dsimp only [sp2] at hy
          rw [show bothV (beginO f (fromP f ra)) (beginO f (fromP f rb)) = .agg #[.bool oa, .slice A6 n6 c6, .bool ob, .slice A7 n7 c7] by unfold bothV; rw [sdC_of hsa, sdC_of hsb]; rfl] at hy
          have HST := Lib.hid hst
          clear hI hst hr1 hr2 hsa hsb x0 x1 fz0 fz1 fy0 fy1 fy2 fy3
          gi_wp2
          refine ⟨fun h => (by cases h), hR.mono ?_⟩
          rintro e W3 ⟨rfl, hJ3, hk3⟩
          have b3 := hk3 _ _ HI.out.sp (.inr ⟨_, _, .inr (.inl rfl), rfl⟩) rfl
          have d1 : W3.cell? ⟨wq.heap.size, 1, none⟩ = some (.int .i64 t2) := by simp [World.cell?, b3]
          have HJ3 := Lib.hid hJ3
          have HK3 := Lib.hid hk3
          clear hJ3 hk3 b3 hR hy
          gi_wp2
          go_roundw
          case rel =>
            obtain ⟨_, ⟨A8, n8, c8, A9, n9, c9, h1, h2, h3⟩, _, _⟩ := HI.out
            have hft := HST.out.lt
            exact ⟨t2, fromP f ra, fromP f rb, rfl, by omega, HST.out.hi, HJ3.out, ⟨⟨_, _, _, _, _, _, HK3.out _ _ h1 (.inr ⟨_, _, .inl rfl, rfl⟩) rfl, h2.kept HK3.out, h3.kept HK3.out⟩, (HLA.out.next f (Int.le_refl _)).more (by omega), (HMA.out.next f (Int.le_refl _)).more (by omega), Nat.le_trans (fromP_len f ra) HN1.out, Nat.le_trans (fromP_len f rb) HN2.out⟩⟩
          case measure =>
            have hft := HST.out.lt
            have hfh := HST.out.hi
            simp [intOf]; omega
    · obtain rfl : f = 1099511627776 := by omega
      gi_wp2
      go_end0
      exact ⟨⟨_, rfl⟩, HJR.out⟩

end Go.Proofs.Ytnopbhlhdecimaa

/-
  Plain facts on a stable sort: lists that are put in order by exchanges, merged in place; equals stand as they stood (each bears its place).
-/
namespace Go.Proofs.Ytnopbhlhdecimaa
open Go.Sort Go.Shelf

section
variable {α : Type} {lt : α → α → Bool}

/-- By the things alone, their places laid aside. -/
def ltp (lt : α → α → Bool) (x y : α × Nat) : Bool := lt x.1 y.1
/-- x stands ahead of y: it is less, or y is not less and x stood ahead. -/
def TLst (lt : α → α → Bool) (x y : α × Nat) : Prop := lt x.1 y.1 = true ∨ (lt y.1 x.1 = false ∧ x.2 < y.2)
theorem swo_anti (h : SWO lt) {x y : α} (hx : lt x y = true) : lt y x = false := by
  cases e : lt y x with
  | false => rfl
  | true => have := h.trans _ _ _ hx e; rw [h.irrefl] at this; cases this
theorem lt_of_lt_le (h : SWO lt) {x y z : α} (h1 : lt x y = true) (h2 : lt z y = false) : lt x z = true := by
  cases e : lt x z with
  | true => rfl
  | false => have := h.ntrans _ _ _ e h2; rw [h1] at this; cases this
theorem lt_of_le_lt (h : SWO lt) {x y z : α} (h1 : lt y x = false) (h2 : lt y z = true) : lt x z = true := by
  cases e : lt x z with
  | true => rfl
  | false => have := h.ntrans _ _ _ h1 e; rw [h2] at this; cases this
theorem TLst.not [Inhabited α] (h : SWO lt) {x y : α × Nat} (k : TLst lt x y) : lt y.1 x.1 = false := by
  rcases k with k | ⟨k, _⟩
  · exact swo_anti h k
  · exact k
theorem TLst.trans [Inhabited α] (h : SWO lt) {x y z : α × Nat} (k1 : TLst lt x y) (k2 : TLst lt y z) : TLst lt x z := by
  rcases k1 with k1 | ⟨k1, t1⟩
  · exact .inl (lt_of_lt_le h k1 (k2.not h))
  · rcases k2 with k2 | ⟨k2, t2⟩
    · exact .inl (lt_of_le_lt h k1 k2)
    · exact .inr ⟨h.ntrans _ _ _ k2 k1, by omega⟩
/-- y stood behind and is not less. -/
theorem TLst.of_le {x y : α × Nat} (h : lt y.1 x.1 = false) (ht : x.2 < y.2) : TLst lt x y := .inr ⟨h, ht⟩
abbrev Ord (lt : α → α → Bool) (l : List (α × Nat)) : Prop := l.Pairwise (TLst lt)
/-- All of a stood ahead of all of b. -/
def Cross (a b : List (α × Nat)) : Prop := ∀ x ∈ a, ∀ y ∈ b, x.2 < y.2
theorem Ord.at {l : List (α × Nat)} (h : Ord lt l) {i j : Nat} {x y : α × Nat} (hij : i < j) (hx : l[i]? = some x) (hy : l[j]? = some y) : TLst lt x y := by
  obtain ⟨h1, rfl⟩ := List.getElem?_eq_some_iff.1 hx
  obtain ⟨h2, rfl⟩ := List.getElem?_eq_some_iff.1 hy
  exact List.pairwise_iff_getElem.1 h i j h1 h2 hij
theorem mem_takeAt {l : List (α × Nat)} {k : Nat} {x : α × Nat} (h : x ∈ l.take k) : ∃ i, i < k ∧ l[i]? = some x := by
  obtain ⟨i, hi⟩ := List.getElem?_of_mem h
  rw [List.getElem?_take] at hi
  split at hi
  · exact ⟨i, by assumption, hi⟩
  · cases hi
theorem mem_dropAt {l : List (α × Nat)} {k : Nat} {x : α × Nat} (h : x ∈ l.drop k) : ∃ i, k ≤ i ∧ l[i]? = some x := by
  obtain ⟨i, hi⟩ := List.getElem?_of_mem h
  rw [List.getElem?_drop] at hi
  exact ⟨k + i, by omega, hi⟩
/-- What is not less than the last of the first ones is not less than any of them. -/
theorem take_le [Inhabited α] (h : SWO lt) {l : List (α × Nat)} (ho : Ord lt l) {k : Nat} {y : α} (hy : k = 0 ∨ ∃ z, l[k - 1]? = some z ∧ lt y z.1 = false) : ∀ x ∈ l.take k, lt y x.1 = false := fun x hx => by
  obtain ⟨i, hi, hxi⟩ := mem_takeAt hx
  rcases hy with rfl | ⟨z, hz, hyz⟩
  · omega
  · rcases Nat.lt_or_ge i (k - 1) with h1 | h1
    · exact h.ntrans _ _ _ hyz ((ho.at h1 hxi hz).not h)
    · obtain rfl : i = k - 1 := by omega
      rw [hz] at hxi
      obtain rfl := Option.some.inj hxi
      exact hyz
theorem take_lt [Inhabited α] (h : SWO lt) {l : List (α × Nat)} (ho : Ord lt l) {k : Nat} {y : α} (hy : k = 0 ∨ ∃ z, l[k - 1]? = some z ∧ lt z.1 y = true) : ∀ x ∈ l.take k, lt x.1 y = true := fun x hx => by
  obtain ⟨i, hi, hxi⟩ := mem_takeAt hx
  rcases hy with rfl | ⟨z, hz, hyz⟩
  · omega
  · rcases Nat.lt_or_ge i (k - 1) with h1 | h1
    · exact lt_of_le_lt h ((ho.at h1 hxi hz).not h) hyz
    · obtain rfl : i = k - 1 := by omega
      rw [hz] at hxi
      obtain rfl := Option.some.inj hxi
      exact hyz
theorem drop_le [Inhabited α] (h : SWO lt) {l : List (α × Nat)} (ho : Ord lt l) {k : Nat} {y : α} (hy : k = l.length ∨ ∃ z, l[k]? = some z ∧ lt z.1 y = false) : ∀ x ∈ l.drop k, lt x.1 y = false := fun x hx => by
  obtain ⟨i, hi, hxi⟩ := mem_dropAt hx
  rcases hy with rfl | ⟨z, hz, hyz⟩
  · rw [List.getElem?_eq_none hi] at hxi; cases hxi
  · rcases Nat.lt_or_ge k i with h1 | h1
    · exact h.ntrans _ _ _ ((ho.at h1 hz hxi).not h) hyz
    · obtain rfl : i = k := by omega
      rw [hz] at hxi
      obtain rfl := Option.some.inj hxi
      exact hyz
theorem drop_lt [Inhabited α] (h : SWO lt) {l : List (α × Nat)} (ho : Ord lt l) {k : Nat} {y : α} (hy : k = l.length ∨ ∃ z, l[k]? = some z ∧ lt y z.1 = true) : ∀ x ∈ l.drop k, lt y x.1 = true := fun x hx => by
  obtain ⟨i, hi, hxi⟩ := mem_dropAt hx
  rcases hy with rfl | ⟨z, hz, hyz⟩
  · rw [List.getElem?_eq_none hi] at hxi; cases hxi
  · rcases Nat.lt_or_ge k i with h1 | h1
    · exact lt_of_lt_le h hyz ((ho.at h1 hz hxi).not h)
    · obtain rfl : i = k := by omega
      rw [hz] at hxi
      obtain rfl := Option.some.inj hxi
      exact hyz
/-- One thing that stood ahead is laid into a list that is in order. -/
theorem merge_left [Inhabited α] (h : SWO lt) {x : α × Nat} {B : List (α × Nat)} {j : Nat} (ho : Ord lt B) (hc : Cross [x] B) (h1 : j = 0 ∨ ∃ z, B[j - 1]? = some z ∧ lt z.1 x.1 = true) (h2 : j = B.length ∨ ∃ z, B[j]? = some z ∧ lt z.1 x.1 = false) :
    Ord lt (B.take j ++ x :: B.drop j) := by
  refine List.pairwise_append.2 ⟨ho.sublist (List.take_sublist _ _), List.pairwise_cons.2 ⟨fun y hy => ?_, ho.sublist (List.drop_sublist _ _)⟩, fun u hu v hv => ?_⟩
  · exact .inr ⟨drop_le h ho h2 y hy, hc x List.mem_cons_self y (List.mem_of_mem_drop hy)⟩
  · rcases List.mem_cons.1 hv with rfl | hv
    · exact .inl (take_lt h ho h1 u hu)
    · exact TLst.trans h (.inl (take_lt h ho h1 u hu)) (.inr ⟨drop_le h ho h2 v hv, hc x List.mem_cons_self v (List.mem_of_mem_drop hv)⟩)
/-- .. that stood behind. -/
theorem merge_right [Inhabited α] (h : SWO lt) {y : α × Nat} {A : List (α × Nat)} {j : Nat} (ho : Ord lt A) (hc : Cross A [y]) (h1 : j = 0 ∨ ∃ z, A[j - 1]? = some z ∧ lt y.1 z.1 = false) (h2 : j = A.length ∨ ∃ z, A[j]? = some z ∧ lt y.1 z.1 = true) :
    Ord lt (A.take j ++ y :: A.drop j) := by
  refine List.pairwise_append.2 ⟨ho.sublist (List.take_sublist _ _), List.pairwise_cons.2 ⟨fun v hv => ?_, ho.sublist (List.drop_sublist _ _)⟩, fun u hu v hv => ?_⟩
  · exact .inl (drop_lt h ho h2 v hv)
  · have hu1 : TLst lt u y := .inr ⟨take_le h ho h1 u hu, hc u (List.mem_of_mem_take hu) y List.mem_cons_self⟩
    rcases List.mem_cons.1 hv with rfl | hv
    · exact hu1
    · exact TLst.trans h hu1 (.inl (drop_lt h ho h2 v hv))
theorem perm_mid (x : α × Nat) (B : List (α × Nat)) (j : Nat) : (B.take j ++ x :: B.drop j).Perm ([x] ++ B) := by
  have h1 : (B.take j ++ x :: B.drop j).Perm (x :: (B.take j ++ B.drop j)) := List.perm_middle
  rwa [List.take_append_drop] at h1
/-- Two lists cut so that the first parts stand ahead of the last ones. -/
theorem merge_cut [Inhabited α] (h : SWO lt) {A B : List (α × Nat)} {i j : Nat} (hA : Ord lt A) (hB : Ord lt B) (hc : Cross A B)
    (h1 : i = 0 ∨ j = B.length ∨ ∃ u v, A[i - 1]? = some u ∧ B[j]? = some v ∧ lt v.1 u.1 = false) (h2 : i = A.length ∨ j = 0 ∨ ∃ u v, A[i]? = some u ∧ B[j - 1]? = some v ∧ lt v.1 u.1 = true) :
    ∀ u ∈ A.take i ++ B.take j, ∀ v ∈ A.drop i ++ B.drop j, TLst lt u v := fun u hu v hv => by
  rcases List.mem_append.1 hu with hu | hu
  · rcases List.mem_append.1 hv with hv | hv
    · obtain ⟨a, ha, hxa⟩ := mem_takeAt hu
      obtain ⟨b, hb, hxb⟩ := mem_dropAt hv
      exact hA.at (by omega) hxa hxb
    · refine .inr ⟨?_, hc u (List.mem_of_mem_take hu) v (List.mem_of_mem_drop hv)⟩
      rcases h1 with rfl | rfl | ⟨a, b, ha, hb, hab⟩
      · simp at hu
      · simp at hv
      · have e1 := take_le h hA (k := i) (y := b.1) (.inr ⟨a, ha, hab⟩) u hu
        have e2 := drop_le h hB (k := j) (y := u.1) (.inr ⟨b, hb, e1⟩) v hv
        exact e2
  · rcases List.mem_append.1 hv with hv | hv
    · rcases h2 with rfl | rfl | ⟨a, b, ha, hb, hab⟩
      · simp at hv
      · simp at hu
      · have e1 := take_lt h hB (k := j) (y := a.1) (.inr ⟨b, hb, hab⟩) u hu
        exact .inl (drop_lt h hA (k := i) (y := u.1) (.inr ⟨a, ha, e1⟩) v hv)
    · obtain ⟨a, ha, hxa⟩ := mem_takeAt hu
      obtain ⟨b, hb, hxb⟩ := mem_dropAt hv
      exact hB.at (by omega) hxa hxb
theorem ord_join {U V M1 M2 : List (α × Nat)} (h : ∀ u ∈ U, ∀ v ∈ V, TLst lt u v) (p1 : M1.Perm U) (p2 : M2.Perm V) (o1 : Ord lt M1) (o2 : Ord lt M2) : Ord lt (M1 ++ M2) :=
  List.pairwise_append.2 ⟨o1, o2, fun u hu v hv => h u (p1.mem_iff.1 hu) v (p2.mem_iff.1 hv)⟩
theorem perm_cut {A B M1 M2 : List (α × Nat)} {i j : Nat} (p1 : M1.Perm (A.take i ++ B.take j)) (p2 : M2.Perm (A.drop i ++ B.drop j)) : (M1 ++ M2).Perm (A ++ B) := by
  refine (p1.append p2).trans ?_
  have e : A ++ B = (A.take i ++ A.drop i) ++ (B.take j ++ B.drop j) := by rw [List.take_append_drop, List.take_append_drop]
  rw [e, List.append_assoc, List.append_assoc]
  refine List.Perm.append_left _ ?_
  rw [← List.append_assoc, ← List.append_assoc]
  exact List.Perm.append_right _ List.perm_append_comm

/-! ### exchanges -/
theorem getBangT [Inhabited α] {l : List (α × Nat)} {i : Nat} {x : α × Nat} (h : l[i]? = some x) : l.toArray[i]! = x := by
  obtain ⟨hl, he⟩ := List.getElem?_eq_some_iff.1 h
  rw [getElem!_pos l.toArray i (by simpa using hl)]
  simpa using he
theorem at_len (P : List (α × Nat)) (x : α × Nat) (S : List (α × Nat)) : (P ++ x :: S)[P.length]? = some x := by simp
theorem swp_list [Inhabited α] (P M S : List (α × Nat)) (x y : α × Nat) : swp (P ++ x :: (M ++ y :: S)).toArray P.length (P.length + 1 + M.length) = (P ++ y :: (M ++ x :: S)).toArray := by
  have ex : (P ++ x :: (M ++ y :: S)).toArray[P.length]! = x := getBangT (at_len P x _)
  have ey : (P ++ x :: (M ++ y :: S)).toArray[P.length + 1 + M.length]! = y := getBangT (by
    have := at_len (P ++ x :: M) y S
    rw [List.append_assoc, List.cons_append, List.length_append, List.length_cons] at this
    rw [show P.length + 1 + M.length = P.length + (M.length + 1) by omega]
    exact this)
  unfold swp
  rw [ex, ey, List.setIfInBounds_toArray, List.setIfInBounds_toArray]
  congr 1
  rw [List.set_append_right _ _ (Nat.le_refl _), Nat.sub_self, List.set_cons_zero]
  rw [List.set_append_right _ _ (by omega), show P.length + 1 + M.length - P.length = M.length + 1 by omega, List.set_cons_succ]
  rw [List.set_append_right _ _ (Nat.le_refl _), Nat.sub_self, List.set_cons_zero]
theorem swp_list_back [Inhabited α] (P M S : List (α × Nat)) (x y : α × Nat) : swp (P ++ x :: (M ++ y :: S)).toArray (P.length + 1 + M.length) P.length = (P ++ y :: (M ++ x :: S)).toArray := by
  have ex : (P ++ x :: (M ++ y :: S)).toArray[P.length]! = x := getBangT (at_len P x _)
  have ey : (P ++ x :: (M ++ y :: S)).toArray[P.length + 1 + M.length]! = y := getBangT (by
    have := at_len (P ++ x :: M) y S
    rw [List.append_assoc, List.cons_append, List.length_append, List.length_cons] at this
    rw [show P.length + 1 + M.length = P.length + (M.length + 1) by omega]
    exact this)
  unfold swp
  rw [ex, ey, List.setIfInBounds_toArray, List.setIfInBounds_toArray]
  congr 1
  rw [List.set_append_right _ _ (by omega), show P.length + 1 + M.length - P.length = M.length + 1 by omega, List.set_cons_succ]
  rw [List.set_append_right _ _ (Nat.le_refl _), Nat.sub_self, List.set_cons_zero]
  rw [List.set_append_right _ _ (Nat.le_refl _), Nat.sub_self, List.set_cons_zero]
/-- Two ranges of one length, exchanged as far as i. -/
def mix (P X M Y S : List (α × Nat)) (i : Nat) : List (α × Nat) := P ++ (Y.take i ++ X.drop i) ++ M ++ (X.take i ++ Y.drop i) ++ S
theorem mix_zero (P X M Y S : List (α × Nat)) : mix P X M Y S 0 = P ++ X ++ M ++ Y ++ S := by simp [mix]
theorem mix_all (P X M Y S : List (α × Nat)) {n : Nat} (hx : X.length = n) (hy : Y.length = n) : mix P X M Y S n = P ++ Y ++ M ++ X ++ S := by
  unfold mix
  rw [List.take_of_length_le (by omega), List.drop_of_length_le (by omega), List.take_of_length_le (by omega), List.drop_of_length_le (by omega), List.append_nil, List.append_nil]
theorem mix_length (P X M Y S : List (α × Nat)) {n i : Nat} (hx : X.length = n) (hy : Y.length = n) (hi : i ≤ n) : (mix P X M Y S i).length = P.length + n + M.length + n + S.length := by
  unfold mix
  simp only [List.length_append, List.length_take, List.length_drop]
  omega
theorem mix_next [Inhabited α] (P X M Y S : List (α × Nat)) {n i : Nat} (hx : X.length = n) (hy : Y.length = n) (hi : i < n) : swp (mix P X M Y S i).toArray (P.length + i) (P.length + n + M.length + i) = (mix P X M Y S (i + 1)).toArray := by
  have hX : X = X.take i ++ X[i] :: X.drop (i + 1) := by rw [← List.drop_eq_getElem_cons, List.take_append_drop]
  have hY : Y = Y.take i ++ Y[i] :: Y.drop (i + 1) := by rw [← List.drop_eq_getElem_cons, List.take_append_drop]
  have e0 : mix P X M Y S i = (P ++ Y.take i) ++ X[i] :: ((X.drop (i + 1) ++ M ++ X.take i) ++ Y[i] :: (Y.drop (i + 1) ++ S)) := by
    unfold mix
    rw [List.drop_eq_getElem_cons (l := X) (by omega), List.drop_eq_getElem_cons (l := Y) (by omega)]
    simp only [List.append_assoc, List.cons_append]
  have e1 : mix P X M Y S (i + 1) = (P ++ Y.take i) ++ Y[i] :: ((X.drop (i + 1) ++ M ++ X.take i) ++ X[i] :: (Y.drop (i + 1) ++ S)) := by
    unfold mix
    rw [List.take_add_one, List.take_add_one, List.getElem?_eq_getElem (by omega), List.getElem?_eq_getElem (by omega)]
    simp only [Option.toList_some, List.append_assoc, List.cons_append, List.nil_append]
  have := swp_list (P ++ Y.take i) (X.drop (i + 1) ++ M ++ X.take i) (Y.drop (i + 1) ++ S) X[i] Y[i]
  rw [← e0, ← e1] at this
  rw [← this]
  congr 1
  · rw [List.length_append, List.length_take]; omega
  · simp only [List.length_append, List.length_take, List.length_drop]; omega

end

end Go.Proofs.Ytnopbhlhdecimaa

/-
  Plain facts on a stable sort: insertion by exchanges; blocks that are in order, of one length and of twice that length.
-/
namespace Go.Proofs.Ytnopbhlhdecimaa
open Go.Sort Go.Shelf

section
variable {α : Type} {lt : α → α → Bool}

theorem ins_inner [Inhabited α] : ∀ (n : Nat) (L P S : List (α × Nat)) (x : α × Nat), L.length = n → ∃ L1 L2, L = L1 ++ L2 ∧
    insInner (ltp lt) P.length (P.length + L.length) (P ++ (L ++ x :: S)).toArray = (P ++ (L1 ++ x :: (L2 ++ S))).toArray ∧
    (L1.length = 0 ∨ ∃ z, L[L1.length - 1]? = some z ∧ lt x.1 z.1 = false) ∧ (L1.length = L.length ∨ ∃ z, L[L1.length]? = some z ∧ lt x.1 z.1 = true)
  | 0, L, P, S, x, h => by
    obtain rfl := List.eq_nil_of_length_eq_zero h
    refine ⟨[], [], rfl, ?_, .inl rfl, .inl rfl⟩
    rw [insInner_stop _ _ _ _ (.inl (by simp))]
    rfl
  | n + 1, L, P, S, x, h => by
    rcases List.eq_nil_or_concat L with rfl | ⟨L', y, rfl⟩
    · cases h
    · rw [List.concat_eq_append] at h ⊢
      have hL : L'.length = n := by rw [List.length_append, List.length_singleton] at h; omega
      have e0 : P ++ (L' ++ [y] ++ x :: S) = (P ++ L') ++ y :: ([] ++ x :: S) := by simp
      have gx : (P ++ (L' ++ [y] ++ x :: S)).toArray[P.length + (L' ++ [y]).length]! = x := getBangT (by
        have := at_len (P ++ (L' ++ [y])) x S
        rw [List.append_assoc, List.length_append] at this
        exact this)
      have gy : (P ++ (L' ++ [y] ++ x :: S)).toArray[P.length + (L' ++ [y]).length - 1]! = y := getBangT (by
        have := at_len (P ++ L') y ([] ++ x :: S)
        rw [← e0, List.length_append] at this
        rw [show P.length + (L' ++ [y]).length - 1 = P.length + L'.length by rw [List.length_append, List.length_singleton]; omega]
        exact this)
      cases hxy : lt x.1 y.1 with
      | false =>
        refine ⟨L' ++ [y], [], by simp, ?_, .inr ⟨y, ?_, hxy⟩, .inl rfl⟩
        · rw [insInner_stop _ _ _ _ (.inr (by rw [gx, gy]; exact hxy))]
          simp
        · rw [List.length_append, List.length_singleton, Nat.add_sub_cancel]
          simp
      | true =>
        obtain ⟨L1, L2, h1, h2, h3, h4⟩ := ins_inner n L' P (y :: S) x hL
        refine ⟨L1, L2 ++ [y], by rw [h1]; simp, ?_, ?_, ?_⟩
        · rw [insInner_go _ _ _ _ (by rw [List.length_append, List.length_singleton]; omega) (by rw [gx, gy]; exact hxy)]
          have hs := swp_list_back (P ++ L') [] S y x
          rw [List.length_nil, Nat.add_zero, List.length_append, ← e0] at hs
          rw [show P.length + (L' ++ [y]).length - 1 = P.length + L'.length by rw [List.length_append, List.length_singleton]; omega,
            show P.length + (L' ++ [y]).length = P.length + L'.length + 1 by rw [List.length_append, List.length_singleton]; omega, hs]
          rw [show P ++ L' ++ x :: ([] ++ y :: S) = P ++ (L' ++ x :: (y :: S)) by simp, h2]
          simp
        · rcases h3 with h3 | ⟨z, h3, h5⟩
          · exact .inl h3
          · refine .inr ⟨z, ?_, h5⟩
            rw [List.getElem?_append_left (List.getElem?_eq_some_iff.1 h3).1]
            exact h3
        · refine .inr ?_
          rcases h4 with h4 | ⟨z, h4, h5⟩
          · refine ⟨y, ?_, hxy⟩
            rw [h4]
            simp
          · refine ⟨z, ?_, h5⟩
            rw [List.getElem?_append_left (List.getElem?_eq_some_iff.1 h4).1]
            exact h4
/-- They stood in this order. -/
abbrev Asc (l : List (α × Nat)) : Prop := l.Pairwise fun x y => x.2 < y.2
theorem ins_outer [Inhabited α] (h : SWO lt) : ∀ (R M P S : List (α × Nat)), Ord lt M → Cross M R → Asc R →
    ∃ M', M'.Perm (M ++ R) ∧ Ord lt M' ∧ insOuter (ltp lt) P.length (P.length + M.length + R.length) (P.length + M.length) (P ++ (M ++ (R ++ S))).toArray = (P ++ (M' ++ S)).toArray
  | [], M, P, S, ho, _, _ => by
    refine ⟨M, by simp, ho, ?_⟩
    rw [insOuter_stop _ _ _ _ _ (by simp)]
    rfl
  | x :: R, M, P, S, ho, hc, ha => by
    obtain ⟨a1, a2⟩ := List.pairwise_cons.1 ha
    obtain ⟨L1, L2, e1, e2, h3, h4⟩ := ins_inner (lt := lt) M.length M P (R ++ S) x rfl
    have ht : M.take L1.length = L1 := by rw [e1]; simp
    have hd : M.drop L1.length = L2 := by rw [e1]; simp
    have hm := merge_right h (y := x) (j := L1.length) ho (fun u hu v hv => by
      obtain rfl := List.mem_singleton.1 hv
      exact hc u hu v List.mem_cons_self) h3 h4
    rw [ht, hd] at hm
    have hp : (L1 ++ x :: L2).Perm (M ++ [x]) := by
      rw [e1]
      refine (List.perm_middle).trans ?_
      exact (List.perm_append_comm (l₁ := [x]) (l₂ := L1 ++ L2))
    have hl : (L1 ++ x :: L2).length = M.length + 1 := by rw [e1]; simp; omega
    obtain ⟨M', p, o, e⟩ := ins_outer h R (L1 ++ x :: L2) P S hm (fun u hu v hv => by
      rcases List.mem_append.1 (hp.mem_iff.1 hu) with hu | hu
      · exact hc u hu v (List.mem_cons_of_mem _ hv)
      · obtain rfl := List.mem_singleton.1 hu
        exact a1 v hv) a2
    refine ⟨M', p.trans ?_, o, ?_⟩
    · have := hp.append_right R
      rw [show M ++ [x] ++ R = M ++ x :: R by simp] at this
      exact this
    · rw [insOuter_go _ _ _ _ _ (by rw [List.length_cons]; omega)]
      rw [List.cons_append, e2]
      rw [hl] at e
      rw [show P.length + M.length + (x :: R).length = P.length + (M.length + 1) + R.length by rw [List.length_cons]; omega, Nat.add_assoc P.length M.length 1]
      rw [show P ++ (L1 ++ x :: (L2 ++ (R ++ S))) = P ++ (L1 ++ x :: L2 ++ (R ++ S)) by simp]
      exact e
theorem insertion_stable [Inhabited α] (h : SWO lt) (B P S : List (α × Nat)) (ha : Asc B) : ∃ M, M.Perm B ∧ Ord lt M ∧ insertionSort (ltp lt) (P ++ (B ++ S)).toArray P.length (P.length + B.length) = (P ++ (M ++ S)).toArray := by
  cases B with
  | nil =>
    refine ⟨[], List.Perm.refl _, List.Pairwise.nil, ?_⟩
    unfold insertionSort
    rw [insOuter_stop _ _ _ _ _ (by simp)]
  | cons x R =>
    obtain ⟨a1, a2⟩ := List.pairwise_cons.1 ha
    obtain ⟨M', p, o, e⟩ := ins_outer h R [x] P S (List.pairwise_singleton _ _) (fun u hu v hv => by
      obtain rfl := List.mem_singleton.1 hu
      exact a1 v hv) a2
    refine ⟨M', p, o, ?_⟩
    unfold insertionSort
    rw [List.length_singleton] at e
    rw [show P.length + (x :: R).length = P.length + 1 + R.length by rw [List.length_cons]; omega]
    exact e

/-! ### blocks -/
/-- Two places: in one block of s they are in order; in two blocks they stood so. -/
def GB (lt : α → α → Bool) (s : Nat) (d : List (α × Nat)) (p q : Nat) : Prop := ∀ x y, d[p]? = some x → d[q]? = some y → (p / s = q / s → TLst lt x y) ∧ (p / s < q / s → x.2 < y.2)
/-- Ahead of a the blocks are of s2, behind it of s1. -/
def HB (lt : α → α → Bool) (s1 s2 a : Nat) (d : List (α × Nat)) : Prop := ∀ p q, p < q → (q < a → GB lt s2 d p q) ∧ (a ≤ q → GB lt s1 d p q)
theorem HB.start {s1 s2 : Nat} {d : List (α × Nat)} (h : ∀ p q, p < q → GB lt s1 d p q) : HB lt s1 s2 0 d := fun p q hpq => ⟨fun h0 => by omega, fun _ => h p q hpq⟩
theorem asc_one {d : List (α × Nat)} (h : Asc d) : ∀ p q, p < q → GB lt 1 d p q := fun p q hpq x y hx hy => by
  obtain ⟨h1, rfl⟩ := List.getElem?_eq_some_iff.1 hx
  obtain ⟨h2, rfl⟩ := List.getElem?_eq_some_iff.1 hy
  rw [Nat.div_one, Nat.div_one]
  exact ⟨fun e => by omega, fun _ => List.pairwise_iff_getElem.1 h p q h1 h2 hpq⟩
theorem get_mid {P X S : List (α × Nat)} {p : Nat} {x : α × Nat} (hx : (P ++ (X ++ S))[p]? = some x) : (p < P.length ∧ P[p]? = some x) ∨ (P.length ≤ p ∧ p < P.length + X.length ∧ X[p - P.length]? = some x) ∨ (P.length + X.length ≤ p ∧ S[p - (P.length + X.length)]? = some x) := by
  rcases Nat.lt_or_ge p P.length with h | h
  · rw [List.getElem?_append_left h] at hx
    exact .inl ⟨h, hx⟩
  · rw [List.getElem?_append_right h] at hx
    rcases Nat.lt_or_ge (p - P.length) X.length with h2 | h2
    · rw [List.getElem?_append_left h2] at hx
      exact .inr (.inl ⟨h, by omega, hx⟩)
    · rw [List.getElem?_append_right h2] at hx
      exact .inr (.inr ⟨by omega, by rw [Nat.sub_sub] at hx; exact hx⟩)
theorem put_first {P X S : List (α × Nat)} {p : Nat} {x : α × Nat} (hx : P[p]? = some x) : (P ++ (X ++ S))[p]? = some x := by
  rw [List.getElem?_append_left (List.getElem?_eq_some_iff.1 hx).1]; exact hx
theorem put_mid {P X S : List (α × Nat)} {p : Nat} {x : α × Nat} (hx : X[p]? = some x) : (P ++ (X ++ S))[P.length + p]? = some x := by
  rw [List.getElem?_append_right (by omega), Nat.add_sub_cancel_left, List.getElem?_append_left (List.getElem?_eq_some_iff.1 hx).1]; exact hx
theorem put_last {P X S : List (α × Nat)} {p : Nat} {x : α × Nat} (hx : S[p]? = some x) : (P ++ (X ++ S))[P.length + X.length + p]? = some x := by
  rw [List.getElem?_append_right (by omega), List.getElem?_append_right (by omega), show P.length + X.length + p - P.length - X.length = p by omega]; exact hx
theorem div_same {s k p : Nat} (h : 0 < s) (h1 : k * s ≤ p) (h2 : p < k * s + s) : p / s = k := by
  rw [Nat.div_eq_iff h]
  exact ⟨h1, by rw [Nat.mul_comm k s, Nat.mul_comm s k]; omega⟩
theorem div_lt {s k p : Nat} (h : 0 < s) (h1 : p < k * s) : p / s < k := (Nat.div_lt_iff_lt_mul h).2 h1
theorem div_ge {s k p : Nat} (h : 0 < s) (h1 : k * s ≤ p) : k ≤ p / s := (Nat.le_div_iff_mul_le h).2 h1
/-- One block of s2 more is put in order. -/
theorem HB.step [Inhabited α] {s1 s2 k : Nat} {P X X' S : List (α × Nat)} (h1 : 0 < s1) (h2 : 0 < s2) (hP : P.length = k * s2) {t : Nat} (hs : k * s2 + X.length = t * s1 ∨ S = []) (ht : k * s2 = 0 ∨ ∃ u, k * s2 = u * s1) (hX : X.length ≤ s2) (_hsX : S = [] ∨ X.length = s2)
    (h : HB lt s1 s2 P.length (P ++ (X ++ S))) (hp : X'.Perm X) (ho : Ord lt X') : HB lt s1 s2 (P.length + X.length) (P ++ (X' ++ S)) := by
  have hl := hp.length_eq
  have memX : ∀ {i : Nat} {x : α × Nat}, X'[i]? = some x → ∃ j, X[j]? = some x ∧ j < X.length := fun {i x} hx => by
    obtain ⟨j, hj⟩ := List.getElem?_of_mem (hp.mem_iff.1 (List.mem_of_getElem? hx))
    exact ⟨j, hj, (List.getElem?_eq_some_iff.1 hj).1⟩
  intro p q hpq
  constructor
  · intro hq x y hx hy
    rcases get_mid hy with ⟨q1, hy⟩ | ⟨q1, q2, hy⟩ | ⟨q1, hy⟩
    · rcases get_mid hx with ⟨p1, hx⟩ | ⟨p1, p2, hx⟩ | ⟨p1, hx⟩
      · exact (h p q hpq).1 q1 x y (put_first hx) (put_first hy)
      · omega
      · omega
    · rcases get_mid hx with ⟨p1, hx⟩ | ⟨p1, p2, hx⟩ | ⟨p1, hx⟩
      · have e1 := div_lt (p := p) (k := k) h2 (by omega)
        have e2 := div_ge (p := q) (k := k) h2 (by omega)
        refine ⟨fun e => by omega, fun _ => ?_⟩
        obtain ⟨j, hj, hjl⟩ := memX hy
        have := (h p (P.length + j) (by omega)).2 (by omega) x y (put_first hx) (put_mid hj)
        refine this.2 ?_
        rcases ht with h0 | ⟨u, hu⟩
        · omega
        · exact Nat.lt_of_lt_of_le (div_lt (k := u) h1 (by omega)) (div_ge (k := u) h1 (by omega))
      · have e1 := div_same (p := p) (k := k) h2 (by omega) (by omega)
        have e2 := div_same (p := q) (k := k) h2 (by omega) (by omega)
        exact ⟨fun _ => ho.at (by omega) hx hy, fun e => by omega⟩
      · omega
    · omega
  · intro hq x y hx hy
    rcases get_mid hy with ⟨q1, hy⟩ | ⟨q1, q2, hy⟩ | ⟨q1, hy⟩
    · omega
    · omega
    · rw [hl] at q1 hy
      have hy2 := put_last (P := P) (X := X) hy
      rw [show P.length + X.length + (q - (P.length + X.length)) = q by omega] at hy2
      rcases get_mid hx with ⟨p1, hx⟩ | ⟨p1, p2, hx⟩ | ⟨p1, hx⟩
      · exact (h p q hpq).2 (by omega) x y (put_first hx) hy2
      · obtain ⟨j, hj, hjl⟩ := memX hx
        have hne : S ≠ [] := fun e => by rw [e] at hy; simp at hy
        rcases hs with hs | hs
        · have d1 : p / s1 < t := div_lt h1 (by omega)
          have d2 : t ≤ q / s1 := div_ge h1 (by omega)
          have d3 : (P.length + j) / s1 < t := div_lt h1 (by omega)
          have := (h (P.length + j) q (by omega)).2 (by omega) x y (put_mid hj) hy2
          exact ⟨fun e => by omega, fun _ => this.2 (by omega)⟩
        · exact absurd hs hne
      · rw [hl] at p1 hx
        have hx2 := put_last (P := P) (X := X) hx
        rw [show P.length + X.length + (p - (P.length + X.length)) = p by omega] at hx2
        exact (h p q hpq).2 (by omega) x y hx2 hy2
/-- What is behind is one block of s1, too: all blocks are of s2. -/
theorem HB.end {s1 s2 k n : Nat} {d : List (α × Nat)} (h1 : 0 < s1) (h2 : 0 < s2) (hs : s1 ≤ s2) (hd : d.length = n) (hn : n ≤ k * s2 + s1) {u : Nat} (hu : k * s2 = u * s1) (h : HB lt s1 s2 (k * s2) d) : ∀ p q, p < q → GB lt s2 d p q := by
  intro p q hpq x y hx hy
  have hq := (List.getElem?_eq_some_iff.1 hy).1
  rcases Nat.lt_or_ge q (k * s2) with h3 | h3
  · exact (h p q hpq).1 h3 x y hx hy
  · have k1 := (h p q hpq).2 h3 x y hx hy
    have e2 := div_same (p := q) (k := k) h2 h3 (by omega)
    have e3 := div_same (p := q) (k := u) h1 (by omega) (by omega)
    rcases Nat.lt_or_ge p (k * s2) with h4 | h4
    · have e4 := div_lt (p := p) (k := k) h2 h4
      have e5 := div_lt (p := p) (k := u) h1 (by omega)
      exact ⟨fun e => by omega, fun _ => k1.2 (by omega)⟩
    · have e4 := div_same (p := p) (k := k) h2 h4 (by omega)
      have e5 := div_same (p := p) (k := u) h1 (by omega) (by omega)
      exact ⟨fun _ => k1.1 (by omega), fun e => by omega⟩
/-- One block: all in order. -/
theorem GB.all {s : Nat} {d : List (α × Nat)} (h : ∀ p q, p < q → GB lt s d p q) (hn : d.length ≤ s) : Ord lt d := by
  show List.Pairwise _ _
  rw [List.pairwise_iff_getElem]
  intro i j hi hj hij
  refine (h i j hij _ _ (List.getElem?_eq_getElem hi) (List.getElem?_eq_getElem hj)).1 ?_
  rw [Nat.div_eq_of_lt (by omega), Nat.div_eq_of_lt (by omega)]

end

end Go.Proofs.Ytnopbhlhdecimaa

/-
  slices.SortStableFunc's symMergeCmpFunc with its recursion, and stableCmpFunc: a list is put in order, equals stand as they stood.
-/
namespace Go.Proofs.Ytnopbhlhdecimaa
open Go.RowKit Go.Lib Go.Sort Go.Shelf

section
variable {α : Type} {lt : α → α → Bool}
theorem split3 (d : List (α × Nat)) (q t : Nat) : d.take q ++ ((d.drop q).take t ++ d.drop (q + t)) = d := by
  rw [← List.drop_drop, List.take_append_drop, List.take_append_drop]
theorem mem_seg [Inhabited α] {d : List (α × Nat)} {q t : Nat} {x : α × Nat} (h : x ∈ (d.drop q).take t) : ∃ i, q ≤ i ∧ i < q + t ∧ d[i]? = some x := by
  obtain ⟨i, hi, hx⟩ := mem_takeAt h
  rw [List.getElem?_drop] at hx
  exact ⟨q + i, by omega, by omega, hx⟩
theorem seg_pair {d : List (α × Nat)} {q t : Nat} {T : α × Nat → α × Nat → Prop} (h : ∀ i j x y, q ≤ i → i < j → j < q + t → d[i]? = some x → d[j]? = some y → T x y) : ((d.drop q).take t).Pairwise T := by
  rw [List.pairwise_iff_getElem]
  intro i j hi hj hij
  have ti : i < t := by rw [List.length_take] at hi; omega
  have tj : j < t := by rw [List.length_take] at hj; omega
  have gi : ((d.drop q).take t)[i]? = some ((d.drop q).take t)[i] := List.getElem?_eq_getElem hi
  have gj : ((d.drop q).take t)[j]? = some ((d.drop q).take t)[j] := List.getElem?_eq_getElem hj
  rw [List.getElem?_take_of_lt ti, List.getElem?_drop] at gi
  rw [List.getElem?_take_of_lt tj, List.getElem?_drop] at gj
  exact h (q + i) (q + j) _ _ (by omega) (by omega) (by omega) gi gj
theorem HB.asc {s2 q t : Nat} {d : List (α × Nat)} (h : HB lt 1 s2 q d) : Asc ((d.drop q).take t) := seg_pair fun i j x y h1 h2 _ hx hy => by
  have := (h i j h2).2 (by omega) x y hx hy
  rw [Nat.div_one, Nat.div_one] at this
  exact this.2 h2
theorem HB.block {s s2 q q' u t : Nat} {d : List (α × Nat)} (h0 : 0 < s) (h : HB lt s s2 q d) (hq : q ≤ q') (hu : q' = u * s) (ht : t ≤ s) : Ord lt ((d.drop q').take t) := seg_pair fun i j x y h1 h2 h3 hx hy => by
  have := (h i j h2).2 (by omega) x y hx hy
  refine this.1 ?_
  rw [div_same (k := u) h0 (by omega) (by omega), div_same (k := u) h0 (by omega) (by omega)]
theorem HB.cross [Inhabited α] {s s2 q u t : Nat} {d : List (α × Nat)} (h0 : 0 < s) (h : HB lt s s2 q d) (hu : q = u * s) : Cross ((d.drop q).take s) ((d.drop (q + s)).take t) := fun x hx y hy => by
  obtain ⟨i, i1, i2, hi⟩ := mem_seg hx
  obtain ⟨j, j1, j2, hj⟩ := mem_seg hy
  refine ((h i j (by omega)).2 (by omega) x y hi hj).2 ?_
  rw [div_same (p := i) (k := u) h0 (by omega) (by omega)]
  have := div_ge (p := j) (k := u + 1) h0 (by rw [Nat.add_mul]; omega)
  omega
theorem HB.full {s1 s2 n : Nat} {d : List (α × Nat)} (h : HB lt s1 s2 n d) (hn : d.length = n) : ∀ p q, p < q → GB lt s2 d p q := fun p q hpq x y hx hy => by
  have hq := (List.getElem?_eq_some_iff.1 hy).1
  exact (h p q hpq).1 (by omega) x y hx hy
end

variable {P : Program} {k : Nat} {α : Type}

end Go.Proofs.Ytnopbhlhdecimaa

/-
  slices.SortStableFunc's swapRangeCmpFunc and rotateCmpFunc, over any program that bears their bodies: two ranges exchanged; two neighbours exchanged.
-/
namespace Go.Proofs.Ytnopbhlhdecimaa
open Go.RowKit Go.Lib Go.Sort Go.Shelf

variable {P : Program} {k : Nat} {α : Type} [Inhabited α]
/-- A thing's cells: its place is not laid. -/
def encT (enc : α → List Value) (x : α × Nat) : List Value := enc x.1

end Go.Proofs.Ytnopbhlhdecimaa

/-
  slices.SortStableFunc's symMergeCmpFunc, over any program that bears its body: two neighbours, each in order, become one that is in order; equals stand as they stood.
-/
namespace Go.Proofs.Ytnopbhlhdecimaa
open Go.RowKit Go.Lib Go.Sort Go.Shelf

section
variable {α : Type}
theorem slide_up [Inhabited α] (Q B S : List (α × Nat)) (x : α × Nat) {t : Nat} (ht : t < B.length) : swp (Q ++ (B.take t ++ x :: (B.drop t ++ S))).toArray (Q.length + t) (Q.length + t + 1) = (Q ++ (B.take (t + 1) ++ x :: (B.drop (t + 1) ++ S))).toArray := by
  have h := swp_list (Q ++ B.take t) [] (B.drop (t + 1) ++ S) x B[t]
  have hl : (Q ++ B.take t).length = Q.length + t := by rw [List.length_append, List.length_take]; omega
  rw [hl, List.length_nil, Nat.add_zero] at h
  rw [List.drop_eq_getElem_cons ht, List.take_add_one, List.getElem?_eq_getElem ht]
  simp only [Option.toList_some, List.append_assoc, List.cons_append, List.nil_append] at h ⊢
  exact h
theorem slide_down [Inhabited α] (Q A S : List (α × Nat)) (y : α × Nat) {t : Nat} (ht : t < A.length) : swp (Q ++ (A.take (t + 1) ++ y :: (A.drop (t + 1) ++ S))).toArray (Q.length + t + 1) (Q.length + t) = (Q ++ (A.take t ++ y :: (A.drop t ++ S))).toArray := by
  have h := swp_list_back (Q ++ A.take t) [] (A.drop (t + 1) ++ S) A[t] y
  have hl : (Q ++ A.take t).length = Q.length + t := by rw [List.length_append, List.length_take]; omega
  rw [hl, List.length_nil, Nat.add_zero] at h
  rw [List.drop_eq_getElem_cons ht, List.take_add_one, List.getElem?_eq_getElem ht]
  simp only [Option.toList_some, List.append_assoc, List.cons_append, List.nil_append] at h ⊢
  exact h
theorem slide_length (Q B S : List (α × Nat)) (x : α × Nat) (t : Nat) : (Q ++ (B.take t ++ x :: (B.drop t ++ S))).length = Q.length + 1 + B.length + S.length := by
  simp only [List.length_append, List.length_cons, List.length_take, List.length_drop]
  omega
end

variable {P : Program} {k : Nat} {α : Type}
/-- By the things alone. -/
def cfP (cf : α → α → Int) (x y : α × Nat) : Int := cf x.1 y.1

end Go.Proofs.Ytnopbhlhdecimaa

/-
  slices.SortStableFunc on a list of versions of the call's own: by rising stamps, those of one stamp as they stood.
-/
namespace Go.Proofs.Ytnopbhlhdecimaa
open Go.RowKit Go.Lib Go.Sort Go.Shelf

instance inhabitedVr : Inhabited Vr := ⟨⟨0, 0, ⟨#[]⟩, 0, 0, none, 0, [], false⟩⟩
section
variable {β : Type}
/-- Each with its place. -/
def tagF : Nat → List β → List (β × Nat)
  | _, [] => []
  | n, x :: l => (x, n) :: tagF (n + 1) l
theorem tagF_length : ∀ (n : Nat) (l : List β), (tagF n l).length = l.length
  | _, [] => rfl
  | n, _ :: l => by rw [tagF, List.length_cons, List.length_cons, tagF_length]
theorem tagF_fst : ∀ (n : Nat) (l : List β), (tagF n l).map Prod.fst = l
  | _, [] => rfl
  | n, _ :: l => by rw [tagF, List.map_cons, tagF_fst]
theorem tagF_ge : ∀ (n : Nat) (l : List β), ∀ x ∈ tagF n l, n ≤ x.2
  | _, [], x, h => by simp [tagF] at h
  | n, y :: l, x, h => by
    rcases List.mem_cons.1 h with rfl | h
    · exact Nat.le_refl _
    · have := tagF_ge (n + 1) l x h; omega
theorem tagF_asc : ∀ (n : Nat) (l : List β), (tagF n l).Pairwise fun x y => x.2 < y.2
  | _, [] => List.Pairwise.nil
  | n, _ :: l => List.pairwise_cons.2 ⟨fun y hy => by have := tagF_ge (n + 1) l y hy; show n < y.2; omega, tagF_asc (n + 1) l⟩
theorem tagF_get : ∀ (n : Nat) (l : List β) (i : Nat) (x : β), l[i]? = some x → (tagF n l)[i]? = some (x, n + i)
  | _, [], _, _, h => by simp at h
  | n, y :: l, 0, x, h => by
    obtain rfl : y = x := by simpa using h
    rfl
  | n, y :: l, i + 1, x, h => by
    have := tagF_get (n + 1) l i x (by simpa using h)
    rw [show n + (i + 1) = n + 1 + i by omega]
    exact this
end
/-- How versions are told apart: by their stamps. -/
def StampLt (cf : Vr → Vr → Int) : Prop := ∀ x y, ltOf cf x y = decide (x.st < y.st)
theorem StampLt.swo {cf : Vr → Vr → Int} (h : StampLt cf) : SWO (ltOf cf) where
  irrefl x := by rw [h]; simp
  trans x y z h1 h2 := by rw [h] at *; simp at *; omega
  ntrans x y z h1 h2 := by rw [h] at *; simp at *; omega
def insT : List (Vr × Nat) → Vr × Nat → List (Vr × Nat)
  | [], x => [x]
  | y :: l, x => if y.1.st ≤ x.1.st then y :: insT l x else x :: y :: l
theorem insT_fst : ∀ (l : List (Vr × Nat)) (x : Vr × Nat), (insT l x).map Prod.fst = insV (l.map Prod.fst) x.1
  | [], _ => rfl
  | y :: l, x => by
    rw [insT, List.map_cons, insV]
    split
    · rw [List.map_cons, insT_fst]
    · rfl
theorem insT_perm : ∀ (l : List (Vr × Nat)) (x : Vr × Nat), (insT l x).Perm (x :: l)
  | [], _ => .refl _
  | y :: l, x => by
    rw [insT]
    split
    · exact ((insT_perm l x).cons y).trans (List.Perm.swap x y l)
    · exact .refl _
theorem insT_ord {cf : Vr → Vr → Int} (h : StampLt cf) : ∀ (l : List (Vr × Nat)) (x : Vr × Nat), Ord (ltOf cf) l → (∀ y ∈ l, y.2 < x.2) → Ord (ltOf cf) (insT l x)
  | [], x, _, _ => List.pairwise_singleton _ _
  | y :: l, x, ho, hx => by
    obtain ⟨o1, o2⟩ := List.pairwise_cons.1 ho
    rw [insT]
    split
    · rename_i hle
      refine List.pairwise_cons.2 ⟨fun z hz => ?_, insT_ord h l x o2 (fun z hz => hx z (List.mem_cons_of_mem _ hz))⟩
      rcases List.mem_cons.1 ((insT_perm l x).mem_iff.1 hz) with rfl | hz
      · exact .inr ⟨by rw [h]; simp; omega, hx y List.mem_cons_self⟩
      · exact o1 z hz
    · rename_i hle
      have hxy : TLst (ltOf cf) x y := .inl (by rw [h]; simp; omega)
      refine List.pairwise_cons.2 ⟨fun z hz => ?_, ho⟩
      rcases List.mem_cons.1 hz with rfl | hz
      · exact hxy
      · exact TLst.trans h.swo hxy (o1 z hz)
theorem foldT {cf : Vr → Vr → Int} (h : StampLt cf) : ∀ (D a : List (Vr × Nat)), Ord (ltOf cf) a → Asc D → Cross a D → Ord (ltOf cf) (D.foldl insT a) ∧ (D.foldl insT a).Perm (a ++ D) ∧ (D.foldl insT a).map Prod.fst = (D.map Prod.fst).foldl insV (a.map Prod.fst)
  | [], a, ho, _, _ => ⟨ho, by simp, rfl⟩
  | x :: D, a, ho, hasc, hc => by
    obtain ⟨a1, a2⟩ := List.pairwise_cons.1 hasc
    obtain ⟨r1, r2, r3⟩ := foldT h D (insT a x) (insT_ord h a x ho (fun y hy => hc y hy x List.mem_cons_self)) a2 (fun u hu v hv => by
      rcases List.mem_cons.1 ((insT_perm a x).mem_iff.1 hu) with rfl | hu
      · exact a1 v hv
      · exact hc u hu v (List.mem_cons_of_mem _ hv))
    refine ⟨r1, r2.trans ?_, ?_⟩
    · refine ((insT_perm a x).append_right D).trans ?_
      rw [List.cons_append]
      exact (List.perm_middle (a := x) (l₁ := a) (l₂ := D)).symm
    · rw [List.foldl_cons, r3, insT_fst, List.map_cons, List.foldl_cons]
/-- In order with their places: they are in the document's order. -/
theorem ord_is {cf : Vr → Vr → Int} (h : StampLt cf) {l : List Vr} {M : List (Vr × Nat)} (hp : M.Perm (tagF 0 l)) (ho : Ord (ltOf cf) M) : M.map Prod.fst = ordL l := by
  obtain ⟨r1, r2, r3⟩ := foldT h (tagF 0 l) [] List.Pairwise.nil (tagF_asc 0 l) (fun _ hu => by simp at hu)
  rw [List.nil_append] at r2
  have e : M = (tagF 0 l).foldl insT [] := by
    refine List.Perm.eq_of_pairwise (le := TLst (ltOf cf)) (fun a b _ _ h1 h2 => ?_) ho r1 (hp.trans r2.symm)
    rcases h1 with h1 | ⟨h1, h3⟩
    · have := h2.not h.swo
      rw [h1] at this; cases this
    · rcases h2 with h2 | ⟨_, h4⟩
      · rw [h1] at h2; cases h2
      · omega
  rw [e, r3, tagF_fst]
  rfl

section
variable {α : Type} {E : El α}
theorem holds_ownE [Inhabited α] {w : World} {g : Nat} {cur : Array Value} {ty : TypeId} {l : List α} (hb : w.heap[g]? = some (.cells cur ty (0, 0))) (ht : cur.toList.take (l.length * E.sz) = flatE E l) : HoldsK (encT E.cells) E.sz w g 0 (tagF 0 l).toArray := by
  intro j hj
  rw [size_flatK, List.size_toArray, tagF_length] at hj
  have hc : cur[j]? = (flatE E l)[j]? := by
    rw [← ht, List.getElem?_take, if_pos hj]
    simp
  have hq : j / E.sz < l.length := (Nat.div_lt_iff_lt_mul E.pos).2 hj
  obtain ⟨x, hx⟩ : ∃ x, l[j / E.sz]? = some x := ⟨_, List.getElem?_eq_getElem hq⟩
  have hr : j % E.sz < (E.cells x).length := by rw [E.len]; exact Nat.mod_lt _ E.pos
  obtain ⟨u, hu⟩ : ∃ u, (E.cells x)[j % E.sz]? = some u := ⟨_, List.getElem?_eq_getElem hr⟩
  have e1 := flatE_get l _ x hx _ u hu
  rw [Nat.mul_comm, Nat.div_add_mod j E.sz] at e1
  refine ⟨?_, by simp [World.frozen?, hb]⟩
  rw [get_flatK _ _ _ _ (by rw [List.size_toArray, tagF_length]; exact hj), getBangT (tagF_get 0 l _ x hx)]
  rw [e1] at hc
  have eu : (encT E.cells (x, 0 + j / E.sz))[j % E.sz]! = u := by
    show (E.cells x)[j % E.sz]! = u
    rw [List.getElem!_eq_getElem?_getD, hu]; rfl
  rw [eu]
  simp [World.cell?, hb, hc]
theorem grown_sortedE [Inhabited α] {w : World} {g n k : Nat} {enc : α → List Value} {d : Array (α × Nat)} {os : Array Obj} (_hg : g < w.heap.size) : w.grownBy (sortWorldK (encT enc) k w g 0 n d os) (some g) := by
  refine ⟨rfl, rfl, rfl, ?_, fun i hi hne => ?_⟩
  · simp [sortWorldK, putRowK, putRow, mapBlock, grow, Sort.ahead]
  · simp only [sortWorldK, putRowK, putRow, mapBlock, grow, Sort.ahead]
    rw [Array.getElem?_append_left (by simp; omega), Array.getElem?_modify, if_neg (fun e => hne (by rw [e]))]
/-- Rows that lie in a block of the call's own. -/
theorem ownE_of_row {w : World} {base g cap : Nat} {cur : Array Value} {L : List α} (hb : w.heap[g]? = some (.cells cur E.e (0, 0))) (hbase : base ≤ g) (hr : RowE E w (some ⟨g, 0, none⟩) L) (hn : L.length ≤ cap) (hm : cap ≤ maxLen) (hs : cur.size = cap * E.sz) : ownE E w base (.slice (some ⟨g, 0, none⟩) L.length cap) L := by
  refine ⟨flatE_length L, .inr ⟨g, cap, cur, rfl, hbase, hb, hn, hm, hs, ?_⟩⟩
  apply List.ext_getElem?
  intro j
  by_cases hj : j < L.length * E.sz
  · obtain ⟨u, hu⟩ : ∃ u, (flatE E L)[j]? = some u := ⟨_, List.getElem?_eq_getElem (by rw [flatE_length]; exact hj)⟩
    have c := flatE_cell hr hu
    rw [List.getElem?_take_of_lt hj, hu]
    simp only [Go.WideShapes.add_plain, Nat.zero_add] at c
    rw [cell_of_row w g j cur E.e (0, 0) hb] at c
    rw [Array.getElem?_toList]
    exact c
  · rw [List.getElem?_take_eq_none (by omega), List.getElem?_eq_none (by rw [flatE_length]; omega)]
theorem heap_sortedE [Inhabited α] {w : World} {g n k : Nat} {enc : α → List Value} {d : Array (α × Nat)} {os : Array Obj} {cur : Array Value} {e : TypeId} {fr : Nat × Nat} (hb : w.heap[g]? = some (.cells cur e fr)) : ∃ cur', (sortWorldK (encT enc) k w g 0 n d os).heap[g]? = some (.cells cur' e fr) ∧ cur'.size = cur.size := by
  have hg : g < w.heap.size := (Array.getElem?_eq_some_iff.1 hb).1
  refine ⟨putCells id 0 (flatK (encT enc) k d) cur, ?_, by simp [putCells]⟩
  unfold sortWorldK putRowK
  rw [heap_grow_old _ _ (by simpa using hg)]
  simp [putRow, mapBlock, Sort.ahead, Array.getElem?_modify, hb, onCells]
end
/-- What a function that tells versions apart answers. -/
def CmpV (g : Nat) (cb : Array Value) (cf : Vr → Vr → Int) : Prop := ∀ (x y : Vr) (W : World), Calls Try.prog g (#[vv x, vv y] ++ cb) W fun e w' => e = .returned (.int .i64 (cf x y)) ∧ ∃ q os', w' = grow (W.drewN q) os'
theorem swo_tag {cf : Vr → Vr → Int} (h : SWO (ltOf cf)) : SWO (ltOf (cfP cf)) := ⟨fun x => h.irrefl x.1, fun x y z => h.trans x.1 y.1 z.1, fun x y z => h.ntrans x.1 y.1 z.1⟩
end Go.Proofs.Ytnopbhlhdecimaa

/-
  Plain facts: lists of fields in another order; names that are not the same; the order of names.
-/
namespace Go.Proofs.Ytnopbhlhdecimaa

/-- No name stands twice. -/
def Apart (l : List Fd) : Prop := l.Pairwise fun x y => nats x.n ≠ nats y.n
theorem Apart.perm {l m : List Fd} (h : Apart l) (hp : l.Perm m) : Apart m := (hp.pairwise_iff (R := fun x y : Fd => nats x.n ≠ nats y.n) (fun {_ _} h => Ne.symm h)).1 h
theorem rises_apart : ∀ l : List Fd, Rises l → Apart l
  | [], _ => List.Pairwise.nil
  | _ :: l, h => List.Pairwise.cons (fun g hg => ahead_ne (h.1 g hg)) (rises_apart l h.2)
theorem getL_some : ∀ {l : List Fd} {s : ByteArray} {v : Int}, getL l s = some v → ∃ f ∈ l, nats f.n = nats s ∧ f.v = v
  | [], _, _, h => by cases h
  | f :: l, s, v, h => by
    rw [getL] at h
    by_cases hs : nats f.n = nats s
    · rw [if_pos hs] at h
      exact ⟨f, List.mem_cons_self, hs, Option.some.inj h⟩
    · rw [if_neg hs] at h
      obtain ⟨g, hg, h1, h2⟩ := getL_some h
      exact ⟨g, List.mem_cons_of_mem _ hg, h1, h2⟩
theorem getL_mem : ∀ {l : List Fd}, Apart l → ∀ {f : Fd}, f ∈ l → getL l f.n = some f.v
  | [], _, _, h => by simp at h
  | g :: l, ha, f, h => by
    obtain ⟨h1, h2⟩ := List.pairwise_cons.1 ha
    rw [getL]
    rcases List.mem_cons.1 h with rfl | h
    · rw [if_pos rfl]
    · rw [if_neg (h1 f h)]
      exact getL_mem h2 h
theorem getL_perm {l m : List Fd} (ha : Apart l) (hp : l.Perm m) (s : ByteArray) : getL l s = getL m s := by
  have hb := ha.perm hp
  cases h : getL l s with
  | some v =>
    obtain ⟨f, hf, h1, h2⟩ := getL_some h
    have := getL_mem hb (hp.mem_iff.1 hf)
    rw [nats_inj h1, h2] at this
    exact this.symm
  | none =>
    cases h3 : getL m s with
    | none => rfl
    | some v =>
      obtain ⟨f, hf, h1, h2⟩ := getL_some h3
      have := getL_mem ha (hp.mem_iff.2 hf)
      rw [nats_inj h1, h] at this
      cases this
theorem lastL_apart : ∀ {l : List Fd}, Apart l → ∀ s, lastL l s = getL l s
  | [], _, _ => rfl
  | f :: l, h, s => by
    obtain ⟨h1, h2⟩ := List.pairwise_cons.1 h
    rw [lastL, lastL_apart h2, getL]
    by_cases hs : nats f.n = nats s
    · rw [getL_none fun g hg e => h1 g hg (hs.trans e.symm)]
    · simp [hs]
      cases getL l s <;> rfl
/-- Put in order by names, a list without a name twice is what it is laid over itself. -/
theorem over_perm {l m : List Fd} (ha : Apart l) (hp : l.Perm m) (hm : Rises m) : m = overL l := by
  apply rises_ext _ _ hm (overL_rises _)
  intro s
  rw [overL_get, lastL_apart ha, getL_perm ha hp]
theorem layL_long : ∀ (a : List Fd) (f : Fd), (layL a f).length = a.length + 1 → Rises a → getL a f.n = none
  | [], _, _, _ => rfl
  | g :: a, f, h, hr => by
    rw [layL] at h
    rw [getL]
    by_cases h1 : aheadB g.n f.n = true
    · rw [if_pos h1, List.length_cons, List.length_cons] at h
      rw [if_neg (ahead_ne h1)]
      exact layL_long a f (by omega) hr.2
    · rw [if_neg h1] at h
      by_cases h2 : nats g.n = nats f.n
      · rw [if_pos h2, List.length_cons, List.length_cons] at h
        omega
      · rw [if_neg h2]
        have h3 : aheadB f.n g.n = true := by
          unfold aheadB at h1 ⊢
          rcases lessN_or (nats f.n) (nats g.n) with h | h | h
          · exact h
          · exact absurd h h1
          · exact absurd h.symm h2
        exact getL_none fun x hx e => ahead_ne (lessN_trans _ _ _ h3 (hr.1 x hx)) e.symm
theorem lastL_none : ∀ {l : List Fd} {s : ByteArray}, lastL l s = none → ∀ f ∈ l, nats f.n ≠ nats s
  | [], _, _, f, hf => by simp at hf
  | g :: l, s, h, f, hf => by
    rw [lastL] at h
    cases h1 : lastL l s with
    | some v => rw [h1] at h; cases h
    | none =>
      rw [h1] at h
      rcases List.mem_cons.1 hf with rfl | hf
      · intro e
        simp [e] at h
      · exact lastL_none h1 f hf
theorem apart_snoc {l : List Fd} {f : Fd} (h : Apart l) (h2 : ∀ g ∈ l, nats g.n ≠ nats f.n) : Apart (l ++ [f]) := by
  refine List.pairwise_append.2 ⟨h, List.pairwise_singleton _ _, fun a ha b hb => ?_⟩
  obtain rfl := List.mem_singleton.1 hb
  exact h2 a ha
/-- Laid over itself as long as it is: no name stands twice. -/
theorem over_long : ∀ (n : Nat) (l : List Fd), l.length = n → (overL l).length = l.length → Apart l
  | 0, l, h, _ => by rw [List.eq_nil_of_length_eq_zero h]; exact List.Pairwise.nil
  | n + 1, l, h, hl => by
    rcases List.eq_nil_or_concat l with rfl | ⟨m, f, rfl⟩
    · exact List.Pairwise.nil
    · rw [List.concat_eq_append] at h hl ⊢
      rw [overL_snoc, List.length_append, List.length_singleton] at hl
      rw [List.length_append, List.length_singleton] at h
      have h1 := overL_length m
      have h2 := layL_length (overL m) f
      have h3 := layL_long (overL m) f (by omega) (overL_rises m)
      rw [overL_get] at h3
      exact apart_snoc (over_long n m (by omega) (by omega)) (lastL_none h3)
theorem apart_over {l : List Fd} (h : Apart l) : (overL l).length = l.length := by
  have key : ∀ (m a : List Fd), Rises a → Apart m → (∀ x ∈ m, getL a x.n = none) → (m.foldl layL a).length = a.length + m.length := by
    intro m
    induction m with
    | nil => intro a _ _ _; rfl
    | cons f m ih =>
      intro a ha hm hx
      obtain ⟨h1, h2⟩ := List.pairwise_cons.1 hm
      rw [List.foldl_cons, ih _ (layL_rises a f ha) h2 (fun x hxm => by rw [layL_get a f x.n ha, if_neg (h1 x hxm)]; exact hx x (List.mem_cons_of_mem _ hxm))]
      have : (layL a f).length = a.length + 1 := by
        have h0 := hx f List.mem_cons_self
        clear ih hx h1 h2 hm
        induction a with
        | nil => rfl
        | cons g a iha =>
          rw [getL] at h0
          by_cases e : nats g.n = nats f.n
          · rw [if_pos e] at h0; cases h0
          · rw [if_neg e] at h0
            rw [layL]
            by_cases h1 : aheadB g.n f.n = true
            · rw [if_pos h1, List.length_cons, List.length_cons, iha ha.2 h0]
            · rw [if_neg h1, if_neg e]; rfl
      rw [this, List.length_cons]; omega
  have := key l [] trivial h (fun _ _ => rfl)
  rw [List.length_nil, Nat.zero_add] at this
  exact this

/-- Names' order by the library. -/
theorem cmp_lt : ∀ l m : List UInt8, (Lib.compareBytes l m < 0) ↔ lessN (l.map UInt8.toNat) (m.map UInt8.toNat) = true
  | [], [] => by simp [Lib.compareBytes, lessN]
  | [], _ :: _ => by simp [Lib.compareBytes, lessN]
  | _ :: _, [] => by simp [Lib.compareBytes, lessN]
  | a :: l, b :: m => by
    rw [Lib.compareBytes, List.map_cons, List.map_cons, lessN]
    by_cases h1 : a < b
    · rw [if_pos h1]
      have : a.toNat < b.toNat := h1
      simp [this]
    · rw [if_neg h1]
      have h1' : ¬ a.toNat < b.toNat := h1
      by_cases h2 : b < a
      · rw [if_pos h2]
        have h2' : b.toNat < a.toNat := h2
        simp [h1']
        intro e
        omega
      · rw [if_neg h2]
        have h2' : ¬ b.toNat < a.toNat := h2
        have e : a.toNat = b.toNat := by omega
        rw [cmp_lt l m]
        simp [e]

end Go.Proofs.Ytnopbhlhdecimaa

/-
  Sorting a list of fields of the call's own by their names.
-/
namespace Go.Proofs.Ytnopbhlhdecimaa
open Go.RowKit Go.Sort Go.Shelf

instance inhabitedFd : Inhabited Fd := ⟨⟨⟨#[]⟩, 0⟩⟩
/-- A field's two cells. -/
def encF (x : Fd) : List Value := [.string x.n, .int .i64 x.v]
theorem getBangF {l : List Fd} {i : Nat} {p : Fd} (h : l[i]? = some p) : l.toArray[i]! = p := by
  obtain ⟨hl, he⟩ := List.getElem?_eq_some_iff.1 h
  rw [getElem!_pos l.toArray i (by simpa using hl)]
  simpa using he
theorem holds_ownF {w : World} {g : Nat} {cur : Array Value} {ty : TypeId} {l : List Fd} (hb : w.heap[g]? = some (.cells cur ty (0, 0))) (ht : cur.toList.take (l.length * 2) = flatF l) : HoldsK encF 2 w g 0 l.toArray := by
  intro j hj
  rw [size_flatK] at hj
  have hj' : j < l.length * 2 := by simpa using hj
  have hc : cur[j]? = (flatF l)[j]? := by
    rw [← ht, List.getElem?_take, if_pos hj']
    simp
  obtain ⟨p, hp⟩ : ∃ p, l[j / 2]? = some p := ⟨_, List.getElem?_eq_getElem (by omega)⟩
  obtain ⟨e0, e1⟩ := flatF_get l (j / 2) p hp
  refine ⟨?_, by simp [World.frozen?, hb]⟩
  rw [get_flatK _ _ _ _ hj, getBangF hp]
  rcases Nat.mod_two_eq_zero_or_one j with h | h
  · rw [show j / 2 * 2 = j from by omega] at e0
    rw [e0] at hc
    simp [World.cell?, hb, hc, h, encF]
  · rw [show j / 2 * 2 + 1 = j from by omega] at e1
    rw [e1] at hc
    simp [World.cell?, hb, hc, h, encF]
theorem below_sortedF {w : World} {base g n : Nat} {d : Array Fd} {os : Array Obj} (hg : base ≤ g) (hs : base ≤ w.heap.size) : Below base w (sortWorldK encF 2 w g 0 n d os) := by
  refine ⟨rfl, rfl, rfl, ?_, fun k hk => ?_⟩
  · simp [sortWorldK, putRowK, putRow, mapBlock, grow, Sort.ahead]
  · simp only [sortWorldK, putRowK, putRow, mapBlock, grow, Sort.ahead]
    rw [Array.getElem?_append_left (by simp; omega), Array.getElem?_modify, if_neg (by omega)]

/-- How byName tells two fields apart. -/
def cfF (x y : Fd) : Int := Lib.compareBytes x.n.data.toList y.n.data.toList
theorem ltF (x y : Fd) : ltOf cfF x y = aheadB x.n y.n := by
  unfold ltOf cfF aheadB
  rw [Bool.eq_iff_iff, decide_eq_true_eq]
  exact cmp_lt _ _
theorem swoF : SWO (ltOf cfF) where
  irrefl x := by rw [ltF]; exact lessN_self _
  trans x y z h1 h2 := by rw [ltF] at *; exact lessN_trans _ _ _ h1 h2
  ntrans x y z h1 h2 := by
    rw [ltF] at *
    cases h : aheadB x.n z.n with
    | false => rfl
    | true =>
      unfold aheadB at *
      rcases lessN_or (nats y.n) (nats z.n) with k | k | k
      · rw [k] at h2; cases h2
      · have := lessN_trans _ _ _ h k
        rw [this] at h1; cases h1
      · rw [← k, h1] at h; cases h

theorem encF_one (x : Fd) (v : Value) (hv : v ∈ encF x) : v.oneCell' = true := by
  simp [encF] at hv
  rcases hv with rfl | rfl <;> rfl
/-- What the sort leaves. -/
def SortPost (base : Nat) (v : Value) (l : List Fd) (w : World) (e : Ending) (w' : World) : Prop :=
  e = .returned (.tuple #[]) ∧ ∃ m, l.Perm m ∧ m.Pairwise (fun x y => aheadB y.n x.n = false) ∧ ListF w' v m ∧ Below base w w'
theorem sorted_ofF {base g cap n : Nat} {l : List Fd} {w : World} {d' : Array Fd} {os : Array Obj} (hH : HoldsK encF 2 w g 0 l.toArray) (hblk : g < w.heap.size) (hbase : base ≤ g) (hcap : l.length ≤ cap)
    (hp : PermIn 0 l.toArray.size l.toArray d') (hs : SortedIn (ltOf cfF) 0 l.toArray.size d') : SortPost base (.slice (some ⟨g, 0, none⟩) l.length cap) l w (.returned (.tuple #[])) (sortWorldK encF 2 w g 0 n d' os) := by
  have hsz : d'.size = l.length := by simpa using hp.1
  have hlen : d'.toList.length = l.length := by simpa using hsz
  refine ⟨rfl, d'.toList, ?_, ?_, ⟨some ⟨g, 0, none⟩, cap, by rw [hlen], ?_, by rw [hlen]; exact hcap, fun h => by cases h⟩, below_sortedF hbase (by omega)⟩
  · have := hp.2.2
    simp only [List.size_toArray] at this
    rw [← hsz] at this
    simp only [Array.extract_size] at this
    rw [hsz] at this
    rw [show l.length = l.toArray.size from by simp, Array.extract_size] at this
    have h2 : d'.toList.Perm l := by simpa using this
    exact h2.symm
  · rw [List.pairwise_iff_getElem]
    intro i j hi hj hij
    have hi' : i < d'.size := by simpa using hi
    have hj' : j < d'.size := by simpa using hj
    have := hs i j (Nat.zero_le _) hij (by simp; omega)
    rw [getElem!_pos d' i hi', getElem!_pos d' j hj', ltF] at this
    simpa using this
  · intro i p hi
    have hi' : i < d'.size := by simpa using (List.getElem?_eq_some_iff.1 hi).1
    have hK := holdsK_sortWorldK encF 2 w g 0 n l.toArray d' os hblk hH (by simpa using hsz)
    have c0 := (hK.cell hi' (c := 0) (by omega)).1
    have c1 := (hK.cell hi' (c := 1) (by omega)).1
    have e : d'[i]! = p := by
      rw [getElem!_pos d' i hi']
      rw [Array.getElem?_toList, Array.getElem?_eq_getElem hi'] at hi
      injection hi
    rw [e] at c0 c1
    exact ⟨g, 0, rfl, by simpa [encF] using c0, by simpa [encF] using c1⟩
/-- A list's own block is one of fields. -/
def TyF (w : World) (v : Value) : Prop := ∀ g, v.ownBlock = some g → ∃ cur, w.heap[g]? = some (.cells cur FT (0, 0))
theorem tyF_sorted {w : World} {g n : Nat} {d : Array Fd} {os : Array Obj} {cur : Array Value} (hb : w.heap[g]? = some (.cells cur FT (0, 0))) : ∃ cur', (sortWorldK encF 2 w g 0 n d os).heap[g]? = some (.cells cur' FT (0, 0)) := by
  have hlt := (Array.getElem?_eq_some_iff.1 hb).1
  simp only [sortWorldK, putRowK, putRow, mapBlock, grow, Sort.ahead]
  rw [Array.getElem?_append_left (by simp; omega), Array.getElem?_modify, if_pos rfl, hb]
  simp only [Option.map_some, onCells]
  exact ⟨_, rfl⟩
/-- In order, and no name twice: names rise. -/
theorem rises_of : ∀ l : List Fd, l.Pairwise (fun x y => aheadB y.n x.n = false) → Apart l → Rises l
  | [], _, _ => trivial
  | f :: l, h, ha => by
    obtain ⟨h1, h2⟩ := List.pairwise_cons.1 h
    obtain ⟨a1, a2⟩ := List.pairwise_cons.1 ha
    refine ⟨fun g hg => ?_, rises_of l h2 a2⟩
    have := h1 g hg
    unfold aheadB at this ⊢
    rcases lessN_or (nats f.n) (nats g.n) with h | h | h
    · exact h
    · rw [h] at this; cases this
    · exact absurd h (a1 g hg)

end Go.Proofs.Ytnopbhlhdecimaa

/-
  slices.Clone of fields and of versions.
-/
namespace Go.Proofs.Ytnopbhlhdecimaa
open Go.RowKit

set_option maxHeartbeats 1000000 in
set_option maxRecDepth 100000 in
theorem cloneF_any (w : World) (A : Option Addr) (c : Nat) (l : List Fd) (hF : Fields w A l) (hnc : A = none → c = 0) (hn : l.length ≤ 1000000) :
    Calls Try.prog 23 #[.slice A l.length c] w fun e w' => ∃ v, e = .returned v ∧ OF w l v w' := by
  have q22 : ∀ (w : World) (a : Option Addr) (n c n' c' : Nat), (binOp .eql 43 (.slice a n c) (.slice none n' c')).run Try.prog w = .ok (.bool a.isNone) w := fun w a n c n' c' => Lib.run_eql_slice_nil w _ _ a n c n' c' Try.underlying43
  rcases A with _ | ad
  · obtain rfl : l = [] := by
      rcases l with _ | ⟨x, xs⟩
      · rfl
      · obtain ⟨_, _, h, _⟩ := hF 0 x (by simp)
        cases h
    obtain rfl := hnc rfl
    go_enter Try.func23, Try.ntmps23
    go_wp2_with fail
    go_ret
    exact ⟨_, rfl, OF.nil w⟩
  · have HF := Lib.hid hF
    have HO := Lib.hid (show OF w [] (.slice (some ⟨w.heap.size, 0, none⟩) 0 0) (w.alloc (.cells #[] FT)) from ⟨own_emptyF (heap_alloc_new w _) (Nat.le_refl _), (bl w).alloc (Nat.le_refl _) _⟩)
    clear hF hnc
    obtain ⟨n, hnm⟩ : ∃ n, l.length = n := ⟨_, rfl⟩
    rw [hnm] at hn ⊢
    have HN := Lib.hid hnm
    clear hnm
    go_enter Try.func23, Try.ntmps23
    go_wp2_with (first
      | (at_builtin; refine wpList_appF rfl (.tmp 5) (.tmp 6) rfl rfl HO.out.own rfl HN.out.symm (HF.out.below ((bl w).alloc (Nat.le_refl _) _)) (fun h => by cases h) (by simp; have := HN.out; omega) (by simp) ?_; intro v' w3 hown3 hg3; have HN3 := Lib.hid (HO.out.grown hg3 hown3); clear hown3 hg3)
      | go_in)
    go_ret
    exact ⟨_, rfl, by simpa using HN3.out⟩

end Go.Proofs.Ytnopbhlhdecimaa

/-
  Is a span right, by the program?
-/
namespace Go.Proofs.Ytnopbhlhdecimaa
open Go.RowKit

set_option maxHeartbeats 1000000 in
theorem pspan_right (f t : Int) (w : World) : Ret 33 #[.agg #[.int .i64 f, .int .i64 t]] w (.bool (rightS f t)) := by
  by_cases h1 : -1099511627776 ≤ f
  · by_cases h3 : f < t
    · by_cases h2 : t ≤ 1099511627776
      · have HE := Lib.hid (show rightS f t = true by simp [rightS, h1, h2, h3])
        go_enter Try.func33, Try.ntmps33
        go_wp2_with fail
        go_ret
        exact ⟨ret_bool HE.out.symm, by (repeat (first | exact (bl w) | refine belowN ?_ _ | refine Below.alloc ?_ (by have hsz := Below.size (bl w); first | omega | (simp; done) | (simp; omega) | (simp at hsz ⊢; omega)) _))⟩
      · have HE := Lib.hid (show rightS f t = false by simp [rightS, h2])
        go_enter Try.func33, Try.ntmps33
        go_wp2_with fail
        go_ret
        exact ⟨ret_bool HE.out.symm, by (repeat (first | exact (bl w) | refine belowN ?_ _ | refine Below.alloc ?_ (by have hsz := Below.size (bl w); first | omega | (simp; done) | (simp; omega) | (simp at hsz ⊢; omega)) _))⟩
    · have HE := Lib.hid (show rightS f t = false by simp [rightS, h3])
      go_enter Try.func33, Try.ntmps33
      go_wp2_with fail
      go_ret
      exact ⟨ret_bool HE.out.symm, by (repeat (first | exact (bl w) | refine belowN ?_ _ | refine Below.alloc ?_ (by have hsz := Below.size (bl w); first | omega | (simp; done) | (simp; omega) | (simp at hsz ⊢; omega)) _))⟩
  · have HE := Lib.hid (show rightS f t = false by simp [rightS, h1])
    go_enter Try.func33, Try.ntmps33
    go_wp2_with fail
    go_ret
    exact ⟨ret_bool HE.out.symm, by (repeat (first | exact (bl w) | refine belowN ?_ _ | refine Below.alloc ?_ (by have hsz := Below.size (bl w); first | omega | (simp; done) | (simp; omega) | (simp at hsz ⊢; omega)) _))⟩
end Go.Proofs.Ytnopbhlhdecimaa
