/-
  Texts joined into one: what the program's and the document's calls give back, piece by piece.
-/
import Derived.Test.YtaoobliajgcdmaaGreatMg1
import Derived.Test.YtaoobliajgcdmaaGreatMg2
import Derived.Test.YtaoobliajgcdmaaGreatMg3
import Derived.Test.YtaoobliajgcdmaaGreatMg4
import Derived.Test.YtaoobliajgcdmaaGreatMg5
import Derived.Test.YtaoobliajgcdmaaGreatMg6
import Derived.Test.YtaoobliajgcdmaaGreatProg
import Derived.Test.YtaoobliajgcdmaaGreatRows
import Derived.BigQuiet
import Derived.ChangeAlike
import Derived.ChangeKeysEq
import Derived.Deep.AppendLies
import Derived.Deep.CutBlock
import Derived.Deep.CutRange
import Derived.Deep.Light
import Derived.Deep.LoopGhost
import Derived.Deep.QuietTactic
import Derived.Deep.RegionHeld3
import Derived.Deep.RegionLaw
import Derived.Handy
import Derived.Laws.BytesArg
import Derived.Laws.OwnMore
import Derived.Laws.Strings
import Derived.Laws.StructEq
import Derived.Lib.Bytealg
import Derived.Lib.Hide
import Derived.Maps.AppendAt
import Derived.Maps.RangeWalk
import Derived.OneCell
import Derived.OwnWalk
import Derived.RangeFuncBox
import Derived.RegionTactic
import Derived.Shelf.SlSortCmp.KitK
import Derived.Shelf.SlSortCmp.NoneTotal
import Derived.Sort.KeysCollected
import Derived.Sort.WalkB12
import Derived.Sort.WalkB2
import Derived.StillTailTactics
import Derived.WalkArith
import Derived.WalkKit
import Derived.WalkLawsBesides
import Derived.WalkSpells
import Derived.Lib.SmallJoins
import Derived.ProofKit
import Derived.Deep.Upon
import Derived.Lib.OwnBridge
import Derived.Maps.OwnSet
import Derived.Sort.OwnSortedInts
import Derived.LoopIn
import Derived.LoopNIn
import Derived.OwnWalkIn
import Derived.RangeFuncBound
import Derived.RangeFuncCalls
import Derived.RangeFuncLeaves
import Derived.RangeFuncNested
import Derived.RangeFuncOwn
import Derived.Shelf.Abstract
import Derived.Shelf.RegionOpen
import Derived.TacticsInMore
import Derived.IntWalk
import Derived.Lib.QuietBelow
import Derived.Test.YtaoobliajgcdmaaGreatChecked
import Derived.ChangeMaps5
import Derived.Deep.SlicePairs
import Derived.OpenShut
import Derived.SizedLaws

/-
  The program's Clip: pieces are put one behind the other.
-/
namespace Go.Proofs.YtaoobliajgcdmaaGreat
open Go.RowKit

/-- Pieces that were put one behind the other. -/
structure PutAll (M L : List Pc) : Prop where
  tl : TL L
  le : ∀ q ∈ L, ∃ p ∈ M, q.t ≤ p.t
  fs : ∀ x, fsP L x = fsP M x
  len : L.length ≤ M.length
  few : ∀ q ∈ L, ∃ p ∈ M, q.fs = p.fs
theorem PutAll.nil : PutAll [] [] := ⟨trivial, by simp, fun _ => rfl, Nat.le_refl _, by simp⟩
theorem PutAll.step {M L : List Pc} {p : Pc} (h : PutAll M L) (hp : rightP p.f p.t = true) (hle : ∀ q ∈ M, q.t ≤ p.f) (A : Option Addr) (c : Nat) : PutAll (M ++ [p]) (putP L { p with fa := A, fc := c }) := by
  have hL : ∀ q ∈ L, q.t ≤ p.f := fun q hq => by
    obtain ⟨r, hr, h1⟩ := h.le q hq
    have := hle r hr
    omega
  have hpt := put_to (p := { p with fa := A, fc := c }) h.tl hp hL
  refine ⟨hpt.tl, fun q hq => ⟨p, by simp, hpt.le q hq⟩, fun x => ?_, ?_, fun q hq => ?_⟩
  · rw [hpt.fs, fsP_append, fsP_one, ← h.fs]
    show (if p.f ≤ x ∧ x < p.t then some p.fs else fsP L x) = _
    by_cases hx : p.f ≤ x ∧ x < p.t
    · rw [if_pos hx, fs_past (fun q hq => by have := hL q hq; omega)]
      simp only
      rw [if_pos (has_at hp hx.1 hx.2)]
    · rw [if_neg hx, if_neg (fun hh => by rw [hasP_iff] at hh; exact hx hh.2)]
      cases fsP L x <;> rfl
  · have := hpt.len
    have := h.len
    rw [List.length_append, List.length_singleton]; omega
  · rcases hpt.mem q hq with e | ⟨r, hr, e⟩
    · exact ⟨p, by simp, e⟩
    · obtain ⟨s, hs, e2⟩ := h.few r hr
      exact ⟨s, List.mem_append.2 (.inl hs), e.trans e2⟩
/-- Pieces that rise. -/
def RiseP (M : List Pc) : Prop := (∀ p ∈ M, rightP p.f p.t = true) ∧ M.Pairwise (fun p q => p.t ≤ q.f)
theorem tl_rise {l : List Pc} (h : TL l) : RiseP l := ⟨h.rights, (tl_pair h).imp fun k => k.1⟩
theorem RiseP.at {M : List Pc} (h : RiseP M) {k : Nat} {p : Pc} (hp : M[k]? = some p) : rightP p.f p.t = true ∧ ∀ q ∈ M.take k, q.t ≤ p.f := by
  refine ⟨h.1 p (List.mem_of_getElem? hp), fun q hq => ?_⟩
  obtain ⟨j, hj⟩ := List.mem_iff_getElem?.1 hq
  have hjk : j < k := by have := (List.getElem?_eq_some_iff.1 hj).1; rw [List.length_take] at this; omega
  rw [List.getElem?_take_of_lt hjk] at hj
  obtain ⟨h1, rfl⟩ := List.getElem?_eq_some_iff.1 hj
  obtain ⟨h2, rfl⟩ := List.getElem?_eq_some_iff.1 hp
  exact List.pairwise_iff_getElem.1 h.2 j k h1 h2 hjk

theorem putter_any (w : World) (B : Nat) : Calls Tryz.prog 33 #[.pointer (some ⟨B, 0, none⟩)] w fun e w' => e = .returned (.func (.func 57) #[] #[.pointer (some ⟨w.heap.size, 0, none⟩)]) ∧ w' = w.alloc (.cells #[.pointer (some ⟨B, 0, none⟩)] TPp) := by
  go_enter Tryz.func33, Tryz.ntmps33
  go_wp2_with fail
  go_ret
  exact ⟨rfl, rfl⟩
theorem PutB.start (w : World) : PutB (w.heap.size + 2) (w.heap.size + 1) w.heap.size [] (.slice none 0 0) ((w.alloc (.cells #[.slice none 0 0] TPs)).alloc (.cells #[.pointer (some ⟨w.heap.size, 0, none⟩)] TPp)) := by
  refine ⟨by omega, by omega, ?_, ?_, ownE_nil _ _, by simp⟩
  · have h := heap_alloc_new (w.alloc (.cells #[.slice none 0 0] TPs)) (.cells #[.pointer (some ⟨w.heap.size, 0, none⟩)] TPp)
    rw [show (w.alloc (.cells #[.slice none 0 0] TPs)).heap.size = w.heap.size + 1 by simp] at h
    exact h
  · have h := Boxed.new w TPs (.slice none 0 0)
    exact h.alloc _
theorem Kb.kb2 {B : Nat} {o2 : Option Nat} {W w w' : World} (h : Kb (some B) W w) (k : Kb2 (some B) o2 w w') (h2 : ∀ c, o2 = some c → W.heap.size ≤ c) : Kb (some B) W w' :=
  ⟨Nat.le_trans h.1 k.size, fun c hc hn => (k.block c (Nat.lt_of_lt_of_le hc h.1) hn (fun e => by have := h2 c e; omega)).trans (h.2 c hc hn)⟩
theorem clip_rise {a : Int × Int} {l : List Pc} (h : TL l) {t : Nat} {p q : Pc} (hp : l[t]? = some p) (hq : clipP a p = some q) : rightP q.f q.t = true ∧ ∀ r ∈ clipL a (l.take t), r.t ≤ q.f := by
  have c := clip_some hq
  refine ⟨c.1, fun r hr => ?_⟩
  obtain ⟨s, hs, hr⟩ := List.mem_filterMap.1 hr
  have d := clip_some hr
  have := ((tl_rise h).at hp).2 s hs
  omega

set_option maxHeartbeats 4000000 in
set_option maxRecDepth 100000 in
theorem ptclip_any (w : World) (a : Int × Int) (u : Value) (l : List Pc) (hl : PcsL w u l) (hn : l.length ≤ 1000) (hfs : ∀ p ∈ l, p.fs.length ≤ 1000000) : Calls Tryz.prog 24 #[.agg #[.int .i64 a.1, .int .i64 a.2], u] w fun e w' => ∃ x, e = .returned x ∧ HasTL w' x (clipG a l) ∧ Below w.heap.size w w' := by
  have CR := Lib.hid (fun w' (h : Below w.heap.size w w') => ptright_any w' u l (hl.below h) hn hfs)
  obtain ⟨⟨A, c, rfl, hA, hc, hnc⟩, hPF⟩ := hl
  have HA := Lib.hid hA
  have HPF := Lib.hid hPF
  have HFS := Lib.hid hfs
  obtain ⟨n, hnm⟩ : ∃ n, l.length = n := ⟨_, rfl⟩
  rw [hnm] at hn hc CR ⊢
  have HN := Lib.hid hnm
  obtain ⟨af, at', rfl⟩ : ∃ af at', a = (af, at') := ⟨a.1, a.2, rfl⟩
  have HB1 := Lib.hid (show Below w.heap.size w (w.alloc (ocS af at')) from (bl w).alloc (Nat.le_refl _) _)
  have HS1 := Lib.hid (boxS_new w af at')
  clear hA hc hnc hPF hnm hfs
  cases hr : rightT l with
  | false =>
    rw [hr] at CR
    have HG := Lib.hid (show ∀ x, clipG (af, at') l x = none from fun x => by unfold clipG; rw [hr]; rfl)
    clear hr
    go_enter Tryz.func24, Tryz.ntmps24
    go_wp2_with (go_at_call 14; (with_reducible refine (CR.out _ HB1.out).mono ?_); rintro e w2 ⟨rfl, hb2⟩)
    go_ret
    exact ⟨_, rfl, ⟨[], TimeL.nil _ _ HG.out⟩, chain HB1.out hb2⟩
  | true =>
    rw [hr] at CR
    have HTL := Lib.hid ((rightT_iff l).1 hr)
    have HG := Lib.hid (show ∀ x, fsP (clipL (af, at') l) x = clipG (af, at') l x from fun x => by unfold clipG; rw [hr]; rfl)
    clear hr
    go_enter Tryz.func24, Tryz.ntmps24
    go_wp2_with (first
      | (go_at_call 14; (with_reducible refine (CR.out _ HB1.out).mono ?_); rintro e w2 ⟨rfl, hb2⟩; have HB2 := Lib.hid hb2; clear hb2)
      | (go_at_call 33; (with_reducible refine (putter_any _ _).mono ?_); rintro e w3 ⟨rfl, hw3⟩; have HW3 := Lib.hid hw3; clear hw3))
    refine abstract_worldW (fun W => Below w.heap.size w W ∧ BoxS W w.heap.size af at' ∧ PutB W.heap.size (w2.heap.size + 1) w2.heap.size [] (.slice none 0 0) W ∧ w.heap.size < w2.heap.size) ⟨?_, ?_, ?_, ?_⟩ ?_
    · rw [HW3.out]
      exact ((chain HB1.out HB2.out).alloc (chain HB1.out HB2.out).size _).alloc (by have := (chain HB1.out HB2.out).size; simp; omega) _
    · rw [HW3.out]
      exact (HS1.out.below HB2.out).below (((bl w2).alloc (Nat.le_refl _) _).alloc (by simp) _)
    · rw [HW3.out]
      have h := PutB.start w2
      rw [show w2.heap.size + 2 = ((w2.alloc (.cells #[.slice none 0 0] TPs)).alloc (.cells #[.pointer (some ⟨w2.heap.size, 0, none⟩)] TPp)).heap.size by simp] at h
      exact h
    · have := HB2.out.size
      simp at this
      omega
    rintro W3 ⟨hbw, hsb, hpb, hwB⟩
    have HS3 := Lib.hid hsb
    have HB3 := Lib.hid hbw
    have HP3 := Lib.hid hpb
    have HWB := Lib.hid hwB
    clear hbw hsb hpb hwB CR HW3 HB2
    generalize w2.heap.size = B at *
    go_loopw [17] (fun i wr => ∃ (t : Nat) (L : List Pc) (v : Value), t ≤ n ∧ i = .int .i64 (t : Nat) ∧ PutAll (clipL (af, at') (l.take t)) L ∧ PutB W3.heap.size (B + 1) B L v wr ∧ Kb (some B) W3 wr ∧ Below w.heap.size w wr) (fun i _ => n - (intOf i).toNat)
    case atStart => exact ⟨0, [], _, Nat.zero_le _, rfl, PutAll.nil, HP3.out, Kb.refl _ _, HB3.out⟩
    case round =>
      obtain ⟨t, L, v, ht, rfl, hPA, hPB, hKB, hBW⟩ := hrel
      have HPA := Lib.hid hPA
      have HPB := Lib.hid hPB
      have HKB := Lib.hid hKB
      have HBW := Lib.hid hBW
      clear hPA hPB hKB hBW
      by_cases hlt : t < n
      · have hlt' : (t : Int) < (n : Int) := by omega
        obtain ⟨p, hx⟩ : ∃ p, l[t]? = some p := ⟨_, List.getElem?_eq_getElem (by have := HN.out; omega)⟩
        obtain ⟨g, off, rfl, hX⟩ := (HA.out.below HBW.out).cells3 hx
        have HX := Lib.hid hX
        have HSZ := Lib.hid (show W3.heap.size ≤ wr.heap.size from HKB.out.1)
        have hSB : BoxS wr w.heap.size af at' := ⟨HKB.out.cell HS3.out.1 (fun e => by injection e with e; have := HWB.out; omega), HKB.out.cell HS3.out.2 (fun e => by injection e with e; have := HWB.out; omega)⟩
        have HSB := Lib.hid hSB
        have HB4 := Lib.hid (show Below wr.heap.size wr (wr.alloc (ocP p)) from (bl wr).alloc (Nat.le_refl _) _)
        obtain ⟨y0, y1⟩ := hSB.below HB4.out
        have CM := Lib.hid (fun w => Co.meet_any af at' p.f p.t w)
        have HBX := Lib.hid (show ∀ w', Below (wr.alloc (ocP p)).heap.size (wr.alloc (ocP p)) w' → BoxP w' wr.heap.size p from fun w' h => (boxP_new wr p).below h)
        have HPP := Lib.hid (show PF w p from HPF.out p (List.mem_of_getElem? hx))
        have HPL := Lib.hid (show p.fs.length ≤ 1000000 from HFS.out p (List.mem_of_getElem? hx))
        have hstep := clip_next (a := (af, at')) hx
        have NXF := Lib.hid (show Co.meetB af at' p.f p.t = false → clipL (af, at') (l.take t) = clipL (af, at') (l.take (t + 1)) from fun h => by rw [hstep]; unfold clipP; rw [show Co.meetB (af, at').1 (af, at').2 p.f p.t = false from h]; simp)
        have NXT := Lib.hid (show Co.meetB af at' p.f p.t = true → (clipL (af, at') (l.take t) ++ [⟨Co.meetF af at' p.f p.t, Co.meetT af at' p.f p.t, p.fa, p.fc, p.fs⟩] = clipL (af, at') (l.take (t + 1))) ∧ rightP (Co.meetF af at' p.f p.t) (Co.meetT af at' p.f p.t) = true ∧ ∀ r ∈ clipL (af, at') (l.take t), r.t ≤ Co.meetF af at' p.f p.t from fun h => by
          have hc : clipP (af, at') p = some ⟨Co.meetF af at' p.f p.t, Co.meetT af at' p.f p.t, p.fa, p.fc, p.fs⟩ := by unfold clipP; rw [if_pos h]
          have hri := clip_rise HTL.out hx hc
          refine ⟨?_, hri⟩
          rw [hstep, hc]; rfl)
        have HLEN := Lib.hid (show L.length ≤ 1000 by have h1 := HPA.out.len; have h2 := clip_length (af, at') (l.take t); rw [List.length_take] at h2; omega)
        have HLF := Lib.hid (show ∀ q ∈ L, q.fs.length ≤ 1000000 from fun q hq => by
          obtain ⟨r, hr, e⟩ := HPA.out.few q hq
          obtain ⟨s, hs, hr⟩ := List.mem_filterMap.1 hr
          rw [e, (clip_some hr).2.2.2.1]
          exact HFS.out s (List.mem_of_mem_take hs))
        obtain ⟨z0, z1, z2⟩ := hX
        clear hx hstep hSB
        generalize Co.meetF af at' p.f p.t = mf at *
        generalize Co.meetT af at' p.f p.t = mt at *
        generalize Co.meetB af at' p.f p.t = mb at *
        cases mb with
        | false =>
          have NX := Lib.hid (NXF.out rfl)
          go_wp2_with (go_at_call 32; (with_reducible refine (CM.out _).mono ?_); rintro e w5 ⟨rfl, hb5⟩; have HB5 := Lib.hid (chain HB4.out hb5); clear hb5)
          have HB6 := Lib.hid (HB5.out.alloc HB5.out.size (ocS mf mt))
          exact ⟨⟨t + 1, L, v, by omega, by go_num, by rw [← NX.out]; exact HPA.out, HPB.out.below HB6.out, HKB.out.trans (Kb.of_below HB6.out), chain HBW.out HB6.out⟩, by simp [intOf] <;> omega⟩
        | true =>
          obtain ⟨nx1, nx2, nx3⟩ := NXT.out rfl
          have NX1 := Lib.hid nx1
          have NX2 := Lib.hid nx2
          have NX3 := Lib.hid nx3
          clear nx1 nx2 nx3 NXT NXF
          go_wp2_with (first
            | (go_at_call 32; (with_reducible refine (CM.out _).mono ?_); rintro e w5 ⟨rfl, hb5⟩; obtain ⟨x0, x1, x2⟩ := HBX.out _ (hb5.alloc hb5.size (ocS mf mt)); have HB6 := Lib.hid ((chain HB4.out hb5).alloc (chain HB4.out hb5).size (ocS mf mt)); have CP := Lib.hid (pput_any (p := ⟨mf, mt, p.fa, p.fc, p.fs⟩) (HPB.out.below HB6.out) (Nat.le_trans HSZ.out HB6.out.size) (HPP.out.below (chain HBW.out HB6.out)) (Nat.le_trans HLEN.out (by omega)) HLF.out HPL.out); clear hb5)
            | (go_at_call 57; (with_reducible refine CP.out.mono ?_); rintro e w6 ⟨rfl, v', A6, c6, hpb6, hk6⟩; have HPB6 := Lib.hid hpb6; have HK6 := Lib.hid hk6; clear hpb6 hk6))
          have hv : ∀ c, v.ownBlock = some c → W3.heap.size ≤ c := fun c e => (HPB.out.lt e).1
          refine ⟨⟨t + 1, _, v', by omega, by go_num, ?_, HPB6.out, (HKB.out.trans (Kb.of_below HB6.out)).kb2 HK6.out hv, ?_⟩, by simp [intOf] <;> omega⟩
          · rw [← NX1.out]
            exact HPA.out.step (p := ⟨mf, mt, p.fa, p.fc, p.fs⟩) NX2.out NX3.out A6 c6
          · refine (chain HBW.out HB6.out).trans (HK6.out.to_below (chain HBW.out HB6.out).size (fun c e => by injection e with e; have := HWB.out; omega) (fun c e => by have h1 := hv c e; have h2 := HB3.out.size; omega))
      · obtain rfl : t = n := by omega
        have hlt' : ¬ (t : Int) < (t : Int) := by omega
        have x0 := HPB.out.box.cell
        have NX := Lib.hid (show clipL (af, at') (l.take t) = clipL (af, at') l by rw [List.take_of_length_le (by have := HN.out; omega)])
        have HLEN := Lib.hid (show L.length ≤ 1000 by have h1 := HPA.out.len; have h2 := clip_length (af, at') (l.take t); rw [List.length_take] at h2; omega)
        go_wp2_with fail
        go_ret
        exact ⟨_, rfl, ⟨L, HPB.out.pcs, HPA.out.tl, fun x => by rw [HPA.out.fs, NX.out]; exact HG.out x, HLEN.out⟩, HBW.out⟩

end Go.Proofs.YtaoobliajgcdmaaGreat

/-
  The program's Splice: slices.Grow and slices.Concat of pieces; what is clipped is put one behind the other.
-/
namespace Go.Proofs.YtaoobliajgcdmaaGreat
open Go.RowKit

theorem pgrow_any (w : World) (n : Nat) (hn : n ≤ 100000) : Calls Tryz.prog 72 #[.slice none 0 0, .int .i64 n] w fun e w' => ∃ v, e = .returned v ∧ OE EP w [] v w' := by
  rcases Nat.eq_zero_or_pos n with rfl | hn0
  · refine (Any8.slices_Grow_room Tryz.growPc none 0 0 0 w (Nat.le_refl _) (by omega) (by omega) (by omega)).mono ?_
    rintro e w' ⟨rfl, rfl⟩
    exact ⟨_, rfl, OE.nil _⟩
  · obtain ⟨i0, hi, hz0, hz1, hz2⟩ := info_parts EP.info
    refine (Any8.slices_Grow_grow Tryz.growPc i0 EP.z hi hz0 (by rw [hz1]; decide) none 0 0 n [] w (Nat.le_refl _) (by omega) (by rw [hz2]; show (0 + n) * 40 ≤ _; omega) (by omega) (by simp) (fun _ => rfl) (by simp)).mono ?_
    rintro e w' ⟨rfl, rfl⟩
    have hle := grownCap_le_maxLen w (0 + n) 0 (Tryz.growPc_ren.t 25) (by unfold maxLen; omega)
    have hge := grownCap_ge w (0 + n) 0 (Tryz.growPc_ren.t 25)
    refine ⟨_, rfl, ⟨by simp [flatE], .inr ⟨w.heap.size, _, _, rfl, Nat.le_refl _, heap_alloc_new w.drew _, Nat.zero_le _, hle, ?_, by simp [flatE]⟩⟩, ((bl w).drew).alloc (by simp) _⟩
    have hzs : EP.z.cells.size = 3 := EP.zs
    simp only [Array.size_append, size_zeroCells, hzs]
    show 0 + (0 + n - 0) * 3 + (grownCap w (0 + n) 0 (Tryz.growPc_ren.t 25) - (0 + n)) * 3 = grownCap w (0 + n) 0 (Tryz.growPc_ren.t 25) * 3
    omega

/-- From A on lie lists of pieces. -/
def RowsP (w : World) (A : Option Addr) (LL : List (List Pc)) : Prop := ∀ (k : Nat) (l : List Pc), LL[k]? = some l → ∃ g off v, A = some ⟨g, off, none⟩ ∧ w.cell? ⟨g, off + k, none⟩ = some v ∧ PcsL w v l
theorem flatP_next {LL : List (List Pc)} {k : Nat} {l : List Pc} (h : LL[k]? = some l) : (LL.take (k + 1)).flatten = (LL.take k).flatten ++ l := by rw [List.take_add_one, h, Option.toList_some, List.flatten_append]; simp
theorem flatP_le (LL : List (List Pc)) (k : Nat) : (LL.take k).flatten.length ≤ LL.flatten.length := by
  have e : LL.flatten = (LL.take k).flatten ++ (LL.drop k).flatten := by rw [← List.flatten_append, List.take_append_drop]
  rw [e, List.length_append]; omega
theorem rowsP_three {w : World} {x1 x2 x3 : Value} {R1 R2 R3 : List Pc} (h1 : PcsL w x1 R1) (h2 : PcsL w x2 R2) (h3 : PcsL w x3 R3) (T : TypeId) : RowsP (w.alloc (.cells #[x1, x2, x3] T)) (some ⟨w.heap.size, 0, none⟩) [R1, R2, R3] := fun k l hl => by
  have hb : Below w.heap.size w (w.alloc (.cells #[x1, x2, x3] T)) := (bl w).alloc (Nat.le_refl _) _
  match k, hl with
  | 0, hl => obtain rfl : R1 = l := by simpa using hl
             exact ⟨_, _, x1, rfl, by simp [go_sem], h1.below hb⟩
  | 1, hl => obtain rfl : R2 = l := by simpa using hl
             exact ⟨_, _, x2, rfl, by simp [go_sem], h2.below hb⟩
  | 2, hl => obtain rfl : R3 = l := by simpa using hl
             exact ⟨_, _, x3, rfl, by simp [go_sem], h3.below hb⟩
  | k + 3, hl => simp at hl

set_option maxHeartbeats 4000000 in
set_option maxRecDepth 10000 in
theorem pconcat_any (w : World) (A : Option Addr) (c : Nat) (LL : List (List Pc)) (h : RowsP w A LL) (hT : LL.flatten.length ≤ 100000) (hn : LL.length ≤ 100) : Calls Tryz.prog 54 #[.slice A LL.length c] w fun e w' => ∃ v, e = .returned v ∧ PcsL w' v LL.flatten ∧ Below w.heap.size w w' := by
  have H := Lib.hid h
  obtain ⟨all, hall⟩ : ∃ all, LL.flatten.length = all := ⟨_, rfl⟩
  rw [hall] at hT
  have HALL := Lib.hid hall
  obtain ⟨n, hnm⟩ : ∃ n, LL.length = n := ⟨_, rfl⟩
  rw [hnm] at hn ⊢
  have HN := Lib.hid hnm
  have HSUM := Lib.hid (show ∀ k, (LL.take k).flatten.length ≤ all from fun k => by rw [← hall]; exact flatP_le LL k)
  have hz1 : ∀ x : Nat, x ≤ 100000 → IntKind.i64.wrap (x : Int) = (x : Int) := fun x hx => IntWalk.i64_in _ (by omega)
  have HZ := Lib.hid hz1
  have CG := Lib.hid (pgrow_any w all hT)
  clear h hall hnm hz1
  go_enter Tryz.func54, Tryz.ntmps54
  go_wp2_with fail
  go_loop [3, 11] (fun s i => ∃ k m : Nat, k ≤ n ∧ i = .int .i64 k ∧ s = .int .i64 m ∧ m = (LL.take k).flatten.length ∧ m ≤ all) (fun _ i => n - (intOf i).toNat)
  case atStart => exact ⟨0, 0, Nat.zero_le _, rfl, rfl, rfl, Nat.zero_le _⟩
  case round =>
    obtain ⟨k, m, hk, rfl, rfl, hm, hmall⟩ := hrel
    have HM := Lib.hid hm
    clear hm
    by_cases hlt : k < n
    · have hlt' : (k : Int) < (n : Int) := by omega
      obtain ⟨l, hx⟩ : ∃ l, LL[k]? = some l := ⟨_, List.getElem?_eq_getElem (by have := HN.out; omega)⟩
      obtain ⟨g, off, v, rfl, cv, hv⟩ := H.out k l hx
      obtain ⟨B, d, rfl, _⟩ := hv.1
      obtain ⟨q, hq⟩ : ∃ q, l.length = q := ⟨_, rfl⟩
      rw [hq] at cv
      have hs : m + q ≤ all := by
        have h1 := HSUM.out (k + 1)
        rw [flatP_next hx, List.length_append, ← HM.out, hq] at h1
        exact h1
      have hw : IntKind.i64.wrap ((m : Int) + (q : Int)) = ((m + q : Nat) : Int) := by rw [IntWalk.i64_in _ (by omega)]; omega
      have hneg : ¬ (((m + q : Nat) : Int) < 0) := by omega
      have NX := Lib.hid (show m + q = (LL.take (k + 1)).flatten.length by rw [flatP_next hx, List.length_append, ← HM.out, hq])
      clear hx hq hv
      go_wp2_with fail
      go_round
      case rel => exact ⟨k + 1, m + q, by omega, by go_num, by first | rfl | go_num, NX.out, hs⟩
      case measure => simp [intOf]; omega
    · obtain rfl : k = n := by omega
      have hlt' : ¬ (k : Int) < (k : Int) := by omega
      obtain rfl : m = all := by
        have h1 := HM.out
        rw [List.take_of_length_le (by have := HN.out; omega), HALL.out] at h1
        exact h1
      clear hmall
      go_wp2_with (go_at_call 72; (with_reducible refine CG.out.mono ?_); rintro e w2 ⟨x2, rfl, hO2⟩; have HO2 := Lib.hid hO2; clear hO2)
      go_loopw [6, 27] (fun o i wr => ∃ (t : Nat) (vs : List Pc), t ≤ k ∧ i = .int .i64 (t : Nat) ∧ vs = (LL.take t).flatten ∧ OE EP w vs o wr) (fun _ i _ => k - (intOf i).toNat)
      case atStart => exact ⟨0, [], Nat.zero_le _, rfl, rfl, HO2.out⟩
      case round =>
        obtain ⟨t, vs, ht, rfl, hvs, hO⟩ := hrel
        have HO := Lib.hid hO
        by_cases hlt : t < k
        · have hlt' : (t : Int) < (k : Int) := by omega
          obtain ⟨l, hx⟩ : ∃ l, LL[t]? = some l := ⟨_, List.getElem?_eq_getElem (by have := HN.out; omega)⟩
          obtain ⟨g, off, v, rfl, cv, hv⟩ := H.out t l hx
          have cv1 := keepc HO.out.bel cv
          obtain ⟨B, d, rfl, hr, hld, hnd⟩ := hv.1
          have NX := Lib.hid (show vs ++ l = (LL.take (t + 1)).flatten by rw [flatP_next hx, hvs])
          have HLEN := Lib.hid (show vs.length + l.length ≤ 100000 by rw [← List.length_append, NX.out]; exact Nat.le_trans (HSUM.out _) hT)
          have HR := Lib.hid (hr.below HO.out.bel)
          have HND := Lib.hid hnd
          obtain ⟨q, hq⟩ : ∃ q, l.length = q := ⟨_, rfl⟩
          rw [hq] at cv1 hld
          have HQ := Lib.hid hq
          clear hvs hO hx cv hv hr hnd hq
          go_wp2_with (first
            | (at_builtin; refine wpList_appE (E := EP) (xs := l) rfl (.tmp 31) (.tmp 32) rfl rfl (base := w.heap.size) rfl HO.out.own rfl HQ.out.symm HR.out HND.out (by have := HLEN.out; omega) HO.out.bel.size ?_; intro v' w3 hown3 hg3; have HN3 := Lib.hid (HO.out.grown hg3 hown3); clear hown3 hg3)
            | go_in)
          exact ⟨⟨t + 1, vs ++ l, by omega, by go_num, NX.out, HN3.out⟩, by simp [intOf] <;> omega⟩
        · obtain rfl : t = k := by omega
          have hlt' : ¬ (t : Int) < (t : Int) := by omega
          have NX := Lib.hid (show vs = LL.flatten by rw [hvs, List.take_of_length_le (by have := HN.out; omega)])
          clear hvs hO
          go_wp2_with fail
          go_ret
          refine ⟨_, rfl, ⟨by rw [← NX.out]; exact HO.out.list, fun p hp => ?_⟩, HO.out.bel⟩
          obtain ⟨l, hl, hpl⟩ := List.mem_flatten.1 hp
          obtain ⟨j, hj⟩ := List.mem_iff_getElem?.1 hl
          obtain ⟨_, _, _, _, _, hv⟩ := H.out j l hj
          exact (hv.2 p hpl).below HO.out.bel

theorem palways_any (w : World) : Calls Tryz.prog 53 #[] w fun e w' => e = .returned (.agg #[.int .i64 (-1099511627776), .int .i64 1099511627776]) ∧ Below w.heap.size w w' := by
  go_enter Tryz.func53, Tryz.ntmps53
  go_wp2_with fail
  exact bodyPost_ret (v := .agg #[.int .i64 (-1099511627776), .int .i64 1099511627776]) (by simp [results, Tryz.results53, go_sem]) rfl ⟨rfl, (bl w).alloc (Nat.le_refl _) _⟩

/-! Plain facts. -/
theorem HasTL.belowP {w w' : World} {u : Value} {g : Int → Option (List Fd)} (h : HasTL w u g) (hb : Below w.heap.size w w') : HasTL w' u g := by
  obtain ⟨R, h⟩ := h
  exact ⟨R, h.below hb⟩
theorem fs_has {R : List Pc} {p : Pc} {x : Int} (hp : p ∈ R) (h : hasP p x = true) : fsP R x ≠ none := fun e => by
  induction R with
  | nil => simp at hp
  | cons q R ih =>
    rw [fsP, valP] at e
    split at e
    · cases e
    · rename_i hq
      rcases List.mem_cons.1 hp with rfl | hp
      · exact hq h
      · exact ih hp e
theorem fs_lim {l : List Pc} (_h : TL l) {x : Int} (hx : x < -1099511627776 ∨ 1099511627776 ≤ x) : fsP l x = none := fsP_none fun p hp hh => by
  rw [hasP_iff] at hh
  omega
theorem clipG_eq {b : Int × Int} {l : List Pc} (hr : rightT l = true) (x : Int) : clipG b l x = if (rightP b.1 b.2 && inP b.1 b.2 x) = true then fsP l x else none := by rw [clipG, if_pos hr, clip_fs]
theorem clip_all {l : List Pc} (hr : rightT l = true) (x : Int) : clipG (-1099511627776, 1099511627776) l x = fsP l x := by
  rw [clipG_eq hr]
  split
  · rfl
  · rename_i h
    refine (fs_lim ((rightT_iff l).1 hr) ?_).symm
    simp only [rightP, inP, Bool.and_eq_true, decide_eq_true_eq] at h
    omega
/-- What is clipped lies within the span. -/
theorem timel_within {w : World} {u : Value} {b : Int × Int} {l R : List Pc} (hr : rightT l = true) (h : TimeL w u (clipG b l) R) : (∀ p ∈ R, b.1 ≤ p.f ∧ p.t ≤ b.2) ∧ R.length ≤ l.length := by
  refine ⟨fun p hp => ?_, ?_⟩
  · have hpr := h.tl.rights p hp
    have hr3 := right_lt hpr
    have h1 := fs_has hp (has_at hpr (x := p.f) (Int.le_refl _) hr3.2.1)
    have h2 := fs_has hp (has_at hpr (x := p.t - 1) (by omega) (by omega))
    rw [h.fs, clipG_eq hr] at h1 h2
    constructor
    · by_cases c : (rightP b.1 b.2 && inP b.1 b.2 p.f) = true
      · rw [Bool.and_eq_true, inP_iff] at c; exact c.2.1
      · rw [if_neg c] at h1; exact absurd rfl h1
    · by_cases c : (rightP b.1 b.2 && inP b.1 b.2 (p.t - 1)) = true
      · rw [Bool.and_eq_true, inP_iff] at c; omega
      · rw [if_neg c] at h2; exact absurd rfl h2
  · have e := tl_ext h.tl (clip_tl (a := b) ((rightT_iff l).1 hr)) (fun x => by rw [h.fs, clipG, if_pos hr])
    have e2 := congrArg List.length e
    rw [List.length_map, List.length_map] at e2
    rw [e2]
    exact clip_length b l
/-- The three parts, one behind the other. -/
theorem splice_parts {w : World} {u1 u2 u3 : Value} {a : Int × Int} {l m R1 R2 R3 : List Pc} (hl : rightT l = true) (hm : rightT m = true) (ha : rightP a.1 a.2 = true) (h1 : TimeL w u1 (clipG (-1099511627776, a.1) l) R1) (h2 : TimeL w u2 (clipG a m) R2) (h3 : TimeL w u3 (clipG (a.2, 1099511627776) l) R3) :
    RiseP (R1 ++ R2 ++ R3) ∧ (∀ x, fsP (R1 ++ R2 ++ R3) x = spliceV a l m x) ∧ (R1 ++ R2 ++ R3).length ≤ 2 * l.length + m.length := by
  obtain ⟨w1, n1⟩ := timel_within hl h1
  obtain ⟨w2, n2⟩ := timel_within hm h2
  obtain ⟨w3, n3⟩ := timel_within hl h3
  have hra := (rightP_iff _ _).1 ha
  have r1 := tl_rise h1.tl
  have r2 := tl_rise h2.tl
  have r3 := tl_rise h3.tl
  refine ⟨⟨fun p hp => ?_, ?_⟩, fun x => ?_, by simp only [List.length_append]; omega⟩
  · rcases List.mem_append.1 hp with hp | hp
    · rcases List.mem_append.1 hp with hp | hp
      · exact r1.1 p hp
      · exact r2.1 p hp
    · exact r3.1 p hp
  · refine List.pairwise_append.2 ⟨List.pairwise_append.2 ⟨r1.2, r2.2, fun p hp q hq => ?_⟩, r3.2, fun p hp q hq => ?_⟩
    · have k1 : p.t ≤ a.1 := (w1 p hp).2
      have := (w2 q hq).1
      omega
    · have k3 : a.2 ≤ q.f := (w3 q hq).1
      rcases List.mem_append.1 hp with hp | hp
      · have k1 : p.t ≤ a.1 := (w1 p hp).2
        omega
      · have := (w2 p hp).2
        omega
  · rw [fsP_append, fsP_append, h1.fs, h2.fs, h3.fs, clipG_eq hl, clipG_eq hm, clipG_eq hl, spliceV]
    simp only [ha, Bool.true_and]
    have hTl := (rightT_iff l).1 hl
    by_cases c1 : x < a.1
    · have e2 : inP a.1 a.2 x = false := by
        cases hh : inP a.1 a.2 x with
        | false => rfl
        | true => rw [inP_iff] at hh; omega
      have e3 : (rightP a.2 1099511627776 && inP a.2 1099511627776 x) = false := by
        cases hh : (rightP a.2 1099511627776 && inP a.2 1099511627776 x) with
        | false => rfl
        | true => rw [Bool.and_eq_true, inP_iff] at hh; omega
      rw [e2, e3]
      by_cases c0 : -1099511627776 ≤ x
      · rw [if_pos (by rw [Bool.and_eq_true, rightP_iff, inP_iff]; omega)]
        cases fsP l x <;> rfl
      · rw [fs_lim hTl (.inl (by omega))]
        simp
    · have e1 : (rightP (-1099511627776) a.1 && inP (-1099511627776) a.1 x) = false := by
        cases hh : (rightP (-1099511627776) a.1 && inP (-1099511627776) a.1 x) with
        | false => rfl
        | true => rw [Bool.and_eq_true, inP_iff] at hh; omega
      rw [e1]
      by_cases c2 : x < a.2
      · have e2 : inP a.1 a.2 x = true := (inP_iff _ _ _).2 (by omega)
        have e3 : (rightP a.2 1099511627776 && inP a.2 1099511627776 x) = false := by
          cases hh : (rightP a.2 1099511627776 && inP a.2 1099511627776 x) with
          | false => rfl
          | true => rw [Bool.and_eq_true, inP_iff] at hh; omega
        rw [e2, e3]
        simp only [if_true]
        cases fsP m x <;> simp
      · have e2 : inP a.1 a.2 x = false := by
          cases hh : inP a.1 a.2 x with
          | false => rfl
          | true => rw [inP_iff] at hh; omega
        rw [e2]
        by_cases c3 : x < 1099511627776
        · rw [if_pos (c := (rightP a.2 1099511627776 && inP a.2 1099511627776 x) = true) (by rw [Bool.and_eq_true, rightP_iff, inP_iff]; omega)]
          simp
        · rw [fs_lim hTl (.inr (by omega))]
          simp

end Go.Proofs.YtaoobliajgcdmaaGreat

/-
  The program's Splice.
-/
namespace Go.Proofs.YtaoobliajgcdmaaGreat
open Go.RowKit

theorem two_boxes (W : World) (f1 t1 f2 t2 : Int) : BoxS ((W.alloc (ocS f1 t1)).alloc (ocS f2 t2)).drew W.heap.size f1 t1 ∧ BoxS ((W.alloc (ocS f1 t1)).alloc (ocS f2 t2)).drew (W.heap.size + 1) f2 t2 ∧ Below W.heap.size W ((W.alloc (ocS f1 t1)).alloc (ocS f2 t2)).drew := by
  have h1 : Below W.heap.size W (W.alloc (ocS f1 t1)) := (bl W).alloc (Nat.le_refl _) _
  have h2 := h1.alloc h1.size (ocS f2 t2)
  have b1 := (boxS_new W f1 t1).below ((bl (W.alloc (ocS f1 t1))).alloc (Nat.le_refl _) (ocS f2 t2))
  have b2 := boxS_new (W.alloc (ocS f1 t1)) f2 t2
  rw [show (W.alloc (ocS f1 t1)).heap.size = W.heap.size + 1 by simp] at b2
  exact ⟨b1, b2, belowN h2 1⟩
theorem PutB.raise {base base' Q B : Nat} {w : World} (h : PutB base Q B [] (.slice none 0 0) w) (hb : base ≤ base') : PutB base' Q B [] (.slice none 0 0) w := ⟨by have := h.qb; omega, by have := h.bb; omega, h.ptr, h.box, ownE_nil _ _, h.kf⟩
theorem pconcat_three (w : World) (x1 x2 x3 : Value) (R1 R2 R3 : List Pc) (h1 : PcsL w x1 R1) (h2 : PcsL w x2 R2) (h3 : PcsL w x3 R3) (n1 : R1.length ≤ 1000) (n2 : R2.length ≤ 1000) (n3 : R3.length ≤ 1000) : Calls Tryz.prog 54 #[.slice (some ⟨w.heap.size, 0, none⟩) 3 3] (w.alloc (.cells #[x1, x2, x3] TPs)) fun e w' => ∃ M A c n, M = R1 ++ R2 ++ R3 ∧ n = M.length ∧ e = .returned (.slice A n c) ∧ RowE EP w' A M ∧ n ≤ c ∧ (∀ p ∈ M, PF w' p) ∧ Below w.heap.size w w' := by
  refine (pconcat_any (w.alloc (.cells #[x1, x2, x3] TPs)) (some ⟨w.heap.size, 0, none⟩) 3 [R1, R2, R3] (rowsP_three h1 h2 h3 TPs) (by simp; omega) (by simp)).mono ?_
  rintro e w' ⟨v, rfl, ⟨⟨A, c, rfl, hr, hc, _⟩, hpf⟩, hb⟩
  have e1 : [R1, R2, R3].flatten = R1 ++ R2 ++ R3 := by simp
  rw [e1] at hr hc hpf ⊢
  exact ⟨_, A, c, _, rfl, rfl, rfl, hr, hc, hpf, chain ((bl w).alloc (Nat.le_refl _) _) hb⟩

set_option maxHeartbeats 4000000 in
set_option maxRecDepth 100000 in
theorem ptsplice_any (w : World) (a : Int × Int) (u u' : Value) (l m : List Pc) (hl : PcsL w u l) (hm : PcsL w u' m) (hnl : l.length ≤ 200) (hnm : m.length ≤ 200) (hfl : ∀ p ∈ l, p.fs.length ≤ 1000000) (hfm : ∀ p ∈ m, p.fs.length ≤ 1000000) : Calls Tryz.prog 26 #[u, .agg #[.int .i64 a.1, .int .i64 a.2], u'] w fun e w' => ∃ x, e = .returned x ∧ HasTL w' x (spliceG a l m) ∧ Below w.heap.size w w' := by
  have CL := Lib.hid (fun w' (h : Below w.heap.size w w') => ptright_any w' u l (hl.below h) (by omega) hfl)
  have CM := Lib.hid (fun w' (h : Below w.heap.size w w') => ptright_any w' u' m (hm.below h) (by omega) hfm)
  have CCL := Lib.hid (fun w' (h : Below w.heap.size w w') (b : Int × Int) => ptclip_any w' b u l (hl.below h) (by omega) hfl)
  have CCM := Lib.hid (fun w' (h : Below w.heap.size w w') (b : Int × Int) => ptclip_any w' b u' m (hm.below h) (by omega) hfm)
  have HFL := Lib.hid hfl
  have HFM := Lib.hid hfm
  have HNL := Lib.hid hnl
  have HNM := Lib.hid hnm
  obtain ⟨⟨A, c, rfl, _⟩, _⟩ := hl
  obtain ⟨⟨B, d, rfl, _⟩, _⟩ := hm
  obtain ⟨af, at', rfl⟩ : ∃ af at', a = (af, at') := ⟨a.1, a.2, rfl⟩
  have HB1 := Lib.hid (show Below w.heap.size w (w.alloc (ocS af at')) from (bl w).alloc (Nat.le_refl _) _)
  have HS1 := Lib.hid (boxS_new w af at')
  have CR := Lib.hid (fun w => pspan_right af at' w)
  rw [rightS_P] at CR
  clear hfl hfm hnl hnm
  cases hrl : rightT l with
  | false =>
    rw [hrl] at CL
    have HG := Lib.hid (show ∀ x, spliceG (af, at') l m x = none from fun x => by unfold spliceG; rw [hrl]; rfl)
    clear hrl
    go_enter Tryz.func26, Tryz.ntmps26
    go_wp2_with (go_at_call 14; (with_reducible refine (CL.out _ HB1.out).mono ?_); rintro e w2 ⟨rfl, hb2⟩)
    go_ret
    exact ⟨_, rfl, ⟨[], TimeL.nil _ _ HG.out⟩, chain HB1.out hb2⟩
  | true =>
    rw [hrl] at CL
    cases hrm : rightT m with
    | false =>
      rw [hrm] at CM
      have HG := Lib.hid (show ∀ x, spliceG (af, at') l m x = none from fun x => by unfold spliceG; rw [hrl, hrm]; rfl)
      clear hrl hrm
      go_enter Tryz.func26, Tryz.ntmps26
      go_wp2_with (first
        | (go_at_call 14; (with_reducible refine (CL.out _ HB1.out).mono ?_); rintro e w2 ⟨rfl, hb2⟩; have HB2 := Lib.hid (chain HB1.out hb2); clear hb2)
        | (go_at_call 14; (with_reducible refine (CM.out _ HB2.out).mono ?_); rintro e w3 ⟨rfl, hb3⟩; have HB3 := Lib.hid (chain HB2.out hb3); clear hb3))
      go_ret
      exact ⟨_, rfl, ⟨[], TimeL.nil _ _ HG.out⟩, HB3.out⟩
    | true =>
      rw [hrm] at CM
      have HRL := Lib.hid hrl
      have HRM := Lib.hid hrm
      cases ha : rightP af at' with
      | false =>
        rw [ha] at CR
        have HG := Lib.hid (show ∀ x, clipG (-1099511627776, 1099511627776) l x = spliceG (af, at') l m x from fun x => by
          unfold spliceG
          rw [hrl, hrm, clip_all hrl]
          simp only [Bool.and_self, if_true]
          rw [if_neg (by rw [show rightP (af, at').1 (af, at').2 = false from ha]; simp)])
        clear hrl hrm ha
        go_enter Tryz.func26, Tryz.ntmps26
        go_wp2_with (first
          | (go_at_call 14; (with_reducible refine (CL.out _ HB1.out).mono ?_); rintro e w2 ⟨rfl, hb2⟩; have HB2 := Lib.hid (chain HB1.out hb2); obtain ⟨s0, s1⟩ := HS1.out.below hb2; have HS2 := Lib.hid (HS1.out.below hb2); clear hb2)
          | (go_at_call 14; (with_reducible refine (CM.out _ HB2.out).mono ?_); rintro e w3 ⟨rfl, hb3⟩; have HB3 := Lib.hid (chain HB2.out hb3); obtain ⟨r0, r1⟩ := HS2.out.below hb3; clear hb3)
          | (go_at_call 43; (with_reducible refine (CR.out _).mono ?_); rintro e w4 ⟨rfl, hb4⟩; have HB4 := Lib.hid (chain HB3.out hb4); clear hb4)
          | (go_at_call 53; (with_reducible refine (palways_any _).mono ?_); rintro e w5 ⟨rfl, hb5⟩; have HB5 := Lib.hid (chain HB4.out hb5); clear hb5)
          | (go_at_call 24; (with_reducible refine (CCL.out _ HB5.out (-1099511627776, 1099511627776)).mono ?_); rintro e w6 ⟨x6, rfl, ht6, hb6⟩; have HT6 := Lib.hid ht6; have HB6 := Lib.hid (chain HB5.out hb6); clear hb6 ht6))
        go_ret
        refine ⟨_, rfl, ?_, HB6.out⟩
        obtain ⟨R, hR⟩ := HT6.out
        exact ⟨R, hR.mono HG.out⟩
      | true =>
        rw [ha] at CR
        have HA := Lib.hid ha
        have HG := Lib.hid (show ∀ x, spliceV (af, at') l m x = spliceG (af, at') l m x from fun x => by
          unfold spliceG
          rw [hrl, hrm]
          simp only [Bool.and_self, if_true]
          rw [if_pos (show rightP (af, at').1 (af, at').2 = true from ha)])
        clear hrl hrm ha
        go_enter Tryz.func26, Tryz.ntmps26
        go_wp2_with (first
          | (go_at_call 14; (with_reducible refine (CL.out _ HB1.out).mono ?_); rintro e w2 ⟨rfl, hb2⟩; have HB2 := Lib.hid (chain HB1.out hb2); obtain ⟨s0, s1⟩ := HS1.out.below hb2; have HS2 := Lib.hid (HS1.out.below hb2); clear hb2)
          | (go_at_call 14; (with_reducible refine (CM.out _ HB2.out).mono ?_); rintro e w3 ⟨rfl, hb3⟩; have HB3 := Lib.hid (chain HB2.out hb3); obtain ⟨r0, r1⟩ := HS2.out.below hb3; have HS3 := Lib.hid (HS2.out.below hb3); clear hb3)
          | (go_at_call 43; (with_reducible refine (CR.out _).mono ?_); rintro e w4 ⟨rfl, hb4⟩; have HB4 := Lib.hid (chain HB3.out hb4); have HS4 := Lib.hid (HS3.out.below hb4); clear hb4 s0 s1 r0 r1)
          | (go_at_call 33; (with_reducible refine (putter_any _ _).mono ?_); rintro e w5 ⟨rfl, hw5⟩; have HW5 := Lib.hid hw5; clear hw5))
        refine abstract_worldW (fun W => Below w.heap.size w W ∧ BoxS W w.heap.size af at' ∧ PutB W.heap.size (w4.heap.size + 1) w4.heap.size [] (.slice none 0 0) W ∧ w.heap.size < w4.heap.size) ⟨?_, ?_, ?_, ?_⟩ ?_
        · rw [HW5.out]
          exact (HB4.out.alloc HB4.out.size _).alloc (by have := HB4.out.size; simp; omega) _
        · rw [HW5.out]
          exact HS4.out.below (((bl w4).alloc (Nat.le_refl _) _).alloc (by simp) _)
        · rw [HW5.out]
          have h := PutB.start w4
          rw [show w4.heap.size + 2 = ((w4.alloc (.cells #[.slice none 0 0] TPs)).alloc (.cells #[.pointer (some ⟨w4.heap.size, 0, none⟩)] TPp)).heap.size by simp] at h
          exact h
        · have h1 := lt_of_cell HS4.out.1
          exact h1
        rintro W3 ⟨hbw, hsb, hpb, hwB⟩
        have HS5 := Lib.hid hsb
        have HB5 := Lib.hid hbw
        have HP5 := Lib.hid hpb
        have HWB := Lib.hid hwB
        obtain ⟨y0, y1⟩ := hsb
        clear hbw hpb hwB CR HW5 HB2 HB3 HB4 HS2 HS3 HS4
        generalize w4.heap.size = B' at *
        have q0 : ∀ o : Obj, (W3.alloc o).cell? ⟨w.heap.size, 0, none⟩ = some (.int .i64 af) := fun o => (HS5.out.below ((bl W3).alloc (Nat.le_refl _) o)).1
        have q1 : ∀ o : Obj, (W3.alloc o).cell? ⟨w.heap.size, 1, none⟩ = some (.int .i64 at') := fun o => (HS5.out.below ((bl W3).alloc (Nat.le_refl _) o)).2
        have q2 : ∀ o o' : Obj, ((W3.alloc o).alloc o').cell? ⟨w.heap.size, 0, none⟩ = some (.int .i64 af) := fun o o' => (HS5.out.below (((bl W3).alloc (Nat.le_refl _) o).alloc (by simp) o')).1
        have q3 : ∀ o o' : Obj, ((W3.alloc o).alloc o').cell? ⟨w.heap.size, 1, none⟩ = some (.int .i64 at') := fun o o' => (HS5.out.below (((bl W3).alloc (Nat.le_refl _) o).alloc (by simp) o')).2
        go_region
        all_goals
          first
            | (refine abstract_then (fun W => BoxS W W3.heap.size (-1099511627776) af ∧ BoxS W (W3.heap.size + 1) at' 1099511627776 ∧ Below W3.heap.size W3 W) (two_boxes W3 (-1099511627776) af at' 1099511627776) ?_
               rintro W4 ⟨ha4, hb4, hw4⟩
               have HW4 := Lib.hid hw4
               have HPB := Lib.hid ((HP5.out.below hw4).raise hw4.size)
               have HB6 := Lib.hid (chain HB5.out hw4)
               have HSS := Lib.hid (HS5.out.below hw4)
               clear hw4 q0 q1 q2 q3 y0 y1 HP5 HS5
               have HLT := Lib.hid (show w.heap.size < W4.heap.size by have h1 := lt_of_cell HSS.out.1; exact h1)
               clear HW4
               generalize W3.heap.size + 1 = pb at *
               generalize W3.heap.size = pa at *)
            | (refine abstract_then (fun W => BoxS W W3.heap.size at' 1099511627776 ∧ BoxS W (W3.heap.size + 1) (-1099511627776) af ∧ Below W3.heap.size W3 W) (two_boxes W3 at' 1099511627776 (-1099511627776) af) ?_
               rintro W4 ⟨hb4, ha4, hw4⟩
               have HW4 := Lib.hid hw4
               have HPB := Lib.hid ((HP5.out.below hw4).raise hw4.size)
               have HB6 := Lib.hid (chain HB5.out hw4)
               have HSS := Lib.hid (HS5.out.below hw4)
               clear hw4 q0 q1 q2 q3 y0 y1 HP5 HS5
               have HLT := Lib.hid (show w.heap.size < W4.heap.size by have h1 := lt_of_cell HSS.out.1; exact h1)
               clear HW4
               generalize W3.heap.size + 1 = pa at *
               generalize W3.heap.size = pb at *)
        all_goals
          have MK := Lib.hid (show ∀ w', Below W4.heap.size W4 w' → (Below W4.heap.size W4 w' ∧ BoxS w' w.heap.size af at' ∧ BoxS w' pa (-1099511627776) af ∧ BoxS w' pb at' 1099511627776) from fun w' h => ⟨h, HSS.out.below h, ha4.below h, hb4.below h⟩)
          clear ha4 hb4
          have tok1 : True := trivial
          have tok2 : True := trivial
          have tok3 : True := trivial
          go_wp2_with fail
          first
            | (go_region_held3 (fun w' => Below W4.heap.size W4 w' ∧ BoxS w' w.heap.size af at' ∧ BoxS w' pa (-1099511627776) af ∧ BoxS w' pb at' 1099511627776)
                (first | exact MK.out _ ((bl W4).drew) | exact MK.out _ hb5 | exact MK.out _ hb7 | exact MK.out _ hb8 | exact MK.out _ (hb8.alloc hb8.size _) | exact MK.out _ hb9 | fail)
                (first
                  | (go_at_call 24; (have _t := tok1); (with_reducible refine (CCL.out _ (chain HB6.out ((bl W4).drew)) (-1099511627776, af)).mono ?_); (rintro e w5 ⟨x5, rfl, ⟨R5, hT5⟩, hb0⟩); (obtain ⟨A5, c5, hx5, _⟩ := hT5.pcs.1); (subst hx5); (have hb5 := chain ((bl W4).drew) hb0); clear hb0 tok1)
                  | (go_at_call 24; (have _t := tok2); (with_reducible refine (CCM.out _ (chain HB6.out hb5) (af, at')).mono ?_); (rintro e w7 ⟨x7, rfl, ⟨R7, hT7⟩, hb0⟩); (obtain ⟨A7, c7, hx7, _⟩ := hT7.pcs.1); (subst hx7); (have hT5b := hT5.below hb0); (have hb7 := chain hb5 hb0); clear hb0 tok2)
                  | (go_at_call 24; (have _t := tok3); (with_reducible refine (CCL.out _ (chain HB6.out hb7) (at', 1099511627776)).mono ?_); (rintro e w8 ⟨x8, rfl, ⟨R8, hT8⟩, hb0⟩); (obtain ⟨A8, c8, hx8, _⟩ := hT8.pcs.1); (subst hx8); (have hT5c := hT5b.below hb0); (have hT7b := hT7.below hb0); (have hb8 := chain hb7 hb0); clear hb0 tok3)
                  | (go_at_call 54; (with_reducible refine (pconcat_three w8 _ _ _ R5 R7 R8 hT5c.pcs hT7b.pcs hT8.pcs hT5c.len hT7b.len hT8.len).mono ?_); (rintro e w9 ⟨M, A9, c9, n9, hM9, hn9, rfl, hr9, hc9, hpf9, hb0⟩); (have HM9 := Lib.hid hM9); (have HN9 := Lib.hid hn9); (clear hM9 hn9); (have hb9 := chain hb8 hb0); clear hb0)
                  | fail))
            | fail
          have hM9 := HM9.out
          have hn9 := HN9.out
          obtain ⟨hri, hfs, hml⟩ := splice_parts HRL.out HRM.out HA.out hT5c hT7b hT8
          rw [← hM9] at hri hfs hml
          have HRI := Lib.hid hri
          have HFS := Lib.hid hfs
          have HML := Lib.hid (show n9 ≤ 1000 by have h1 := HNL.out; have h2 := HNM.out; omega)
          have HFEW := Lib.hid (show ∀ p ∈ M, p.fs.length ≤ 1000000 from fun p hp => by
            rw [hM9] at hp
            rcases List.mem_append.1 hp with hp | hp
            · rcases List.mem_append.1 hp with hp | hp
              · exact hT5c.few (clipG_few HFL.out) p hp
              · exact hT7b.few (clipG_few HFM.out) p hp
            · exact hT8.few (clipG_few HFL.out) p hp)
          have HR9 := Lib.hid hr9
          have HPF9 := Lib.hid hpf9
          have HB9 := Lib.hid (chain HB6.out hb9)
          have HP9 := Lib.hid ((HPB.out.below hb9).raise hb9.size)
          have HPQ := Lib.hid (show w.heap.size < B' from HWB.out)
          clear hri hfs hml hn9 hr9 hpf9 hb9 hb8 hb7 hb5 hT5 hT5b hT5c hT7 hT7b hT8 hM9
          have hml9 : n9 ≤ 1000 := HML.out
          go_wp2_with fail
          go_loopw [46] (fun i wr => ∃ (t : Nat) (L : List Pc) (v : Value), t ≤ n9 ∧ i = .int .i64 (t : Nat) ∧ PutAll (M.take t) L ∧ PutB w9.heap.size (B' + 1) B' L v wr ∧ Kb (some B') w9 wr ∧ Below w.heap.size w wr) (fun i _ => n9 - (intOf i).toNat)
          case atStart => exact ⟨0, [], _, Nat.zero_le _, rfl, PutAll.nil, HP9.out, Kb.refl _ _, HB9.out⟩
          case round =>
            obtain ⟨t, L, v, ht, rfl, hPA, hPB, hKB, hBW⟩ := hrel
            have HPA := Lib.hid hPA
            have HPB := Lib.hid hPB
            have HKB := Lib.hid hKB
            have HBW := Lib.hid hBW
            clear hPA hPB hKB hBW
            by_cases hlt : t < n9
            · have hlt' : (t : Int) < (n9 : Int) := by omega
              obtain ⟨p, hx⟩ : ∃ p, M[t]? = some p := ⟨_, List.getElem?_eq_getElem (by have := HN9.out; omega)⟩
              obtain ⟨g, off, rfl, hX0⟩ := HR9.out.cells3 hx
              have hgB : (some B' : Option Nat) ≠ some g := fun e => by
                injection e with e
                have h1 := HP9.out.box.cell
                have h2 := hX0.1
                have h3 := HP9.out.box
                unfold Boxed at h3
                rw [e] at h3
                have h4 : w9.cell? ⟨g, off + t * 3, none⟩ = some (.int .i64 p.f) := h2
                simp only [World.cell?, h3] at h4
                have h5 := (Array.getElem?_eq_some_iff.1 h4)
                obtain ⟨h6, h7⟩ := h5
                simp at h6
                simp [h6] at h7
              have hX := hX0.kb HKB.out hgB
              have hpf : PF wr p := by
                refine KP.but (o := some B') ⟨HPF9.out p (List.mem_of_getElem? hx), fun hne a ha e => ?_⟩ HKB.out
                injection e with e
                have h3 := HP9.out.box
                unfold Boxed at h3
                rw [e] at h3
                cases hfs : p.fs with
                | nil => exact hne hfs
                | cons f r =>
                  obtain ⟨g', off', he, k0, _⟩ := (HPF9.out p (List.mem_of_getElem? hx)).1 0 f (by rw [hfs]; rfl)
                  rw [ha] at he
                  injection he with he
                  subst he
                  simp only [World.cell?, h3] at k0
                  obtain ⟨h6, h7⟩ := Array.getElem?_eq_some_iff.1 k0
                  simp at h6
                  simp [h6] at h7
              have HX := Lib.hid hX
              have HSZ := Lib.hid (show w9.heap.size ≤ wr.heap.size from HKB.out.1)
              have HB4 := Lib.hid (show Below wr.heap.size wr (wr.alloc (ocP p)) from (bl wr).alloc (Nat.le_refl _) _)
              have hri := HRI.out.at hx
              have HLEN := Lib.hid (show L.length ≤ 1000 by have h1 := HPA.out.len; rw [List.length_take] at h1; omega)
              have HLF := Lib.hid (show ∀ q ∈ L, q.fs.length ≤ 1000000 from fun q hq => by
                obtain ⟨r, hr, e⟩ := HPA.out.few q hq
                rw [e]
                exact HFEW.out r (List.mem_of_mem_take hr))
              have CP := Lib.hid (pput_any (p := p) (HPB.out.below HB4.out) (Nat.le_trans HSZ.out HB4.out.size) (hpf.below HB4.out) (Nat.le_trans HLEN.out (by omega)) HLF.out (HFEW.out p (List.mem_of_getElem? hx)))
              have NX1 := Lib.hid (show M.take t ++ [p] = M.take (t + 1) by rw [List.take_add_one, hx]; rfl)
              have NX2 := Lib.hid hri
              obtain ⟨z0, z1, z2⟩ := hX
              obtain ⟨b0, b1, b2⟩ := boxP_new wr p
              clear hx hri hX0 hgB hpf
              go_wp2_with (go_at_call 57; (with_reducible refine CP.out.mono ?_); rintro e w6 ⟨rfl, v', A6, c6, hpb6, hk6⟩; have HPB6 := Lib.hid hpb6; have HK6 := Lib.hid hk6; clear hpb6 hk6)
              have hv : ∀ c, v.ownBlock = some c → w9.heap.size ≤ c := fun c e => (HPB.out.lt e).1
              refine ⟨⟨t + 1, _, v', by omega, by go_num, ?_, HPB6.out, (HKB.out.trans (Kb.of_below HB4.out)).kb2 HK6.out hv, ?_⟩, by simp [intOf] <;> omega⟩
              · rw [← NX1.out]
                exact HPA.out.step NX2.out.1 NX2.out.2 A6 c6
              · refine (chain HBW.out HB4.out).trans (HK6.out.to_below (chain HBW.out HB4.out).size (fun c e => by injection e with e; have := HWB.out; omega) (fun c e => by have h1 := hv c e; have h2 := HB9.out.size; omega))
            · obtain rfl : t = n9 := by omega
              have hlt' : ¬ (t : Int) < (t : Int) := by omega
              have x0 := HPB.out.box.cell
              have NX := Lib.hid (show M.take t = M by rw [List.take_of_length_le (by have := HN9.out; omega)])
              have HLEN := Lib.hid (show L.length ≤ 1000 by have h1 := HPA.out.len; rw [List.length_take] at h1; have := HML.out; omega)
              go_wp2_with fail
              go_ret
              exact ⟨_, rfl, ⟨L, HPB.out.pcs, HPA.out.tl, fun x => by rw [HPA.out.fs, NX.out, HFS.out]; exact HG.out x, HLEN.out⟩, HBW.out⟩

end Go.Proofs.YtaoobliajgcdmaaGreat

/-
  The document's Make of fields.
-/
namespace Go.Proofs.YtaoobliajgcdmaaGreat
open Go.RowKit

theorem ret_le {u : Value} {a b : Int} (h : a = b) : Ending.returned (.tuple #[u, .int .i64 a]) = .returned (.tuple #[u, .int .i64 b]) := by rw [h]
theorem rows_one {w : World} {A : Option Addr} {c : Nat} {l : List Fd} (T : TypeId) (hF : Fields w A l) (hc : l.length ≤ c) (hn : A = none → c = 0) : RowsF (w.alloc (.cells #[.slice A l.length c] T)) (some ⟨w.heap.size, 0, none⟩) [l] := fun i r hr => by
  rcases i with _ | i
  · obtain rfl : l = r := by simpa using hr
    exact ⟨w.heap.size, 0, .slice A l.length c, rfl, by simp [go_sem], A, c, rfl, hF.below ((bl w).alloc (Nat.le_refl _) _), hc, hn⟩
  · simp at hr
theorem flat_one (l : List Fd) : ([l] : List (List Fd)).flatten = l := by simp

end Go.Proofs.YtaoobliajgcdmaaGreat

/-
  The program's scene.turn: a version begins to count, or ends to.
-/
namespace Go.Proofs.YtaoobliajgcdmaaGreat
open Go.RowKit
open Go.Maps (Keyed)

theorem getL_any (l : List Fd) (s : ByteArray) : (getL l s).isSome = l.any fun f => decide (nats f.n = nats s) := by
  induction l with
  | nil => rfl
  | cons f l ih =>
    rw [getL, List.any_cons]
    by_cases h : nats f.n = nats s
    · rw [if_pos h, decide_eq_true h]; rfl
    · rw [if_neg h, decide_eq_false h, ih, Bool.false_or]
theorem over_any (l : List Fd) (s : ByteArray) : ((overL l).any fun f => decide (nats f.n = nats s)) = hasN l s := by rw [← getL_any, overL_get]
/-- The places by names behind a turn, and within it. -/
def turnG (G : ByteArray → List Nat) (fs : List Fd) (p : Nat) : ByteArray → List Nat := fun s => if hasN fs s = true then togL (G s) p else G s
def doneG (G : ByteArray → List Nat) (N : List Fd) (j p : Nat) : ByteArray → List Nat := fun s => if ((N.take j).any fun f => decide (nats f.n = nats s)) = true then togL (G s) p else G s
theorem doneG_zero (G : ByteArray → List Nat) (N : List Fd) (p : Nat) : doneG G N 0 p = G := by funext s; simp [doneG]
theorem doneG_end (G : ByteArray → List Nat) (fs : List Fd) (p : Nat) : doneG G (overL fs) (overL fs).length p = turnG G fs p := by
  funext s
  unfold doneG turnG
  rw [List.take_length, over_any]
theorem doneG_at {G : ByteArray → List Nat} {N : List Fd} (ha : Apart N) {j p : Nat} {f : Fd} (hf : N[j]? = some f) : doneG G N j p f.n = G f.n := by
  unfold doneG
  rw [if_neg]
  intro h
  obtain ⟨g, hg, h2⟩ := List.any_eq_true.1 h
  rw [decide_eq_true_eq] at h2
  obtain ⟨i, hi⟩ := List.mem_iff_getElem?.1 hg
  have hij : i < j := by have := (List.getElem?_eq_some_iff.1 hi).1; rw [List.length_take] at this; omega
  rw [List.getElem?_take_of_lt hij] at hi
  obtain ⟨k1, rfl⟩ := List.getElem?_eq_some_iff.1 hi
  obtain ⟨k2, rfl⟩ := List.getElem?_eq_some_iff.1 hf
  exact List.pairwise_iff_getElem.1 ha i j k1 k2 hij h2
theorem doneG_next {G : ByteArray → List Nat} {N : List Fd} {j p : Nat} {f : Fd} (hf : N[j]? = some f) : updG (doneG G N j p) f.n (togL (G f.n) p) = doneG G N (j + 1) p := by
  funext s
  unfold updG
  by_cases h : nats s = nats f.n
  · rw [if_pos h, nats_inj h]
    unfold doneG
    rw [if_pos]
    rw [List.take_add_one, hf, List.any_append, Option.toList_some]
    simp
  · rw [if_neg h]
    unfold doneG
    rw [List.take_add_one, hf, List.any_append, Option.toList_some]
    simp only [List.any_cons, List.any_nil, Bool.or_false]
    rw [decide_eq_false (fun e => h e.symm), Bool.or_false]
theorem own_form {w : World} {base : Nat} {v : Value} {l : List Nat} (h : ownN w base v l) : ∃ B c, v = .slice B l.length c := by
  rcases own_open h with ⟨rfl, rfl⟩ | ⟨g, cap, A, rfl, _⟩
  · exact ⟨none, 0, rfl⟩
  · exact ⟨_, _, rfl⟩
theorem togL_len0 {l : List Nat} {p : Nat} (h : togL l p ≠ []) : ((togL l p).length : Int) ≠ 0 := fun e => h (List.eq_nil_of_length_eq_zero (by omega))

/-- What a turn of the scene leaves. -/
def TurnPost (base S M n : Nat) (cs : List Nat) (G : ByteArray → List Nat) (fs : List Fd) (p : Nat) (w : World) (e : Ending) (w' : World) : Prop :=
  e = .returned (.tuple #[]) ∧ ∃ n' v' D', n' ≤ n + fs.length ∧ Scn base S M n' (togL cs p) (turnG G fs p) v' D' w' ∧ KeepS base S M w w'

set_option maxHeartbeats 8000000 in
set_option maxRecDepth 100000 in
theorem psturn_any {base S M n : Nat} {cs : List Nat} {G : ByteArray → List Nat} {v : Value} {D : DataW Value} {w : World} (h : Scn base S M n cs G v D w) (p : Nat) (hp : p ≤ 1000000) (u : Value) (fs : List Fd) (hu : ListF w u fs) (hfs : ∀ w', KeepS base S M w w' → ListF w' u fs) (hl : fs.length ≤ 1000) (hok : okF fs) (hn : n + fs.length ≤ 1000000) (hc : cs.length < 1000) (hG : ∀ s, (G s).length < 1000) :
    Calls Tryz.prog 39 #[.pointer (some ⟨S, 0, none⟩), .int .i64 p, u] w (TurnPost base S M n cs G fs p w) := by
  have CT := Lib.hid (pturned_any (p := p) h.own h.hb h.up (by omega) hp)
  have HS := Lib.hid h
  have x0 : w.cell? ⟨S, 0, none⟩ = some v := by simp [World.cell?, h.box]
  have HUP := Lib.hid (togL_up cs p h.up)
  have HFW := Lib.hid (show (togL cs p).length ≤ 1000 by have := togL_length cs p; omega)
  have HFS := Lib.hid hfs
  have HOK := Lib.hid hok
  have HL := Lib.hid hl
  have HN := Lib.hid hn
  have HG := Lib.hid hG
  have HP := Lib.hid hp
  obtain ⟨Au, cu, hue, hFu, hcu, hnu⟩ := hu
  have HUC := Lib.hid hcu
  have HUN := Lib.hid hnu
  have HUE := Lib.hid hue
  obtain ⟨N, hN⟩ : ∃ N, overL fs = N := ⟨_, rfl⟩
  have HNN := Lib.hid hN
  have HAP := Lib.hid (show Apart N by rw [← hN]; exact rises_apart _ (overL_rises fs))
  have HNL := Lib.hid (show N.length ≤ fs.length by rw [← hN]; exact overL_length fs)
  obtain ⟨mu, hmu⟩ : ∃ mu, fs.length = mu := ⟨_, rfl⟩
  rw [hmu] at hue
  subst hue
  have HMU := Lib.hid hmu
  have CO := Lib.hid (show ∀ w2 k, KeepS base S M w w2 → w2.heap.size = k → Calls Tryz.prog 68 #[.slice (some ⟨k, 0, none⟩) 1 1] (w2.alloc (.cells #[.slice Au mu cu] 34)) fun e w' => ∃ x, e = .returned x ∧ ListF w' x N ∧ Below (w2.alloc (.cells #[.slice Au mu cu] 34)).heap.size (w2.alloc (.cells #[.slice Au mu cu] 34)) w' ∧ TyF w' x from fun w2 k hk hkz => by
    subst hkz
    obtain ⟨A', c', he, hF', hc', hn'⟩ := hfs w2 hk
    injection he with e1 e2 e3
    subst e1 e3
    have := pover_typed (w2.alloc (.cells #[.slice Au fs.length cu] 34)) (some ⟨w2.heap.size, 0, none⟩) 1 [fs] (rows_one _ hF' hc' hn') (by simp; omega) (by simp) (by simpa using hok)
    rw [show [fs].flatten = fs by simp, hN, hmu] at this
    exact this)
  clear h hfs hok hl hn hc hG hp hFu hcu hnu hN hmu
  go_enter Tryz.func39, Tryz.ntmps39
  go_wp2_with (first
    | (go_at_call 67; (with_reducible refine CT.out.mono ?_); rintro e w1 ⟨v', rfl, ho, hg, hloc⟩; obtain ⟨SC, KS, c1, f1⟩ := HS.out.count ho hg hloc HUP.out HFW.out; obtain ⟨B', cv', hv'⟩ := own_form ho; have HSC := Lib.hid SC; have HKS := Lib.hid KS; clear SC KS ho hg hloc; obtain ⟨lv, hlv⟩ : ∃ lv, (togL cs p).length = lv := ⟨_, rfl⟩; rw [hlv] at hv'; clear hlv; subst hv'; have HZ1 := Lib.hid (show (w1.setCell ⟨S, 0, none⟩ (.slice B' lv cv')).heap.size = w1.heap.size by simp [World.setCell]))
    | (go_at_call 68; (with_reducible refine (CO.out _ _ HKS.out HZ1.out).mono ?_); rintro e w3 ⟨x3, rfl, hx3, hb3, hty3⟩; obtain ⟨A3, c3, hx3e, hF3, hc3, hn3⟩ := hx3; have HF3 := Lib.hid hF3; have HC3 := Lib.hid hc3; have HN3 := Lib.hid hn3; have HB3 := Lib.hid hb3; have HTY := Lib.hid hty3; clear hF3 hc3 hn3 hb3 hty3; obtain ⟨nl, hnl⟩ : ∃ nl, N.length = nl := ⟨_, rfl⟩; have HNLL := Lib.hid hnl; rw [hnl] at hx3e; clear hnl; subst hx3e))
  have HS3 := Lib.hid (HSC.out.below (chain ((bl _).alloc (Nat.le_refl _) _) HB3.out))
  have HK3 := Lib.hid (HKS.out.trans (KeepS.of_below (chain ((bl _).alloc (Nat.le_refl _) _) HB3.out)))
  have HX3 := Lib.hid (show ListF w3 (.slice A3 nl c3) N ∧ TyF w3 (.slice A3 nl c3) from ⟨⟨A3, c3, by rw [HNLL.out], HF3.out, HC3.out, HN3.out⟩, HTY.out⟩)
  have hnl1 : nl ≤ 1000 := by have h1 := HNL.out; have h2 := HL.out; have h3 := HNLL.out; omega
  clear x0 c1 f1 HZ1 HSC HKS HB3 HF3 HC3 HN3 HTY CT CO HS
  go_loopw [22] (fun i wr => ∃ (j n' : Nat) (D' : DataW Value), j ≤ nl ∧ i = .int .i64 (j : Nat) ∧ n' ≤ n + j ∧ Scn base S M n' (togL cs p) (doneG G N j p) (.slice B' lv cv') D' wr ∧ KeepS base S M w wr ∧ ListF wr (.slice A3 nl c3) N ∧ TyF wr (.slice A3 nl c3)) (fun i _ => nl - (intOf i).toNat)
  case atStart => exact ⟨0, n, D, Nat.zero_le _, rfl, Nat.le_refl _, by rw [doneG_zero]; exact HS3.out, HK3.out, HX3.out⟩
  case round =>
    obtain ⟨j, n', D', hj, rfl, hn', hsc, hks, hx, hty⟩ := hrel
    have HSJ := Lib.hid hsc
    have HKJ := Lib.hid hks
    have HXJ := Lib.hid hx
    have HTJ := Lib.hid hty
    have HNJ := Lib.hid hn'
    clear hsc hks hx hty hn'
    by_cases hlt : j < nl
    · have hlt' : (j : Int) < (nl : Int) := by omega
      obtain ⟨f, hf⟩ : ∃ f, N[j]? = some f := ⟨_, List.getElem?_eq_getElem (by have := HNLL.out; omega)⟩
      obtain ⟨A9, c9, he9, hF9, _, _⟩ := HXJ.out
      injection he9 with he9 he8 he7
      clear he8 he7
      rw [← he9] at hF9
      obtain ⟨g, off, rfl, c0, c1⟩ := hF9 j f hf
      have hfn : f.n.size ≤ maxLen := by
        have h1 := HOK.out f (overL_mem (by rw [HNN.out]; exact List.mem_of_getElem? hf))
        unfold maxLen; omega
      have HFN := Lib.hid hfn
      have hbb : Below wr.heap.size wr (wr.alloc (oc f)) := (bl wr).alloc (Nat.le_refl _) _
      have HSB := Lib.hid (HSJ.out.below hbb)
      have HKB := Lib.hid (HKJ.out.trans (KeepS.of_below hbb))
      have HGE := Lib.hid (doneG_at HAP.out (G := G) (p := p) hf)
      have HGN := Lib.hid (doneG_next (G := G) (p := p) hf)
      obtain ⟨u, hlook, hou, huu⟩ := HSB.out.look f.n hfn
      have HLO := Lib.hid hlook
      have HOU := Lib.hid hou
      have HUU := Lib.hid huu
      obtain ⟨Bu, cu', hu'⟩ := own_form hou
      have CT := Lib.hid (pturned_any (w := (wr.alloc (oc f)).drew) (p := p) (ownN_below hou (belowN (bl _) 1)) HSB.out.hb (HSB.out.ups f.n) (by have := HSB.out.fews f.n; omega) HP.out)
      obtain ⟨lu, hlu⟩ : ∃ lu, (doneG G N j p f.n).length = lu := ⟨_, rfl⟩
      rw [hlu] at hu'
      subst hu'
      have MK := Lib.hid (show ∀ w', (wr.alloc (oc f)).grownBy w' (Value.slice Bu lu cu').ownBlock → (w'.cell? ⟨S, 1, none⟩ = some (.map (some M)) ∧ w'.cell? ⟨wr.heap.size, 0, none⟩ = some (.string f.n) ∧ (Instr.lookup TMi (.map (some M)) (.string f.n) false).run Tryz.prog w' = .ok (.slice Bu lu cu') w') from fun w' hg => by
        have hlow : ∀ c, c < base → some c ≠ (Value.slice Bu lu cu').ownBlock := fun c hc e => by have := ownN_ty hou e.symm; omega
        have hSw := (Array.getElem?_eq_some_iff.1 HSB.out.box).1
        have e1 := (hg.block S hSw (hlow S HSB.out.sb)).trans HSB.out.box
        have hbk : some wr.heap.size ≠ (Value.slice Bu lu cu').ownBlock := fun e => by
          obtain ⟨_, _, A, hA⟩ := ownN_ty hou e.symm
          rw [heap_alloc_new wr (oc f)] at hA
          injection hA with hA
          injection hA with _ hA _
          revert hA; decide
        have e2 := (hg.block wr.heap.size (by simp) hbk).trans (heap_alloc_new wr (oc f))
        refine ⟨by simp [World.cell?, e1], by simp [World.cell?, e2], hlook w' (HSB.out.map.kept hg (hlow M HSB.out.mb))⟩)
      clear hf hfn hbb hlook hou huu he9 hF9 hlu
      go_wp2_with fail
      have HUP6 := Lib.hid (togL_up (doneG G N j p f.n) p (HSB.out.ups f.n))
      have HFW6 := Lib.hid (show (togL (doneG G N j p f.n) p).length ≤ 1000 by have h1 := togL_length (doneG G N j p f.n) p; rw [HGE.out] at h1 ⊢; have := HG.out f.n; omega)
      have HKEY := Lib.hid (WideMaps.keyOf_string_mk (P := Tryz.prog) (k := KT) Tryz.underlying9 (s := f.n) HFN.out)
      by_cases hemp : togL (doneG G N j p f.n) p = []
      all_goals
        obtain ⟨l6, hl6⟩ : ∃ l6, (togL (doneG G N j p f.n) p).length = l6 := ⟨_, rfl⟩
        have HL6 := Lib.hid hl6
        have HEMP := Lib.hid hemp
      · have hz6 : ((l6 : Int) == 0) = true := by
          rw [hemp] at hl6
          simp at hl6
          simp [← hl6]
        clear hemp hl6
        first
          | (go_region_held3 (fun w' => w'.cell? ⟨S, 1, none⟩ = some (.map (some M)) ∧ w'.cell? ⟨wr.heap.size, 0, none⟩ = some (.string f.n) ∧ (Instr.lookup TMi (.map (some M)) (.string f.n) false).run Tryz.prog w' = .ok (.slice Bu lu cu') w')
              (first | exact MK.out _ (grown_none ((bl (wr.alloc (oc f))).drew) _) | exact MK.out _ (grown_trans (grown_none ((bl (wr.alloc (oc f))).drew) _) HG5.out) | fail)
              (first | (go_at_call 67; (with_reducible refine CT.out.mono ?_); (rintro e w5 ⟨u', rfl, ho5, hg5, hl5⟩); (have HO5 := Lib.hid ho5); (have HG5 := Lib.hid hg5); (have HLC5 := Lib.hid hl5); (obtain ⟨B6, c6, hu6⟩ := own_form ho5); (rw [HL6.out] at hu6); (clear ho5 hg5 hl5); (subst hu6)) | fail))
          | fail
        have hmk := MK.out _ (grown_trans (grown_none ((bl (wr.alloc (oc f))).drew) _) HG5.out)
        obtain ⟨k1, k2, _⟩ := hmk
        have HM5 := Lib.hid ((HSB.out.below (belowN (bl _) 1)).map.kept HG5.out (fun e => by have h1 := ownN_ty HOU.out e.symm; have h2 := HSB.out.mb; omega))
        go_wp2_with fail
        go_still_tail 6, (by kernel_rfl)
        change wpList _ _ _ _ _ w5.drew
        go_wp2_with (first
          | (at_delete; refine wpList_delete_own _ rfl _ _ TMi KT rfl TIs keyS Tryz.underlying67 anyV M n' D' rfl HM5.out _ _ rfl HKEY.out ?_; intro w6 hown6 hturn6; have HM6 := Lib.hid hown6; have HT6 := Lib.hid hturn6.grown; clear hown6 hturn6)
          | go_in)
        have HGW : (wr.alloc (oc f)).grownBy w5 (Value.slice Bu lu cu').ownBlock := grown_trans (grown_none ((bl (wr.alloc (oc f))).drew) _) HG5.out
        have HG6 : w5.grownBy w6 (some M) := grown_trans (grown_none ((bl w5).drew) _) HT6.out
        obtain ⟨hs6, hk6⟩ := HSB.out.turnRow HUU.out HOU.out HO5.out HGW HLC5.out HUP6.out HFW6.out HM6.out HG6 (fun _ zd => Maps.atKey_del_same zd) (fun h => absurd HEMP.out h) (fun t ht zd => Maps.atKey_del_other (lit_ne ht) zd)
        rw [HGE.out, HGN.out] at hs6
        have hk7 := (KeepS.of_below (base := base) (S := S) (M := M) (show Below wr.heap.size wr (wr.alloc (oc f)) from (bl wr).alloc (Nat.le_refl _) _)).trans hk6
        go_roundw
        case rel => exact ⟨j + 1, n', _, by omega, by go_num, by have := HNJ.out; omega, hs6, HKJ.out.trans hk7, hk7.fields HXJ.out HTJ.out⟩
        case measure => simp [intOf] <;> omega
      · have hz6 : ((l6 : Int) == 0) = false := by
          have h1 := togL_len0 hemp
          rw [hl6] at h1
          simpa using h1
        clear hemp hl6
        first
          | (go_region_held3 (fun w' => w'.cell? ⟨S, 1, none⟩ = some (.map (some M)) ∧ w'.cell? ⟨wr.heap.size, 0, none⟩ = some (.string f.n) ∧ (Instr.lookup TMi (.map (some M)) (.string f.n) false).run Tryz.prog w' = .ok (.slice Bu lu cu') w')
              (first | exact MK.out _ (grown_none ((bl (wr.alloc (oc f))).drew) _) | exact MK.out _ (grown_trans (grown_none ((bl (wr.alloc (oc f))).drew) _) HG5.out) | fail)
              (first | (go_at_call 67; (with_reducible refine CT.out.mono ?_); (rintro e w5 ⟨u', rfl, ho5, hg5, hl5⟩); (have HO5 := Lib.hid ho5); (have HG5 := Lib.hid hg5); (have HLC5 := Lib.hid hl5); (obtain ⟨B6, c6, hu6⟩ := own_form ho5); (rw [HL6.out] at hu6); (clear ho5 hg5 hl5); (subst hu6)) | fail))
          | fail
        have hmk := MK.out _ (grown_trans (grown_none ((bl (wr.alloc (oc f))).drew) _) HG5.out)
        obtain ⟨k1, k2, _⟩ := hmk
        have HM5 := Lib.hid ((HSB.out.below (belowN (bl _) 1)).map.kept HG5.out (fun e => by have h1 := ownN_ty HOU.out e.symm; have h2 := HSB.out.mb; omega))
        have HN6 := Lib.hid (show n' < maxLen by have h1 := HNJ.out; have h2 := HN.out; have h3 := HMU.out; have h4 := HNL.out; have h5 := HNLL.out; unfold maxLen; omega)
        go_wp2_with fail
        go_still_tail 7, (by kernel_rfl)
        change wpList _ _ _ _ _ w5.drew
        go_wp2_with (first
          | (at_mapUpdate; refine wpList_mapUpdate_own _ rfl _ _ _ TMi rfl KT TIs keyS Tryz.underlying67 anyV M n' D' rfl HM5.out HN6.out _ _ _ rfl rfl HKEY.out (.held (.slice B6 l6 c6)) [] rfl ?_; intro w6 hown6 hg6; have HM6 := Lib.hid hown6; have HT6 := Lib.hid hg6; clear hown6 hg6)
          | go_in)
        have HGW : (wr.alloc (oc f)).grownBy w5 (Value.slice Bu lu cu').ownBlock := grown_trans (grown_none ((bl (wr.alloc (oc f))).drew) _) HG5.out
        have HG6 : w5.grownBy w6 (some M) := grown_trans (grown_none ((bl w5).drew) _) HT6.out
        obtain ⟨hs6, hk6⟩ := HSB.out.turnRow HUU.out HOU.out HO5.out HGW HLC5.out HUP6.out HFW6.out HM6.out HG6 (fun h => absurd h HEMP.out) (fun _ zd => Maps.atKey_put_same HSB.out.isMap (keyLit _) _ zd) (fun t ht zd => Maps.atKey_put_other (lit_ne ht) _ zd)
        rw [HGE.out, HGN.out] at hs6
        have hk7 := (KeepS.of_below (base := base) (S := S) (M := M) (show Below wr.heap.size wr (wr.alloc (oc f)) from (bl wr).alloc (Nat.le_refl _) _)).trans hk6
        go_roundw
        case rel => exact ⟨j + 1, n' + 1, _, by omega, by go_num, by have := HNJ.out; omega, hs6, HKJ.out.trans hk7, hk7.fields HXJ.out HTJ.out⟩
        case measure => simp [intOf] <;> omega
    · obtain rfl : j = nl := by omega
      have hlt' : ¬ (j : Int) < (j : Int) := by omega
      go_wp2_with fail
      go_end0
      have h1 := HSJ.out
      rw [← HNLL.out, ← HNN.out, doneG_end] at h1
      exact ⟨rfl, n', _, D', by have h1 := HNJ.out; have h2 := HNL.out; have h3 := HNLL.out; omega, h1, HKJ.out⟩

end Go.Proofs.YtaoobliajgcdmaaGreat

/-
  What the program's Make leaves alone from turn to turn.
-/
namespace Go.Proofs.YtaoobliajgcdmaaGreat
open Go.RowKit

/-- Whatever lay ahead of the loop lies, but for three blocks. -/
structure KeepM (base B S M : Nat) (w w' : World) : Prop where
  os : w'.os = w.os
  tape : w'.tape = w.tape
  output : w'.output = w.output
  size : w.heap.size ≤ w'.heap.size
  low : ∀ c, c < base → c ≠ B → c ≠ S → c ≠ M → w'.heap[c]? = w.heap[c]?
theorem KeepM.refl (base B S M : Nat) (w : World) : KeepM base B S M w w := ⟨rfl, rfl, rfl, Nat.le_refl _, fun _ _ _ _ _ => rfl⟩
theorem KeepM.bel {base B S M : Nat} {a b c : World} (h : KeepM base B S M a b) (hb : base ≤ b.heap.size) (k : Below b.heap.size b c) : KeepM base B S M a c :=
  ⟨k.os.trans h.os, k.tape.trans h.tape, k.output.trans h.output, Nat.le_trans h.size k.size, fun i h1 h2 h3 h4 => (k.block i (Nat.lt_of_lt_of_le h1 hb)).trans (h.low i h1 h2 h3 h4)⟩
theorem KeepM.kb2 {base B S M : Nat} {a b c : World} {o2 : Option Nat} (h : KeepM base B S M a b) (hb : base ≤ b.heap.size) (k : Kb2 (some B) o2 b c) (h2 : ∀ g, o2 = some g → base ≤ g) : KeepM base B S M a c :=
  ⟨k.os.trans h.os, k.tape.trans h.tape, k.output.trans h.output, Nat.le_trans h.size k.size, fun i h1 n1 n2 n3 => (k.block i (Nat.lt_of_lt_of_le h1 hb) (fun e => n1 (by injection e with e; exact e.symm)) (fun e => by have := h2 i e; omega)).trans (h.low i h1 n1 n2 n3)⟩
theorem KeepM.keepS {base B S M : Nat} {a b c : World} (h : KeepM base B S M a b) (hb : base ≤ b.heap.size) (k : KeepS base S M b c) : KeepM base B S M a c :=
  ⟨k.os.trans h.os, k.tape.trans h.tape, k.output.trans h.output, Nat.le_trans h.size k.size, fun i h1 n1 n2 n3 => (k.low i h1 n2 n3 (Nat.lt_of_lt_of_le h1 hb)).trans (h.low i h1 n1 n2 n3)⟩
/-- No number lies in a block. -/
def NoI (w : World) (b : Nat) : Prop := ∀ (i : Nat) (k : IntKind) (x : Int), w.cell? ⟨b, i, none⟩ ≠ some (.int k x)
theorem noI_box {w : World} {b : Nat} {t : TypeId} {A : Option Addr} {n c : Nat} (h : Boxed w b t (.slice A n c)) : NoI w b := fun i k x e => by
  unfold Boxed at h
  simp only [World.cell?, h] at e
  cases i with
  | zero => simp at e
  | succ i => simp at e
theorem noI_map {w : World} {b : Nat} (h : ∃ es clock, w.heap[b]? = some (.map es clock)) : NoI w b := fun i k x e => by
  obtain ⟨es, clock, h⟩ := h
  simp only [World.cell?, h] at e
  cases e
theorem noI_two {w : World} {b : Nat} {t : TypeId} {A : Option Addr} {n c M : Nat} (h : w.heap[b]? = some (.cells #[.slice A n c, .map (some M)] t (0, 0))) : NoI w b := fun i k x e => by
  simp only [World.cell?, h] at e
  cases i with
  | zero => simp at e
  | succ i =>
    cases i with
    | zero => simp at e
    | succ i => simp at e
/-- The three blocks hold no number. -/
structure No3 (w : World) (B S M : Nat) : Prop where
  b : NoI w B
  s : NoI w S
  m : NoI w M
theorem KeepM.cell {base B S M : Nat} {w w' : World} (h : KeepM base B S M w w') (hn : No3 w B S M) (hb : w.heap.size = base) {g i j : Nat} {k : IntKind} {x : Int} {u : Value} (c : w.cell? ⟨g, i, none⟩ = some (.int k x)) (d : w.cell? ⟨g, j, none⟩ = some u) : w'.cell? ⟨g, j, none⟩ = some u := by
  have hg := lt_of_cell c
  rw [hb] at hg
  have e := h.low g hg (fun e => hn.b i k x (e ▸ c)) (fun e => hn.s i k x (e ▸ c)) (fun e => hn.m i k x (e ▸ c))
  exact (World.cell?_of_block (a := ⟨g, j, none⟩) e).trans d
theorem KeepM.vf {base B S M : Nat} {w w' : World} (h : KeepM base B S M w w') (hn : No3 w B S M) (hb : w.heap.size = base) {v : Vr} (hv : VF w v) : VF w' v := by
  refine ⟨fun i f hf => ?_, hv.2⟩
  obtain ⟨g, off, e, c0, c1⟩ := hv.1 i f hf
  exact ⟨g, off, e, h.cell hn hb c1 c0, h.cell hn hb c1 c1⟩
theorem KeepM.vers {base B S M : Nat} {w w' : World} (h : KeepM base B S M w w') (hn : No3 w B S M) (hb : w.heap.size = base) {x : Value} {L : List Vr} (hl : VersL w x L) : VersL w' x L := by
  obtain ⟨⟨A, c, hx, hr, hc, hnc⟩, hv⟩ := hl
  refine ⟨⟨A, c, hx, fun i y hy => ?_, hc, hnc⟩, fun v hvm => h.vf hn hb (hv v hvm)⟩
  obtain ⟨g, off, e, hk⟩ := hr i y hy
  exact ⟨g, off, e, fun j u hu => h.cell hn hb (hk 0 (.int .i64 y.id) rfl) (hk j u hu)⟩
theorem KeepM.spans {base B S M : Nat} {w w' : World} (h : KeepM base B S M w w') (hn : No3 w B S M) (hb : w.heap.size = base) {A : Option Addr} {l : List (Int × Int)} (hl : Co.Spans w A l) : Co.Spans w' A l := fun i p hp => by
  obtain ⟨g, off, e, c0, c1⟩ := hl i p hp
  exact ⟨g, off, e, h.cell hn hb c0 c0, h.cell hn hb c0 c1⟩

/-- The scene stays while pieces are put. -/
theorem Scn.kb2 {base S M n : Nat} {cs : List Nat} {G : ByteArray → List Nat} {v : Value} {D : DataW Value} {w w' : World} {B : Nat} {o2 : Option Nat} (h : Scn base S M n cs G v D w) (k : Kb2 (some B) o2 w w') (hB : B < base) (hS : B ≠ S) (hM : B ≠ M) (h2 : ∀ g, o2 = some g → base ≤ g ∧ ∃ cur, w.heap[g]? = some (.cells cur TPc (0, 0))) : Scn base S M n cs G v D w' := by
  have hlow : ∀ c, c < base → c ≠ B → w'.heap[c]? = w.heap[c]? := fun c h1 hb => k.block c (Nat.lt_of_lt_of_le h1 h.hb) (fun e => hb (by injection e with e; exact e.symm)) (fun e => by have := (h2 c e).1; omega)
  have hrow : ∀ {x : Value} {l : List Nat}, ownN w base x l → ownN w' base x l := fun {x l} ho => by
    refine ⟨ho.1, ?_⟩
    rcases ho.2 with h3 | ⟨g, cap, cur, hv, hg, hh, r⟩
    · exact .inl h3
    · refine .inr ⟨g, cap, cur, hv, hg, (k.block g (Array.getElem?_eq_some_iff.1 hh).1 (fun e => by injection e with e; omega) (fun e => ?_)).trans hh, r⟩
      obtain ⟨_, cur', h4⟩ := h2 g e
      rw [h4] at hh
      injection hh with hh
      injection hh with _ hh _
      revert hh; decide
  refine ⟨h.sb, h.mb, Nat.le_trans h.hb k.size, (hlow S h.sb (fun e => hS e.symm)).trans h.box, ?_, hrow h.own, h.get0, fun s hs => ?_, h.apart, h.apart0, h.up, h.ups, h.few, h.fews⟩
  · obtain ⟨es, clock, hm, r⟩ := h.map
    exact ⟨es, clock, (hlow M h.mb (fun e => hM e.symm)).trans hm, r⟩
  · obtain ⟨u, h1, h3⟩ := h.get1 s hs
    exact ⟨u, h1, hrow h3⟩
theorem PutB.own2 {base Q B : Nat} {L : List Pc} {v : Value} {w : World} (h : PutB base Q B L v w) : ∀ g, v.ownBlock = some g → base ≤ g ∧ ∃ cur, w.heap[g]? = some (.cells cur TPc (0, 0)) := fun g hg => by
  rcases h.own.2 with ⟨e, _⟩ | ⟨g', cap, cur, e, h1, h2, _⟩
  · rw [e] at hg; cases hg
  · rw [e] at hg
    cases hg
    exact ⟨h1, cur, h2⟩
theorem PutB.keepS {base Q B S M : Nat} {L : List Pc} {v : Value} {w w' : World} (h : PutB base Q B L v w) (k : KeepS base S M w w') : PutB base Q B L v w' :=
  h.kt fun c cur t ht hc => k.typ c cur t (by rcases ht with rfl | rfl | rfl | rfl <;> decide) (by rcases ht with rfl | rfl | rfl | rfl <;> decide) hc
/-- Ahead of the first turn. -/
theorem Scn.start (w : World) : Scn (w.heap.size + 2) (w.heap.size + 1) w.heap.size 0 [] (fun _ => []) (.slice none 0 0) (.map []) ((w.alloc (.map #[] 0)).alloc (.cells #[.slice none 0 0, .map (some w.heap.size)] TSc)) := by
  have hg : ∀ (s : ByteArray) (u : Value), ¬ GetN (.map []) s u := fun s u h => by
    have := h .nil
    cases this
  refine ⟨by omega, by omega, by simp, ?_, (World.ownsMap_made _ _ _ _).alloc _, ownN_nil _ _, fun _ _ _ => rfl, fun s hs => absurd rfl hs, fun s t us ut h => absurd h (hg _ _), fun s u h => absurd h (hg _ _), List.Pairwise.nil, fun _ => List.Pairwise.nil, Nat.zero_le _, fun _ => Nat.zero_le _⟩
  have h := heap_alloc_new (w.alloc (.map #[] 0)) (.cells #[.slice none 0 0, .map (some w.heap.size)] TSc)
  rw [show (w.alloc (.map #[] 0)).heap.size = w.heap.size + 1 by simp] at h
  exact h
theorem Scn.raise {base base' S M n : Nat} {v : Value} {D : DataW Value} {w : World} (h : Scn base S M n [] (fun _ => []) v D w) (hb : base ≤ base') (hs : base' ≤ w.heap.size) (hv : v = .slice none 0 0) : Scn base' S M n [] (fun _ => []) v D w :=
  ⟨by have := h.sb; omega, by have := h.mb; omega, hs, h.box, h.map, by subst hv; exact ownN_nil _ _, h.get0, fun s hs => absurd rfl hs, h.apart, h.apart0, h.up, h.ups, h.few, h.fews⟩
theorem set0 (L : List Vr) (T : List (Int × Nat)) : setT L T 0 = fun _ => [] := rfl
theorem turnG_next {L : List Vr} {T : List (Int × Nat)} {k : Nat} {t : Int × Nat} (h : T[k]? = some t) {v : Vr} (hv : L[t.2]? = some v) : turnG (setT L T k) v.fs t.2 = setT L T (k + 1) := by
  funext s
  unfold turnG
  rw [setT_next h, show fsAt L t.2 = v.fs by unfold fsAt; rw [hv]]
theorem cntT_len {a : Int × Int} {L : List Vr} {T : List (Int × Nat)} (h : Trn a L T) (k : Nat) : (cntT T k).length ≤ L.length := up_len (tgs_up _) fun _ hi => cntT_lt h hi
theorem setT_lt {a : Int × Int} {L : List Vr} {T : List (Int × Nat)} (h : Trn a L T) {k i : Nat} {s : ByteArray} (hi : i ∈ setT L T k s) : i < L.length := cntT_lt h ((setT_mem L T k s i).1 hi).1
theorem setT_len {a : Int × Int} {L : List Vr} {T : List (Int × Nat)} (h : Trn a L T) (k : Nat) (s : ByteArray) : (setT L T k s).length ≤ L.length := up_len (tgs_up _) fun _ hi => setT_lt h hi
theorem trn_len {a : Int × Int} {L : List Vr} {T : List (Int × Nat)} (h : Trn a L T) : T.length ≤ 2 * L.length := by
  rw [h.perm.length_eq]
  exact trnL_length a L 0

/-- What is kept from turn to turn. -/
structure MkI (base Q B S M : Nat) (L : List Vr) (T : List (Int × Nat)) (W7 : World) (k : Nat) (o : List Pc) (v : Value) (n : Nat) (vs : Value) (D : DataW Value) (W : World) : Prop where
  put : PutB base Q B o v W
  scn : Scn base S M n (cntT T k) (setT L T k) vs D W
  keep : KeepM base B S M W7 W
section
variable {base Q B S M : Nat} {L : List Vr} {T : List (Int × Nat)} {W7 : World} {k : Nat} {o : List Pc} {v : Value} {n : Nat} {vs : Value} {D : DataW Value} {W W' : World}
theorem MkI.below (h : MkI base Q B S M L T W7 k o v n vs D W) (hb : Below W.heap.size W W') : MkI base Q B S M L T W7 k o v n vs D W' := ⟨h.put.below hb, h.scn.below hb, h.keep.bel h.scn.hb hb⟩
theorem MkI.putten {o' : List Pc} {v' : Value} (h : MkI base Q B S M L T W7 k o v n vs D W) (hS : B ≠ S) (hM : B ≠ M) (hp : PutB base Q B o' v' W') (hk : Kb2 (some B) v.ownBlock W W') : MkI base Q B S M L T W7 k o' v' n vs D W' :=
  ⟨hp, h.scn.kb2 hk h.put.bb hS hM h.put.own2, h.keep.kb2 h.scn.hb hk fun g hg => (h.put.own2 g hg).1⟩
theorem MkI.turned {k' n' : Nat} {vs' : Value} {D' : DataW Value} (h : MkI base Q B S M L T W7 k o v n vs D W) (hs : Scn base S M n' (cntT T k') (setT L T k') vs' D' W') (hk : KeepS base S M W W') : MkI base Q B S M L T W7 k' o v n' vs' D' W' :=
  ⟨h.put.keepS hk, hs, h.keep.keepS h.scn.hb hk⟩
end

end Go.Proofs.YtaoobliajgcdmaaGreat

/-
  The program's Of and At.
-/
namespace Go.Proofs.YtaoobliajgcdmaaGreat
open Go.RowKit

set_option maxHeartbeats 4000000 in
theorem at1_any (v : Vr) (b : Nat) (x : Int) (w : World) (hx : w.cell? ⟨b, 0, none⟩ = some (.int .i64 x)) : Calls Tryz.prog 64 (#[vv v] ++ #[.pointer (some ⟨b, 0, none⟩)]) w fun e w' => e = .returned (.bool (rightS v.sf v.se && hasS v.sf v.se x)) ∧ Below w.heap.size w w' := by
  show Calls Tryz.prog 64 #[vv v, .pointer (some ⟨b, 0, none⟩)] w _
  obtain ⟨id, st, ent, sf, se, fa, fc, fs, gone⟩ := v
  have CR := Lib.hid (fun w => pspan_right sf se w)
  have CH := Lib.hid (fun w => phas_any sf se x w)
  have HB := Lib.hid ((bl w).alloc (Nat.le_refl _) (ocV ⟨id, st, ent, sf, se, fa, fc, fs, gone⟩))
  have HX := Lib.hid (fun w' (h : Below w.heap.size w w') => keepc h hx)
  clear hx
  simp only
  cases hr : rightS sf se with
  | false =>
    rw [hr] at CR
    clear hr
    go_enter Tryz.func64, Tryz.ntmps64
    go_wp2_with (go_at_call 43; (with_reducible refine (CR.out _).mono ?_); rintro e w2 ⟨rfl, hb2⟩)
    go_ret
    exact ⟨rfl, chain HB.out hb2⟩
  | true =>
    rw [hr] at CR
    clear hr
    generalize hasS sf se x = hb at *
    go_enter Tryz.func64, Tryz.ntmps64
    go_wp2_with (first
      | (go_at_call 43; (with_reducible refine (CR.out _).mono ?_); rintro e w2 ⟨rfl, hb2⟩; have k3 : w2.cell? ⟨w.heap.size, 3, none⟩ = some (.int .i64 sf) := keepc hb2 (by simp [go_sem]); have k4 : w2.cell? ⟨w.heap.size, 4, none⟩ = some (.int .i64 se) := keepc hb2 (by simp [go_sem]); have kx := HX.out w2 (chain HB.out hb2))
      | (go_at_call 45; (with_reducible refine (CH.out _).mono ?_); rintro e w3 ⟨rfl, hb3⟩))
    go_ret
    exact ⟨by simp, chain HB.out (chain hb2 hb3)⟩

set_option maxHeartbeats 1000000 in
theorem pat_any (w : World) (t : Int) (u : Value) (l : List Vr) (hl : VersL w u l) (hf : fewV l) (hok : ∀ v ∈ l, okF v.fs) : Calls Tryz.prog 36 #[.int .i64 t, u] w fun e w' => ∃ x, e = .returned x ∧ ListF w' x (atL t l) ∧ Below w.heap.size w w' := by
  have hb0 : Below w.heap.size w (w.alloc (.cells #[.int .i64 t] 3)) := (bl w).alloc (Nat.le_refl _) _
  have CM := pover_meant (g := 64) (cb := #[.pointer (some ⟨w.heap.size, 0, none⟩)]) (p := fun v => rightS v.sf v.se && hasS v.sf v.se t) (enters_of Tryz.func64 (by kernel_rfl) rfl) (w.alloc (.cells #[.int .i64 t] 3)) u l (hl.below hb0) hf hok (fun v w' h => at1_any v w.heap.size t w' (keepc h (by simp [go_sem])))
  rw [meant_at] at CM
  have CM := Lib.hid CM
  have HB := Lib.hid hb0
  obtain ⟨⟨A, c, rfl, _⟩, _⟩ := hl
  clear hb0
  go_enter Tryz.func36, Tryz.ntmps36
  go_wp2_with (go_at_call 63; (with_reducible refine CM.out.mono ?_); rintro e w1 ⟨x1, rfl, hl1, hb1⟩)
  go_ret
  exact ⟨_, rfl, hl1, chain HB.out hb1⟩

end Go.Proofs.YtaoobliajgcdmaaGreat

/-
  The program's Make.
-/
namespace Go.Proofs.YtaoobliajgcdmaaGreat
open Go.RowKit

theorem Scn.apartB {base Q B S M n : Nat} {cs : List Nat} {G : ByteArray → List Nat} {v v' : Value} {D : DataW Value} {w : World} {o : List Pc} (h : Scn base S M n cs G v D w) (p : PutB base Q B o v' w) : B ≠ S ∧ B ≠ M := by
  have hb := p.box
  unfold Boxed at hb
  refine ⟨fun e => ?_, fun e => ?_⟩
  · rw [e, h.box] at hb
    injection hb with hb
    injection hb with _ hb _
    revert hb; decide
  · obtain ⟨es, clock, hm, _⟩ := h.map
    rw [e, hm] at hb
    cases hb
theorem likeV_facts {l L : List Vr} (h : Alike L (ordL l)) (hf : fewV l) (hok : ∀ v ∈ l, okF v.fs) : L.length ≤ 200 ∧ (∀ v ∈ L, v.fs.length ≤ 100) ∧ ∀ v ∈ L, okF v.fs := by
  refine ⟨?_, fun v hv => ?_, fun v hv => ?_⟩
  · rw [alike_len h, (ordL_perm l).length_eq]; exact hf.1
  · obtain ⟨x, hx, e⟩ := alike_mem h hv
    rw [← e]; exact hf.2 x ((ordL_perm l).mem_iff.1 hx)
  · obtain ⟨x, hx, e⟩ := alike_mem h hv
    rw [← e]; exact hok x ((ordL_perm l).mem_iff.1 hx)
theorem made_few2 {a : Int × Int} {l : List Vr} {e : Int} {o : List Pc} (h : MadeTo (makeV a l) e o) (hf : fewV l) : ∀ q ∈ o, q.fs.length ≤ 1000000 := fun q hq => by
  have h1 := fs_mem h.tl q hq
  rw [h.fs] at h1
  split at h1
  · have := makeV_few hf _ _ h1
    omega
  · cases h1
theorem atL_few {l : List Vr} (hf : fewV l) (x : Int) : (atL x l).length ≤ 20000 := by
  rw [atL, ofL]
  have h1 := overL_length (countsV (l.filter fun v => coversB v x)).flatten
  have h2 := (counts_few (few_filter (fun v => coversB v x) hf)).2.1
  omega
theorem those_few {L : List Vr} {P : List Nat} (hP : ∀ i ∈ P, i < L.length) (hn : P.length ≤ L.length) (h1 : L.length ≤ 200) (h2 : ∀ v ∈ L, v.fs.length ≤ 100) : fewV (thoseL L P) :=
  ⟨by rw [thoseL_length hP]; exact Nat.le_trans hn h1, fun v hv => by obtain ⟨i, _, hi⟩ := thoseL_mem hv; exact h2 v (List.mem_of_getElem? hi)⟩
theorem kb2_turn {base Q B tb : Nat} {o : List Pc} {v : Value} {w w' : World} {cur : Array Value} (h : PutB base Q B o v w) (k : Kb2 (some B) v.ownBlock w w') (hb : base ≤ tb) (ho : w.heap[tb]? = some (.cells cur TTu (0, 0))) : w'.heap[tb]? = some (.cells cur TTu (0, 0)) :=
  (k.block tb (Array.getElem?_eq_some_iff.1 ho).1 (fun e => by injection e with e; have := h.bb; omega) (fun e => by
    obtain ⟨_, cur', h2⟩ := h.own2 tb e
    rw [ho] at h2
    injection h2 with h2
    injection h2 with _ h2 _
    revert h2; decide)).trans ho
theorem turn_cells {W : World} {tb : Nat} {x y : Value} (h : W.heap[tb]? = some (.cells #[x, y] TTu (0, 0))) : W.cell? ⟨tb, 0, none⟩ = some x ∧ W.cell? ⟨tb, 1, none⟩ = some y := ⟨by simp [World.cell?, h], by simp [World.cell?, h]⟩

set_option maxHeartbeats 16000000 in
set_option maxRecDepth 100000 in
theorem ptmake_any (w : World) (a : Int × Int) (u : Value) (l : List Vr) (hl : VersL w u l) (hf : fewV l) (hok : ∀ v ∈ l, okF v.fs) : Calls Tryz.prog 11 #[.agg #[.int .i64 a.1, .int .i64 a.2], u] w fun e w' => ∃ x, e = .returned x ∧ HasTL w' x (makeV a l) ∧ Below w.heap.size w w' := by
  obtain ⟨af, at', rfl⟩ : ∃ af at', a = (af, at') := ⟨a.1, a.2, rfl⟩
  have hmm := @run_makeMap Tryz.prog
  have CO := Lib.hid (fun w' (h : Below w.heap.size w w') => porder_any w' u l (hl.below h) hf)
  have HF := Lib.hid hf
  have HOK := Lib.hid hok
  obtain ⟨⟨Au, cu, hu, _, _, _⟩, _⟩ := hl
  obtain ⟨nu, hnu⟩ : ∃ nu, l.length = nu := ⟨_, rfl⟩
  rw [hnu] at hu
  subst hu
  clear hnu hf hok
  go_enter Tryz.func11, Tryz.ntmps11
  go_upto_region 3 with (go_at_call 33; (with_reducible refine (putter_any _ _).mono ?_); rintro e w5 ⟨rfl, hw5⟩; have HW5 := Lib.hid hw5; clear hw5)
  refine abstract_worldW (fun W => Below w.heap.size w W ∧ BoxS W w.heap.size af at' ∧ PutB W.heap.size (w.heap.size + 1 + 1) (w.heap.size + 1) [] (.slice none 0 0) W) ⟨?_, ?_, ?_⟩ ?_
  · rw [HW5.out]
    exact (((bl w).alloc (Nat.le_refl _) _).alloc (by simp) _).alloc (by simp; omega) _
  · rw [HW5.out]
    exact (boxS_new w af at').below (((bl _).alloc (Nat.le_refl _) _).alloc (by simp) _)
  · rw [HW5.out]
    have h := PutB.start (w.alloc (ocS af at'))
    simp only [World.size_alloc] at h ⊢
    exact h
  rintro W3 ⟨hb3, hbx, hpb⟩
  have HB3 := Lib.hid hb3
  have HBX := Lib.hid hbx
  have HPB := Lib.hid hpb
  have HQ := Lib.hid (show w.heap.size < w.heap.size + 1 by omega)
  clear hb3 hbx hpb HW5
  generalize w.heap.size + 1 + 1 = Q at *
  generalize w.heap.size + 1 = B at *
  go_upto_region 4 with (go_at_call 34; (with_reducible refine (CO.out _ HB3.out).mono ?_); rintro e w4 ⟨x4, rfl, ⟨L, hL, hAl⟩, hb4⟩; obtain ⟨AL, cL, hxL, hrL, hcL, _⟩ := hL.1; obtain ⟨mL, hmL⟩ : ∃ mL, L.length = mL := ⟨_, rfl⟩; rw [hmL] at hxL hcL; subst hxL; have HL := Lib.hid hL; have HAL := Lib.hid hAl; have HB4 := Lib.hid hb4; have HML := Lib.hid hmL; clear hL hAl hb4 hmL hrL)
  have hmm := @run_makeMap Tryz.prog
  go_upto_region 5 with fail
  refine abstract_worldW (fun W => Below w.heap.size w W ∧ BoxS W w.heap.size af at' ∧ PutB W.heap.size Q B [] (.slice none 0 0) W ∧ Scn W.heap.size (w4.heap.size + 1) w4.heap.size 0 [] (fun _ => []) (.slice none 0 0) (.map []) W ∧ VersL W (.slice AL mL cL) L) ?_ ?_
  · have hb := ((bl w4).alloc (Nat.le_refl _) (.map #[] 0)).alloc (by simp) (.cells #[.slice none 0 0, .map (some w4.heap.size)] TSc)
    have hs := Scn.start w4
    refine ⟨chain HB3.out (chain HB4.out hb), HBX.out.below (chain HB4.out hb), (HPB.out.below (chain HB4.out hb)).raise (chain HB4.out hb).size, ?_, HL.out.below hb⟩
    exact hs.raise (by simp) (Nat.le_refl _) rfl
  rintro W5 ⟨hb5, hbx5, hpb5, hsc5, hl5⟩
  obtain ⟨hLf1, hLf2, hLf3⟩ := likeV_facts HAL.out HF.out HOK.out
  have HLF1 := Lib.hid hLf1
  have HLF2 := Lib.hid hLf2
  have HLF3 := Lib.hid hLf3
  have HB5 := Lib.hid hb5
  have HPB5 := Lib.hid hpb5
  have HSC5 := Lib.hid hsc5
  have HL5 := Lib.hid hl5
  have HMS := Lib.hid (show w.heap.size ≤ w4.heap.size ∧ w.heap.size ≤ w4.heap.size + 1 from ⟨(chain HB3.out HB4.out).size, Nat.le_succ_of_le (chain HB3.out HB4.out).size⟩)
  have hmL1 : mL ≤ 200 := by have := HML.out; omega
  have CT := Lib.hid (pturns_any W5 (af, at') (.slice AL mL cL) L hl5 (by omega))
  obtain ⟨y0, y1⟩ := hbx5
  clear hb5 hpb5 hsc5 hl5 hLf1 hLf2 hLf3 HL HB4 HBX HPB CO HB3 hmm
  generalize w4.heap.size + 1 = S at *
  generalize w4.heap.size = M at *
  go_wp2_with (go_at_call 35; (with_reducible refine CT.out.mono ?_); rintro e W7 ⟨A, cT, T, rfl, hsp, htr, hb7⟩; obtain ⟨m, hm⟩ : ∃ m, T.length = m := ⟨_, rfl⟩; have HSP := Lib.hid hsp; have HTR := Lib.hid htr; have HB7 := Lib.hid hb7; have HM := Lib.hid hm; rw [hm]; clear hsp htr hb7 hm)
  have HL7 := Lib.hid (HL5.out.below HB7.out)
  have HBW := Lib.hid (chain HB5.out HB7.out)
  have HP7 := Lib.hid ((HPB5.out.below HB7.out).raise HB7.out.size)
  have HS7 := Lib.hid ((HSC5.out.below HB7.out).raise HB7.out.size (Nat.le_refl _) rfl)
  have HNE := Lib.hid (HS7.out.apartB HP7.out)
  have HNO := Lib.hid (show No3 W7 B S M from ⟨noI_box HP7.out.box, noI_two HS7.out.box, noI_map (by obtain ⟨es, clock, h, _⟩ := HS7.out.map; exact ⟨es, clock, h⟩)⟩)
  have hm4 : m ≤ 400 := by have h1 := trn_len HTR.out; have h2 := HM.out; have h3 := HLF1.out; omega
  obtain ⟨base, hbase⟩ : ∃ base, W7.heap.size = base := ⟨_, rfl⟩
  rw [hbase] at HP7 HS7
  have HBASE := Lib.hid hbase
  have hfr0 : fromT (af, at') T 0 = af := rfl
  clear hbase HPB5 HSC5 CT y0 y1 HL5 HB5
  rw [← hfr0]
  go_loopw [9, 23] (fun fr i wr => ∃ (k : Nat) (o : List Pc) (v : Value) (n : Nat) (vs : Value) (D : DataW Value), k ≤ m ∧ i = .int .i64 (k : Nat) ∧ fr = .int .i64 (fromT (af, at') T k) ∧ MkI base Q B S M L T W7 k o v n vs D wr ∧ MadeTo (makeV (af, at') l) (fromT (af, at') T k) o ∧ o.length ≤ k ∧ n ≤ k * 100) (fun _ i _ => m - (intOf i).toNat)
  case atStart => exact ⟨0, [], _, 0, _, _, Nat.zero_le _, rfl, rfl, ⟨HP7.out, HS7.out, KeepM.refl _ _ _ _ _⟩, made_start _ _, Nat.le_refl _, Nat.le_refl _⟩
  case round =>
    obtain ⟨k, o, v, n, vs, D, hk, rfl, rfl, hI, hMT, ho, hn⟩ := hrel
    have HI := Lib.hid hI
    have HMT := Lib.hid hMT
    have HO := Lib.hid ho
    have HN := Lib.hid hn
    clear hI hMT ho hn hfr0
    by_cases hlt : k < m
    · have hlt' : (k : Int) < (m : Int) := by omega
      obtain ⟨t, ht⟩ : ∃ t, T[k]? = some t := ⟨_, List.getElem?_eq_getElem (by have := HM.out; omega)⟩
      have HT := Lib.hid ht
      obtain ⟨g, off, rfl, c0, c1⟩ := (HI.out.keep.spans HNO.out HBASE.out HSP.out) k (t.1, (t.2 : Int)) (by simp [ht])
      obtain ⟨t1, t2⟩ := t
      simp only at c0 c1
      obtain ⟨fr, hfr⟩ : ∃ fr, fromT (af, at') T k = fr := ⟨_, rfl⟩
      have HFR := Lib.hid hfr
      rw [hfr]
      obtain ⟨B', c', hvs⟩ := own_form HI.out.scn.own
      obtain ⟨lv, hlv⟩ : ∃ lv, (cntT T k).length = lv := ⟨_, rfl⟩
      have HLV := Lib.hid hlv
      rw [hlv] at hvs
      subst hvs
      have HTB := Lib.hid (show base ≤ wr.heap.size from HI.out.scn.hb)
      clear ht hfr hlv
      go_upto_region 9 with fail
      refine abstract_worldW (fun W => MkI base Q B S M L T W7 k o v n (.slice B' lv c') D W ∧ W.heap[wr.heap.size]? = some (.cells #[.int .i64 t1, .int .i64 (t2 : Int)] TTu (0, 0))) ⟨HI.out.below ((bl wr).alloc (Nat.le_refl _) _), heap_alloc_new wr _⟩ ?_
      rintro W1 ⟨hI1, hob1⟩
      have HI1 := Lib.hid hI1
      have HOB1 := Lib.hid hob1
      obtain ⟨y0, y1⟩ := turn_cells hob1
      have x0 : W1.cell? ⟨S, 0, none⟩ = some (.slice B' lv c') := by simp [World.cell?, hI1.scn.box]
      clear hI1 hob1 c0 c1 HI
      generalize wr.heap.size = tb at *
      clear wr
      have hc : (fr < t1 ∧ (0 : Int) < (lv : Int)) ∨ (fr < t1 ∧ ¬ (0 : Int) < (lv : Int)) ∨ ¬ fr < t1 := by omega
      rcases hc with ⟨hc1, hc2⟩ | ⟨hc1, hc2⟩ | hc1
      focus
        have HNE0 := Lib.hid (show cntT T k ≠ [] from fun e => by have h1 := HLV.out; rw [e] at h1; simp at h1; omega)
        have CS := Lib.hid (psetters_any (w := W1.drew) (HI1.out.scn.below (bl W1).drew) (by have := HN.out; omega) (fun s i hi => by have h1 := setT_lt HTR.out hi; have := HLF1.out; omega))
        have MK := Lib.hid (show ∀ w' : World, w'.heap[tb]? = some (.cells #[.int .i64 t1, .int .i64 (t2 : Int)] TTu (0, 0)) → (w'.cell? ⟨tb, 0, none⟩ = some (.int .i64 t1) ∧ w'.cell? ⟨tb, 1, none⟩ = some (.int .i64 (t2 : Int))) from fun w' h => turn_cells h)
        have KO := Lib.hid (show ∀ w', Below W1.heap.size W1 w' → w'.heap[tb]? = some (.cells #[.int .i64 t1, .int .i64 (t2 : Int)] TTu (0, 0)) from fun w' h => (h.block tb (Array.getElem?_eq_some_iff.1 HOB1.out).1).trans HOB1.out)
        have CTH := Lib.hid (fun w' x P (h : Below W1.heap.size W1 w') hx hP hn => pthose_any w' (.slice AL mL cL) x L P ((HI1.out.below h).keep.vers HNO.out HBASE.out HL7.out) hx hP hn (by have := HLF1.out; omega))
        have CA := Lib.hid (fun w' y P (hy : VersL w' y (thoseL L P)) (hP : ∀ i ∈ P, i < L.length) (hn : P.length ≤ L.length) => pat_any w' fr y (thoseL L P) hy (those_few hP hn HLF1.out HLF2.out) (fun v hv => by obtain ⟨i, _, hi⟩ := thoseL_mem hv; exact HLF3.out v (List.mem_of_getElem? hi)))
        have hob4 := KO.out _ (bl W1).drew
        go_wp2_with fail
        go_region_held3 (fun w' => w'.cell? ⟨tb, 0, none⟩ = some (.int .i64 t1) ∧ w'.cell? ⟨tb, 1, none⟩ = some (.int .i64 (t2 : Int)))
          (first | exact MK.out _ hob4 | exact MK.out _ hob5 | exact MK.out _ hob6 | exact MK.out _ hob7 | exact MK.out _ hob8 | fail)
          (first
            | (go_at_call 38; (with_reducible refine CS.out.mono ?_); (rintro e w5 ⟨x5, P, rfl, hz5, hup5, hst5, hb50⟩); (obtain ⟨A5, c5, hx5, hr5, hc5⟩ := rowPl_of hz5); (obtain ⟨n5, hn5⟩ : ∃ n5, P.length = n5 := ⟨_, rfl⟩); (have HN5 := Lib.hid hn5); (rw [hn5] at hx5 hc5); (subst hx5); (have HB5 := Lib.hid (chain ((bl W1).drew) hb50)); (have hob5 := KO.out _ HB5.out); (have HR5 := Lib.hid hr5); (have HC5 := Lib.hid hc5); (have HST5 := Lib.hid (show Setters L T k P from ⟨hup5, hst5⟩)); (have HPL := Lib.hid (show ∀ i ∈ P, i < L.length from fun i hi => by obtain ⟨s, hs⟩ := (hst5 i).1 hi; exact setT_lt HTR.out (List.mem_of_getLast? hs))); (have HPN := Lib.hid (up_len hup5 HPL.out)); clear hz5 hup5 hst5 hb50 hr5 hc5 hn5)
            | (go_at_call 37; (with_reducible refine (CTH.out _ _ P HB5.out ⟨A5, c5, by rw [HN5.out], HR5.out, by rw [HN5.out]; exact HC5.out⟩ HPL.out (by have h1 := HPN.out; have h2 := HLF1.out; omega)).mono ?_); (rintro e w6 ⟨y6, rfl, hv6, hb60⟩); (obtain ⟨A6, c6, hy6, _⟩ := hv6.1); (subst hy6); (have HV6 := Lib.hid hv6); (have HB6 := Lib.hid (chain HB5.out hb60)); (have hob6 := KO.out _ HB6.out); clear hv6 hb60)
            | (go_at_call 36; (with_reducible refine (CA.out _ _ P HV6.out HPL.out HPN.out).mono ?_); (rintro e w7 ⟨y7, rfl, ⟨A7, c7, hy7, hF7, hc7, hnc7⟩, hb70⟩); (obtain ⟨fs7, hfs7⟩ : ∃ fs7, atL fr (thoseL L P) = fs7 := ⟨_, rfl⟩); (have HFS7 := Lib.hid hfs7); (rw [hfs7] at hy7 hF7 hc7); (subst hy7); (have HPF := Lib.hid (show PF w7 ⟨fr, t1, A7, c7, fs7⟩ from ⟨hF7, hc7, hnc7⟩)); (have HB7' := Lib.hid (chain HB6.out hb70)); (have hob7 := KO.out _ HB7'.out); clear hF7 hc7 hnc7 hb70 hfs7)
            | (go_at_call 57; (with_reducible refine (pput_any (p := ⟨fr, t1, A7, c7, fs7⟩) (HI1.out.below HB7'.out).put (HI1.out.below HB7'.out).scn.hb HPF.out (by have := HO.out; omega) (made_few2 HMT.out HF.out) (by have h1 := atL_few (those_few HPL.out HPN.out HLF1.out HLF2.out) fr; rw [HFS7.out] at h1; show fs7.length ≤ 1000000; omega)).mono ?_); (rintro e w8 ⟨rfl, v', A8, c8, hpb8, hk8⟩); (have HPB8 := Lib.hid hpb8); (have HK8 := Lib.hid hk8); (have hob8 : w8.heap[tb]? = some (.cells #[.int .i64 t1, .int .i64 (t2 : Int)] TTu (0, 0)) := kb2_turn (HI1.out.below HB7'.out).put hk8 HTB.out hob7); clear hpb8 hk8)
            | fail)
        refine abstract_then (fun W => ∃ o' v', MkI base Q B S M L T W7 k o' v' n (.slice B' lv c') D W ∧ MadeTo (makeV (af, at') l) t1 o' ∧ o'.length ≤ k + 1 ∧ W.heap[tb]? = some (.cells #[.int .i64 t1, .int .i64 (t2 : Int)] TTu (0, 0))) ?_ ?_
        · have hmp := made_put HAL.out HTR.out HT.out (by rw [HFR.out]; exact hc1) HST5.out HMT.out HNE0.out A8 c8
          rw [HFR.out, HFS7.out] at hmp
          refine ⟨_, _, (HI1.out.below HB7'.out).putten HNE.out.1 HNE.out.2 HPB8.out HK8.out, hmp, ?_, hob8⟩
          have h1 := (put_to (p := ⟨fr, t1, A8, c8, fs7⟩) HMT.out.tl ((rightP_iff _ _).2 (by have h3 := HTR.out.from_le HT.out; rw [HFR.out] at h3; have h4 := (rightP_iff _ _).1 h3.2.2.2.1; exact ⟨by show _ ≤ fr; have := h3.1; have : af ≤ fr := this; omega, hc1, by show t1 ≤ _; have : t1 ≤ at' := h3.2.2.1; omega⟩)) (by have h2 := HMT.out.le; rw [HFR.out] at h2; exact h2)).len
          have h2 := HO.out
          exact Nat.le_trans h1 (by omega)
        clear x0 y0 y1 hob4 hob5 hob6 hob7 hob8 CS CTH CA MK KO HB5 HB6 HB7' HPF HFS7 HPB8 HK8 HV6 HST5 HPL HPN HR5 HC5 HN5
      rotate_left
      focus
        go_upto_region 11 with fail
        refine abstract_worldW (fun W => ∃ o' v', MkI base Q B S M L T W7 k o' v' n (.slice B' lv c') D W ∧ MadeTo (makeV (af, at') l) t1 o' ∧ o'.length ≤ k + 1 ∧ W.heap[tb]? = some (.cells #[.int .i64 t1, .int .i64 (t2 : Int)] TTu (0, 0))) ⟨o, v, HI1.out, made_skip HAL.out HTR.out HT.out HMT.out (.inr (List.eq_nil_of_length_eq_zero (by have := HLV.out; omega))), by have := HO.out; omega, HOB1.out⟩ ?_
        clear x0 y0 y1
      rotate_left
      focus
        go_upto_region 11 with fail
        refine abstract_worldW (fun W => ∃ o' v', MkI base Q B S M L T W7 k o' v' n (.slice B' lv c') D W ∧ MadeTo (makeV (af, at') l) t1 o' ∧ o'.length ≤ k + 1 ∧ W.heap[tb]? = some (.cells #[.int .i64 t1, .int .i64 (t2 : Int)] TTu (0, 0))) ⟨o, v, HI1.out, made_skip HAL.out HTR.out HT.out HMT.out (.inl (by rw [HFR.out]; show t1 ≤ fr; omega)), by have := HO.out; omega, HOB1.out⟩ ?_
        clear x0 y0 y1
      rotate_left
      all_goals
        rintro W2 ⟨o', v', hI2, hM2, ho2, hob2⟩
        have HI2 := Lib.hid (hI2.below (bl W2).drew)
        have HM2 := Lib.hid hM2
        have HO2 := Lib.hid ho2
        have ht2 : t2 < L.length := (HTR.out.from_le HT.out).2.2.2.2
        have ht2' : (t2 : Int) < (mL : Int) := by have := HML.out; omega
        obtain ⟨vv, hvv⟩ : ∃ x, L[t2]? = some x := ⟨_, List.getElem?_eq_getElem ht2⟩
        have HVV := Lib.hid hvv
        obtain ⟨AL', cL', heL, hrL, _⟩ := HL7.out.1
        injection heL with e1 e2 e3
        rw [← e1] at hrL
        clear e1 e2 e3
        obtain ⟨gL, offL, hAL2, hX7⟩ := hrL.cells7 hvv
        subst hAL2
        have HX7 := Lib.hid hX7
        have HMK := Lib.hid (show ∀ w' : World, w'.heap[tb]? = some (.cells #[.int .i64 t1, .int .i64 (t2 : Int)] TTu (0, 0)) → KeepM base B S M W7 w' → (w'.cell? ⟨tb, 1, none⟩ = some (.int .i64 (t2 : Int)) ∧ w'.cell? ⟨gL, offL + t2 * 7 + 5, none⟩ = some (.slice vv.fa vv.fs.length vv.fc)) from fun w' h1 h2 => ⟨(turn_cells h1).2, h2.cell HNO.out HBASE.out HX7.out.1 HX7.out.2.2.2.2.2.1⟩)
        have HVF := Lib.hid (show ∀ w' : World, KeepM base B S M W7 w' → ListF w' (.slice vv.fa vv.fs.length vv.fc) vv.fs from fun w' hk => by
          have h := hk.vf HNO.out HBASE.out (HL7.out.2 vv (List.mem_of_getElem? HVV.out))
          exact ⟨_, _, rfl, h.1, h.2.1, h.2.2⟩)
        have hvl : vv.fs.length ≤ 100 := HLF2.out vv (List.mem_of_getElem? hvv)
        have hL2 := HLF1.out
        have CT := Lib.hid (psturn_any (w := W2.drew) HI2.out.scn t2 (by omega) (.slice vv.fa vv.fs.length vv.fc) vv.fs (HVF.out _ HI2.out.keep) (fun w' hk => HVF.out _ (HI2.out.keep.keepS HI2.out.scn.hb hk)) (by omega) (HLF3.out vv (List.mem_of_getElem? hvv)) (by have := HN.out; omega) (by have := cntT_len HTR.out k; omega) (fun s => by have := setT_len HTR.out k s; omega))
        have HVL := Lib.hid hvl
        have hob4 : W2.drew.heap[tb]? = some (.cells #[.int .i64 t1, .int .i64 (t2 : Int)] TTu (0, 0)) := hob2
        have hkm4 := HI2.out.keep
        clear hI2 hM2 ho2 hob2 ht2 hvv hrL hX7 hvl hL2
        go_wp2_with fail
        go_region_held3 (fun w' => w'.cell? ⟨tb, 1, none⟩ = some (.int .i64 (t2 : Int)) ∧ w'.cell? ⟨gL, offL + t2 * 7 + 5, none⟩ = some (.slice vv.fa vv.fs.length vv.fc))
          (first | exact HMK.out _ hob4 hkm4 | exact HMK.out _ hob9 hkm9 | fail)
          (first
            | (go_at_call 39; (with_reducible refine CT.out.mono ?_); (rintro e w9 ⟨rfl, n', vs', D', hn', hs9, hk9⟩); (have HN9 := Lib.hid hn'); (have hob9 := hk9.typ _ _ _ (by decide) (by decide) hob4); (have HI9 := Lib.hid (HI2.out.turned (k' := k + 1) (by rw [cntT_next HT.out, ← turnG_next HT.out HVV.out]; exact hs9) hk9)); (have hkm9 := HI9.out.keep); clear hn' hs9 hk9)
            | fail)
        obtain ⟨z0, z1⟩ := turn_cells hob9
        go_wp2_with fail
        have HFN := Lib.hid (show fromT (af, at') T (k + 1) = t1 by rw [fromT, HT.out])
        refine ⟨⟨k + 1, o', v', n', vs', D', by omega, by go_num, by rw [HFN.out], HI9.out, by rw [HFN.out]; exact HM2.out, HO2.out, by have h1 := HN9.out; have h2 := HN.out; have h3 := HVL.out; omega⟩, by simp [intOf] <;> omega⟩
    · obtain rfl : k = m := by omega
      have hlt' : ¬ (k : Int) < (k : Int) := by omega
      have x0 := HI.out.put.box.cell
      have HKT := Lib.hid (show k = T.length from HM.out.symm)
      go_wp2_with fail
      go_ret
      rw [HKT.out] at HMT
      obtain ⟨hTL, hfs⟩ := made_stop HAL.out HTR.out HMT.out
      refine ⟨_, rfl, ⟨o, HI.out.put.pcs, hTL, hfs, by have := HO.out; omega⟩, ?_⟩
      have hK := HI.out.keep
      have h1 := HBW.out.size
      have h2 := HBASE.out
      exact ⟨hK.os.trans HBW.out.os, hK.tape.trans HBW.out.tape, hK.output.trans HBW.out.output, Nat.le_trans h1 hK.size, fun c hc => (hK.low c (by omega) (by have := HQ.out; omega) (by have := HMS.out.2; omega) (by have := HMS.out.1; omega)).trans (HBW.out.block c hc)⟩

end Go.Proofs.YtaoobliajgcdmaaGreat

/-
  The program's Same and Known of pieces.
-/
namespace Go.Proofs.YtaoobliajgcdmaaGreat
open Go.RowKit

set_option maxRecDepth 100000 in
theorem run_eql_sp (a b c d : Int) (w : World) : (binOp .eql 23 (.agg #[.int .i64 a, .int .i64 b]) (.agg #[.int .i64 c, .int .i64 d])).run Tryz.prog w = .ok (.bool (decide (a = c ∧ b = d))) w := by
  rw [run_eql_struct, run_equalIn_struct w 9999 23 _ _ Tryz.underlying23 (by kernel_rfl)]
  have h3 := Tryz.underlying3
  have a3 : ∀ w, (isAgg 3).run Tryz.prog w = .ok false w := Tryz.isAgg3
  have c3 : Tryz.prog.cellsOf 3 = 1 := by kernel_rfl
  simp [Op.eqFields, Program.fieldsOf, Tryz.underlying23, part, a3, run_equalIn_int w 9998 _ .i64 .i64 _ _ h3]
  by_cases h1 : a = c
  · by_cases h2 : b = d <;> simp [h1, h2]
  · simp [h1]

set_option maxHeartbeats 4000000 in
set_option maxRecDepth 10000 in
theorem ptsame1_any (w : World) (p q : Pc) (hp : PF w p) (hq : PF w q) (hpl : p.fs.length ≤ 1000000) (hql : q.fs.length ≤ 1000000) : Ret 51 #[pv p, pv q] w (.bool (sameP1 p q)) := by
  have hb1 : Below w.heap.size w (w.alloc (ocP p)) := (bl w).alloc (Nat.le_refl _) _
  have hb2 : Below w.heap.size w ((w.alloc (ocP p)).alloc (ocP q)) := hb1.alloc hb1.size _
  have CO := Lib.hid (fun w' (h : Below w.heap.size w w') => psame_any w' (.slice p.fa p.fs.length p.fc) (.slice q.fa q.fs.length q.fc) p.fs q.fs (hp.below h).list (hq.below h).list (by omega) (by omega))
  have HB2 := Lib.hid hb2
  clear hb1 hb2 hp hq hpl hql
  by_cases h : p.f = q.f ∧ p.t = q.t
  · have h' : ∀ w, (binOp .eql 23 (.agg #[.int .i64 p.f, .int .i64 p.t]) (.agg #[.int .i64 q.f, .int .i64 q.t])).run Tryz.prog w = .ok (.bool true) w := fun w => by rw [run_eql_sp, decide_eq_true h]
    have HE := Lib.hid (show sameP1 p q = sameF p.fs q.fs by unfold sameP1; rw [decide_eq_true h.1, decide_eq_true h.2]; rfl)
    rw [HE.out]
    clear h
    generalize sameF p.fs q.fs = s at *
    go_enter Tryz.func51, Tryz.ntmps51
    go_wp2_with (go_at_call 52; (with_reducible refine (CO.out _ HB2.out).mono ?_); rintro e w2 ⟨rfl, hb2⟩)
    go_ret
    exact ⟨rfl, chain HB2.out hb2⟩
  · have h' : ∀ w, (binOp .eql 23 (.agg #[.int .i64 p.f, .int .i64 p.t]) (.agg #[.int .i64 q.f, .int .i64 q.t])).run Tryz.prog w = .ok (.bool false) w := fun w => by rw [run_eql_sp, decide_eq_false h]
    have HE := Lib.hid (show sameP1 p q = false by
      unfold sameP1
      have : (decide (p.f = q.f) && decide (p.t = q.t)) = false := by
        rw [Bool.and_eq_false_iff, decide_eq_false_iff_not, decide_eq_false_iff_not]
        by_cases h1 : p.f = q.f
        · exact .inr fun k => h ⟨h1, k⟩
        · exact .inl h1
      rw [this, Bool.false_and])
    rw [HE.out]
    clear h
    go_enter Tryz.func51, Tryz.ntmps51
    go_wp2_with fail
    go_ret
    exact ⟨rfl, HB2.out⟩

abbrev samer : Value := .func (.func 51) #[] #[]
set_option maxHeartbeats 4000000 in
set_option maxRecDepth 10000 in
theorem pteq_any (w : World) (ua ub : Value) (a b : List Pc) (ha : PcsL w ua a) (hb : PcsL w ub b) (hn : a.length ≤ 1000) (ha2 : ∀ p ∈ a, p.fs.length ≤ 1000000) (hb2 : ∀ p ∈ b, p.fs.length ≤ 1000000) : Ret 50 #[ua, ub, samer] w (.bool (sameP a b)) := by
  obtain ⟨⟨A, c, rfl, hA, hc1, hc2⟩, hVA⟩ := ha
  obtain ⟨⟨B, d, rfl, hB, hd1, hd2⟩, hVB⟩ := hb
  by_cases hnm : a.length ≠ b.length
  · have HS := Lib.hid (sameP_len a b hnm)
    have hne : ((a.length : Int) != (b.length : Int)) = true := by rw [bne_iff_ne]; omega
    clear hA hB hVA hVB ha2 hb2 hc1 hc2 hd1 hd2
    generalize a.length = n at *
    generalize b.length = m at *
    go_enter Tryz.func50, Tryz.ntmps50
    go_wp2_with fail
    go_ret
    exact ⟨ret_bool HS.out.symm, bl w⟩
  · obtain ⟨n, hn1⟩ : ∃ n, a.length = n := ⟨_, rfl⟩
    have hn2 : b.length = n := by omega
    obtain ⟨t, ht⟩ : ∃ t, sameP a b = t := ⟨_, rfl⟩
    have HT := Lib.hid ht
    rw [hn1] at hn hc1 ⊢
    rw [hn2] at hd1
    rw [hn2, ht]
    have HA := Lib.hid hA
    have HB := Lib.hid hB
    have HVA := Lib.hid hVA
    have HVB := Lib.hid hVB
    have HA2 := Lib.hid ha2
    have HB2 := Lib.hid hb2
    have HN1 := Lib.hid hn1
    have HN2 := Lib.hid hn2
    clear hA hB hn1 hn2 hnm ht hVA hVB ha2 hb2 hc2 hd2
    go_enter Tryz.func50, Tryz.ntmps50
    go_wp2_with fail
    go_loopw [17] (fun i wr => ∃ k : Nat, k ≤ n ∧ i = .int .i64 k ∧ t = sameP (a.drop k) (b.drop k) ∧ Below w.heap.size w wr) (fun i _ => n - (intOf i).toNat)
    case atStart => exact ⟨0, Nat.zero_le _, rfl, HT.out.symm, bl w⟩
    case round =>
      obtain ⟨k, hk, rfl, hg, hW⟩ := hrel
      have HW := Lib.hid hW
      clear hW
      by_cases hlt : k < n
      · have hlt' : (k : Int) < (n : Int) := by omega
        obtain ⟨x, hx⟩ : ∃ x, a[k]? = some x := ⟨_, List.getElem?_eq_getElem (by have := HN1.out; omega)⟩
        obtain ⟨y, hy⟩ : ∃ y, b[k]? = some y := ⟨_, List.getElem?_eq_getElem (by have := HN2.out; omega)⟩
        obtain ⟨g1, off, rfl, hX⟩ := (HA.out.below HW.out).cells3 hx
        obtain ⟨g2, off', rfl, hY⟩ := (HB.out.below HW.out).cells3 hy
        have hsx := HA2.out x (List.mem_of_getElem? hx)
        have hsy := HB2.out y (List.mem_of_getElem? hy)
        have hb1 : Below wr.heap.size wr (wr.alloc (ocP x)) := (bl wr).alloc (Nat.le_refl _) _
        have hb2 : Below wr.heap.size wr ((wr.alloc (ocP x)).alloc (ocP y)) := hb1.alloc hb1.size _
        have CO := Lib.hid (ptsame1_any ((wr.alloc (ocP x)).alloc (ocP y)) x y ((HVA.out x (List.mem_of_getElem? hx)).below (chain HW.out hb2)) ((HVB.out y (List.mem_of_getElem? hy)).below (chain HW.out hb2)) hsx hsy)
        rw [drop_consL hx, drop_consL hy, sameP] at hg
        have HY1 := Lib.hid (hY.below hb1)
        have HC2 := Lib.hid (chain HW.out hb2)
        obtain ⟨z0, z1, z2⟩ := hX
        obtain ⟨y0, y1, y2⟩ := HY1.out
        generalize sameP1 x y = s at *
        clear hsx hsy hx hy hb1 hb2 hY
        cases s with
        | true =>
          have HG := Lib.hid (show t = sameP (a.drop (k + 1)) (b.drop (k + 1)) by rw [hg, Bool.true_and])
          clear hg
          go_wp2_with (go_at_call 51; (with_reducible refine CO.out.mono ?_); rintro e w2 ⟨rfl, hb2⟩)
          exact ⟨⟨k + 1, by omega, by go_num, HG.out, chain HC2.out hb2⟩, by simp [intOf] <;> omega⟩
        | false =>
          have HG := Lib.hid (show t = false by rw [hg, Bool.false_and])
          clear hg
          go_wp2_with (go_at_call 51; (with_reducible refine CO.out.mono ?_); rintro e w2 ⟨rfl, hb2⟩)
          go_ret
          exact ⟨ret_bool HG.out.symm, chain HC2.out hb2⟩
      · obtain rfl : k = n := by omega
        have hlt' : ¬ (k : Int) < (k : Int) := by omega
        rw [List.drop_of_length_le (by have := HN1.out; omega), List.drop_of_length_le (by have := HN2.out; omega)] at hg
        have HG := Lib.hid (show t = true from hg)
        clear hg
        go_wp2_with fail
        go_ret
        exact ⟨ret_bool HG.out.symm, HW.out⟩

set_option maxHeartbeats 1000000 in
theorem ptsame_any (w : World) (ua ub : Value) (a b : List Pc) (ha : PcsL w ua a) (hb : PcsL w ub b) (hn : a.length ≤ 1000) (ha2 : ∀ p ∈ a, p.fs.length ≤ 1000000) (hb2 : ∀ p ∈ b, p.fs.length ≤ 1000000) : Ret 23 #[ua, ub] w (.bool (sameP a b)) := by
  have CO := Lib.hid (pteq_any w ua ub a b ha hb hn ha2 hb2)
  generalize sameP a b = s at *
  obtain ⟨⟨A, c, rfl, _, _, _⟩, _⟩ := ha
  obtain ⟨⟨B, d, rfl, _, _, _⟩, _⟩ := hb
  clear hn ha2 hb2
  go_enter Tryz.func23, Tryz.ntmps23
  go_wp2_with (go_at_call 50; (with_reducible refine CO.out.mono ?_); rintro e w2 ⟨rfl, hb2⟩)
  go_ret
  exact ⟨rfl, hb2⟩

set_option maxHeartbeats 4000000 in
set_option maxRecDepth 10000 in
theorem ptknown_any (w : World) (u : Value) (l : List Pc) (hl : PcsL w u l) (hn : l.length ≤ 400) : Calls Tryz.prog 21 #[u] w fun e w' => ∃ x, e = .returned x ∧ ListE ESp w' x (covL (l.map spanP)) ∧ (covL (l.map spanP)).length ≤ 1000 ∧ Below w.heap.size w w' := by
  obtain ⟨⟨A, c, rfl, hA, hc, hnc⟩, hPF⟩ := hl
  have HA := Lib.hid hA
  obtain ⟨n, hnm⟩ : ∃ n, l.length = n := ⟨_, rfl⟩
  rw [hnm] at hn hc ⊢
  have HN := Lib.hid hnm
  clear hA hc hnc hPF hnm
  go_enter Tryz.func21, Tryz.ntmps21
  go_wp2_with fail
  go_loopw [3, 8] (fun o i wr => ∃ (t : Nat) (vs : List (Int × Int)), t ≤ n ∧ i = .int .i64 (t : Nat) ∧ vs = (l.take t).map spanP ∧ OE ESp w vs o wr) (fun _ i _ => n - (intOf i).toNat)
  case atStart => exact ⟨0, [], Nat.zero_le _, rfl, rfl, OE.nil w⟩
  case round =>
    obtain ⟨t, vs, ht, rfl, hvs, hO⟩ := hrel
    have HO := Lib.hid hO
    by_cases hlt : t < n
    · have hlt' : (t : Int) < (n : Int) := by omega
      obtain ⟨p, hx⟩ : ∃ p, l[t]? = some p := ⟨_, List.getElem?_eq_getElem (by have := HN.out; omega)⟩
      obtain ⟨g, off, rfl, hX⟩ := (HA.out.below HO.out.bel).cells3 hx
      have NX := Lib.hid (show vs ++ [(p.f, p.t)] = (l.take (t + 1)).map spanP by rw [List.take_add_one, hx, Option.toList_some, List.map_append, hvs]; rfl)
      have HLEN := Lib.hid (show vs.length ≤ 100000 by rw [hvs, List.length_map, List.length_take]; omega)
      have HO1 := Lib.hid (HO.out.below ((bl wr).alloc (Nat.le_refl _) (ocP p)))
      obtain ⟨z0, z1, z2⟩ := hX
      clear hvs hO hx
      go_wp2_with (first
        | (at_builtin; refine wpList_appE (E := ESp) (xs := [(p.f, p.t)]) rfl (.tmp 12) (.tmp 15) rfl rfl (base := w.heap.size) rfl (World.ownsRow.alloc HO1.out.own _) rfl rfl (by have hrow := rowE_one (E := ESp) (wr.alloc (ocP p)) (p.f, p.t) #[.int .i64 p.f, .int .i64 p.t] rfl 23; first | exact hrow | (simp at hrow ⊢; exact hrow)) (fun h => by cases h) (by have := HLEN.out; simp; omega) (by have := HO1.out.bel.size; simp at this ⊢; omega) ?_; intro v' w3 hown3 hg3; have HN3 := Lib.hid ((HO1.out.below ((bl _).alloc (Nat.le_refl _) _)).grown hg3 hown3); clear hown3 hg3)
        | go_in)
      exact ⟨⟨t + 1, vs ++ [(p.f, p.t)], by omega, by go_num, NX.out, HN3.out⟩, by simp [intOf] <;> omega⟩
    · obtain rfl : t = n := by omega
      have hlt' : ¬ (t : Int) < (t : Int) := by omega
      have NX := Lib.hid (show vs = l.map spanP by rw [hvs, List.take_of_length_le (by have := HN.out; omega)])
      have HL2 := Lib.hid (show (l.map spanP).length ≤ 400 by rw [List.length_map, HN.out]; exact hn)
      clear hvs hO
      go_wp2_with (go_at_call 47; (with_reducible refine (pmake_cov _ _ _ (by rw [← NX.out]; exact HO.out.list) (Nat.le_trans HL2.out (by omega))).mono ?_); rintro e w3 ⟨x3, rfl, hl3, _, hz3, hb3⟩)
      go_ret
      exact ⟨_, rfl, hl3, Nat.le_trans hz3 (Nat.le_trans HL2.out (by omega)), chain HO.out.bel hb3⟩

end Go.Proofs.YtaoobliajgcdmaaGreat

/-
  How long timelines are; the chapter's example: plain facts.
-/
namespace Go.Proofs.YtaoobliajgcdmaaGreat
open Go.RowKit

theorem steps_made {ts : List Int} {g : Int → Option (List Fd)} (h : Steps ts g) : ∀ i, i < ts.length → ∃ o, MadeT ts g i o
  | 0, _ => ⟨[], MadeT.start h⟩
  | i + 1, hi => by
    obtain ⟨o, ho⟩ := steps_made h i (by omega)
    obtain ⟨f, hf⟩ : ∃ f, ts[i]? = some f := ⟨_, List.getElem?_eq_getElem (by omega)⟩
    obtain ⟨t, ht⟩ : ∃ t, ts[i + 1]? = some t := ⟨_, List.getElem?_eq_getElem hi⟩
    cases hg : g f with
    | none => exact ⟨o, ho.skip h hf ht hg⟩
    | some s => exact ⟨_, ho.next h (p := ⟨f, t, none, 0, s⟩) hf ht hg⟩
theorem steps_exists {ts : List Int} {g : Int → Option (List Fd)} (h : Steps ts g) (hpos : 1 ≤ ts.length) : ∃ o, TL o ∧ (∀ x, fsP o x = g x) ∧ o.length + 1 ≤ ts.length := by
  obtain ⟨o, ho⟩ := steps_made h (ts.length - 1) (by omega)
  obtain ⟨h1, h2⟩ := ho.stop h (by omega)
  exact ⟨o, h1, h2, by have := ho.len; omega⟩
theorem tl_len {a b : List Pc} (ha : TL a) (hb : TL b) (h : ∀ x, fsP a x = fsP b x) : a.length = b.length := by
  have := congrArg List.length (tl_ext ha hb h)
  simpa using this
theorem make_len {a : Int × Int} {l : List Vr} {R : List Pc} (hR : TL R) (h : ∀ x, fsP R x = makeV a l x) : R.length ≤ 2 * l.length + 1 := by
  cases ha : rightP a.1 a.2 with
  | false =>
    have := tl_len hR (b := []) trivial (fun x => by rw [h, makeV_out (fun k => by rw [ha] at k; exact absurd k.1 (by simp))]; rfl)
    simp at this
    rw [this]; simp
  | true =>
    have hs := steps_make (ts := Co.riseL (endsM a l)) ha (Co.riseL_pw _) (fun y => Co.mem_riseL _ y)
    have hp : 1 ≤ (Co.riseL (endsM a l)).length := List.length_pos_of_mem ((Co.mem_riseL _ a.1).2 (by simp [endsM]))
    obtain ⟨o, h1, h2, h3⟩ := steps_exists hs hp
    have e := tl_len hR h1 (fun x => (h x).trans (h2 x).symm)
    have := Co.riseL_length (endsM a l)
    have := endsM_length a l
    omega
theorem splice_len {a : Int × Int} {l m R : List Pc} (hR : TL R) (h : ∀ x, fsP R x = spliceG a l m x) : R.length ≤ 2 * l.length + 2 * m.length + 1 := by
  cases hl : (rightT l && rightT m) with
  | false =>
    have := tl_len hR (b := []) trivial (fun x => by rw [h, spliceG, hl]; rfl)
    simp at this
    rw [this]; simp
  | true =>
    have hl2 := hl
    rw [Bool.and_eq_true, rightT_iff, rightT_iff] at hl2
    cases ha : rightP a.1 a.2 with
    | false =>
      have := tl_len hR hl2.1 (fun x => by rw [h, spliceG, hl, ha]; rfl)
      omega
    | true =>
      have hs := steps_splice (ts := Co.riseL (endsS a l m)) ha hl2.1 hl2.2 (Co.riseL_pw _) (fun y => Co.mem_riseL _ y)
      have hp : 1 ≤ (Co.riseL (endsS a l m)).length := List.length_pos_of_mem ((Co.mem_riseL _ a.1).2 (by simp [endsS]))
      obtain ⟨o, h1, h2, h3⟩ := steps_exists hs hp
      have e := tl_len hR h1 (fun x => by rw [h, h2, spliceG, hl, ha]; rfl)
      have := Co.riseL_length (endsS a l m)
      have := endsS_length a l m
      omega

/-! The example. -/
def exF1 : Fd := ⟨⟨#[97]⟩, 1⟩
def exF2 : Fd := ⟨⟨#[97]⟩, 2⟩
def exT1 (A : Option Addr) : Vr := ⟨0, 1, ⟨#[]⟩, 0, 6, A, 1, [exF1], false⟩
def exT2 (A : Option Addr) : Vr := ⟨0, 2, ⟨#[]⟩, 4, 8, A, 1, [exF2], false⟩
def exP1 (A : Option Addr) : Pc := ⟨0, 4, A, 1, [exF1]⟩
def exP2 (A : Option Addr) : Pc := ⟨4, 8, A, 1, [exF2]⟩
theorem ex_of1 (A : Option Addr) : ofL [exT1 A] = [exF1] := by rfl
theorem ex_of2 (B : Option Addr) : ofL [exT2 B] = [exF2] := by rfl
theorem ex_of12 (A B : Option Addr) : ofL [exT1 A, exT2 B] = [exF2] := by rfl
theorem ex_c1 (A : Option Addr) (x : Int) : coversB (exT1 A) x = true ↔ 0 ≤ x ∧ x < 6 := by
  rw [covers_iff]
  show (false = false ∧ rightP 0 6 = true ∧ 0 ≤ x ∧ x < 6) ↔ _
  have : rightP 0 6 = true := by decide
  simp [this]
theorem ex_c2 (B : Option Addr) (x : Int) : coversB (exT2 B) x = true ↔ 4 ≤ x ∧ x < 8 := by
  rw [covers_iff]
  show (false = false ∧ rightP 4 8 = true ∧ 4 ≤ x ∧ x < 8) ↔ _
  have : rightP 4 8 = true := by decide
  simp [this]
theorem ex_h1 (C : Option Addr) (x : Int) : hasP (exP1 C) x = true ↔ 0 ≤ x ∧ x < 4 := by
  rw [hasP_iff]
  show ((-1099511627776 ≤ (0 : Int) ∧ (4 : Int) ≤ 1099511627776 ∧ (0 : Int) < 4) ∧ 0 ≤ x ∧ x < 4) ↔ _
  omega
theorem ex_h2 (D : Option Addr) (x : Int) : hasP (exP2 D) x = true ↔ 4 ≤ x ∧ x < 8 := by
  rw [hasP_iff]
  show ((-1099511627776 ≤ (4 : Int) ∧ (8 : Int) ≤ 1099511627776 ∧ (4 : Int) < 8) ∧ 4 ≤ x ∧ x < 8) ↔ _
  omega
theorem ex_make (A B C D : Option Addr) (x : Int) : makeV (0, 10) [exT1 A, exT2 B] x = fsP [exP1 C, exP2 D] x := by
  by_cases hin : 0 ≤ x ∧ x < 10
  · rw [makeV_in (a := ((0 : Int), (10 : Int))) (by decide) hin.1 hin.2]
    by_cases h4 : x < 4
    · have c1 : coversB (exT1 A) x = true := (ex_c1 A x).2 (by omega)
      have c2 : coversB (exT2 B) x = false := by rw [Bool.eq_false_iff, ne_eq, ex_c2]; omega
      have e : atL x [exT1 A, exT2 B] = [exF1] := by
        rw [atL, List.filter_cons, c1, List.filter_cons, c2]; exact ex_of1 A
      rw [e, fsP, valP, if_pos ((ex_h1 C x).2 (by omega))]
      simp only [List.any_cons, c1, Bool.true_or]
      rfl
    · have h1 : ¬ hasP (exP1 C) x = true := by rw [ex_h1]; omega
      by_cases h6 : x < 6
      · have c1 : coversB (exT1 A) x = true := (ex_c1 A x).2 (by omega)
        have c2 : coversB (exT2 B) x = true := (ex_c2 B x).2 (by omega)
        have e : atL x [exT1 A, exT2 B] = [exF2] := by
          rw [atL, List.filter_cons, c1, List.filter_cons, c2]; exact ex_of12 A B
        rw [e, fsP, valP, if_neg h1, valP, if_pos ((ex_h2 D x).2 (by omega))]
        simp only [List.any_cons, c1, Bool.true_or]
        rfl
      · have c1 : coversB (exT1 A) x = false := by rw [Bool.eq_false_iff, ne_eq, ex_c1]; omega
        by_cases h8 : x < 8
        · have c2 : coversB (exT2 B) x = true := (ex_c2 B x).2 (by omega)
          have e : atL x [exT1 A, exT2 B] = [exF2] := by
            rw [atL, List.filter_cons, c1, List.filter_cons, c2]; exact ex_of2 B
          rw [e, fsP, valP, if_neg h1, valP, if_pos ((ex_h2 D x).2 (by omega))]
          simp only [List.any_cons, c1, c2, Bool.false_or, Bool.true_or]
          rfl
        · have c2 : coversB (exT2 B) x = false := by rw [Bool.eq_false_iff, ne_eq, ex_c2]; omega
          have h2 : ¬ hasP (exP2 D) x = true := by rw [ex_h2]; omega
          rw [fsP, valP, if_neg h1, valP, if_neg h2]
          simp only [List.any_cons, c1, c2, List.any_nil, Bool.or_false]
          rfl
  · rw [makeV_out (a := ((0 : Int), (10 : Int))) (fun h => hin ⟨h.2.1, h.2.2⟩)]
    exact (fsP_none fun p hp hh => by
      rcases List.mem_cons.1 hp with rfl | hp
      · rw [ex_h1] at hh; omega
      · obtain rfl := List.mem_singleton.1 hp
        rw [ex_h2] at hh; omega).symm
theorem ex_tl (A B : Option Addr) : TL [exP1 A, exP2 B] := ⟨by show rightP 0 4 = true; decide, ⟨Int.le_refl _, fun _ h => by cases h⟩, by show rightP 4 8 = true; decide⟩

end Go.Proofs.YtaoobliajgcdmaaGreat

/-
  The chapter's example of timelines.
-/
namespace Go.Proofs.YtaoobliajgcdmaaGreat
open Go.RowKit

abbrev ocF1 (v : Int) : Obj := .cells #[.string ⟨#[97]⟩, .int .i64 v] 60
theorem fields_oneT (w : World) (v : Int) : Fields (w.alloc (ocF1 v)) (some ⟨w.heap.size, 0, none⟩) [⟨⟨#[97]⟩, v⟩] := fun i f hf => by
  rcases i with _ | i
  · obtain rfl : (⟨⟨#[97]⟩, v⟩ : Fd) = f := by simpa using hf
    exact ⟨w.heap.size, 0, rfl, by simp [go_sem], by simp [go_sem]⟩
  · simp at hf
abbrev exA1 (w : World) : Option Addr := some ⟨w.heap.size, 0, none⟩
abbrev exA2 (w : World) : Option Addr := some ⟨w.heap.size + 1, 0, none⟩
abbrev exW (w : World) : World := (w.alloc (ocF1 1)).alloc (ocF1 2)
theorem ex_below (w : World) : Below w.heap.size w (exW w) := ((bl w).alloc (Nat.le_refl _) _).alloc (by simp) _
theorem ex_fields (w : World) : Fields (exW w) (exA1 w) [exF1] ∧ Fields (exW w) (exA2 w) [exF2] := by
  refine ⟨(fields_oneT w 1).below ((bl _).alloc (Nat.le_refl _) _), ?_⟩
  have h := fields_oneT (w.alloc (ocF1 1)) 2
  rwa [show (w.alloc (ocF1 1)).heap.size = w.heap.size + 1 by simp] at h
abbrev ocV2 (w : World) : Obj := .cells #[.int .i64 0, .int .i64 1, .string ⟨#[]⟩, .int .i64 0, .int .i64 6, .slice (exA1 w) 1 1, .bool false, .int .i64 0, .int .i64 2, .string ⟨#[]⟩, .int .i64 4, .int .i64 8, .slice (exA2 w) 1 1, .bool false] 50
theorem ex_versT (w : World) : VersL ((exW w).alloc (ocV2 w)) (.slice (some ⟨w.heap.size + 1 + 1, 0, none⟩) 2 2) [exT1 (exA1 w), exT2 (exA2 w)] := by
  have h := listE_new (E := EV) (exW w) [exT1 (exA1 w), exT2 (exA2 w)] 50
  rw [show (exW w).heap.size = w.heap.size + 1 + 1 by simp] at h
  refine ⟨h, fun v hv => ?_⟩
  rcases List.mem_cons.1 hv with rfl | hv
  · exact ⟨(ex_fields w).1.below ((bl _).alloc (Nat.le_refl _) _), Nat.le_refl _, fun h => by cases h⟩
  · obtain rfl := List.mem_singleton.1 hv
    exact ⟨(ex_fields w).2.below ((bl _).alloc (Nat.le_refl _) _), Nat.le_refl _, fun h => by cases h⟩
theorem ex_few (A B : Option Addr) : fewV [exT1 A, exT2 B] := ⟨by simp, fun v hv => by
  rcases List.mem_cons.1 hv with rfl | hv
  · show (1 : Nat) ≤ 100; omega
  · obtain rfl := List.mem_singleton.1 hv
    show (1 : Nat) ≤ 100; omega⟩
theorem ex_ok (A B : Option Addr) : ∀ v ∈ [exT1 A, exT2 B], okF v.fs := fun v hv f hf => by
  rcases List.mem_cons.1 hv with rfl | hv
  · obtain rfl := List.mem_singleton.1 hf
    show (1 : Nat) ≤ _; decide
  · obtain rfl := List.mem_singleton.1 hv
    obtain rfl := List.mem_singleton.1 hf
    show (1 : Nat) ≤ _; decide
abbrev ocP2 (w : World) : Obj := .cells #[.int .i64 0, .int .i64 4, .slice (exA1 w) 1 1, .int .i64 4, .int .i64 8, .slice (exA2 w) 1 1] 62
theorem ex_pcs (w w1 : World) (hb : Below (exW w).heap.size (exW w) w1) : PcsL (w1.alloc (ocP2 w)) (.slice (some ⟨w1.heap.size, 0, none⟩) 2 2) [exP1 (exA1 w), exP2 (exA2 w)] := by
  refine ⟨listE_new (E := EP) w1 [exP1 (exA1 w), exP2 (exA2 w)] 62, fun v hv => ?_⟩
  rcases List.mem_cons.1 hv with rfl | hv
  · exact ⟨((ex_fields w).1.below hb).below ((bl _).alloc (Nat.le_refl _) _), Nat.le_refl _, fun h => by cases h⟩
  · obtain rfl := List.mem_singleton.1 hv
    exact ⟨((ex_fields w).2.below hb).below ((bl _).alloc (Nat.le_refl _) _), Nat.le_refl _, fun h => by cases h⟩

set_option maxHeartbeats 4000000 in
set_option maxRecDepth 100000 in
theorem alive11_any (w : World) : Ret 10 #[] w (.bool true) := by
  have CM := Lib.hid (ptmake_any _ (0, 10) _ _ (ex_versT w) (ex_few _ _) (ex_ok _ _))
  have HB3 := Lib.hid (show Below (exW w).heap.size (exW w) ((exW w).alloc (ocV2 w)) from (bl _).alloc (Nat.le_refl _) _)
  have CS := Lib.hid (show ∀ (w1 : World) (x : Value), Below (exW w).heap.size (exW w) w1 → HasTL w1 x (makeV (0, 10) [exT1 (exA1 w), exT2 (exA2 w)]) → Ret 12 #[x, .slice (some ⟨w1.heap.size, 0, none⟩) 2 2] (w1.alloc (ocP2 w)) (.bool true) from fun w1 x hb ⟨R, hR⟩ => by
    have hf := hR.few (makeV_few (ex_few _ _))
    have := dtsame_any (w1.alloc (ocP2 w)) x _ R _ (hR.pcs.below ((bl _).alloc (Nat.le_refl _) _)) (ex_pcs w w1 hb) (by have := hR.len; omega) (fun p hp => by have := hf p hp; omega) (fun p hp => by
      rcases List.mem_cons.1 hp with rfl | hp
      · show (1 : Nat) ≤ _; decide
      · obtain rfl := List.mem_singleton.1 hp
        show (1 : Nat) ≤ _; decide)
    rwa [tl_same hR.tl (ex_tl _ _) (fun x => (hR.fs x).trans (ex_make _ _ _ _ x))] at this)
  have HBW := Lib.hid (ex_below w)
  go_enter Tryz.func10, Tryz.ntmps10
  go_wp2_with (first
    | (go_at_call 11; (with_reducible refine CM.out.mono ?_); rintro e w2 ⟨x, rfl, hx, hb2⟩; have HX := Lib.hid hx; have hb3 := chain HB3.out hb2; have HB4 := Lib.hid hb3; clear hx hb2 hb3)
    | (go_at_call 12; (with_reducible refine (CS.out _ _ HB4.out HX.out).mono ?_); rintro e w3 ⟨rfl, hb3⟩))
  go_ret
  exact ⟨rfl, (chain HBW.out HB4.out).trans ((((bl w2).alloc (Nat.le_refl _) _).trans (hb3.mono (by simp))).mono (chain HBW.out HB4.out).size)⟩

end Go.Proofs.YtaoobliajgcdmaaGreat

/-
  TimelineMakes, TimelineTells and TimelineTurns give back true.
-/
namespace Go.Proofs.YtaoobliajgcdmaaGreat
open Go.RowKit

theorem few60 {l : List Vr} (h : fewB l 60 = true) : fewV l ∧ l.length ≤ 60 := by
  refine ⟨few_of h (by decide), ?_⟩
  unfold fewB at h
  rw [Bool.and_eq_true, decide_eq_true_eq] at h
  omega

set_option maxHeartbeats 4000000 in
set_option maxRecDepth 100000 in
theorem makes11_walk (a : Int × Int) (u : Value) (l : List Vr) (w : World) (hl : VersL w u l) (hok : ∀ v ∈ l, okF v.fs) (hn : l.length ≤ 9223372036854775807) : Ret 3 #[.agg #[.int .i64 a.1, .int .i64 a.2], u] w (.bool true) := by
  have CAL := Lib.hid alive11_any
  have CF := Lib.hid (fun w' (h : Below w.heap.size w w') => dfew_any w' u l 60 (hl.below h).1 hn)
  have HB1 := Lib.hid (show Below w.heap.size w (w.alloc (ocS a.1 a.2)) from (bl w).alloc (Nat.le_refl _) _)
  have HS1 := Lib.hid (boxS_new w a.1 a.2)
  cases hf : fewB l 60 with
  | false =>
    rw [hf] at CF
    clear hf hl hok hn
    go_enter Tryz.func3, Tryz.ntmps3
    go_wp2_with (first
      | (go_at_call 9; (with_reducible refine (CF.out _ HB1.out).mono ?_); rintro e w1 ⟨rfl, hw1⟩; obtain rfl := hw1.symm)
      | (go_at_call 10; (with_reducible refine (CAL.out _).mono ?_); rintro e w2 ⟨rfl, hb2⟩))
    go_ret
    exact ⟨rfl, chain HB1.out hb2⟩
  | true =>
    obtain ⟨hfew, h60⟩ := few60 hf
    rw [hf] at CF
    have CP := Lib.hid (fun w' (h : Below w.heap.size w w') => ptmake_any w' a u l (hl.below h) hfew hok)
    have CD := Lib.hid (fun w' (h : Below w.heap.size w w') => dtmake_any w' a u l (hl.below h) hfew)
    have CS := Lib.hid (show ∀ w' x y, HasTL w' x (makeV a l) → HasTL w' y (makeV a l) → Ret 12 #[x, y] w' (.bool true) from fun w' x y ⟨R, hR⟩ ⟨Q, hQ⟩ => by
      have hf := hR.few (makeV_few hfew)
      have hq := hQ.few (makeV_few hfew)
      have := dtsame_any w' x y R Q hR.pcs hQ.pcs (by have := hR.len; omega) (fun p hp => by have := hf p hp; omega) (fun p hp => by have := hq p hp; omega)
      rwa [timel_same hR hQ] at this)
    have CR := Lib.hid (show ∀ w' x, HasTL w' x (makeV a l) → Ret 14 #[x] w' (.bool true) from fun w' x ⟨R, hR⟩ => by
      have hf := hR.few (makeV_few hfew)
      have := ptright_any w' x R hR.pcs hR.len (fun p hp => by have := hf p hp; omega)
      rwa [(rightT_iff R).2 hR.tl] at this)
    have KB := Lib.hid (show ∀ w' w'' x, HasTL w' x (makeV a l) → Below w'.heap.size w' w'' → HasTL w'' x (makeV a l) from fun w' w'' x ⟨R, hR⟩ h => ⟨R, hR.below h⟩)
    clear hf hl hok hn hfew h60
    go_enter Tryz.func3, Tryz.ntmps3
    go_wp2_with (first
      | (go_at_call 9; (with_reducible refine (CF.out _ HB1.out).mono ?_); rintro e w1 ⟨rfl, hw1⟩; obtain rfl := hw1.symm)
      | (go_at_call 11; (with_reducible refine (CP.out _ HB1.out).mono ?_); rintro e w2 ⟨x2, rfl, hx2, hb2⟩; have HX2 := Lib.hid hx2; have HC2 := Lib.hid (chain HB1.out hb2); obtain ⟨y0, y1⟩ := HS1.out.below hb2; clear hx2)
      | (go_at_call 13; (with_reducible refine (CD.out _ HC2.out).mono ?_); rintro e w3 ⟨x3, rfl, hx3, hb3⟩; have HX3 := Lib.hid hx3; have HY3 := Lib.hid (KB.out _ _ _ HX2.out hb3); have HC3 := Lib.hid (chain HC2.out hb3); clear hx3)
      | (go_at_call 12; (with_reducible refine (CS.out _ _ _ HY3.out HX3.out).mono ?_); rintro e w4 ⟨rfl, hb4⟩; have HY4 := Lib.hid (KB.out _ _ _ HY3.out hb4); have HC4 := Lib.hid (chain HC3.out hb4))
      | (go_at_call 14; (with_reducible refine (CR.out _ _ HY4.out).mono ?_); rintro e w5 ⟨rfl, hb5⟩; have HC5 := Lib.hid (chain HC4.out hb5))
      | (go_at_call 10; (with_reducible refine (CAL.out _).mono ?_); rintro e w6 ⟨rfl, hb6⟩; have HC6 := Lib.hid (chain HC5.out hb6)))
    go_ret
    exact ⟨rfl, HC6.out⟩

set_option maxHeartbeats 4000000 in
set_option maxRecDepth 100000 in
theorem tells11_walk (u u' : Value) (l m : List Pc) (x : Int) (w : World) (hl : PcsL w u l) (hm : PcsL w u' m) (hn : l.length ≤ 9223372036854775807) (hnm : m.length ≤ 9223372036854775807) : Ret 4 #[u, u', .int .i64 x] w (.bool true) := by
  have CAL := Lib.hid alive11_any
  have CF := Lib.hid (fun w' (h : Below w.heap.size w w') => dtfew_any w' u l 60 (hl.below h).1 hn)
  have CG := Lib.hid (fun w' (h : Below w.heap.size w w') => dtfew_any w' u' m 60 (hm.below h).1 hnm)
  cases hf : fewP l 60 with
  | false =>
    rw [hf] at CF
    clear hf hl hm hn hnm CG
    go_enter Tryz.func4, Tryz.ntmps4
    go_wp2_with (first
      | (go_at_call 15; (with_reducible refine (CF.out _ (bl w)).mono ?_); rintro e w1 ⟨rfl, hw1⟩; obtain rfl := hw1.symm)
      | (go_at_call 10; (with_reducible refine (CAL.out _).mono ?_); rintro e w2 ⟨rfl, hb2⟩))
    go_ret
    exact ⟨rfl, hb2⟩
  | true =>
    rw [hf] at CF
    cases hg : fewP m 60 with
    | false =>
      rw [hg] at CG
      clear hf hg hl hm hn hnm
      go_enter Tryz.func4, Tryz.ntmps4
      go_wp2_with (first
        | (go_at_call 15; (with_reducible refine (CF.out _ (bl w)).mono ?_); rintro e w1 ⟨rfl, hw1⟩; obtain rfl := hw1.symm)
        | (go_at_call 15; (with_reducible refine (CG.out _ (bl w)).mono ?_); rintro e w1 ⟨rfl, hw1⟩; obtain rfl := hw1.symm)
        | (go_at_call 10; (with_reducible refine (CAL.out _).mono ?_); rintro e w2 ⟨rfl, hb2⟩))
      go_ret
      exact ⟨rfl, hb2⟩
    | true =>
      rw [hg] at CG
      obtain ⟨h1, h2⟩ := few_pieces hf
      obtain ⟨k1, k2⟩ := few_pieces hg
      have CP1 := Lib.hid (fun w' (h : Below w.heap.size w w') => ptat_any w' u l x (hl.below h) (by omega) (fun p hp => by have := h2 p hp; omega))
      have CD1 := Lib.hid (show ∀ w', Below w.heap.size w w' → Calls Tryz.prog 17 #[u, .int .i64 x] w' fun e w'' => ∃ y, e = .returned (.tuple #[y, .bool (fsP l x).isSome]) ∧ ListF w'' y (firstF l x) ∧ Below w'.heap.size w' w'' from fun w' h => (dtat_any w' u l x (hl.below h) (by omega)).mono fun e w'' ⟨A, c, he, hd, hb⟩ => ⟨_, he, (hd.pf (fun p hp => ((hl.2 p hp).below (chain h hb))) 0 0).list, hb⟩)
      have CP2 := Lib.hid (fun w' (h : Below w.heap.size w w') => ptright_any w' u l (hl.below h) (by omega) (fun p hp => by have := h2 p hp; omega))
      have CD2 := Lib.hid (fun w' (h : Below w.heap.size w w') => dtright_any w' u l (hl.below h) (by omega) (fun p hp => by have := h2 p hp; omega))
      have CP3 := Lib.hid (fun w' (h : Below w.heap.size w w') => ptknown_any w' u l (hl.below h) (by omega))
      have CD3 := Lib.hid (fun w' (h : Below w.heap.size w w') => dknown_any w' u l (hl.below h) (by omega))
      have CP4 := Lib.hid (fun w' (h : Below w.heap.size w w') => ptsame_any w' u u' l m (hl.below h) (hm.below h) (by omega) (fun p hp => by have := h2 p hp; omega) (fun p hp => by have := k2 p hp; omega))
      have CD4 := Lib.hid (fun w' (h : Below w.heap.size w w') => dtsame_any w' u u' l m (hl.below h) (hm.below h) (by omega) (fun p hp => by have := h2 p hp; omega) (fun p hp => by have := k2 p hp; omega))
      have hsz : (firstF l x).length ≤ 1000 := by
        unfold firstF
        cases hfs : fsP l x with
        | none => exact Nat.zero_le _
        | some s => have := fs_small h2 hfs; show s.length ≤ _; omega
      generalize firstF l x = s at *
      generalize (fsP l x).isSome = is at *
      generalize rightT l = r at *
      generalize sameP l m = sm at *
      generalize covL (l.map spanP) = L at *
      have CSF := Lib.hid (show ∀ w' y z, ListF w' y s → ListF w' z s → Ret 19 #[y, z] w' (.bool true) from fun w' y z hy hz => by
        have := dsamel_any w' y z s s hy hz (by omega) (by omega)
        rwa [sameF_self] at this)
      have CSS := Lib.hid (show ∀ w' y z, ListE ESp w' y L → ListE ESp w' z L → L.length ≤ 1000 → Ret 20 #[y, z] w' (.bool true) from fun w' y z hy hz hlen => by
        have := dsames_any w' y z L L hy hz (by omega)
        rwa [decide_eq_true rfl] at this)
      clear hf hg hl hm hn hnm h1 h2 k1 k2 hsz
      go_enter Tryz.func4, Tryz.ntmps4
      go_wp2_with (first
        | (go_at_call 15; (with_reducible refine (CF.out _ (bl w)).mono ?_); rintro e w1 ⟨rfl, hw1⟩; obtain rfl := hw1.symm)
        | (go_at_call 15; (with_reducible refine (CG.out _ (bl w)).mono ?_); rintro e w1 ⟨rfl, hw1⟩; obtain rfl := hw1.symm)
        | (go_at_call 16; (with_reducible refine (CP1.out _ (bl w)).mono ?_); rintro e w2 ⟨x2, rfl, hx2, hb2⟩; have HX2 := Lib.hid hx2; have HC2 := Lib.hid hb2; clear hx2 hb2)
        | (go_at_call 17; (with_reducible refine (CD1.out _ HC2.out).mono ?_); rintro e w3 ⟨x3, rfl, hx3, hb3⟩; have HX3 := Lib.hid hx3; have HY3 := Lib.hid (HX2.out.below hb3); have HC3 := Lib.hid (chain HC2.out hb3); clear hx3 hb3)
        | (go_at_call 14; (with_reducible refine (CP2.out _ HC3.out).mono ?_); rintro e w4 ⟨rfl, hb4⟩; have HX4 := Lib.hid (HX3.out.below hb4); have HY4 := Lib.hid (HY3.out.below hb4); have HC4 := Lib.hid (chain HC3.out hb4); clear hb4)
        | (go_at_call 18; (with_reducible refine (CD2.out _ HC4.out).mono ?_); rintro e w5 ⟨rfl, hb5⟩; have HX5 := Lib.hid (HX4.out.below hb5); have HY5 := Lib.hid (HY4.out.below hb5); have HC5 := Lib.hid (chain HC4.out hb5); clear hb5)
        | (go_at_call 19; (with_reducible refine (CSF.out _ _ _ HY5.out HX5.out).mono ?_); rintro e w6 ⟨rfl, hb6⟩; have HC6 := Lib.hid (chain HC5.out hb6); clear hb6)
        | (go_at_call 21; (with_reducible refine (CP3.out _ HC6.out).mono ?_); rintro e w7 ⟨x7, rfl, hx7, hz7, hb7⟩; have HX7 := Lib.hid hx7; have HZ7 := Lib.hid hz7; have HC7 := Lib.hid (chain HC6.out hb7); clear hx7 hb7 hz7)
        | (go_at_call 22; (with_reducible refine (CD3.out _ HC7.out).mono ?_); rintro e w8 ⟨x8, rfl, hx8, _, hb8⟩; have HX8 := Lib.hid hx8; have HY8 := Lib.hid (HX7.out.below hb8); have HC8 := Lib.hid (chain HC7.out hb8); clear hx8 hb8)
        | (go_at_call 20; (with_reducible refine (CSS.out _ _ _ HY8.out HX8.out HZ7.out).mono ?_); rintro e w9 ⟨rfl, hb9⟩; have HC9 := Lib.hid (chain HC8.out hb9); clear hb9)
        | (go_at_call 23; (with_reducible refine (CP4.out _ HC9.out).mono ?_); rintro e w10 ⟨rfl, hb10⟩; have HC10 := Lib.hid (chain HC9.out hb10); clear hb10)
        | (go_at_call 12; (with_reducible refine (CD4.out _ HC10.out).mono ?_); rintro e w11 ⟨rfl, hb11⟩; have HC11 := Lib.hid (chain HC10.out hb11); clear hb11)
        | (go_at_call 10; (with_reducible refine (CAL.out _).mono ?_); rintro e w12 ⟨rfl, hb12⟩; have HC12 := Lib.hid (chain HC11.out hb12); clear hb12))
      go_ret
      exact ⟨rfl, HC12.out⟩

end Go.Proofs.YtaoobliajgcdmaaGreat

/-
  An argument that is a list of fields, or a list of lists of fields.
-/
namespace Go.Proofs.YtaoobliajgcdmaaGreat
open Go.ChangeShapes Go.WideShapes Go.ChangeAt Go.RowKit Go.Joins Go.ChangeMaps Go.Deep

theorem Tryz.own : ownKnob Tryz.prog.godebug = none := by kernel_rfl
theorem Tryz.laidOut : laidOutB Tryz.prog = true := by kernel_rfl
theorem Tryz.cellsField : Tryz.prog.cellsOf 60 = 2 := by kernel_rfl
theorem Tryz.cells3i : Tryz.prog.cellsOf 3 = 1 := by kernel_rfl
theorem Tryz.cells3s : Tryz.prog.cellsOf 9 = 1 := by kernel_rfl
theorem Tryz.cells3l : Tryz.prog.cellsOf 34 = 1 := by kernel_rfl

instance : Inhabited Fd := ⟨⟨⟨#[]⟩, 0⟩⟩
theorem plain_of_cell {w : World} {a : Addr} {v : Value} (h : w.cell? (a.add 0) = some v) : a = ⟨a.block, a.off, none⟩ := by
  obtain ⟨b, off, spot⟩ := a
  have hs : spot = none := by simpa [Addr.add] using World.cell?_spot h
  subst hs
  rfl
/-- Fields that may be. -/
def wellF (l : List Fd) : Prop := ∀ f ∈ l, (-9223372036854775808 ≤ f.v ∧ f.v ≤ 9223372036854775807) ∧ f.n.size ≤ 9223372036854775807
theorem int_of_wf {n : Int} (h : (Lit.int .i64 n).wf = true) : -9223372036854775808 ≤ n ∧ n ≤ 9223372036854775807 := by
  have h1 : IntKind.i64.min = -9223372036854775808 := rfl
  have h2 : IntKind.i64.max = 9223372036854775807 := rfl
  simp only [Lit.wf, Bool.and_eq_true, decide_eq_true_eq] at h
  omega
section
variable {H : Type} {enc : TypeId × Value → H} {W : World} {r : Reach} {base : Nat}

set_option maxRecDepth 100000 in
theorem fields_of {fuel : Nat} {v : Value} {x : DataW H × List MemPlace} (hf : DataW.trod enc Tryz.prog W 0 (fun _ => true) true fuel 34 [v] = some x) :
    ∃ l, ListF W v l ∧ wellF l ∧ l.length ≤ 9223372036854775807 := by
  rcases open_slice Tryz.underlying34 hf with ⟨hcs, _⟩ | ⟨a, len', cap', m, n, D, Pl, hcs, _, hl, hmx, hm, _, hx⟩
  · obtain rfl : v = .slice none 0 0 := by simpa using hcs
    exact ⟨[], ⟨none, 0, rfl, Fields.nil _ _, Nat.le_refl _, fun _ => rfl⟩, fun f hf => by simp at hf, by simp⟩
  · obtain rfl : v = .slice (some a) len' cap' := by simpa using hcs
    simp only [if_true] at hm
    subst hm
    have each : ∀ i, i < len' → ∃ q : Fd, W.cell? (a.add (i * 2)) = some (.string q.n) ∧ W.cell? (a.add (i * 2 + 1)) = some (.int .i64 q.v) ∧ (-9223372036854775808 ≤ q.v ∧ q.v ≤ 9223372036854775807) ∧ q.n.size ≤ 9223372036854775807 := by
      intro i hi
      obtain ⟨cs', h1, h2⟩ := hx i (by omega)
      rw [Tryz.cellsField] at h1
      obtain ⟨_, hlen, hcell⟩ := World.cells?_some h1
      obtain ⟨xs, k, hk, hxy, _, hxl, hf⟩ := DataW.trod_struct Tryz.underlying60 h2
      match xs, hxl, cs', hlen with
      | [y0, y1], _, [v0, v1], _ =>
        have g0 := hf 0 _ rfl
        have g1 := hf 1 _ rfl
        simp [Tryz.cells3i, Tryz.cells3s] at g0 g1
        obtain ⟨s, e0, _, hz⟩ := DataW.trod_string Tryz.underlying9 g0
        obtain ⟨x, e1, _, hw⟩ := DataW.trod_int Tryz.underlying3 g1
        simp at e0 e1
        subst e0 e1
        have f0 := hcell 0 (by omega)
        have f1 := hcell 1 (by omega)
        rw [add_add] at f0 f1
        exact ⟨⟨s, x⟩, by simpa using f0, by simpa using f1, int_of_wf hw, by unfold maxLen at hz; omega⟩
    obtain ⟨q, hq⟩ := choose_lt each
    refine ⟨(List.range len').map q, ⟨some a, m, by simp, fun i x hxx => ?_, by simpa using hl, by simp⟩, fun x hxx => ?_, by simp; unfold maxLen at hmx; omega⟩
    · have hi : i < len' := by
        rcases Nat.lt_or_ge i len' with hlt | hge
        · exact hlt
        · rw [List.getElem?_eq_none (by simpa using hge)] at hxx
          cases hxx
      obtain rfl : q i = x := by
        rw [List.getElem?_map, List.getElem?_range hi] at hxx
        simpa using hxx
      obtain ⟨z0, _⟩ := hq 0 (by omega)
      have ha := plain_of_cell (by simpa using z0)
      obtain ⟨c0, c1, _⟩ := hq i hi
      rw [ha, Go.WideShapes.add_plain] at c0 c1
      exact ⟨a.block, a.off, by rw [← ha], c0, by rw [Nat.add_assoc]; exact c1⟩
    · obtain ⟨i, hi, rfl⟩ := List.mem_map.1 hxx
      exact (hq i (List.mem_range.1 hi)).2.2

set_option maxRecDepth 100000 in
theorem arg_fields {v : Value} {d : DataW H} {p : List MemPlace} (hv : Value.okWide Tryz.prog W r base 34 v) (h : DataW.Trod enc Tryz.prog W 0 (fun _ => true) true 34 v d p) :
    ∃ l, ListF W v l ∧ wellF l ∧ l.length ≤ 9223372036854775807 := by
  obtain ⟨A, len, cap, rfl⟩ := okWide_slice Tryz.underlying34 hv
  obtain ⟨fuel, hf⟩ := h
  exact fields_of (by simpa [Value.cells] using hf)

set_option maxRecDepth 100000 in
theorem arg_rows {v : Value} {d : DataW H} {p : List MemPlace} (hv : Value.okWide Tryz.prog W r base 108 v) (h : DataW.Trod enc Tryz.prog W 0 (fun _ => true) true 108 v d p) :
    ∃ A c L, v = .slice A (L : List (List Fd)).length c ∧ RowsF W A L ∧ (∀ l ∈ L, wellF l ∧ l.length ≤ 9223372036854775807) ∧ L.length ≤ 9223372036854775807 := by
  obtain ⟨A, len, cap, rfl⟩ := okWide_slice Tryz.underlying108 hv
  obtain ⟨fuel, hf⟩ := h
  rcases open_slice Tryz.underlying108 hf with ⟨hcs, _⟩ | ⟨a, len', cap', m, n, D, Pl, hcs, _, hl, hmx, hm, _, hx⟩
  · simp [Value.cells] at hcs
    obtain ⟨rfl, rfl, rfl⟩ := hcs
    exact ⟨none, 0, [], rfl, fun i l h => by simp at h, by simp, by simp⟩
  · simp [Value.cells] at hcs
    obtain ⟨rfl, rfl, rfl⟩ := hcs
    simp only [if_true] at hm
    subst hm
    have each : ∀ i, i < len → ∃ q : Value × List Fd, W.cell? (a.add i) = some q.1 ∧ ListF W q.1 q.2 ∧ wellF q.2 ∧ q.2.length ≤ 9223372036854775807 := by
      intro i hi
      obtain ⟨cs', h1, h2⟩ := hx i (by omega)
      rw [Tryz.cells3l] at h1
      obtain ⟨_, hlen, hcell⟩ := World.cells?_some h1
      match cs', hlen with
      | [v0], _ =>
        obtain ⟨l, k1, k2, k3⟩ := fields_of h2
        have f0 := hcell 0 (by omega)
        rw [add_add] at f0
        exact ⟨(v0, l), by simpa using f0, k1, k2, k3⟩
    obtain ⟨q, hq⟩ := choose_lt each
    refine ⟨some a, m, (List.range len).map fun i => (q i).2, by simp, fun i x hxx => ?_, fun x hxx => ?_, by simp; unfold maxLen at hmx; omega⟩
    · have hi : i < len := by
        rcases Nat.lt_or_ge i len with hlt | hge
        · exact hlt
        · rw [List.getElem?_eq_none (by simpa using hge)] at hxx
          cases hxx
      obtain rfl : (q i).2 = x := by
        rw [List.getElem?_map, List.getElem?_range hi] at hxx
        simpa using hxx
      obtain ⟨z0, _⟩ := hq 0 (by omega)
      have ha := plain_of_cell z0
      obtain ⟨c0, c1, _⟩ := hq i hi
      rw [ha, Go.WideShapes.add_plain] at c0
      exact ⟨a.block, a.off, (q i).1, by rw [← ha], c0, c1⟩
    · obtain ⟨i, hi, rfl⟩ := List.mem_map.1 hxx
      exact ⟨(hq i (List.mem_range.1 hi)).2.2.1, (hq i (List.mem_range.1 hi)).2.2.2⟩

end

end Go.Proofs.YtaoobliajgcdmaaGreat

/-
  An argument that is a list of versions.
-/
namespace Go.Proofs.YtaoobliajgcdmaaGreat
open Go.ChangeShapes Go.WideShapes Go.ChangeAt Go.RowKit Go.Joins Go.ChangeMaps Go.Deep

theorem Tryz.cellsVersion : Tryz.prog.cellsOf 50 = 7 := by kernel_rfl
theorem Tryz.cellsSpan : Tryz.prog.cellsOf 23 = 2 := by kernel_rfl
theorem Tryz.cells3b : Tryz.prog.cellsOf 4 = 1 := by kernel_rfl
instance : Inhabited Vr := ⟨⟨0, 0, ⟨#[]⟩, 0, 0, none, 0, [], false⟩⟩

section
variable {H : Type} {enc : TypeId × Value → H} {W : World} {r : Reach} {base : Nat}

set_option maxRecDepth 100000 in
theorem arg_vers {v : Value} {d : DataW H} {p : List MemPlace} (hv : Value.okWide Tryz.prog W r base 24 v) (h : DataW.Trod enc Tryz.prog W 0 (fun _ => true) true 24 v d p) :
    ∃ l, VersL W v l ∧ (∀ x ∈ l, okF x.fs) ∧ l.length ≤ 9223372036854775807 := by
  obtain ⟨A, len, cap, rfl⟩ := okWide_slice Tryz.underlying24 hv
  obtain ⟨fuel, hf⟩ := h
  rcases open_slice Tryz.underlying24 hf with ⟨hcs, _⟩ | ⟨a, len', cap', m, n, D, Pl, hcs, _, hl, hmx, hm, _, hx⟩
  · simp [Value.cells] at hcs
    obtain ⟨rfl, rfl, rfl⟩ := hcs
    exact ⟨[], ⟨ListE.nil _, fun v hv => by simp at hv⟩, fun v hv => by simp at hv, by simp⟩
  · simp [Value.cells] at hcs
    obtain ⟨rfl, rfl, rfl⟩ := hcs
    simp only [if_true] at hm
    subst hm
    have each : ∀ i, i < len → ∃ q : Vr, (∀ j u, (cellsV q)[j]? = some u → W.cell? (a.add (i * 7 + j)) = some u) ∧ VF W q ∧ okF q.fs := by
      intro i hi
      obtain ⟨cs', h1, h2⟩ := hx i (by omega)
      rw [Tryz.cellsVersion] at h1
      obtain ⟨_, hlen, hcell⟩ := World.cells?_some h1
      obtain ⟨xs, k, hk, hxy, _, hxl, hf⟩ := DataW.trod_struct Tryz.underlying50 h2
      match xs, hxl, cs', hlen with
      | [y0, y1, y2, y3, y4, y5], _, [v0, v1, v2, v3, v4, v5, v6], _ =>
        have g0 := hf 0 _ rfl
        have g1 := hf 1 _ rfl
        have g2 := hf 2 _ rfl
        have g3 := hf 3 _ rfl
        have g4 := hf 4 _ rfl
        have g5 := hf 5 _ rfl
        simp [Tryz.cells3i, Tryz.cells3s, Tryz.cells3b, Tryz.cells3l, Tryz.cellsSpan] at g0 g1 g2 g3 g4 g5
        obtain ⟨x0, e0, _, _⟩ := DataW.trod_int Tryz.underlying3 g0
        obtain ⟨x1, e1, _, _⟩ := DataW.trod_int Tryz.underlying3 g1
        obtain ⟨x2, e2, _, _⟩ := DataW.trod_string Tryz.underlying9 g2
        obtain ⟨xs3, k3, hk3, hxy3, _, hxl3, hf3⟩ := DataW.trod_struct Tryz.underlying23 g3
        obtain ⟨l4, hl4, hw4, _⟩ := fields_of g4
        obtain ⟨x5, e5, _⟩ := DataW.trod_bool Tryz.underlying4 g5
        match xs3, hxl3 with
        | [z0, z1], _ =>
          have s0 := hf3 0 _ rfl
          have s1 := hf3 1 _ rfl
          simp [Tryz.cells3i] at s0 s1
          obtain ⟨x3, e3, _, _⟩ := DataW.trod_int Tryz.underlying3 s0
          obtain ⟨x4, e4, _, _⟩ := DataW.trod_int Tryz.underlying3 s1
          simp at e0 e1 e2 e3 e4 e5
          subst e0 e1 e2 e3 e4 e5
          obtain ⟨B, c, rfl, hB, hc, hnc⟩ := hl4
          refine ⟨⟨x0, x1, x2, x3, x4, B, c, l4, x5⟩, fun j u hu => ?_, ⟨hB, hc, hnc⟩, fun f hf => (hw4 f hf).2⟩
          have hj : j < 7 := by
            rcases Nat.lt_or_ge j 7 with h' | h'
            · exact h'
            · rw [List.getElem?_eq_none (by simpa using h')] at hu; cases hu
          have f0 := hcell j hj
          rw [add_add] at f0
          have hh : ([Value.int .i64 x0, .int .i64 x1, .string x2, .int .i64 x3, .int .i64 x4, .slice B l4.length c, .bool x5] : List Value)[j]? = some u := hu
          rw [hh] at f0
          exact f0
    obtain ⟨q, hq⟩ := choose_lt each
    refine ⟨(List.range len).map q, ⟨⟨some a, m, by simp, fun i x hxx => ?_, by simpa using hl, by simp⟩, fun x hxx => ?_⟩, fun x hxx => ?_, by simp; unfold maxLen at hmx; omega⟩
    · have hi : i < len := by
        rcases Nat.lt_or_ge i len with hlt | hge
        · exact hlt
        · rw [List.getElem?_eq_none (by simpa using hge)] at hxx
          cases hxx
      obtain rfl : q i = x := by
        rw [List.getElem?_map, List.getElem?_range hi] at hxx
        simpa using hxx
      have z0 := (hq 0 (by omega)).1 0 _ rfl
      have ha := plain_of_cell (by simpa using z0)
      refine ⟨a.block, a.off, by rw [← ha], fun j u hu => ?_⟩
      have c0 := (hq i hi).1 j u hu
      rw [ha, Go.WideShapes.add_plain] at c0
      have e7 : EV.sz = 7 := rfl
      rw [e7, Nat.add_assoc]
      exact c0
    · obtain ⟨i, hi, rfl⟩ := List.mem_map.1 hxx
      exact (hq i (List.mem_range.1 hi)).2.1
    · obtain ⟨i, hi, rfl⟩ := List.mem_map.1 hxx
      exact (hq i (List.mem_range.1 hi)).2.2
end

end Go.Proofs.YtaoobliajgcdmaaGreat

/-
  Arguments that are lists of versions, with the bounds of their entities, and pairs of numbers.
-/
namespace Go.Proofs.YtaoobliajgcdmaaGreat
open Go.ChangeShapes Go.WideShapes Go.ChangeAt Go.RowKit Go.Joins Go.ChangeMaps Go.Deep

section
variable {H : Type} {enc : TypeId × Value → H} {W : World} {r : Reach} {base : Nat}

set_option maxRecDepth 100000 in
theorem arg_versz {v : Value} {d : DataW H} {p : List MemPlace} (hv : Value.okWide Tryz.prog W r base 24 v) (h : DataW.Trod enc Tryz.prog W 0 (fun _ => true) true 24 v d p) :
    ∃ l, VersL W v l ∧ (∀ x ∈ l, okF x.fs) ∧ (∀ x ∈ l, x.ent.size ≤ 9223372036854775807) ∧ l.length ≤ 9223372036854775807 := by
  obtain ⟨A, len, cap, rfl⟩ := okWide_slice Tryz.underlying24 hv
  obtain ⟨fuel, hf⟩ := h
  rcases open_slice Tryz.underlying24 hf with ⟨hcs, _⟩ | ⟨a, len', cap', m, n, D, Pl, hcs, _, hl, hmx, hm, _, hx⟩
  · simp [Value.cells] at hcs
    obtain ⟨rfl, rfl, rfl⟩ := hcs
    exact ⟨[], ⟨ListE.nil _, fun v hv => by simp at hv⟩, fun v hv => by simp at hv, fun v hv => by simp at hv, by simp⟩
  · simp [Value.cells] at hcs
    obtain ⟨rfl, rfl, rfl⟩ := hcs
    simp only [if_true] at hm
    subst hm
    have each : ∀ i, i < len → ∃ q : Vr, (∀ j u, (cellsV q)[j]? = some u → W.cell? (a.add (i * 7 + j)) = some u) ∧ VF W q ∧ okF q.fs ∧ q.ent.size ≤ 9223372036854775807 := by
      intro i hi
      obtain ⟨cs', h1, h2⟩ := hx i (by omega)
      rw [Tryz.cellsVersion] at h1
      obtain ⟨_, hlen, hcell⟩ := World.cells?_some h1
      obtain ⟨xs, k, hk, hxy, _, hxl, hf⟩ := DataW.trod_struct Tryz.underlying50 h2
      match xs, hxl, cs', hlen with
      | [y0, y1, y2, y3, y4, y5], _, [v0, v1, v2, v3, v4, v5, v6], _ =>
        have g0 := hf 0 _ rfl
        have g1 := hf 1 _ rfl
        have g2 := hf 2 _ rfl
        have g3 := hf 3 _ rfl
        have g4 := hf 4 _ rfl
        have g5 := hf 5 _ rfl
        simp [Tryz.cells3i, Tryz.cells3s, Tryz.cells3b, Tryz.cells3l, Tryz.cellsSpan] at g0 g1 g2 g3 g4 g5
        obtain ⟨x0, e0, _, _⟩ := DataW.trod_int Tryz.underlying3 g0
        obtain ⟨x1, e1, _, _⟩ := DataW.trod_int Tryz.underlying3 g1
        obtain ⟨x2, e2, _, hz2⟩ := DataW.trod_string Tryz.underlying9 g2
        obtain ⟨xs3, k3, hk3, hxy3, _, hxl3, hf3⟩ := DataW.trod_struct Tryz.underlying23 g3
        obtain ⟨l4, hl4, hw4, _⟩ := fields_of g4
        obtain ⟨x5, e5, _⟩ := DataW.trod_bool Tryz.underlying4 g5
        match xs3, hxl3 with
        | [z0, z1], _ =>
          have s0 := hf3 0 _ rfl
          have s1 := hf3 1 _ rfl
          simp [Tryz.cells3i] at s0 s1
          obtain ⟨x3, e3, _, _⟩ := DataW.trod_int Tryz.underlying3 s0
          obtain ⟨x4, e4, _, _⟩ := DataW.trod_int Tryz.underlying3 s1
          simp at e0 e1 e2 e3 e4 e5
          subst e0 e1 e2 e3 e4 e5
          obtain ⟨B, c, rfl, hB, hc, hnc⟩ := hl4
          refine ⟨⟨x0, x1, x2, x3, x4, B, c, l4, x5⟩, fun j u hu => ?_, ⟨hB, hc, hnc⟩, fun f hf => (hw4 f hf).2, by unfold maxLen at hz2; show x2.size ≤ _; omega⟩
          have hj : j < 7 := by
            rcases Nat.lt_or_ge j 7 with h' | h'
            · exact h'
            · rw [List.getElem?_eq_none (by simpa using h')] at hu; cases hu
          have f0 := hcell j hj
          rw [add_add] at f0
          have hh : ([Value.int .i64 x0, .int .i64 x1, .string x2, .int .i64 x3, .int .i64 x4, .slice B l4.length c, .bool x5] : List Value)[j]? = some u := hu
          rw [hh] at f0
          exact f0
    obtain ⟨q, hq⟩ := choose_lt each
    refine ⟨(List.range len).map q, ⟨⟨some a, m, by simp, fun i x hxx => ?_, by simpa using hl, by simp⟩, fun x hxx => ?_⟩, fun x hxx => ?_, fun x hxx => ?_, by simp; unfold maxLen at hmx; omega⟩
    · have hi : i < len := by
        rcases Nat.lt_or_ge i len with hlt | hge
        · exact hlt
        · rw [List.getElem?_eq_none (by simpa using hge)] at hxx
          cases hxx
      obtain rfl : q i = x := by
        rw [List.getElem?_map, List.getElem?_range hi] at hxx
        simpa using hxx
      have z0 := (hq 0 (by omega)).1 0 _ rfl
      have ha := plain_of_cell (by simpa using z0)
      refine ⟨a.block, a.off, by rw [← ha], fun j u hu => ?_⟩
      have c0 := (hq i hi).1 j u hu
      rw [ha, Go.WideShapes.add_plain] at c0
      have e7 : EV.sz = 7 := rfl
      rw [e7, Nat.add_assoc]
      exact c0
    · obtain ⟨i, hi, rfl⟩ := List.mem_map.1 hxx
      exact (hq i (List.mem_range.1 hi)).2.1
    · obtain ⟨i, hi, rfl⟩ := List.mem_map.1 hxx
      exact (hq i (List.mem_range.1 hi)).2.2.1
    · obtain ⟨i, hi, rfl⟩ := List.mem_map.1 hxx
      exact (hq i (List.mem_range.1 hi)).2.2.2

end

end Go.Proofs.YtaoobliajgcdmaaGreat

/-
  Arguments that are lists of pieces, spans by value; how long a list of versions may be.
-/
namespace Go.Proofs.YtaoobliajgcdmaaGreat
open Go.ChangeShapes Go.WideShapes Go.ChangeAt Go.RowKit Go.Joins Go.ChangeMaps Go.Deep

instance inhabitedPc : Inhabited Pc := ⟨⟨0, 0, none, 0, []⟩⟩
theorem Tryz.cellsPiece : Tryz.prog.cellsOf 62 = 3 := by kernel_rfl

section
variable {H : Type} {enc : TypeId × Value → H} {W : World} {r : Reach} {base : Nat}

set_option maxRecDepth 100000 in
theorem arg_span {v : Value} {d : DataW H} {p : List MemPlace} (hv : Value.okWide Tryz.prog W r base 23 v) (h : DataW.Trod enc Tryz.prog W 0 (fun _ => true) true 23 v d p) :
    ∃ a : Int × Int, v = .agg #[.int .i64 a.1, .int .i64 a.2] := by
  obtain ⟨cs, rfl, hs⟩ := okWide_struct Tryz.underlying23 hv
  rw [Tryz.cellsSpan] at hs
  obtain ⟨fuel, hf⟩ := h
  obtain ⟨xs, k, hk, hxy, _, hxl, hf⟩ := DataW.trod_struct Tryz.underlying23 hf
  obtain ⟨x0, x1, rfl⟩ := array2 hs
  match xs, hxl with
  | [y0, y1], _ =>
    have g0 := hf 0 _ rfl
    have g1 := hf 1 _ rfl
    simp [Tryz.cells3i] at g0 g1
    obtain ⟨x, e0, _, _⟩ := DataW.trod_int Tryz.underlying3 g0
    obtain ⟨y, e1, _, _⟩ := DataW.trod_int Tryz.underlying3 g1
    simp [Value.cells] at e0 e1
    subst e0 e1
    exact ⟨(x, y), rfl⟩

set_option maxRecDepth 100000 in
theorem arg_pieces {v : Value} {d : DataW H} {p : List MemPlace} (hv : Value.okWide Tryz.prog W r base 27 v) (h : DataW.Trod enc Tryz.prog W 0 (fun _ => true) true 27 v d p) :
    ∃ l, PcsL W v l ∧ l.length ≤ 9223372036854775807 := by
  obtain ⟨A, len, cap, rfl⟩ := okWide_slice Tryz.underlying27 hv
  obtain ⟨fuel, hf⟩ := h
  rcases open_slice Tryz.underlying27 hf with ⟨hcs, _⟩ | ⟨a, len', cap', m, n, D, Pl, hcs, _, hl, hmx, hm, _, hx⟩
  · simp [Value.cells] at hcs
    obtain ⟨rfl, rfl, rfl⟩ := hcs
    exact ⟨[], PcsL.nil _, by simp⟩
  · simp [Value.cells] at hcs
    obtain ⟨rfl, rfl, rfl⟩ := hcs
    simp only [if_true] at hm
    subst hm
    have each : ∀ i, i < len → ∃ q : Pc, (∀ j u, (cellsPc q)[j]? = some u → W.cell? (a.add (i * 3 + j)) = some u) ∧ PF W q := by
      intro i hi
      obtain ⟨cs', h1, h2⟩ := hx i (by omega)
      rw [Tryz.cellsPiece] at h1
      obtain ⟨_, hlen, hcell⟩ := World.cells?_some h1
      obtain ⟨xs, k, hk, hxy, _, hxl, hf⟩ := DataW.trod_struct Tryz.underlying62 h2
      match xs, hxl, cs', hlen with
      | [y0, y1], _, [v0, v1, v2], _ =>
        have g0 := hf 0 _ rfl
        have g1 := hf 1 _ rfl
        simp [Tryz.cells3l, Tryz.cellsSpan] at g0 g1
        obtain ⟨xs3, k3, hk3, hxy3, _, hxl3, hf3⟩ := DataW.trod_struct Tryz.underlying23 g0
        obtain ⟨l4, hl4, hw4, _⟩ := fields_of g1
        match xs3, hxl3 with
        | [z0, z1], _ =>
          have s0 := hf3 0 _ rfl
          have s1 := hf3 1 _ rfl
          simp [Tryz.cells3i] at s0 s1
          obtain ⟨x3, e3, _, _⟩ := DataW.trod_int Tryz.underlying3 s0
          obtain ⟨x4, e4, _, _⟩ := DataW.trod_int Tryz.underlying3 s1
          simp at e3 e4
          subst e3 e4
          obtain ⟨B, c, rfl, hB, hc, hnc⟩ := hl4
          refine ⟨⟨x3, x4, B, c, l4⟩, fun j u hu => ?_, ⟨hB, hc, hnc⟩⟩
          have hj : j < 3 := by
            rcases Nat.lt_or_ge j 3 with h' | h'
            · exact h'
            · rw [List.getElem?_eq_none (by simpa using h')] at hu; cases hu
          have f0 := hcell j hj
          rw [add_add] at f0
          have hh : ([Value.int .i64 x3, .int .i64 x4, .slice B l4.length c] : List Value)[j]? = some u := hu
          rw [hh] at f0
          exact f0
    obtain ⟨q, hq⟩ := choose_lt each
    refine ⟨(List.range len).map q, ⟨⟨some a, m, by simp, fun i x hxx => ?_, by simpa using hl, by simp⟩, fun x hxx => ?_⟩, by simp; unfold maxLen at hmx; omega⟩
    · have hi : i < len := by
        rcases Nat.lt_or_ge i len with hlt | hge
        · exact hlt
        · rw [List.getElem?_eq_none (by simpa using hge)] at hxx
          cases hxx
      obtain rfl : q i = x := by
        rw [List.getElem?_map, List.getElem?_range hi] at hxx
        simpa using hxx
      have z0 := (hq 0 (by omega)).1 0 _ rfl
      have ha := plain_of_cell (by simpa using z0)
      refine ⟨a.block, a.off, by rw [← ha], fun j u hu => ?_⟩
      have c0 := (hq i hi).1 j u hu
      rw [ha, Go.WideShapes.add_plain] at c0
      have e3 : EP.sz = 3 := rfl
      rw [e3, Nat.add_assoc]
      exact c0
    · obtain ⟨i, hi, rfl⟩ := List.mem_map.1 hxx
      exact (hq i (List.mem_range.1 hi)).2

/-- How long a list of versions is, in its data. -/
theorem vers_len {v : Value} {d : DataW H} {p : List MemPlace} (h : DataW.Trod enc Tryz.prog W 0 (fun _ => true) true 24 v d p) {l : List Vr} (hl : VersL W v l) : l.length = 0 ∨ ∃ es sp, d = .slice es sp ∧ es.length = l.length := by
  obtain ⟨A, c, rfl, _⟩ := hl.1
  obtain ⟨fuel, hf⟩ := h
  rcases DataW.trod_slice Tryz.underlying24 hf with ⟨hcs, _⟩ | ⟨a, len, cap, elems, rest, n, _, hcs, hx, _, _, _, hlen, _⟩
  · simp [Value.cells] at hcs
    exact .inl (by rw [hcs.2.1]; rfl)
  · simp [Value.cells] at hcs
    injection hx with hd _
    exact .inr ⟨_, _, hd, by rw [List.length_map, hlen]; exact hcs.2.1.symm⟩
theorem vers_sized {ts : List TypeId} {ds : List (DataW H)} (hsz : (DataW.weightsEach Tryz.prog ts ds).all (· ≤ reachBytes) = true) {j : Nat} {v : Value} {d : DataW H} {p : List MemPlace} (ht : ts[j]? = some 24) (hd : ds[j]? = some d) (h : DataW.Trod enc Tryz.prog W 0 (fun _ => true) true 24 v d p) {l : List Vr} (hl : VersL W v l) : l.length * 80 ≤ 140737488351232 := by
  rcases vers_len h hl with h0 | ⟨es, sp, rfl, he⟩
  · rw [h0]; decide
  · have := sized_slice hsz ht hd Tryz.underlying24
    have hb : Tryz.prog.bytesOf 50 = 80 := by kernel_rfl
    rw [hb, he] at this
    have e : reachBytes = 140737488351232 := rfl
    rw [e] at this
    exact Nat.le_trans (Nat.mul_le_mul_right 80 (by omega)) this

end

end Go.Proofs.YtaoobliajgcdmaaGreat
