/-
  Texts joined into one: what the program's and the document's calls give back, piece by piece.
-/
import Derived.Test.YtmieonfdenjedaaDoorMg1
import Derived.Test.YtmieonfdenjedaaDoorMg2
import Derived.Test.YtmieonfdenjedaaDoorMg3
import Derived.Test.YtmieonfdenjedaaDoorRows
import Derived.BigQuiet
import Derived.ChangeAlike
import Derived.ChangeKeysEq
import Derived.Deep.AppendLies
import Derived.Deep.CutBlock
import Derived.Deep.CutRange
import Derived.Deep.Light
import Derived.Deep.QuietTactic
import Derived.Deep.RegionHeld3
import Derived.Deep.RegionLaw
import Derived.Handy
import Derived.Laws.BytesArg
import Derived.Laws.OwnMore
import Derived.Laws.Strings
import Derived.Laws.StructEq
import Derived.Lib.Hide
import Derived.Maps.AppendAt
import Derived.OneCell
import Derived.OwnWalk
import Derived.RegionTactic
import Derived.StillTailTactics
import Derived.WalkArith
import Derived.WalkKit
import Derived.WalkLawsBesides
import Derived.WalkSpells
import Derived.Laws.Externs
import Derived.Laws.IdiomCopy
import Derived.Lib.AppendStr
import Derived.Lib.Builder
import Derived.Lib.UnsafeStr
import Derived.Test.YtmieonfdenjedaaDoorChecked
import Derived.ChangeMaps5
import Derived.Deep.SlicePairs
import Derived.Lib.SmallJoins
import Derived.OpenShut
import Derived.ProofKit
import Derived.SizedLaws

/-
  The program's reader of commands: what is taken next; reading, plain.
-/
namespace Go.Proofs.YtmieonfdenjedaaDoor
open Go.RowKit

/-- What is taken next, or nothing behind an error. -/
def nx {α : Type} (z : Nat) (d : α) (r : ByteArray) (t : α × ByteArray × Nat) : α × ByteArray × Nat := if z = 0 then t else (d, r, z)
theorem nx_zero {α : Type} (d : α) (r : ByteArray) (t : α × ByteArray × Nat) : nx 0 d r t = t := rfl
theorem nx_err {α : Type} {z : Nat} (h : z ≠ 0) (d : α) (r : ByteArray) (t : α × ByteArray × Nat) : nx z d r t = (d, r, z) := by unfold nx; rw [if_neg h]
def numT (r : ByteArray) : Int × ByteArray × Nat := ((tkN r : Int), tkR r, tkE r)
def intT (r : ByteArray) : Int × ByteArray × Nat := (unzig (tkN r), tkR r, tkE r)
def entT (r : ByteArray) : ByteArray × ByteArray × Nat := (ttS r 24, ttR r 24, ttE r 24)
/-- The reader lies in block R. -/
structure Rdr (w : World) (R : Nat) (r : ByteArray) (z : Nat) : Prop where
  r : w.cell? ⟨R, 0, none⟩ = some (.string r)
  e : w.cell? ⟨R, 1, none⟩ = some (.int .i64 ((z : Nat) : Int))
  f0 : w.frozen? ⟨R, 0, none⟩ = false
  f1 : w.frozen? ⟨R, 1, none⟩ = false
theorem Rdr.lt {w : World} {R : Nat} {r : ByteArray} {z : Nat} (h : Rdr w R r z) : R < w.heap.size := lt_of_cell h.r
theorem Rdr.below {w w' : World} {R : Nat} {r : ByteArray} {z : Nat} (h : Rdr w R r z) (hb : Below w.heap.size w w') : Rdr w' R r z := ⟨keepc hb h.r, keepc hb h.e, keepf hb h.lt h.f0, keepf hb h.lt h.f1⟩
theorem Rdr.but {M : Nat → Nat → Prop} {w w' : World} {R : Nat} {r : ByteArray} {z : Nat} (h : Rdr w R r z) (hb : But M w w') (hM : ∀ o, ¬ M R o) : Rdr w' R r z := ⟨hb.keep h.r (hM _), hb.keep h.e (hM _), (hb.frz _ _ h.lt).trans h.f0, (hb.frz _ _ h.lt).trans h.f1⟩
theorem Rdr.turn {w w2 : World} {R : Nat} {r r' : ByteArray} {z n : Nat} (h : Rdr w R r z) (hb : Below w.heap.size w w2) : Rdr ((w2.setCell ⟨R, 0, none⟩ (.string r')).setCell ⟨R, 1, none⟩ (.int .i64 ((n : Nat) : Int))) R r' n := by
  have k := h.below hb
  refine ⟨?_, ?_, (World.frozen?_setCell _ _ _ _).trans ((World.frozen?_setCell _ _ _ _).trans k.f0), (World.frozen?_setCell _ _ _ _).trans ((World.frozen?_setCell _ _ _ _).trans k.f1)⟩
  · exact (World.cell?_setCell_other _ ⟨R, 1, none⟩ ⟨R, 0, none⟩ _ (by simp)).trans (World.cell?_setCell_same _ ⟨R, 0, none⟩ _ k.r)
  · exact World.cell?_setCell_same _ ⟨R, 1, none⟩ _ ((World.cell?_setCell_other _ ⟨R, 0, none⟩ ⟨R, 1, none⟩ _ (by simp)).trans k.e)
abbrev MB15 (B : Nat) : Nat → Nat → Prop := fun c _ => c = B
theorem rdr_but {w w2 : World} {R : Nat} {x y : Value} (hb : Below w.heap.size w w2) : But (MB15 R) w ((w2.setCell ⟨R, 0, none⟩ x).setCell ⟨R, 1, none⟩ y) := ((But.of_below (M := MB15 R) hb).set rfl _).set rfl _

set_option maxHeartbeats 1000000 in
theorem nexti_any (tf : Nat) (htf : ∀ args w, (callFunc tf args).run Tryd.prog w = .ok (.enter tf args) w) (R : Nat) (r r' : ByteArray) (z n : Nat) (x : Int)
    (CT : z = 0 → ∀ w, Calls Tryd.prog tf #[.string r] w fun e w' => e = .returned (.tuple #[.int .i64 x, .string r', .int .i64 ((n : Nat) : Int)]) ∧ Below w.heap.size w w') (w : World) (h : Rdr w R r z) :
    Calls Tryd.prog 64 #[ptr R 0, fnv tf] w fun e w' => e = .returned (.int .i64 (nx z 0 r (x, r', n)).1) ∧ Rdr w' R (nx z 0 r (x, r', n)).2.1 (nx z 0 r (x, r', n)).2.2 ∧ But (MB15 R) w w' := by
  have HR := Lib.hid h
  obtain ⟨h0, h1, g0, g1⟩ := h
  by_cases hz : z = 0
  · subst hz
    have HC := Lib.hid (CT rfl)
    have HE := Lib.hid (nx_zero 0 r (x, r', n))
    clear CT
    rw [HE.out]
    go_enter Tryd.func64, Tryd.ntmps64
    go_wp2_with (go_at_fn tf; (with_reducible refine (HC.out _).mono ?_); rintro e w2 ⟨rfl, hb2⟩; have HR2 := Lib.hid (HR.out.below hb2); have HB2 := Lib.hid hb2; obtain ⟨k0, k1, f0, f1⟩ := HR2.out; clear hb2)
    go_ret
    exact ⟨rfl, HR.out.turn HB2.out, rdr_but HB2.out⟩
  · have HE := Lib.hid (nx_err hz 0 r (x, r', n))
    have hz' : ¬ ((z : Nat) : Int) = 0 := by omega
    have hz2 : (((z : Nat) : Int) == 0) = false := by simpa using hz'
    clear CT hz
    rw [HE.out]
    go_enter Tryd.func64, Tryd.ntmps64
    go_wp2_with fail
    go_ret
    exact ⟨rfl, HR.out, But.refl _ _⟩

set_option maxHeartbeats 1000000 in
theorem nexts_any (tf : Nat) (htf : ∀ args w, (callFunc tf args).run Tryd.prog w = .ok (.enter tf args) w) (R : Nat) (r r' : ByteArray) (z n : Nat) (x : ByteArray)
    (CT : z = 0 → ∀ w, Calls Tryd.prog tf #[.string r] w fun e w' => e = .returned (.tuple #[.string x, .string r', .int .i64 ((n : Nat) : Int)]) ∧ Below w.heap.size w w') (w : World) (h : Rdr w R r z) :
    Calls Tryd.prog 65 #[ptr R 0, fnv tf] w fun e w' => e = .returned (.string (nx z ⟨#[]⟩ r (x, r', n)).1) ∧ Rdr w' R (nx z ⟨#[]⟩ r (x, r', n)).2.1 (nx z ⟨#[]⟩ r (x, r', n)).2.2 ∧ But (MB15 R) w w' := by
  have HR := Lib.hid h
  obtain ⟨h0, h1, g0, g1⟩ := h
  by_cases hz : z = 0
  · subst hz
    have HC := Lib.hid (CT rfl)
    have HE := Lib.hid (nx_zero ⟨#[]⟩ r (x, r', n))
    clear CT
    rw [HE.out]
    go_enter Tryd.func65, Tryd.ntmps65
    go_wp2_with (go_at_fn tf; (with_reducible refine (HC.out _).mono ?_); rintro e w2 ⟨rfl, hb2⟩; have HR2 := Lib.hid (HR.out.below hb2); have HB2 := Lib.hid hb2; obtain ⟨k0, k1, f0, f1⟩ := HR2.out; clear hb2)
    go_ret
    exact ⟨rfl, HR.out.turn HB2.out, rdr_but HB2.out⟩
  · have HE := Lib.hid (nx_err hz ⟨#[]⟩ r (x, r', n))
    have hz' : ¬ ((z : Nat) : Int) = 0 := by omega
    have hz2 : (((z : Nat) : Int) == 0) = false := by simpa using hz'
    clear CT hz
    rw [HE.out]
    go_enter Tryd.func65, Tryd.ntmps65
    go_wp2_with fail
    go_ret
    exact ⟨rfl, HR.out, But.refl _ _⟩

/-- What next leaves of fields. -/
def NextF (w : World) (R : Nat) (T : List Fd × ByteArray × Nat) (e : Ending) (w' : World) : Prop := ∃ A d, e = .returned (.slice A T.1.length d) ∧ Rdr w' R T.2.1 T.2.2 ∧ But (MB15 R) w w' ∧ (∀ c : Cm, c.fa = A → c.fc = d → c.fs = T.1 → CF14 w' c) ∧ ∀ a, A = some a → w.heap.size ≤ a.block
set_option maxHeartbeats 1000000 in
theorem nextf_any (R : Nat) (r : ByteArray) (z : Nat) (hs : r.size ≤ 4611686018427387903) (w : World) (h : Rdr w R r z) :
    Calls Tryd.prog 68 #[ptr R 0, fnv 69] w (NextF w R (nx z [] r (takeF r))) := by
  have HR := Lib.hid h
  have hlt := h.lt
  have HC := Lib.hid (show ∀ w, Calls Tryd.prog 69 #[.string r] w fun e w' => ∃ A c, e = .returned (.tuple #[.slice A (takeF r).1.length c, .string (takeF r).2.1, .int .i64 (((takeF r).2.2 : Nat) : Int)]) ∧ OF w (takeF r).1 (.slice A (takeF r).1.length c) w' from fun w => (ptakefo_any r hs w).mono fun e w' ⟨u, he, hO⟩ => by
    obtain ⟨A, c, hu, _⟩ := hO.list
    subst hu
    exact ⟨A, c, he, hO⟩)
  have HLT := Lib.hid hlt
  obtain ⟨h0, h1, g0, g1⟩ := h
  clear hlt
  by_cases hz : z = 0
  · subst hz
    have HE := Lib.hid (nx_zero [] r (takeF r))
    rw [HE.out]
    generalize takeF r = TF at *
    go_enter Tryd.func68, Tryd.ntmps68
    go_wp2_with (go_at_call 69; (with_reducible refine (HC.out _).mono ?_); rintro e w2 ⟨A, c, rfl, ho⟩; have HO := Lib.hid ho; have HR2 := Lib.hid (HR.out.below ho.bel); have HB2 := Lib.hid ho.bel; obtain ⟨k0, k1, f0, f1⟩ := HR2.out; clear ho)
    go_ret
    obtain ⟨A', c', hu, hF, hc, hn⟩ := HO.out.list
    injection hu with hu1 hu2 hu3
    subst hu1 hu3
    have hfar : ∀ a, A = some a → w.heap.size ≤ a.block := fun a ha => (HO.out.own.lt a.block (by rw [ha]; rfl)).1
    refine ⟨A, c, rfl, HR.out.turn HB2.out, rdr_but HB2.out, fun q e1 e2 e3 => ?_, hfar⟩
    have q0 : CF14 w2 q := by
      unfold CF14
      rw [e1, e2, e3]
      exact ⟨hF, hc, hn⟩
    have hlt := HLT.out
    exact cf_far (B := w.heap.size) (cf_far (B := w.heap.size) q0 (fun a ha => hfar a (by rw [← e1]; exact ha)) hlt) (fun a ha => hfar a (by rw [← e1]; exact ha)) hlt
  · have HE := Lib.hid (nx_err hz [] r (takeF r))
    have hz' : ¬ ((z : Nat) : Int) = 0 := by omega
    have hz2 : (((z : Nat) : Int) == 0) = false := by simpa using hz'
    clear HC hz
    rw [HE.out]
    go_enter Tryd.func68, Tryd.ntmps68
    go_wp2_with fail
    go_ret
    exact ⟨none, 0, rfl, HR.out, But.refl _ _, fun q e1 e2 e3 => by unfold CF14; rw [e1, e2, e3]; exact ⟨Fields.nil _ _, Nat.le_refl _, fun _ => rfl⟩, fun a ha => by cases ha⟩

/-! ### Reading, plain -/
def rdSpan (k : Int) (ent : ByteArray) (tg : Int) (r : ByteArray) (z : Nat) : Cm × ByteArray × Nat :=
  let T2 := nx z 0 r (intT r)
  let T3 := nx T2.2.2 0 T2.2.1 (numT T2.2.1)
  let T4 := nx T3.2.2 [] T3.2.1 (takeF T3.2.1)
  (⟨k, ent, tg, T2.1, T2.1 + T3.1, none, 0, T4.1⟩, T4.2.1, T4.2.2)
def readP (s : ByteArray) : Cm × ByteArray × Nat :=
  if tkN s = 1 then rdSpan 1 (nx (tkE s) ⟨#[]⟩ (tkR s) (entT (tkR s))).1 0 (nx (tkE s) ⟨#[]⟩ (tkR s) (entT (tkR s))).2.1 (nx (tkE s) ⟨#[]⟩ (tkR s) (entT (tkR s))).2.2
  else if tkN s = 2 then rdSpan 2 ⟨#[]⟩ (nx (tkE s) 0 (tkR s) (intT (tkR s))).1 (nx (tkE s) 0 (tkR s) (intT (tkR s))).2.1 (nx (tkE s) 0 (tkR s) (intT (tkR s))).2.2
  else if tkN s = 3 then (⟨3, ⟨#[]⟩, (nx (tkE s) 0 (tkR s) (intT (tkR s))).1, 0, 0, none, 0, []⟩, (nx (tkE s) 0 (tkR s) (intT (tkR s))).2.1, (nx (tkE s) 0 (tkR s) (intT (tkR s))).2.2)
  else (⟨(tkN s : Int), ⟨#[]⟩, 0, 0, 0, none, 0, []⟩, tkR s, tkE s)
/-- What is told of what was read. -/
def endRd (T : Cm × ByteArray × Nat) : TC14 := if T.2.2 ≠ 0 then badC T.2.2 else endC T.1 T.2.1
theorem endRd_err {T : Cm × ByteArray × Nat} {z : Nat} (h : T.2.2 = z) (hz : z ≠ 0) : endRd T = badC z := by unfold endRd; rw [h, if_pos hz]
theorem rdSpan_err {k : Int} {ent : ByteArray} {tg : Int} {r : ByteArray} {z : Nat} (hz : z ≠ 0) : (rdSpan k ent tg r z).2.2 = z := by
  unfold rdSpan
  simp only [nx_err hz]
theorem spanC_read (k : Int) (ent : ByteArray) (tg : Int) (s : ByteArray) : spanC k ent tg s = endRd (rdSpan k ent tg s 0) := by
  unfold spanC
  by_cases h1 : tkE s ≠ 0
  · rw [if_pos h1, endRd_err (z := tkE s) _ h1]
    unfold rdSpan
    simp only [nx_zero, intT, nx_err h1]
  have e1 : tkE s = 0 := by omega
  rw [if_neg h1]
  by_cases h2 : tkE (tkR s) ≠ 0
  · rw [if_pos h2, endRd_err (z := tkE (tkR s)) _ h2]
    unfold rdSpan
    simp only [nx_zero, intT, e1, numT, nx_err h2]
  have e2 : tkE (tkR s) = 0 := by omega
  rw [if_neg h2]
  by_cases h3 : (takeF (tkR (tkR s))).2.2 ≠ 0
  · rw [if_pos h3, endRd_err (z := (takeF (tkR (tkR s))).2.2) _ h3]
    unfold rdSpan
    simp only [nx_zero, intT, e1, numT, e2]
  have e3 : (takeF (tkR (tkR s))).2.2 = 0 := by omega
  rw [if_neg h3]
  unfold endRd rdSpan
  simp only [nx_zero, intT, e1, numT, e2, e3]
  rw [if_neg (by simp)]
theorem takeCs_read (s : ByteArray) : takeCs s = endRd (readP s) := by
  unfold takeCs readP
  by_cases h0 : tkE s ≠ 0
  · rw [if_pos h0]
    by_cases h1 : tkN s = 1
    · rw [if_pos h1, nx_err h0, endRd_err (rdSpan_err h0) h0]
    rw [if_neg h1]
    by_cases h2 : tkN s = 2
    · rw [if_pos h2, nx_err h0, endRd_err (rdSpan_err h0) h0]
    rw [if_neg h2]
    by_cases h3 : tkN s = 3
    · rw [if_pos h3, nx_err h0, endRd_err (z := tkE s) rfl h0]
    rw [if_neg h3, endRd_err (z := tkE s) rfl h0]
  have e0 : tkE s = 0 := by omega
  rw [if_neg h0, e0]
  by_cases h1 : tkN s = 1
  · rw [if_neg (by omega), if_pos h1, if_pos h1, nx_zero]
    by_cases h2 : ttE (tkR s) 24 ≠ 0
    · rw [if_pos h2]
      exact (endRd_err (rdSpan_err h2) h2).symm
    · rw [if_neg h2, spanC_read]
      have e2 : ttE (tkR s) 24 = 0 := by omega
      simp only [entT, e2]
  by_cases h2 : tkN s = 2
  · rw [if_neg (by omega), if_neg h1, if_neg h1, if_pos h2, nx_zero]
    by_cases h4 : tkE (tkR s) ≠ 0
    · rw [if_pos h4]
      exact (endRd_err (rdSpan_err h4) h4).symm
    · rw [if_neg h4, if_neg (by omega), spanC_read]
      have e2 : tkE (tkR s) = 0 := by omega
      simp only [intT, e2]
  by_cases h3 : tkN s = 3
  · rw [if_neg (by omega), if_neg h1, if_neg h1, if_neg h2, if_pos h3, if_pos h3, nx_zero]
    by_cases h4 : tkE (tkR s) ≠ 0
    · rw [if_pos h4]
      refine (endRd_err (z := tkE (tkR s)) ?_ h4).symm
      rfl
    · rw [if_neg h4]
      have e2 : tkE (tkR s) = 0 := by omega
      unfold endRd
      simp only [intT, e2]
      rw [if_neg (by simp)]
  · rw [if_pos (show tkN s < 1 ∨ 3 < tkN s by omega), if_neg h1, if_neg h2, if_neg h3]
    have hr : rightC ⟨((tkN s : Nat) : Int), ⟨#[]⟩, 0, 0, 0, none, 0, []⟩ = 2 := by
      unfold rightC
      rw [if_pos (by show ((tkN s : Nat) : Int) < 1 ∨ 3 < ((tkN s : Nat) : Int); omega)]
    show badC 8 = if (0 : Nat) ≠ 0 then _ else endC _ _
    rw [if_neg (by simp)]
    unfold endC
    rw [hr, if_neg (by simp)]
theorem nx_val {α : Type} (Q : α → Prop) {z : Nat} {d : α} {r : ByteArray} {t : α × ByteArray × Nat} (hd : Q d) (ht : Q t.1) : Q (nx z d r t).1 := by
  unfold nx
  split
  · exact ht
  · exact hd
theorem nx_size {α : Type} {z : Nat} {d : α} {r : ByteArray} {t : α × ByteArray × Nat} {n : Nat} (hr : r.size ≤ n) (ht : t.2.1.size ≤ n) : (nx z d r t).2.1.size ≤ n := by
  unfold nx
  split
  · exact ht
  · exact hr
abbrev Bq (x : Int) : Prop := -4611686018427387904 < x ∧ x < 4611686018427387904
theorem unzig_bq (s : ByteArray) : Bq (unzig (tkN s)) := by
  have := tkN_lt s
  unfold unzig
  split <;> constructor <;> omega
theorem tkN_bq (s : ByteArray) : Bq ((tkN s : Nat) : Int) := by
  have := tkN_lt s
  constructor <;> omega
theorem nxI_bq (z : Nat) (r : ByteArray) : Bq (nx z 0 r (intT r)).1 := nx_val Bq ⟨by decide, by decide⟩ (unzig_bq r)
theorem nxN_bq (z : Nat) (r : ByteArray) : Bq (nx z 0 r (numT r)).1 := nx_val Bq ⟨by decide, by decide⟩ (tkN_bq r)
theorem nxI_size {z : Nat} {r : ByteArray} (h : r.size ≤ 4611686018427387903) : (nx z 0 r (intT r)).2.1.size ≤ 4611686018427387903 := nx_size h (Nat.le_trans (tkR_size r) h)
theorem nxN_size {z : Nat} {r : ByteArray} (h : r.size ≤ 4611686018427387903) : (nx z 0 r (numT r)).2.1.size ≤ 4611686018427387903 := nx_size h (Nat.le_trans (tkR_size r) h)
theorem nxE_size {z : Nat} {r : ByteArray} (h : r.size ≤ 4611686018427387903) : (nx z ⟨#[]⟩ r (entT r)).2.1.size ≤ 4611686018427387903 := nx_size h (Nat.le_trans (ttR_small r 24) h)
theorem nxE_ent {z : Nat} {r : ByteArray} (h : r.size ≤ 4611686018427387903) : (nx z ⟨#[]⟩ r (entT r)).1.size ≤ 9223372036854775807 :=
  nx_val (fun x : ByteArray => x.size ≤ 9223372036854775807) (Nat.zero_le _) (by have := ttS_small r 24; show (ttS r 24).size ≤ _; omega)
def smallC (c : Cm) : Prop := okF c.fs ∧ c.fs.length ≤ 9223372036854775807 ∧ c.ent.size ≤ 9223372036854775807
theorem fs_small {z : Nat} {r r' : ByteArray} (hs : r'.size ≤ 4611686018427387903) : okF (nx z [] r (takeF r')).1 ∧ (nx z [] r (takeF r')).1.length ≤ 9223372036854775807 := by
  refine nx_val (fun l : List Fd => okF l ∧ l.length ≤ 9223372036854775807) ⟨fun f hf => by simp at hf, by simp⟩ ?_
  have hsm := takeF_small r'
  exact ⟨fun f hf => by have := hsm.1 f hf; omega, by have := hsm.2; omega⟩
theorem rdSpan_small {k : Int} {ent : ByteArray} {tg : Int} {r : ByteArray} {z : Nat} (h : ent.size ≤ 9223372036854775807) (hr : r.size ≤ 4611686018427387903) : smallC (rdSpan k ent tg r z).1 :=
  have hf := fs_small (nxN_size (nxI_size (z := z) hr))
  ⟨hf.1, hf.2, h⟩
theorem readP_small {s : ByteArray} (hs : s.size ≤ 4611686018427387903) : smallC (readP s).1 := by
  have h1 := Nat.le_trans (tkR_size s) hs
  unfold readP
  split
  · exact rdSpan_small (nxE_ent h1) (nxE_size h1)
  · split
    · exact rdSpan_small (Nat.zero_le _) (nxI_size h1)
    · split
      · exact ⟨fun f hf => by simp at hf, by simp, Nat.zero_le _⟩
      · exact ⟨fun f hf => by simp at hf, by simp, Nat.zero_le _⟩
end Go.Proofs.YtmieonfdenjedaaDoor

/-
  The program's read of commands.
-/
namespace Go.Proofs.YtmieonfdenjedaaDoor
open Go.RowKit

theorem holdC_at (w : World) (c : Cm) : HoldC (w.alloc (ocC c)) w.heap.size c := ⟨boxC_new w c, fun i => by simp [go_sem]⟩
theorem HoldC.but {M : Nat → Nat → Prop} {w w' : World} {g : Nat} {c : Cm} (h : HoldC w g c) (hb : But M w w') (hM : ∀ o, ¬ M g o) : HoldC w' g c :=
  ⟨⟨hb.keep h.c.1 (hM _), hb.keep h.c.2.1 (hM _), hb.keep h.c.2.2.1 (hM _), hb.keep h.c.2.2.2.1 (hM _), hb.keep h.c.2.2.2.2.1 (hM _), hb.keep h.c.2.2.2.2.2 (hM _)⟩, fun i => (hb.frz _ _ h.lt).trans (h.f i)⟩
theorem BoxP.but {M : Nat → Nat → Prop} {w w' : World} {g : Nat} {a b c : Bool} (h : BoxP w g a b c) (hb : But M w w') (hM : ∀ o, ¬ M g o) : BoxP w' g a b c := ⟨hb.keep h.1 (hM _), hb.keep h.2.1 (hM _), hb.keep h.2.2 (hM _)⟩
theorem CF14.but {M : Nat → Nat → Prop} {w w' : World} {c c' : Cm} (h : CF14 w c) (hb : But M w w') (hM : ∀ a o, c.fa = some a → ¬ M a.block o) (e1 : c'.fa = c.fa) (e2 : c'.fc = c.fc) (e3 : c'.fs = c.fs) : CF14 w' c' := by
  unfold CF14 at h ⊢
  rw [e1, e2, e3]
  exact ⟨fun i f hf => by
    obtain ⟨g, off, he, c0, c1⟩ := h.1 i f hf
    exact ⟨g, off, he, hb.keep c0 (hM _ _ he), hb.keep c1 (hM _ _ he)⟩, h.2⟩
/-- How it stands while a command is read: the reader, the command, the parts of its kind. -/
structure RdI (w : World) (C P : Nat) (a b d : Bool) (r : ByteArray) (z : Nat) (c : Cm) (W : World) : Prop where
  bel : Below w.heap.size w W
  res : HoldC W w.heap.size noC
  rdr : Rdr W (w.heap.size + 1) r z
  own : HoldC W C c
  prt : BoxP W P a b d
  ord : w.heap.size + 1 < C ∧ C < P
  vf : CF14 W c
  far : ∀ a, c.fa = some a → P < a.block
section
variable {w W W' : World} {C P : Nat} {a b d : Bool} {r r' : ByteArray} {z z' : Nat} {c c' : Cm}
theorem RdI.plt (h : RdI w C P a b d r z c W) : P < W.heap.size := lt_of_cell h.prt.1
theorem RdI.next (h : RdI w C P a b d r z c W) (hr : Rdr W' (w.heap.size + 1) r' z') (hb : But (MB15 (w.heap.size + 1)) W W') : RdI w C P a b d r' z' c W' := by
  obtain ⟨o1, o2⟩ := h.ord
  have hw := h.bel.size
  refine ⟨h.bel.trans (hb.below (by omega) (fun c o e => by have : c = w.heap.size + 1 := e; omega)), h.res.but hb (fun _ e => by have : w.heap.size = w.heap.size + 1 := e; omega), hr, h.own.but hb (fun _ e => by have : C = w.heap.size + 1 := e; omega), h.prt.but hb (fun _ e => by have : P = w.heap.size + 1 := e; omega), ⟨o1, o2⟩, h.vf.but hb (fun x o e q => by have := h.far x e; have : x.block = w.heap.size + 1 := q; omega) rfl rfl rfl, h.far⟩
theorem RdI.put (h : RdI w C P a b d r z c W) {o : Nat} {u : Value} (ho : HoldC (W.setCell ⟨C, o, none⟩ u) C c') (e1 : c'.fa = c.fa) (e2 : c'.fc = c.fc) (e3 : c'.fs = c.fs) : RdI w C P a b d r z c' (W.setCell ⟨C, o, none⟩ u) := by
  obtain ⟨o1, o2⟩ := h.ord
  have hb : But (MB15 C) W (W.setCell ⟨C, o, none⟩ u) := (But.refl (MB15 C) _).set rfl _
  exact ⟨h.bel.setCell (p := ⟨C, o, none⟩) (by simp; omega) _, h.res.other (by omega) _, h.rdr.but hb (fun _ e => by have : w.heap.size + 1 = C := e; omega), ho, h.prt.but hb (fun _ e => by have : P = C := e; omega), ⟨o1, o2⟩, h.vf.but hb (fun x o e q => by have := h.far x e; have : x.block = C := q; omega) e1 e2 e3, fun x hx => h.far x (by rw [← e1]; exact hx)⟩
theorem RdI.fields (h : RdI w C P a b d r z c W) {A : Option Addr} {n : Nat} {l : List Fd} (hf : CF14 W ⟨c.k, c.ent, c.tg, c.sf, c.se, A, n, l⟩) (hfar : ∀ x, A = some x → P < x.block) : RdI w C P a b d r z ⟨c.k, c.ent, c.tg, c.sf, c.se, A, n, l⟩ (W.setCell ⟨C, 5, none⟩ (.slice A l.length n)) := by
  obtain ⟨o1, o2⟩ := h.ord
  have hb : But (MB15 C) W (W.setCell ⟨C, 5, none⟩ (.slice A l.length n)) := (But.refl (MB15 C) _).set rfl _
  exact ⟨h.bel.setCell (p := ⟨C, 5, none⟩) (by simp; omega) _, h.res.other (by omega) _, h.rdr.but hb (fun _ e => by have : w.heap.size + 1 = C := e; omega), h.own.set5 A n l, h.prt.but hb (fun _ e => by have : P = C := e; omega), ⟨o1, o2⟩, hf.but hb (fun x o e q => by have := hfar x e; have : x.block = C := q; omega) rfl rfl rfl, hfar⟩
theorem RdI.drew (h : RdI w C P a b d r z c W) : RdI w C P a b d r z c W.drew :=
  have hb := (bl W).drew
  ⟨chain h.bel hb, h.res.below hb, h.rdr.below hb, h.own.below hb, h.prt.below hb, h.ord, h.vf.below hb, h.far⟩
/-- What read leaves. -/
def ReadPost (w : World) (T : Cm × ByteArray × Nat) (e : Ending) (w' : World) : Prop := ∃ x, e = .returned (.tuple #[cv14 x, .string T.2.1, .int .i64 ((T.2.2 : Nat) : Int)]) ∧ contC x = T.1 ∧ CF14 w' x ∧ (∀ a, x.fa = some a → w.heap.size ≤ a.block) ∧ Below w.heap.size w w'
theorem six_but15 (w : World) (b : Nat) (x0 x1 x2 x3 x4 x5 : Value) : But (MB15 b) w ((((((w.setCell ⟨b, 0, none⟩ x0).setCell ⟨b, 1, none⟩ x1).setCell ⟨b, 2, none⟩ x2).setCell ⟨b, 3, none⟩ x3).setCell ⟨b, 4, none⟩ x4).setCell ⟨b, 5, none⟩ x5) := ((((((But.refl (MB15 b) _).set rfl _).set rfl _).set rfl _).set rfl _).set rfl _).set rfl _
theorem RdI.post (h : RdI w C P a b d r z c W) {T : Cm × ByteArray × Nat} (hT : T = (contC c, r, z)) : ReadPost w T (.returned (.tuple #[cv14 c, .string r, .int .i64 ((z : Nat) : Int)])) ((((((W.setCell ⟨w.heap.size, 0, none⟩ (.int .i64 c.k)).setCell ⟨w.heap.size, 1, none⟩ (.string c.ent)).setCell ⟨w.heap.size, 2, none⟩ (.int .i64 c.tg)).setCell ⟨w.heap.size, 3, none⟩ (.int .i64 c.sf)).setCell ⟨w.heap.size, 4, none⟩ (.int .i64 c.se)).setCell ⟨w.heap.size, 5, none⟩ (.slice c.fa c.fs.length c.fc)) := by
  obtain ⟨o1, o2⟩ := h.ord
  exact ⟨c, by rw [hT], by rw [hT], h.vf.but (six_but15 W w.heap.size _ _ _ _ _ _) (fun x o e q => by have := h.far x e; have : x.block = w.heap.size := q; omega) rfl rfl rfl, fun x hx => by have := h.far x hx; omega, six_below h.bel (Nat.le_refl _)⟩
end
theorem ReadPost.drew {w w' : World} {T : Cm × ByteArray × Nat} {e : Ending} (h : ReadPost w T e w') : ReadPost w T e w'.drew := by
  obtain ⟨x, h1, h2, h3, h4, h5⟩ := h
  exact ⟨x, h1, h2, h3.below ((bl w').drew), h4, chain h5 ((bl w').drew)⟩
abbrev oRd (s : ByteArray) : Obj := .cells #[.string s, .int .i64 0] 95
theorem rdr_new (w : World) (s : ByteArray) : Rdr (w.alloc (oRd s)) w.heap.size s 0 := ⟨by simp [go_sem], by simp [go_sem], by simp [go_sem], by simp [go_sem]⟩

theorem num_next {R : Nat} {r : ByteArray} {z : Nat} (hr : r.size ≤ 4611686018427387903) {x : Int} {r' : ByteArray} {z' : Nat} (hT : nx z 0 r (numT r) = (x, r', z')) (W : World) (h : Rdr W R r z) :
    Calls Tryd.prog 64 #[ptr R 0, fnv 47] W fun e w' => e = .returned (.int .i64 x) ∧ Rdr w' R r' z' ∧ But (MB15 R) W w' := by
  have hT' : nx z 0 r (((tkN r : Nat) : Int), tkR r, tkE r) = (x, r', z') := hT
  have := nexti_any 47 (enters_of Tryd.func47 (by kernel_rfl) rfl) R r (tkR r) z (tkE r) ((tkN r : Nat) : Int) (fun _ w => take_any r hr w) W h
  rwa [hT'] at this
theorem int_next {R : Nat} {r : ByteArray} {z : Nat} (hr : r.size ≤ 4611686018427387903) {x : Int} {r' : ByteArray} {z' : Nat} (hT : nx z 0 r (intT r) = (x, r', z')) (W : World) (h : Rdr W R r z) :
    Calls Tryd.prog 64 #[ptr R 0, fnv 67] W fun e w' => e = .returned (.int .i64 x) ∧ Rdr w' R r' z' ∧ But (MB15 R) W w' := by
  have hT' : nx z 0 r (unzig (tkN r), tkR r, tkE r) = (x, r', z') := hT
  have := nexti_any 67 (enters_of Tryd.func67 (by kernel_rfl) rfl) R r (tkR r) z (tkE r) (unzig (tkN r)) (fun _ w => takeint_any r hr w) W h
  rwa [hT'] at this
theorem takeent14_any (s : ByteArray) (hs : s.size ≤ 4611686018427387903) (w : World) : Calls Tryd.prog 66 #[.string s] w fun e w' => e = .returned (.tuple #[.string (ttS s 24), .string (ttR s 24), .int .i64 ((ttE s 24 : Nat) : Int)]) ∧ Below w.heap.size w w' := by
  have CT := Lib.hid (show ∀ w, Calls Tryd.prog 77 #[.string s, .int .i64 24] w fun e w' => e = .returned (.tuple #[.string (ttS s 24), .string (ttR s 24), .int .i64 ((ttE s 24 : Nat) : Int)]) ∧ Below w.heap.size w w' from fun w => taketext_any s hs 24 w)
  generalize ttS s 24 = a at *
  generalize ttR s 24 = b at *
  generalize ttE s 24 = c at *
  go_enter Tryd.func66, Tryd.ntmps66
  go_wp2_with (go_at_call 77; (with_reducible refine (CT.out _).mono ?_); rintro e w2 ⟨rfl, hb2⟩)
  go_ret3
  exact ⟨rfl, hb2⟩
theorem ent_next {R : Nat} {r : ByteArray} {z : Nat} (hr : r.size ≤ 4611686018427387903) {x : ByteArray} {r' : ByteArray} {z' : Nat} (hT : nx z ⟨#[]⟩ r (entT r) = (x, r', z')) (W : World) (h : Rdr W R r z) :
    Calls Tryd.prog 65 #[ptr R 0, fnv 66] W fun e w' => e = .returned (.string x) ∧ Rdr w' R r' z' ∧ But (MB15 R) W w' := by
  have hT' : nx z ⟨#[]⟩ r (ttS r 24, ttR r 24, ttE r 24) = (x, r', z') := hT
  have := nexts_any 66 (enters_of Tryd.func66 (by kernel_rfl) rfl) R r (ttR r 24) z (ttE r 24) (ttS r 24) (fun _ w => takeent14_any r hr w) W h
  rwa [hT'] at this
theorem fld_next {R : Nat} {r : ByteArray} {z : Nat} (hr : r.size ≤ 4611686018427387903) {l : List Fd} {r' : ByteArray} {z' : Nat} (hT : nx z [] r (takeF r) = (l, r', z')) (W : World) (h : Rdr W R r z) :
    Calls Tryd.prog 68 #[ptr R 0, fnv 69] W fun e w' => ∃ A d, e = .returned (.slice A l.length d) ∧ Rdr w' R r' z' ∧ But (MB15 R) W w' ∧ (∀ c : Cm, c.fa = A → c.fc = d → c.fs = l → CF14 w' c) ∧ ∀ a, A = some a → W.heap.size ≤ a.block := by
  have := nextf_any R r z hr W h
  rw [hT] at this
  exact this
abbrev MB16 (B C : Nat) : Nat → Nat → Prop := fun c o => c = B ∨ (c = C ∧ o = 4)

theorem cf_nil14 (w : World) (c : Cm) (h : c.fs = []) (hc : c.fa = none → c.fc = 0) : CF14 w c := by
  obtain ⟨k, ent, tg, sf, se, fa, fc, fs⟩ := c
  obtain rfl : fs = [] := h
  exact ⟨Fields.nil _ _, Nat.zero_le _, hc⟩
theorem begR {w w1 : World} {s : ByteArray} (hb0 : Below w.heap.size w ((w.alloc oZC14).alloc (oRd s))) (hb1 : But (MB15 (w.heap.size + 1)) ((w.alloc oZC14).alloc (oRd s)) w1) (o : Obj) : Below w.heap.size w (w1.alloc o) :=
  have h := hb0.trans (hb1.below hb0.size (fun c o e => by have : c = w.heap.size + 1 := e; omega))
  h.alloc h.size _
theorem rdI_start {w w1 w2 : World} {s r0 : ByteArray} {z0 : Nat} {c : Cm} {a b d : Bool} (hA : HoldC ((w.alloc oZC14).alloc (oRd s)) w.heap.size noC) (hb0 : Below w.heap.size w ((w.alloc oZC14).alloc (oRd s)))
    (hr1 : Rdr w1 (w.heap.size + 1) r0 z0) (hb1 : But (MB15 (w.heap.size + 1)) ((w.alloc oZC14).alloc (oRd s)) w1) (h1 : c.fa = none) (h2 : c.fc = 0) (h3 : c.fs = []) (hb2 : Below (w1.alloc (ocC c)).heap.size (w1.alloc (ocC c)) w2) :
    RdI w w1.heap.size w2.heap.size a b d r0 z0 c (w2.alloc (oP14 a b d)) := by
  have k1 : Below w1.heap.size w1 (w1.alloc (ocC c)) := (bl w1).alloc (Nat.le_refl _) _
  have k2 := chain k1 hb2
  have k3 : Below w2.heap.size w2 (w2.alloc (oP14 a b d)) := (bl w2).alloc (Nat.le_refl _) _
  have k4 := chain k2 k3
  have hs := hb1.size
  have hs2 := hb2.size
  simp at hs hs2
  have hall := hb0.trans (hb1.below hb0.size (fun c o e => by have : c = w.heap.size + 1 := e; omega))
  refine ⟨hall.trans (k4.mono hall.size), (hA.but hb1 (fun _ e => by have : w.heap.size = w.heap.size + 1 := e; omega)).below k4, hr1.below k4, (holdC_at w1 c).below (hb2.trans (k3.mono hb2.size)), boxP_new w2 a b d, ⟨by omega, by omega⟩, cf_nil14 _ c h3 (fun _ => h2), fun x hx => by rw [h1] at hx; cases hx⟩

end Go.Proofs.YtmieonfdenjedaaDoor

/-
  Lists of commands of the call's own: no fields lie in their block.
-/
namespace Go.Proofs.YtmieonfdenjedaaDoor
open Go.RowKit

theorem CF14.lt {w : World} {c : Cm} (h : CF14 w c) (hn : c.fs ≠ []) {a : Addr} (ha : c.fa = some a) : a.block < w.heap.size := by
  cases hfs : c.fs with
  | nil => exact absurd hfs hn
  | cons f l =>
    obtain ⟨g, off, he, c0, _⟩ := h.1 0 f (by rw [hfs]; rfl)
    rw [ha] at he
    injection he with he
    subst he
    exact lt_of_cell c0
/-- Whatever lay, lies, but for one block. -/
def Kb14 (o : Option Nat) (w w' : World) : Prop := w.heap.size ≤ w'.heap.size ∧ ∀ c, c < w.heap.size → o ≠ some c → w'.heap[c]? = w.heap[c]?
theorem Kb14.grown {w w' : World} {o : Option Nat} (hg : w.grownBy w' o) : Kb14 o w w' := ⟨hg.size, fun c hc hn => hg.block c hc (fun e => hn e.symm)⟩
theorem Kb14.cell {o : Option Nat} {w w' : World} (h : Kb14 o w w') {g i : Nat} {u : Value} (hc : w.cell? ⟨g, i, none⟩ = some u) (hn : o ≠ some g) : w'.cell? ⟨g, i, none⟩ = some u :=
  (World.cell?_of_block (w := w) (h.2 g (lt_of_cell hc) hn)).trans hc
/-- The fields of a command lie where it says, and not in block o. -/
def KC (w : World) (o : Option Nat) (c : Cm) : Prop := CF14 w c ∧ (c.fs ≠ [] → ∀ a, c.fa = some a → o ≠ some a.block)
theorem KC.below {w w' : World} {o : Option Nat} {c : Cm} (h : KC w o c) (hb : Below w.heap.size w w') : KC w' o c := ⟨h.1.below hb, h.2⟩
theorem KC.but {w w' : World} {o : Option Nat} {c : Cm} (h : KC w o c) (hb : Kb14 o w w') : CF14 w' c := by
  refine ⟨fun k f hf => ?_, h.1.2⟩
  obtain ⟨g, off, he, c0, c1⟩ := h.1.1 k f hf
  have hne : o ≠ some g := h.2 (fun e => by rw [e] at hf; simp at hf) _ he
  exact ⟨g, off, he, hb.cell c0 hne, hb.cell c1 hne⟩
theorem KC.move {w w' : World} {o o' : Option Nat} {c : Cm} (h : KC w o c) (hb : Kb14 o w w') (ho : o' = o ∨ ∃ g, o' = some g ∧ w.heap.size ≤ g) : KC w' o' c := by
  refine ⟨h.but hb, fun hn a ha => ?_⟩
  rcases ho with rfl | ⟨g, rfl, hg⟩
  · exact h.2 hn a ha
  · intro e
    injection e with e
    have := h.1.lt hn ha
    omega
/-- A list of commands of the call's own, whose block no fields lie in. -/
structure OutC (W : World) (l : List Cm) (v : Value) (w : World) : Prop where
  own : ownE EC14 w W.heap.size v l
  bel : Below W.heap.size W w
  kc : ∀ c ∈ l, KC w v.ownBlock c
theorem OutC.nil (W : World) : OutC W [] (.slice none 0 0) W := ⟨ownE_nil _ _, bl W, fun p hp => by simp at hp⟩
theorem OutC.below {W w w' : World} {l : List Cm} {v : Value} (h : OutC W l v w) (hb : Below w.heap.size w w') : OutC W l v w' := ⟨ownE_below h.own hb, chain h.bel hb, fun p hp => (h.kc p hp).below hb⟩
theorem OutC.cms {W w : World} {l : List Cm} {v : Value} (h : OutC W l v w) : CmsL w v l := ⟨ownE_list h.own, fun p hp => (h.kc p hp).1⟩
theorem OutC.lt {W w : World} {l : List Cm} {v : Value} (h : OutC W l v w) {g : Nat} (hg : v.ownBlock = some g) : W.heap.size ≤ g ∧ g < w.heap.size := h.own.lt g hg
/-- Fields that a later call made are outside of the list's block. -/
theorem OutC.newer {W w w' : World} {l : List Cm} {v : Value} (h : OutC W l v w) {c : Cm} (hc : CF14 w' c) (hf : ∀ a, c.fa = some a → w.heap.size ≤ a.block) : KC w' v.ownBlock c := ⟨hc, fun _ a ha e => by
  have h1 := (h.lt e).2
  have h2 := hf a ha
  omega⟩
theorem wpList_appC {ops : Array Oper} {rest : List Oper} {o : Oper} {a : Act} {w : World} {Q : Exit → Act → World → Prop} (hgd : o.guard = none) (s x : Operand)
    (ho : o.op = .call { callee := .builtin .append, args := #[s, x], argTypes := #[44, 44] })
    {base : Nat} {v : Value} {ts : List Cm} (hs : a.eval s = v) (hown : ownE EC14 w base v ts) {B : Option Addr} {c m : Nat} {xs : List Cm} (hv : a.eval x = .slice B m c) (hm : m = xs.length) (hx : RowE EC14 w B xs) (hc : B = none → c = 0)
    (hl : ts.length + xs.length ≤ 1000000) (hbase : base ≤ w.heap.size)
    (h : ∀ v' w', ownE EC14 w' base v' (ts ++ xs) → w.grownBy w' v.ownBlock → (v'.ownBlock = v.ownBlock ∨ v'.ownBlock = some w.heap.size) → wpList Tryd.prog ops Q rest (a.put o.dst v') w') : wpList Tryd.prog ops Q (o :: rest) a w := by
  subst hm
  obtain ⟨v', w', hrun, h2, h3, h4⟩ := run_appE w hown B c xs hx hc hl hbase o.type
  refine wpList_plain hgd fun _ hK => ?_
  unfold Oper.wp execOp
  have e0 : EC14.s = 44 := rfl
  rw [e0] at hrun
  simp only [ho, resolve, invoke, builtin, Sem.run_bind, Sem.run_pure, Result.andThen_ok, List.map_toArray, List.map_cons, List.map_nil, hs, hv, hrun]
  exact hK _ _ (h v' w' h2 h3 h4)
theorem OutC.app {W w w' : World} {L : List Cm} {c : Cm} {v v' : Value} (h : OutC W L v w) (hp : KC w v.ownBlock c) (hg : w.grownBy w' v.ownBlock) (hown : ownE EC14 w' W.heap.size v' (L ++ [c])) (ho : v'.ownBlock = v.ownBlock ∨ v'.ownBlock = some w.heap.size) : OutC W (L ++ [c]) v' w' := by
  have hk : Kb14 v.ownBlock w w' := Kb14.grown hg
  have ho' : v'.ownBlock = v.ownBlock ∨ ∃ g, v'.ownBlock = some g ∧ w.heap.size ≤ g := ho.imp_right fun e => ⟨_, e, Nat.le_refl _⟩
  refine ⟨hown, below_grownE h.bel hg (fun r hr => (h.own.lt r hr).1), fun q hq => ?_⟩
  rcases List.mem_append.1 hq with hq | hq
  · exact (h.kc q hq).move hk ho'
  · obtain rfl := List.mem_singleton.1 hq
    exact hp.move hk ho'
end Go.Proofs.YtmieonfdenjedaaDoor

/-
  A strings.Builder of the call's own takes texts, and is read.
-/
namespace Go.Proofs.YtmieonfdenjedaaDoor
open Go.RowKit

abbrev BT : TypeId := 78
abbrev BE : TypeId := 5
theorem Tryd.builderInfo : (Tryd.prog.info? BT).map (·.size) = some 2 := by kernel_rfl
theorem Tryd.builderLies : liesAt Tryd.prog Tryd.prog.depth BT (2 / Tryd.prog.cellsOf BT) 0 BT 1 = true := by kernel_rfl

set_option maxHeartbeats 1000000 in
set_option maxRecDepth 100000 in
theorem check_used (b : Nat) (w : World) (h0 : w.cell? ⟨b, 0, none⟩ = some (.pointer (some ⟨b, 0, none⟩))) :
    Calls Tryd.prog 75 #[.pointer (some ⟨b, 0, none⟩)] w fun e w' => e = .returned (.tuple #[]) ∧ w' = w := by
  obtain ⟨j, hj, _⟩ := Option.map_eq_some_iff.1 Tryd.builderInfo
  go_enter Tryd.func75, Tryd.ntmps75
  go_wp2
  rw [Lib.run_neq_ptr_same w _ Tryd.underlying75 hj]
  go_wp2
  go_end0
  exact ⟨rfl, rfl⟩

set_option maxHeartbeats 1000000 in
set_option maxRecDepth 100000 in
theorem check_fresh (b : Nat) (w : World) (h0 : w.cell? ⟨b, 0, none⟩ = some (.pointer none)) (hsh : w.shape? b = some (BT, 2)) (hfz : w.frozen? ⟨b, 0, none⟩ = false) :
    Calls Tryd.prog 75 #[.pointer (some ⟨b, 0, none⟩)] w fun e w' => e = .returned (.tuple #[]) ∧ w' = w.setCell ⟨b, 0, none⟩ (.pointer (some ⟨b, 0, none⟩)) := by
  obtain ⟨j, hj, hjs⟩ := Option.map_eq_some_iff.1 Tryd.builderInfo
  go_enter Tryd.func75, Tryd.ntmps75
  go_wp2
  rw [Lib.run_to_unsafe w ⟨b, 0, none⟩ Tryd.underlying75 Tryd.underlying110 hj (by rw [hjs]; decide) hsh (Nat.zero_lt_succ 1)]
  simp only [Result.andThen]
  rw [Oper.upon_value]
  go_wp2
  rw [run_callFunc_extern Tryd.func80 (by kernel_rfl) (by kernel_rfl) (by kernel_rfl) (e := Extern.AbiNoEscape.same) (by kernel_rfl)]
  rw [Lib.run_noEscape]
  simp only [Result.andThen]
  rw [Oper.upon_value]
  go_wp2
  rw [Lib.run_from_unsafe w ⟨b, 0, none⟩ Tryd.underlying110 Tryd.underlying75 hj hsh Tryd.builderLies]
  simp only [Result.andThen]
  rw [Oper.upon_value]
  go_wp2
  go_end0
  exact ⟨rfl, rfl⟩

theorem check_any (B b : Nat) (bs : List Value) (w : World) (h : Lib.IsBuilder BT BE B b bs w) :
    Calls Tryd.prog 75 #[.pointer (some ⟨b, 0, none⟩)] w fun e w' => e = .returned (.tuple #[]) ∧ Lib.BuilderAt BT BE B b (.pointer (some ⟨b, 0, none⟩)) bs w' ∧ Below B w w' := by
  rcases h with h | h
  · refine (check_fresh b w h.cell0 h.shape h.frozen0).mono ?_
    rintro e w' ⟨rfl, rfl⟩
    exact ⟨rfl, h.used _, (Below.refl B w).setCell (p := ⟨b, 0, none⟩) h.1 _⟩
  · refine (check_used b w h.cell0).mono ?_
    rintro e w' ⟨rfl, rfl⟩
    exact ⟨rfl, h, Below.refl B _⟩

set_option maxHeartbeats 2000000 in
set_option maxRecDepth 100000 in
theorem write_any (B b : Nat) (bs : List Value) (s : ByteArray) (w : World) (h : Lib.IsBuilder BT BE B b bs w) (hlen : bs.length + s.size ≤ 140737488355328) (hBw : B ≤ w.heap.size) :
    Calls Tryd.prog 51 #[.pointer (some ⟨b, 0, none⟩), .string s] w fun e w' => e = .returned (.tuple #[.int .i64 s.size, .nilIface]) ∧ Lib.BuilderAt BT BE B b (.pointer (some ⟨b, 0, none⟩)) (bs ++ Lib.strCells s) w' ∧ Below B w w' := by
  obtain ⟨i0, hi, hz0, hz1, hz2⟩ := info_parts Tryd.infoByte
  go_enter Tryd.func51, Tryd.ntmps51
  go_wp2_with (go_at_call 75; refine (check_any B b bs _ h).mono ?_)
  rintro e w1 ⟨rfl, h1, hb1⟩
  obtain ⟨hB, v, hbk, hown, hne⟩ := h1
  have c0 : w1.cell? ⟨b, 0, none⟩ = some (.pointer (some ⟨b, 0, none⟩)) := by rw [Lib.cell_of_heap hbk]; rfl
  have c1 : w1.cell? ⟨b, 1, none⟩ = some v := by rw [Lib.cell_of_heap hbk]; rfl
  go_wp2_with (at_builtin; refine Lib.wpList_append_own_string _ rfl _ _ 76 9 rfl B BE i0 Tryd.underlying76 Tryd.underlying9 hi hz0 hz1 hz2 _ _ _ rfl hown s rfl ?c3 ?c4 ?c5 ?_)
  case c3 => unfold maxLen; omega
  case c4 => omega
  case c5 => have := hb1.size; omega
  intro v' w2 hown' hgrow _
  have hlt : b < w1.heap.size := by
    rcases Nat.lt_or_ge b w1.heap.size with h' | h'
    · exact h'
    · simp [Array.getElem?_eq_none h'] at hbk
  have hb2 : w2.heap[b]? = some (.cells #[.pointer (some ⟨b, 0, none⟩), v] BT (0, 0)) := by
    rw [hgrow.block b hlt (fun e => hne e.symm)]
    exact hbk
  have d1 : w2.cell? ⟨b, 1, none⟩ = some v := by rw [Lib.cell_of_heap hb2]; rfl
  have f1 : w2.frozen? ⟨b, 1, none⟩ = false := Lib.frozen_of_heap hb2 1
  obtain ⟨ao, n', cap, rfl⟩ : ∃ ao n' cap, v' = .slice ao n' cap := by
    rcases hown'.2 with ⟨hv, _⟩ | ⟨g, cap, cur, hv, _⟩
    · exact ⟨_, _, _, hv⟩
    · exact ⟨_, _, _, hv⟩
  go_wp2
  go_ret2
  refine ⟨rfl, ?_, ?_⟩
  · exact Lib.BuilderAt.put (T := BT) (e := BE) hB hb2 (bs' := bs ++ Lib.strCells s) (by simpa [Lib.strCells_length] using hown') (by decide)
  · exact (hb1.grown hgrow (by have := hb1.size; omega) (fun k hk => (hown.lt k hk).1)).setCell (p := ⟨b, 1, none⟩) hB _

/-- Bytes as cells. -/
def cellsN (l : List Nat) : List Value := l.map fun n : Nat => Value.int .u8 (n : Int)
theorem cellsN_length (l : List Nat) : (cellsN l).length = l.length := by rw [cellsN, List.length_map]
theorem cellsN_bytes {l : List Nat} (h : ∀ x ∈ l, x < 256) : cellsN l = Lib.byteCells (l.map UInt8.ofNat) := by
  unfold cellsN Lib.byteCells
  rw [List.map_map]
  refine List.map_congr_left fun x hx => ?_
  have := h x hx
  simp only [Function.comp]
  rw [UInt8.toNat_ofNat', Nat.mod_eq_of_lt (by omega)]
theorem cells_nats (s : ByteArray) : Lib.strCells s = cellsN (nats s) := by
  rw [cellsN_bytes (nats_lt s), Lib.strCells_eq]
  congr 1
  exact (congrArg (fun z : ByteArray => z.data.toList) (bytes_nats s)).symm.trans (by simp [bytesN])

/-- Block b is a builder of the call's own that holds the bytes l. -/
structure Bld (W : World) (b : Nat) (l : List Nat) (w : World) : Prop where
  isB : Lib.IsBuilder BT BE W.heap.size b (cellsN l) w
  bel : Below W.heap.size W w
  low : ∀ x ∈ l, x < 256
theorem builderAt_kept {B b : Nat} {p : Value} {bs : List Value} {w w' : World} (h : Lib.BuilderAt BT BE B b p bs w) (hb : Below w.heap.size w w') : Lib.BuilderAt BT BE B b p bs w' := by
  have hlt := h.lt
  obtain ⟨hB, v, hbk, hown, hne⟩ := h
  exact ⟨hB, v, (hb.block b hlt).trans hbk, hown.kept (row := none) ⟨hb.os, hb.tape, hb.output, hb.size, fun k hk _ => hb.block k hk⟩ (by cases v.ownBlock <;> simp), hne⟩
theorem Bld.below {W w w' : World} {b : Nat} {l : List Nat} (h : Bld W b l w) (hb : Below w.heap.size w w') : Bld W b l w' := by
  refine ⟨?_, chain h.bel hb, h.low⟩
  rcases h.isB with k | k
  · exact .inl (builderAt_kept k hb)
  · exact .inr (builderAt_kept k hb)
theorem Bld.new (W : World) : Bld W W.heap.size [] (W.alloc (.cells #[.pointer none, .slice none 0 0] BT)) :=
  ⟨Lib.fresh_isBuilder BT BE W, (bl W).alloc (Nat.le_refl _) _, by simp⟩
theorem Bld.text {W w : World} {b : Nat} {l : List Nat} (h : Bld W b l w) (s : ByteArray) (hn : l.length + s.size ≤ 140000000000000) :
    Calls Tryd.prog 51 #[.pointer (some ⟨b, 0, none⟩), .string s] w fun e w' => e = .returned (.tuple #[.int .i64 s.size, .nilIface]) ∧ Bld W b (l ++ nats s) w' := by
  refine (write_any W.heap.size b (cellsN l) s w h.isB (by rw [cellsN_length]; omega) h.bel.size).mono ?_
  rintro e w' ⟨rfl, h1, h2⟩
  rw [cells_nats] at h1
  refine ⟨rfl, .inr (by simpa [cellsN] using h1), h.bel.trans h2, fun x hx => ?_⟩
  rcases List.mem_append.1 hx with hx | hx
  · exact h.low x hx
  · exact nats_lt s x hx
theorem Bld.read {W w : World} {b : Nat} {l : List Nat} (h : Bld W b l w) :
    Calls Tryd.prog 52 #[.pointer (some ⟨b, 0, none⟩)] w fun e w' => e = .returned (.string (bytesN l)) ∧ Below W.heap.size W w' := by
  have k := h.isB
  rw [cellsN_bytes h.low] at k
  refine (Tryd.Builder_String_any W.heap.size b (l.map UInt8.ofNat) w k h.bel.size).mono ?_
  rintro e w' ⟨rfl, h2⟩
  exact ⟨rfl, h.bel.trans h2⟩

end Go.Proofs.YtmieonfdenjedaaDoor

/-
  The document's Put of commands.
-/
namespace Go.Proofs.YtmieonfdenjedaaDoor
open Go.RowKit

theorem ent24 {s : ByteArray} (h : entE s = 0) : s.size ≤ 24 := by
  unfold entE at h
  by_cases h1 : s.size = 0
  · omega
  · rw [if_neg h1] at h
    by_cases h2 : 24 < s.size
    · rw [if_pos h2] at h; cases h
    · omega
theorem putC_head {c : Cm} (h : rightC c = 0) : putC c = headC c ++ bodyC c := by unfold putC; rw [if_pos h]
set_option maxHeartbeats 8000000 in
set_option maxRecDepth 10000 in
theorem dputc14_any (c : Cm) (w : World) (hv : CF14 w c) (hok : okF c.fs) (hn : c.fs.length ≤ 9223372036854775807) (hz : c.ent.size ≤ 9223372036854775807) : Ret 16 #[cv14 c] w (.tuple #[.string (putC c), .int .i64 ((rightC c : Nat) : Int)]) := by
  have CR := Lib.hid (fun w' (h : Below w.heap.size w w') => drightc14_any c w' (hv.below h) hok hn hz)
  have CP := Lib.hid (fun w' (h : Below w.heap.size w w') => dput_any w' (.slice c.fa c.fs.length c.fc) c.fs (CF14.list (hv.below h)) hok hn)
  have HB := Lib.hid (show Below w.heap.size w (w.alloc (ocC c)) from (bl w).alloc (Nat.le_refl _) _)
  have HX := Lib.hid (boxC_new w c)
  by_cases h0 : rightC c ≠ 0
  · have HE := Lib.hid (show putC c = ⟨#[]⟩ by unfold putC; rw [if_neg h0])
    have h0' : ¬ ((rightC c : Nat) : Int) = 0 := by omega
    generalize rightC c = z at *
    clear h0
    go_enter Tryd.func16, Tryd.ntmps16
    go_wp2_with (go_at_call 10; (with_reducible refine (CR.out _ HB.out).mono ?_); rintro e w2 ⟨rfl, hb2⟩)
    go_ret2
    exact ⟨ret_sie HE.out.symm rfl, chain HB.out hb2⟩
  have h0 : rightC c = 0 := by omega
  have HPC := Lib.hid (putC_head h0)
  have HR0 := Lib.hid h0
  have his := rightC_is h0
  rw [h0] at CR
  have z1 := enc_small 1
  have z2 := enc_small 2
  have z3 := enc_small 3
  have z4 := enc_small (c.se - c.sf).toNat
  have z5 := putS_size c.fs
  clear hv hok hn hz h0
  obtain ⟨k, ent, tg, sf, se, fa, fc, fs⟩ := c
  simp only at his CR CP z4 z5
  have HBX := Lib.hid (show ∀ w', Below (w.alloc (.cells #[.int .i64 k, .string ent, .int .i64 tg, .int .i64 sf, .int .i64 se, .slice fa fs.length fc] 26)).heap.size (w.alloc (.cells #[.int .i64 k, .string ent, .int .i64 tg, .int .i64 sf, .int .i64 se, .slice fa fs.length fc] 26)) w' → BoxC w' w.heap.size ⟨k, ent, tg, sf, se, fa, fc, fs⟩ from fun w' h => HX.out.below h)
  rcases his with ⟨rfl, rfl, he, hs, hf⟩ | ⟨rfl, he, ht, hs, hf⟩ | ⟨rfl, he, ht, rfl, rfl, hfs⟩
  · obtain ⟨p1, p2, p3⟩ := span_bounds hs
    have hvb : valB sf = true := by unfold valB; simp only [Bool.and_eq_true, decide_eq_true_eq]; omega
    have z8 := int_small hvb
    have z9 := text_small24 (ent24 he)
    have CH := Lib.hid (fun w => dtext_any ent (by have := ent24 he; omega) w)
    have CK := Lib.hid (show ∀ w, Ret 38 #[.int .i64 1] w (.string (encS 1)) from fun w => dnumof_any 1 (by omega) w)
    have CF := Lib.hid (fun w => dofint_any sf w)
    have CL := Lib.hid (show ∀ w, Ret 38 #[.int .i64 (se - sf)] w (.string (encS (se - sf).toNat)) from fun w => by
      have := dnumof_any (se - sf).toNat (by omega) w
      rwa [show (((se - sf).toNat : Nat) : Int) = se - sf by omega] at this)
    have hw1 : IntKind.i64.wrap (se - sf) = se - sf := by rw [IntKind.wrap_i64]; omega
    have hw2 : wrap64 (se - sf) = se - sf := IntWalk.wrap64_in _ (by omega)
    have HBY := Lib.hid (show putC ⟨1, ent, 0, sf, se, fa, fc, fs⟩ = encS 1 ++ textS ent ++ intS sf ++ encS (se - sf).toNat ++ putS fs by rw [HPC.out]; unfold headC bodyC; simp only [if_true, show ¬ (1 : Int) = 3 by decide, if_false]; simp only [ByteArray.append_assoc]; rfl)
    have y1 : ¬ (encS 1).size + (textS ent).size > 9223372036854775807 := by omega
    have y2 : ¬ (encS 1).size + (textS ent).size + (intS sf).size > 9223372036854775807 := by omega
    have y3 : ¬ (encS 1).size + (textS ent).size + (intS sf).size + (encS (se - sf).toNat).size > 9223372036854775807 := by omega
    have y4 : ¬ (encS 1).size + (textS ent).size + (intS sf).size + (encS (se - sf).toNat).size + (putS fs).size > 9223372036854775807 := by omega
    generalize textS ent = T at *
    generalize encS 1 = E at *
    generalize intS sf = F at *
    generalize encS (se - sf).toNat = L at *
    generalize putS fs = P at *
    clear hs hf p1 p2 p3 hvb z1 z2 z3 z4 z5 z8 z9 he
    go_enter Tryd.func16, Tryd.ntmps16
    go_wp2_with (first
      | (go_at_call 10; (with_reducible refine (CR.out _ HB.out).mono ?_); rintro e w2 ⟨rfl, hb2⟩; have HC2 := Lib.hid (chain HB.out hb2); have HX2 := Lib.hid (HBX.out _ hb2); obtain ⟨b0, b1, b2, b3, b4, b5⟩ := HBX.out _ hb2; clear hb2)
      | (go_at_call 38; (with_reducible refine (CK.out _).mono ?_); rintro e w3 ⟨rfl, hb3⟩; have HC3 := Lib.hid (chain HC2.out hb3); have HX3 := Lib.hid (HX2.out.below hb3); obtain ⟨c0, c1, c2, c3, c4, c5⟩ := HX2.out.below hb3; clear hb3)
      | (go_at_call 39; (with_reducible refine (CH.out _).mono ?_); rintro e w4 ⟨rfl, hb4⟩; have HC4 := Lib.hid (chain HC3.out hb4); have HX4 := Lib.hid (HX3.out.below hb4); obtain ⟨d0, d1, d2, d3, d4, d5⟩ := HX3.out.below hb4; clear hb4)
      | (go_at_call 41; (with_reducible refine (CP.out _ HC4.out).mono ?_); rintro e w5 ⟨rfl, hb5⟩; have HC5 := Lib.hid (chain HC4.out hb5); have HX5 := Lib.hid (HX4.out.below hb5); obtain ⟨x0, x1, x2, x3, x4, x5⟩ := HX4.out.below hb5; clear hb5))
    have MK := Lib.hid (show ∀ w', Below w5.heap.size w5 w' → (Below w5.heap.size w5 w' ∧ w'.cell? ⟨w.heap.size, 3, none⟩ = some (.int .i64 sf) ∧ w'.cell? ⟨w.heap.size, 4, none⟩ = some (.int .i64 se)) from fun w' h => ⟨h, (HX5.out.below h).2.2.2.1, (HX5.out.below h).2.2.2.2.1⟩)
    go_region_held3 (fun w' => Below w5.heap.size w5 w' ∧ w'.cell? ⟨w.heap.size, 3, none⟩ = some (.int .i64 sf) ∧ w'.cell? ⟨w.heap.size, 4, none⟩ = some (.int .i64 se))
      (first | exact MK.out _ ((bl w5).drew) | exact MK.out _ hb7 | exact MK.out _ hb6 | fail)
      (first
        | (go_at_call 40; (with_reducible refine (CF.out _).mono ?_); (rintro e w6 ⟨rfl, hb0⟩); (have hb6 := chain (by go_split_ands; assumption) hb0); clear hb0)
        | (go_at_call 38; (with_reducible refine (CL.out _).mono ?_); (rintro e w7 ⟨rfl, hb0⟩); (have hb7 := chain (by go_split_ands; assumption) hb0); clear hb0))
    have HC7 := Lib.hid (chain HC5.out hb7)
    go_wp2_with fail
    go_ret2
    exact ⟨ret_sie (by rw [HBY.out]) (by rw [HR0.out]; rfl), HC7.out⟩
  · obtain ⟨p1, p2, p3⟩ := span_bounds hs
    have hvb : valB sf = true := by unfold valB; simp only [Bool.and_eq_true, decide_eq_true_eq]; omega
    have z8 := int_small hvb
    have z9 := int_small (tgB_val ht)
    have CH := Lib.hid (fun w => dofint_any tg w)
    have CK := Lib.hid (show ∀ w, Ret 38 #[.int .i64 2] w (.string (encS 2)) from fun w => dnumof_any 2 (by omega) w)
    have CF := Lib.hid (fun w => dofint_any sf w)
    have CL := Lib.hid (show ∀ w, Ret 38 #[.int .i64 (se - sf)] w (.string (encS (se - sf).toNat)) from fun w => by
      have := dnumof_any (se - sf).toNat (by omega) w
      rwa [show (((se - sf).toNat : Nat) : Int) = se - sf by omega] at this)
    have hw1 : IntKind.i64.wrap (se - sf) = se - sf := by rw [IntKind.wrap_i64]; omega
    have hw2 : wrap64 (se - sf) = se - sf := IntWalk.wrap64_in _ (by omega)
    have HBY := Lib.hid (show putC ⟨2, ent, tg, sf, se, fa, fc, fs⟩ = encS 2 ++ intS tg ++ intS sf ++ encS (se - sf).toNat ++ putS fs by rw [HPC.out]; unfold headC bodyC; simp only [show ¬ (2 : Int) = 1 by decide, show ¬ (2 : Int) = 3 by decide, if_false]; simp only [ByteArray.append_assoc]; rfl)
    have y1 : ¬ (encS 2).size + (intS tg).size > 9223372036854775807 := by omega
    have y2 : ¬ (encS 2).size + (intS tg).size + (intS sf).size > 9223372036854775807 := by omega
    have y3 : ¬ (encS 2).size + (intS tg).size + (intS sf).size + (encS (se - sf).toNat).size > 9223372036854775807 := by omega
    have y4 : ¬ (encS 2).size + (intS tg).size + (intS sf).size + (encS (se - sf).toNat).size + (putS fs).size > 9223372036854775807 := by omega
    generalize intS tg = T at *
    generalize encS 2 = E at *
    generalize intS sf = F at *
    generalize encS (se - sf).toNat = L at *
    generalize putS fs = P at *
    clear hs hf p1 p2 p3 hvb z1 z2 z3 z4 z5 z8 z9 he ht
    go_enter Tryd.func16, Tryd.ntmps16
    go_wp2_with (first
      | (go_at_call 10; (with_reducible refine (CR.out _ HB.out).mono ?_); rintro e w2 ⟨rfl, hb2⟩; have HC2 := Lib.hid (chain HB.out hb2); have HX2 := Lib.hid (HBX.out _ hb2); obtain ⟨b0, b1, b2, b3, b4, b5⟩ := HBX.out _ hb2; clear hb2)
      | (go_at_call 38; (with_reducible refine (CK.out _).mono ?_); rintro e w3 ⟨rfl, hb3⟩; have HC3 := Lib.hid (chain HC2.out hb3); have HX3 := Lib.hid (HX2.out.below hb3); obtain ⟨c0, c1, c2, c3, c4, c5⟩ := HX2.out.below hb3; clear hb3)
      | (go_at_call 40; (with_reducible refine (CH.out _).mono ?_); rintro e w4 ⟨rfl, hb4⟩; have HC4 := Lib.hid (chain HC3.out hb4); have HX4 := Lib.hid (HX3.out.below hb4); obtain ⟨d0, d1, d2, d3, d4, d5⟩ := HX3.out.below hb4; clear hb4)
      | (go_at_call 41; (with_reducible refine (CP.out _ HC4.out).mono ?_); rintro e w5 ⟨rfl, hb5⟩; have HC5 := Lib.hid (chain HC4.out hb5); have HX5 := Lib.hid (HX4.out.below hb5); obtain ⟨x0, x1, x2, x3, x4, x5⟩ := HX4.out.below hb5; clear hb5))
    have MK := Lib.hid (show ∀ w', Below w5.heap.size w5 w' → (Below w5.heap.size w5 w' ∧ w'.cell? ⟨w.heap.size, 3, none⟩ = some (.int .i64 sf) ∧ w'.cell? ⟨w.heap.size, 4, none⟩ = some (.int .i64 se)) from fun w' h => ⟨h, (HX5.out.below h).2.2.2.1, (HX5.out.below h).2.2.2.2.1⟩)
    go_region_held3 (fun w' => Below w5.heap.size w5 w' ∧ w'.cell? ⟨w.heap.size, 3, none⟩ = some (.int .i64 sf) ∧ w'.cell? ⟨w.heap.size, 4, none⟩ = some (.int .i64 se))
      (first | exact MK.out _ ((bl w5).drew) | exact MK.out _ hb7 | exact MK.out _ hb6 | fail)
      (first
        | (go_at_call 40; (with_reducible refine (CF.out _).mono ?_); (rintro e w6 ⟨rfl, hb0⟩); (have hb6 := chain (by go_split_ands; assumption) hb0); clear hb0)
        | (go_at_call 38; (with_reducible refine (CL.out _).mono ?_); (rintro e w7 ⟨rfl, hb0⟩); (have hb7 := chain (by go_split_ands; assumption) hb0); clear hb0))
    have HC7 := Lib.hid (chain HC5.out hb7)
    go_wp2_with fail
    go_ret2
    exact ⟨ret_sie (by rw [HBY.out]) (by rw [HR0.out]; rfl), HC7.out⟩
  · have z9 := int_small (tgB_val ht)
    have CH := Lib.hid (fun w => dofint_any tg w)
    have CK := Lib.hid (show ∀ w, Ret 38 #[.int .i64 3] w (.string (encS 3)) from fun w => dnumof_any 3 (by omega) w)
    have HBY := Lib.hid (show putC ⟨3, ent, tg, 0, 0, fa, fc, fs⟩ = encS 3 ++ intS tg by rw [HPC.out]; unfold headC bodyC; simp only [show ¬ (3 : Int) = 1 by decide, if_false, if_true]; rw [show (encS (3 : Int).toNat ++ intS tg) ++ (⟨#[]⟩ : ByteArray) = encS 3 ++ intS tg from ByteArray.append_empty])
    have y1 : ¬ (encS 3).size + (intS tg).size > 9223372036854775807 := by omega
    generalize intS tg = T at *
    generalize encS 3 = E at *
    clear z1 z2 z3 z4 z5 z9 he ht hfs
    go_enter Tryd.func16, Tryd.ntmps16
    go_wp2_with (first
      | (go_at_call 10; (with_reducible refine (CR.out _ HB.out).mono ?_); rintro e w2 ⟨rfl, hb2⟩; have HC2 := Lib.hid (chain HB.out hb2); have HX2 := Lib.hid (HBX.out _ hb2); obtain ⟨b0, b1, b2, b3, b4, b5⟩ := HBX.out _ hb2; clear hb2)
      | (go_at_call 38; (with_reducible refine (CK.out _).mono ?_); rintro e w3 ⟨rfl, hb3⟩; have HC3 := Lib.hid (chain HC2.out hb3); have HX3 := Lib.hid (HX2.out.below hb3); obtain ⟨c0, c1, c2, c3, c4, c5⟩ := HX2.out.below hb3; clear hb3)
      | (go_at_call 40; (with_reducible refine (CH.out _).mono ?_); rintro e w4 ⟨rfl, hb4⟩; have HC4 := Lib.hid (chain HC3.out hb4); have HX4 := Lib.hid (HX3.out.below hb4); obtain ⟨d0, d1, d2, d3, d4, d5⟩ := HX3.out.below hb4; clear hb4))
    go_ret2
    exact ⟨ret_sie (by rw [HBY.out]) (by rw [HR0.out]; rfl), HC4.out⟩
end Go.Proofs.YtmieonfdenjedaaDoor

/-
  The program's Put: the bytes of a list of fields.
-/
namespace Go.Proofs.YtmieonfdenjedaaDoor
open Go.RowKit

set_option maxHeartbeats 4000000 in
set_option maxRecDepth 100000 in
theorem pput_any (w : World) (v : Value) (l : List Fd) (hl : ListF w v l) (hok : okF l) (hn : l.length ≤ 9223372036854775807) :
    Ret 61 #[v] w (.tuple #[.string (putS l), .int .i64 ((rightE l : Nat) : Int)]) := by
  have CR := Lib.hid (pright_any w v l hl hok hn)
  obtain ⟨A, c, rfl, hF, hc, hnc⟩ := hl
  have HF := Lib.hid hF
  by_cases h0 : rightE l = 0
  · obtain ⟨h8, hg⟩ := right_in h0
    have RA := Lib.hid (right_at l none hg)
    have HE := Lib.hid (show putS l = encS l.length ++ manyS l by unfold putS; rw [if_pos h0])
    have HR0 := Lib.hid h0
    rw [h0] at CR
    have CF := Lib.hid (show ∀ w, Calls Tryd.prog 50 #[.int .i64 (l.length : Int)] w fun e w' => e = .returned (.tuple #[.string (encS l.length), .int .i64 0]) ∧ Below w.heap.size w w' from fun w => (num_any (l.length : Int) w).mono fun e w' h => by
      obtain ⟨k1, k2⟩ := num_ok (n := l.length) (by omega)
      exact ⟨by rw [h.1, k1, k2], h.2⟩)
    obtain ⟨n, hnm⟩ : ∃ n, l.length = n := ⟨_, rfl⟩
    rw [hnm] at h8 CR CF HE ⊢
    have HN := Lib.hid hnm
    have HES := Lib.hid (show (encS n).size ≤ 10 by rw [encS_size]; have := kN_le n; omega)
    generalize encS n = E at *
    clear hF hok hc hnc hnm hn h0 hg
    go_enter Tryd.func61, Tryd.ntmps61
    go_wp2_with (first
      | (go_at_call 56; with_reducible refine CR.out.mono ?_; rintro e w1 ⟨rfl, hb1⟩)
      | (go_at_call 50; with_reducible refine (CF.out _).mono ?_; rintro e w2 ⟨rfl, hb2⟩; have HB2 := Lib.hid (chain hb1 hb2); have B0 := Lib.hid (Bld.new w2); clear hb1 hb2)
      | (go_at_call 51; with_reducible refine (B0.out.text E (by have := HES.out; simp; omega)).mono ?_; rintro e w3 ⟨rfl, hb3⟩; have B1 := Lib.hid hb3; clear hb3))
    go_loopw [27] (fun i wr => ∃ (k : Nat) (L : List Nat), k ≤ n ∧ i = .int .i64 k ∧ L = nats (E ++ manyS (l.take k)) ∧ L.length ≤ 100 + 100 * k ∧ Bld w2 w2.heap.size L wr) (fun i _ => n - (intOf i).toNat)
    case atStart => exact ⟨0, _, Nat.zero_le _, rfl, by rw [List.take_zero, manyS, append_empty]; rfl, by have := HES.out; rw [List.nil_append, nats_length]; omega, B1.out⟩
    case round =>
      obtain ⟨k, L, hk, rfl, hL, hz, hB⟩ := hrel
      have HS := Lib.hid hL
      have HB := Lib.hid hB
      clear hL hB
      by_cases hlt : k < n
      · have hlt' : (k : Int) < (n : Int) := by omega
        obtain ⟨f, hf⟩ : ∃ f, l[k]? = some f := ⟨_, List.getElem?_eq_getElem (by have := HN.out; omega)⟩
        obtain ⟨q1, q2⟩ := RA.out f (List.mem_of_getElem? hf)
        obtain ⟨g, off, rfl, c0, c1⟩ := (HF.out.below (chain HB2.out HB.out.bel)) k f hf
        have CT := Lib.hid (show ∀ w, Calls Tryd.prog 59 #[.string f.n] w fun e w' => e = .returned (.string (textS f.n)) ∧ Below w.heap.size w w' from fun w => text_any f.n (by have := name_size q1; omega) w)
        have CI := Lib.hid (show ∀ w, Calls Tryd.prog 60 #[.int .i64 f.v] w fun e w' => e = .returned (.tuple #[.string (intS f.v), .int .i64 (intE f.v)]) ∧ Below w.heap.size w w' from fun w => int_any f.v w)
        have t1 := text_small (name_size q1)
        have t2 := int_small q2
        have NX := Lib.hid (show L ++ nats (textS f.n) ++ nats (intS f.v) = nats (E ++ manyS (l.take (k + 1))) by
          rw [List.take_add_one, hf, Option.toList_some, manyS_append, manyS, manyS, append_empty, oneS, HS.out, ← nats_append, ← nats_append, ByteArray.append_assoc, ByteArray.append_assoc])
        generalize textS f.n = T at *
        generalize intS f.v = I at *
        generalize intE f.v = J at *
        have N1 := Lib.hid (show L.length + T.size ≤ 140000000000000 by omega)
        have N2 := Lib.hid (show (L ++ nats T).length + I.size ≤ 140000000000000 by rw [List.length_append, nats_length]; omega)
        have N3 := Lib.hid (show (L ++ nats T ++ nats I).length ≤ 100 + 100 * (k + 1) by rw [List.length_append, List.length_append, nats_length, nats_length]; omega)
        clear hf q1 q2 t1 t2
        go_wp2_with (first
          | (go_at_call 60; with_reducible refine (CI.out _).mono ?_; rintro e w4 ⟨rfl, hb4⟩; have x0 := keepc (b := wr.heap.size) (o := 0) (v := .string f.n) hb4 (by simp [go_sem]); have B4 := Lib.hid ((HB.out.below ((bl wr).alloc (Nat.le_refl _) _)).below hb4); clear hb4)
          | (go_at_call 59; with_reducible refine (CT.out _).mono ?_; rintro e w5 ⟨rfl, hb5⟩; have B5 := Lib.hid (B4.out.below hb5); clear hb5)
          | (go_at_call 51; with_reducible refine (B5.out.text T N1.out).mono ?_; rintro e w6 ⟨rfl, hb6⟩; have B6 := Lib.hid hb6; clear hb6)
          | (go_at_call 51; with_reducible refine (B6.out.text I N2.out).mono ?_; rintro e w7 ⟨rfl, hb7⟩; have B7 := Lib.hid hb7; clear hb7))
        exact ⟨⟨k + 1, _, by omega, by go_num, NX.out, N3.out, B7.out⟩, by simp [intOf] <;> omega⟩
      · obtain rfl : k = n := by omega
        have hlt' : ¬ (k : Int) < (k : Int) := by omega
        have HX := Lib.hid (show bytesN L = E ++ manyS l by rw [HS.out, bytes_nats, List.take_of_length_le (by have := HN.out; omega)])
        go_wp2_with (go_at_call 52; with_reducible refine HB.out.read.mono ?_; rintro e w4 ⟨rfl, hb4⟩)
        go_ret2
        exact ⟨ret_sie (by rw [HX.out, HE.out]) (by rw [HR0.out]; rfl), chain HB2.out hb4⟩
  · have HE := Lib.hid (show putS l = ⟨#[]⟩ by unfold putS; rw [if_neg h0])
    have h0' : ¬ ((rightE l : Nat) : Int) = 0 := by omega
    generalize rightE l = z at *
    generalize l.length = n at *
    clear hF hok hc hnc h0
    go_enter Tryd.func61, Tryd.ntmps61
    go_wp2_with (first
      | (go_at_call 56; with_reducible refine CR.out.mono ?_; rintro e w1 ⟨rfl, hb1⟩))
    go_ret2
    exact ⟨ret_sie HE.out.symm rfl, hb1⟩

end Go.Proofs.YtmieonfdenjedaaDoor

/-
  The program's bytes of versions and rows: Put and PutRow.
-/
namespace Go.Proofs.YtmieonfdenjedaaDoor
open Go.RowKit

/-- Numbers laid one behind the other. -/
def catN : List Nat → ByteArray
  | [] => ⟨#[]⟩
  | n :: l => encS n ++ catN l
theorem catN_snoc : ∀ (l : List Nat) (n : Nat), catN (l ++ [n]) = catN l ++ encS n
  | [], n => by rw [List.nil_append]; show encS n ++ catN [] = catN [] ++ encS n; rw [catN, append_empty, empty_append]
  | m :: l, n => by rw [List.cons_append, catN, catN_snoc l n, catN, ByteArray.append_assoc]
theorem num_good_any (n : Nat) (hn : n < 4611686018427387904) (w : World) : Calls Tryd.prog 50 #[.int .i64 (n : Int)] w fun e w' => e = .returned (.tuple #[.string (encS n), .int .i64 0]) ∧ Below w.heap.size w w' :=
  (num_any (n : Int) w).mono fun e w' h => by
    obtain ⟨k1, k2⟩ := num_ok hn
    exact ⟨by rw [h.1, k1, k2], h.2⟩

end Go.Proofs.YtmieonfdenjedaaDoor

/-
  The program's bytes of commands: laid and Put.
-/
namespace Go.Proofs.YtmieonfdenjedaaDoor
open Go.RowKit

theorem ent_le14 {s : ByteArray} (h : entE s = 0) : s.size ≤ 24 := by
  unfold entE at h
  by_cases h1 : s.size = 0
  · omega
  · rw [if_neg h1] at h
    by_cases h2 : 24 < s.size
    · rw [if_pos h2] at h; cases h
    · omega
theorem laid_k1 {c : Cm} (h : c.k = 1) : headC c ++ bodyC c = encS 1 ++ textS c.ent ++ (intS c.sf ++ encS (c.se - c.sf).toNat ++ putS c.fs) := by
  unfold headC bodyC
  rw [h, if_pos rfl, if_neg (by decide)]
  rfl
theorem laid_k2 {c : Cm} (h : c.k = 2) : headC c ++ bodyC c = encS 2 ++ intS c.tg ++ (intS c.sf ++ encS (c.se - c.sf).toNat ++ putS c.fs) := by
  unfold headC bodyC
  rw [h, if_neg (by decide), if_neg (by decide)]
  rfl
theorem laid_k3 {c : Cm} (h : c.k = 3) : headC c ++ bodyC c = encS 3 ++ intS c.tg := by
  unfold headC bodyC
  rw [h, if_neg (by decide), if_pos rfl]
  exact ByteArray.append_empty
theorem int_good14 {n : Int} (h : valB n = true) (w : World) : Calls Tryd.prog 60 #[.int .i64 n] w fun e w' => e = .returned (.tuple #[.string (intS n), .int .i64 0]) ∧ Below w.heap.size w w' :=
  (int_any n w).mono fun e w' k => ⟨by rw [k.1, show intE n = 0 by rw [intE_val n, h]; rfl], k.2⟩

set_option maxHeartbeats 8000000 in
set_option maxRecDepth 10000 in
theorem laid14_any (c : Cm) (w : World) (hv : CF14 w c) (hok : okF c.fs) (hn : c.fs.length ≤ 9223372036854775807) (h0 : rightC c = 0) (hT : TabK w) : Ret 37 #[cv14 c] w (.string (headC c ++ bodyC c)) := by
  have HB := Lib.hid (show Below w.heap.size w (w.alloc (ocC c)) from (bl w).alloc (Nat.le_refl _) _)
  have HX := Lib.hid (boxC_new w c)
  have CPA := Lib.hid (fun w' (h : Below w.heap.size w w') => parts_any c.k w' (hT.below h))
  rcases rightC_is h0 with ⟨hk, hx1, he, hs, hf⟩ | ⟨hk, hx1, ht, hs, hf⟩ | ⟨hk, hx1, ht, hx2, hx3, hx4⟩
  · clear hx1
    obtain ⟨k, ent, tg, sf, se, fa, fc, fs⟩ := c
    simp only at *
    subst hk
    rw [pt1] at CPA
    have C1 := Lib.hid (show ∀ w, Calls Tryd.prog 50 #[.int .i64 1] w fun e w' => e = .returned (.tuple #[.string (encS 1), .int .i64 0]) ∧ Below w.heap.size w w' from fun w => num_good_any 1 (by omega) w)
    have z1 := enc_small 1
    have hes := ent_le14 he
    have C2 := Lib.hid (fun w => text_any ent (by omega) w)
    have z2 := text_small24 hes
    have hp := span_bounds hs
    obtain ⟨p1, p2, p3⟩ := hp
    have hvb : valB sf = true := by unfold valB; simp only [Bool.and_eq_true, decide_eq_true_eq]; omega
    have C3 := Lib.hid (fun w => int_good14 hvb w)
    have z3 := int_small hvb
    have C4 := Lib.hid (show ∀ w, Calls Tryd.prog 50 #[.int .i64 (se - sf)] w fun e w' => e = .returned (.tuple #[.string (encS (se - sf).toNat), .int .i64 0]) ∧ Below w.heap.size w w' from fun w => by
      have := num_good_any (se - sf).toNat (by omega) w
      rwa [show (((se - sf).toNat : Nat) : Int) = se - sf by omega] at this)
    have z4 := enc_small (se - sf).toNat
    have CP := Lib.hid (fun w' (h : Below w.heap.size w w') => pput_any w' (.slice fa fs.length fc) fs (hv.below h).list hok hn)
    have z5 := putS_size fs
    rw [hf] at CP
    have hw1 : IntKind.i64.wrap (se - sf) = se - sf := by rw [IntKind.wrap_i64]; omega
    have HBG := Lib.hid (laid_k1 (c := ⟨1, ent, tg, sf, se, fa, fc, fs⟩) rfl)
    simp only at HBG
    generalize headC ⟨1, ent, tg, sf, se, fa, fc, fs⟩ ++ bodyC ⟨1, ent, tg, sf, se, fa, fc, fs⟩ = BB at *
    generalize encS 1 = E1 at *
    generalize textS ent = T at *
    generalize intS sf = F at *
    generalize encS (se - sf).toNat = L at *
    generalize putS fs = FS at *
    have y1 : ¬ (E1.size + T.size) > 9223372036854775807 := by omega
    have y2 : ¬ (F.size + L.size) > 9223372036854775807 := by omega
    have y3 : ¬ ((F ++ L).size + FS.size) > 9223372036854775807 := by rw [ByteArray.size_append]; omega
    have y4 : ¬ ((E1 ++ T).size + (F ++ L ++ FS).size) > 9223372036854775807 := by simp only [ByteArray.size_append]; omega
    clear hv hok hn h0 hT z1 z2 z3 z4 z5 hs hf p1 p2 p3 hvb he hes
    go_enter Tryd.func37, Tryd.ntmps37
    go_wp2_with (first
      | (go_at_call 26; (with_reducible refine (CPA.out _ HB.out).mono ?_); rintro e w2 ⟨rfl, hb2⟩; have HC2 := Lib.hid ((chain HB.out hb2).alloc (chain HB.out hb2).size (oP14 true false true)); have HX2 := Lib.hid (HX.out.below (hb2.alloc hb2.size (oP14 true false true))); have HP2 := Lib.hid (boxP_new w2 true false true); have c0 := HX2.out.1; clear hb2)
      | (go_at_call 50; (with_reducible refine (C1.out _).mono ?_); rintro e w3 ⟨rfl, hb3⟩; have HC3 := Lib.hid (chain HC2.out hb3); have HX3 := Lib.hid (HX2.out.below hb3); have HP3 := Lib.hid (HP2.out.below hb3); obtain ⟨d30, d31, d32, d33, d34, d35⟩ := HX3.out; obtain ⟨p30, p31, p32⟩ := HP3.out; clear hb3)
      | (go_at_call 59; (with_reducible refine (C2.out _).mono ?_); rintro e w4 ⟨rfl, hb4⟩; have HC4 := Lib.hid (chain HC3.out hb4); have HX4 := Lib.hid (HX3.out.below hb4); have HP4 := Lib.hid (HP3.out.below hb4); obtain ⟨d40, d41, d42, d43, d44, d45⟩ := HX4.out; obtain ⟨p40, p41, p42⟩ := HP4.out; clear hb4)
      | (go_at_call 60; (with_reducible refine (C3.out _).mono ?_); rintro e w5 ⟨rfl, hb5⟩; have HC5 := Lib.hid (chain HC4.out hb5); have HX5 := Lib.hid (HX4.out.below hb5); have HP5 := Lib.hid (HP4.out.below hb5); obtain ⟨d50, d51, d52, d53, d54, d55⟩ := HX5.out; obtain ⟨p50, p51, p52⟩ := HP5.out; clear hb5)
      | (go_at_call 50; (with_reducible refine (C4.out _).mono ?_); rintro e w6 ⟨rfl, hb6⟩; have HC6 := Lib.hid (chain HC5.out hb6); have HX6 := Lib.hid (HX5.out.below hb6); have HP6 := Lib.hid (HP5.out.below hb6); obtain ⟨d60, d61, d62, d63, d64, d65⟩ := HX6.out; obtain ⟨p60, p61, p62⟩ := HP6.out; clear hb6)
      | (go_at_call 61; (with_reducible refine (CP.out _ HC6.out).mono ?_); rintro e w7 ⟨rfl, hb7⟩; have HC7 := Lib.hid (chain HC6.out hb7); have HP7 := Lib.hid (HP6.out.below hb7); obtain ⟨p70, p71, p72⟩ := HP7.out; clear hb7))
    go_ret
    exact ⟨ret_s HBG.out.symm, HC7.out⟩
  · clear hx1
    obtain ⟨k, ent, tg, sf, se, fa, fc, fs⟩ := c
    simp only at *
    subst hk
    rw [pt2] at CPA
    have C1 := Lib.hid (show ∀ w, Calls Tryd.prog 50 #[.int .i64 2] w fun e w' => e = .returned (.tuple #[.string (encS 2), .int .i64 0]) ∧ Below w.heap.size w w' from fun w => num_good_any 2 (by omega) w)
    have z1 := enc_small 2
    have htv := tgB_val ht
    have C2 := Lib.hid (fun w => int_good14 htv w)
    have z2 := int_small htv
    have hp := span_bounds hs
    obtain ⟨p1, p2, p3⟩ := hp
    have hvb : valB sf = true := by unfold valB; simp only [Bool.and_eq_true, decide_eq_true_eq]; omega
    have C3 := Lib.hid (fun w => int_good14 hvb w)
    have z3 := int_small hvb
    have C4 := Lib.hid (show ∀ w, Calls Tryd.prog 50 #[.int .i64 (se - sf)] w fun e w' => e = .returned (.tuple #[.string (encS (se - sf).toNat), .int .i64 0]) ∧ Below w.heap.size w w' from fun w => by
      have := num_good_any (se - sf).toNat (by omega) w
      rwa [show (((se - sf).toNat : Nat) : Int) = se - sf by omega] at this)
    have z4 := enc_small (se - sf).toNat
    have CP := Lib.hid (fun w' (h : Below w.heap.size w w') => pput_any w' (.slice fa fs.length fc) fs (hv.below h).list hok hn)
    have z5 := putS_size fs
    rw [hf] at CP
    have hw1 : IntKind.i64.wrap (se - sf) = se - sf := by rw [IntKind.wrap_i64]; omega
    have HBG := Lib.hid (laid_k2 (c := ⟨2, ent, tg, sf, se, fa, fc, fs⟩) rfl)
    simp only at HBG
    generalize headC ⟨2, ent, tg, sf, se, fa, fc, fs⟩ ++ bodyC ⟨2, ent, tg, sf, se, fa, fc, fs⟩ = BB at *
    generalize encS 2 = E1 at *
    generalize intS tg = T at *
    generalize intS sf = F at *
    generalize encS (se - sf).toNat = L at *
    generalize putS fs = FS at *
    have y1 : ¬ (E1.size + T.size) > 9223372036854775807 := by omega
    have y2 : ¬ (F.size + L.size) > 9223372036854775807 := by omega
    have y3 : ¬ ((F ++ L).size + FS.size) > 9223372036854775807 := by rw [ByteArray.size_append]; omega
    have y4 : ¬ ((E1 ++ T).size + (F ++ L ++ FS).size) > 9223372036854775807 := by simp only [ByteArray.size_append]; omega
    clear hv hok hn h0 hT z1 z2 z3 z4 z5 hs hf p1 p2 p3 hvb ht htv
    go_enter Tryd.func37, Tryd.ntmps37
    go_wp2_with (first
      | (go_at_call 26; (with_reducible refine (CPA.out _ HB.out).mono ?_); rintro e w2 ⟨rfl, hb2⟩; have HC2 := Lib.hid ((chain HB.out hb2).alloc (chain HB.out hb2).size (oP14 false true true)); have HX2 := Lib.hid (HX.out.below (hb2.alloc hb2.size (oP14 false true true))); have HP2 := Lib.hid (boxP_new w2 false true true); have c0 := HX2.out.1; clear hb2)
      | (go_at_call 50; (with_reducible refine (C1.out _).mono ?_); rintro e w3 ⟨rfl, hb3⟩; have HC3 := Lib.hid (chain HC2.out hb3); have HX3 := Lib.hid (HX2.out.below hb3); have HP3 := Lib.hid (HP2.out.below hb3); obtain ⟨d30, d31, d32, d33, d34, d35⟩ := HX3.out; obtain ⟨p30, p31, p32⟩ := HP3.out; clear hb3)
      | (go_at_call 60; (with_reducible refine (C2.out _).mono ?_); rintro e w4 ⟨rfl, hb4⟩; have HC4 := Lib.hid (chain HC3.out hb4); have HX4 := Lib.hid (HX3.out.below hb4); have HP4 := Lib.hid (HP3.out.below hb4); obtain ⟨d40, d41, d42, d43, d44, d45⟩ := HX4.out; obtain ⟨p40, p41, p42⟩ := HP4.out; clear hb4)
      | (go_at_call 60; (with_reducible refine (C3.out _).mono ?_); rintro e w5 ⟨rfl, hb5⟩; have HC5 := Lib.hid (chain HC4.out hb5); have HX5 := Lib.hid (HX4.out.below hb5); have HP5 := Lib.hid (HP4.out.below hb5); obtain ⟨d50, d51, d52, d53, d54, d55⟩ := HX5.out; obtain ⟨p50, p51, p52⟩ := HP5.out; clear hb5)
      | (go_at_call 50; (with_reducible refine (C4.out _).mono ?_); rintro e w6 ⟨rfl, hb6⟩; have HC6 := Lib.hid (chain HC5.out hb6); have HX6 := Lib.hid (HX5.out.below hb6); have HP6 := Lib.hid (HP5.out.below hb6); obtain ⟨d60, d61, d62, d63, d64, d65⟩ := HX6.out; obtain ⟨p60, p61, p62⟩ := HP6.out; clear hb6)
      | (go_at_call 61; (with_reducible refine (CP.out _ HC6.out).mono ?_); rintro e w7 ⟨rfl, hb7⟩; have HC7 := Lib.hid (chain HC6.out hb7); have HP7 := Lib.hid (HP6.out.below hb7); obtain ⟨p70, p71, p72⟩ := HP7.out; clear hb7))
    go_ret
    exact ⟨ret_s HBG.out.symm, HC7.out⟩
  · clear hx1 hx2 hx3 hx4
    obtain ⟨k, ent, tg, sf, se, fa, fc, fs⟩ := c
    simp only at *
    subst hk
    rw [pt3] at CPA
    have C1 := Lib.hid (show ∀ w, Calls Tryd.prog 50 #[.int .i64 3] w fun e w' => e = .returned (.tuple #[.string (encS 3), .int .i64 0]) ∧ Below w.heap.size w w' from fun w => num_good_any 3 (by omega) w)
    have z1 := enc_small 3
    have htv := tgB_val ht
    have C2 := Lib.hid (fun w => int_good14 htv w)
    have z2 := int_small htv
    have HBG := Lib.hid (laid_k3 (c := ⟨3, ent, tg, sf, se, fa, fc, fs⟩) rfl)
    simp only at HBG
    generalize headC ⟨3, ent, tg, sf, se, fa, fc, fs⟩ ++ bodyC ⟨3, ent, tg, sf, se, fa, fc, fs⟩ = BB at *
    generalize encS 3 = E1 at *
    generalize intS tg = T at *
    have y1 : ¬ (E1.size + T.size) > 9223372036854775807 := by omega
    clear hv hok hn h0 hT z1 z2 ht htv
    go_enter Tryd.func37, Tryd.ntmps37
    go_wp2_with (first
      | (go_at_call 26; (with_reducible refine (CPA.out _ HB.out).mono ?_); rintro e w2 ⟨rfl, hb2⟩; have HC2 := Lib.hid ((chain HB.out hb2).alloc (chain HB.out hb2).size (oP14 false true false)); have HX2 := Lib.hid (HX.out.below (hb2.alloc hb2.size (oP14 false true false))); have HP2 := Lib.hid (boxP_new w2 false true false); have c0 := HX2.out.1; clear hb2)
      | (go_at_call 50; (with_reducible refine (C1.out _).mono ?_); rintro e w3 ⟨rfl, hb3⟩; have HC3 := Lib.hid (chain HC2.out hb3); have HX3 := Lib.hid (HX2.out.below hb3); have HP3 := Lib.hid (HP2.out.below hb3); obtain ⟨d30, d31, d32, d33, d34, d35⟩ := HX3.out; obtain ⟨p30, p31, p32⟩ := HP3.out; clear hb3)
      | (go_at_call 60; (with_reducible refine (C2.out _).mono ?_); rintro e w4 ⟨rfl, hb4⟩; have HC4 := Lib.hid (chain HC3.out hb4); have HX4 := Lib.hid (HX3.out.below hb4); have HP4 := Lib.hid (HP3.out.below hb4); obtain ⟨d40, d41, d42, d43, d44, d45⟩ := HX4.out; obtain ⟨p40, p41, p42⟩ := HP4.out; clear hb4))
    go_ret
    exact ⟨ret_s HBG.out.symm, HC4.out⟩

set_option maxHeartbeats 4000000 in
set_option maxRecDepth 10000 in
theorem pcput_any (c : Cm) (w : World) (hv : CF14 w c) (hok : okF c.fs) (hn : c.fs.length ≤ 9223372036854775807) (hz : c.ent.size ≤ 9223372036854775807) (hT : TabK w) : Ret 15 #[cv14 c] w (.tuple #[.string (putC c), .int .i64 ((rightC c : Nat) : Int)]) := by
  have CR := Lib.hid (fun w' (h : Below w.heap.size w w') => pcright_any c w' (hv.below h) hok hn hz (hT.below h))
  have HB := Lib.hid (show Below w.heap.size w (w.alloc (ocC c)) from (bl w).alloc (Nat.le_refl _) _)
  have HX := Lib.hid (boxC_new w c)
  by_cases h0 : rightC c = 0
  · have CL := Lib.hid (fun w' (h : Below w.heap.size w w') => laid14_any c w' (hv.below h) hok hn h0 (hT.below h))
    have HE := Lib.hid (show putC c = headC c ++ bodyC c by unfold putC; rw [if_pos h0])
    have H0 := Lib.hid h0
    rw [h0] at CR
    generalize headC c ++ bodyC c = B at *
    clear hv hok hn hz h0 hT
    go_enter Tryd.func15, Tryd.ntmps15
    go_wp2_with (first
      | (go_at_call 9; (with_reducible refine (CR.out _ HB.out).mono ?_); rintro e w2 ⟨rfl, hb2⟩; have HC2 := Lib.hid (chain HB.out hb2); obtain ⟨k0, k1, k2, k3, k4, k5⟩ := HX.out.below hb2; clear hb2)
      | (go_at_call 37; (with_reducible refine (CL.out _ HC2.out).mono ?_); rintro e w3 ⟨rfl, hb3⟩; have HC3 := Lib.hid (chain HC2.out hb3); clear hb3))
    go_ret2
    exact ⟨ret_sie HE.out.symm (by rw [H0.out]; rfl), HC3.out⟩
  · have HE := Lib.hid (show putC c = ⟨#[]⟩ by unfold putC; rw [if_neg h0])
    have h0' : ¬ ((rightC c : Nat) : Int) = 0 := by omega
    generalize rightC c = z at *
    clear hv hok hn hz h0 hT
    go_enter Tryd.func15, Tryd.ntmps15
    go_wp2_with (go_at_call 9; (with_reducible refine (CR.out _ HB.out).mono ?_); rintro e w2 ⟨rfl, hb2⟩; have HC2 := Lib.hid (chain HB.out hb2); clear hb2)
    go_ret2
    exact ⟨ret_sie HE.out.symm rfl, HC2.out⟩

end Go.Proofs.YtmieonfdenjedaaDoor

/-
  Batches of commands: plain facts: what is put is taken, what is taken is put as the same bytes.
-/
namespace Go.Proofs.YtmieonfdenjedaaDoor

theorem endC_is {c : Cm} {r : ByteArray} (h : (endC c r).2.2 = 0) : rightC c = 0 ∧ endC c r = (c, r, 0) := by
  unfold endC at h ⊢
  by_cases h0 : rightC c = 0
  · rw [if_pos h0]; exact ⟨h0, rfl⟩
  · rw [if_neg h0] at h; cases h
theorem spanC_is {k : Int} {ent : ByteArray} {tg : Int} {s : ByteArray} (h : (spanC k ent tg s).2.2 = 0) :
    ∃ sf se fs r, spanC k ent tg s = (⟨k, ent, tg, sf, se, none, 0, fs⟩, r, 0) ∧ rightC ⟨k, ent, tg, sf, se, none, 0, fs⟩ = 0 ∧ intS sf ++ (encS (se - sf).toNat ++ (putS fs ++ r)) = s := by
  unfold spanC at h
  by_cases h1 : tkE s ≠ 0
  · rw [if_pos h1] at h; exact absurd h h1
  rw [if_neg h1] at h
  by_cases h2 : tkE (tkR s) ≠ 0
  · rw [if_pos h2] at h; exact absurd h h2
  rw [if_neg h2] at h
  by_cases h3 : (takeF (tkR (tkR s))).2.2 ≠ 0
  · rw [if_pos h3] at h; exact absurd h h3
  rw [if_neg h3] at h
  obtain ⟨e1, e2⟩ := endC_is h
  refine ⟨unzig (tkN s), unzig (tkN s) + (tkN (tkR s) : Int), (takeF (tkR (tkR s))).1, (takeF (tkR (tkR s))).2.1, ?_, e1, ?_⟩
  · unfold spanC
    rw [if_neg h1, if_neg h2, if_neg h3]
    exact e2
  · obtain ⟨_, p2⟩ := putF_take (s := tkR (tkR s)) (by omega)
    rw [show unzig (tkN s) + (tkN (tkR s) : Int) - unzig (tkN s) = (tkN (tkR s) : Int) by omega, Int.toNat_natCast, p2, tk_again (by omega), int_againF (by omega)]
/-- What is taken is put as the same bytes. -/
theorem putC_take {s : ByteArray} (h : (takeCs s).2.2 = 0) : rightC (takeCs s).1 = 0 ∧ putC (takeCs s).1 ++ (takeCs s).2.1 = s := by
  have key : ∀ (c : Cm) (r : ByteArray), takeCs s = (c, r, 0) → rightC c = 0 → headC c ++ bodyC c ++ r = s → rightC (takeCs s).1 = 0 ∧ putC (takeCs s).1 ++ (takeCs s).2.1 = s := fun c r e1 e2 e3 => by
    rw [e1]
    exact ⟨e2, by show putC c ++ r = s; unfold putC; rw [if_pos e2]; exact e3⟩
  have h' := h
  unfold takeCs at h
  by_cases h1 : tkE s ≠ 0
  · rw [if_pos h1] at h; exact absurd h h1
  rw [if_neg h1] at h
  by_cases h2 : tkN s < 1 ∨ 3 < tkN s
  · rw [if_pos h2] at h; cases h
  rw [if_neg h2] at h
  have t0 := tk_again (s := s) (by omega)
  by_cases h3 : tkN s = 1
  · rw [if_pos h3] at h
    by_cases h4 : ttE (tkR s) 24 ≠ 0
    · rw [if_pos h4] at h; exact absurd h h4
    rw [if_neg h4] at h
    obtain ⟨sf, se, fs, r, e1, e2, e3⟩ := spanC_is h
    refine key _ r ?_ e2 ?_
    · unfold takeCs
      rw [if_neg h1, if_neg h2, if_pos h3, if_neg h4, e1]
    · have t1 := tt_again (s := tkR s) (most := 24) (by omega)
      unfold headC bodyC
      rw [if_pos rfl, if_neg (show ¬ (1 : Int) = 3 by decide)]
      simp only [ByteArray.append_assoc]
      rw [e3, t1]
      rw [h3] at t0
      exact t0
  rw [if_neg h3] at h
  by_cases h4 : tkE (tkR s) ≠ 0
  · rw [if_pos h4] at h; exact absurd h h4
  rw [if_neg h4] at h
  have t1 := int_againF (s := tkR s) (by omega)
  by_cases h5 : tkN s = 3
  · rw [if_pos h5] at h
    obtain ⟨e1, e2⟩ := endC_is h
    refine key ⟨3, ⟨#[]⟩, unzig (tkN (tkR s)), 0, 0, none, 0, []⟩ (tkR (tkR s)) ?_ e1 ?_
    · unfold takeCs
      rw [if_neg h1, if_neg h2, if_neg h3, if_neg h4, if_pos h5, e2]
    · unfold headC bodyC
      rw [if_neg (show ¬ (3 : Int) = 1 by decide), if_pos rfl]
      simp only [ByteArray.append_assoc]
      rw [show (⟨#[]⟩ : ByteArray) ++ tkR (tkR s) = tkR (tkR s) from ByteArray.empty_append, t1]
      rw [h5] at t0
      exact t0
  · rw [if_neg h5] at h
    obtain ⟨sf, se, fs, r, e1, e2, e3⟩ := spanC_is h
    refine key _ r ?_ e2 ?_
    · unfold takeCs
      rw [if_neg h1, if_neg h2, if_neg h3, if_neg h4, if_neg h5, e1]
    · unfold headC bodyC
      rw [if_neg (show ¬ (2 : Int) = 1 by decide), if_neg (show ¬ (2 : Int) = 3 by decide)]
      simp only [ByteArray.append_assoc]
      rw [e3, t1]
      rw [show tkN s = 2 by omega] at t0
      exact t0
def catC : List Cm → ByteArray
  | [] => ⟨#[]⟩
  | c :: l => putC c ++ catC l
def errB : List Cm → Nat
  | [] => 0
  | c :: l => if rightC c ≠ 0 then rightC c else errB l
/-- The bytes of a batch. -/
def batchC (l : List Cm) : ByteArray × Nat :=
  if l.length < 1 then (⟨#[]⟩, 2) else if 8 < l.length then (⟨#[]⟩, 4) else if errB l ≠ 0 then (⟨#[]⟩, errB l) else (encS l.length ++ catC l, 0)
abbrev RB := List Cm × ByteArray × Nat
def joinB (acc : List Cm) (r : RB) : RB := if r.2.2 ≠ 0 then ([], ⟨#[]⟩, r.2.2) else (acc ++ r.1, r.2.1, 0)
def readB : Nat → ByteArray → RB
  | 0, s => ([], s, 0)
  | n + 1, s => if (takeCs s).2.2 ≠ 0 then ([], ⟨#[]⟩, (takeCs s).2.2) else joinB [(takeCs s).1] (readB n (takeCs s).2.1)
/-- The commands that a batch's bytes are. -/
def unbatchC (s : ByteArray) : List Cm × Nat :=
  if tkE s ≠ 0 then ([], tkE s) else if tkN s < 1 then ([], 2) else if 8 < tkN s then ([], 4)
  else if (readB (tkN s) (tkR s)).2.2 ≠ 0 then ([], (readB (tkN s) (tkR s)).2.2)
  else if (readB (tkN s) (tkR s)).2.1.size ≠ 0 then ([], 8) else ((readB (tkN s) (tkR s)).1, 0)
theorem joinB_join (a b : List Cm) (r : RB) : joinB a (joinB b r) = joinB (a ++ b) r := by
  unfold joinB
  by_cases h : r.2.2 ≠ 0
  · rw [if_pos h, if_pos h, if_pos h]
  · rw [if_neg h, if_neg h, if_neg (by simp), List.append_assoc]
theorem joinB_nil {r : RB} (h : r.2.2 = 0) : joinB [] r = r := by
  unfold joinB
  rw [if_neg (by omega)]
  obtain ⟨a, b, c⟩ := r
  simp only at h
  rw [h]; rfl
theorem readB_bad : ∀ {n : Nat} {s : ByteArray}, (readB n s).2.2 ≠ 0 → readB n s = ([], ⟨#[]⟩, (readB n s).2.2)
  | 0, s, h => absurd rfl h
  | n + 1, s, h => by
    rw [readB] at h ⊢
    by_cases h1 : (takeCs s).2.2 ≠ 0
    · rw [if_pos h1]
    rw [if_neg h1] at h ⊢
    unfold joinB at h ⊢
    by_cases h2 : (readB n (takeCs s).2.1).2.2 ≠ 0
    · rw [if_pos h2]
    · rw [if_neg h2] at h; exact absurd rfl h
theorem readB_put : ∀ (l : List Cm) (b : ByteArray), errB l = 0 → readB l.length (catC l ++ b) = (l.map contC, b, 0)
  | [], b, _ => by
    show ([], (⟨#[]⟩ : ByteArray) ++ b, 0) = ([], b, 0)
    rw [show (⟨#[]⟩ : ByteArray) ++ b = b from ByteArray.empty_append]
  | c :: l, b, h => by
    rw [errB] at h
    by_cases h0 : rightC c ≠ 0
    · rw [if_pos h0] at h; exact absurd h h0
    · rw [if_neg h0] at h
      rw [List.length_cons, readB, catC, ByteArray.append_assoc, takeCs_put (by omega), if_neg (by simp), readB_put l b h]
      rfl
theorem unbatch_put {l : List Cm} (h : (batchC l).2 = 0) : unbatchC (batchC l).1 = (l.map contC, 0) := by
  unfold batchC at h ⊢
  by_cases h1 : l.length < 1
  · rw [if_pos h1] at h; cases h
  rw [if_neg h1] at h ⊢
  by_cases h2 : 8 < l.length
  · rw [if_pos h2] at h; cases h
  rw [if_neg h2] at h ⊢
  by_cases h3 : errB l ≠ 0
  · rw [if_pos h3] at h; exact absurd h h3
  rw [if_neg h3]
  obtain ⟨a1, a2, a3⟩ := tk_enc (n := l.length) (by omega) (catC l)
  have hr := readB_put l ⟨#[]⟩ (by omega)
  rw [show catC l ++ (⟨#[]⟩ : ByteArray) = catC l from ByteArray.append_empty] at hr
  show unbatchC (encS l.length ++ catC l) = _
  unfold unbatchC
  rw [a1, a2, a3, if_neg (by simp), if_neg h1, if_neg h2, hr, if_neg (by simp), if_neg (by simp; rfl)]
theorem readB_back : ∀ (n : Nat) (s : ByteArray), (readB n s).2.2 = 0 → (readB n s).1.length = n ∧ errB (readB n s).1 = 0 ∧ catC (readB n s).1 ++ (readB n s).2.1 = s
  | 0, s, _ => ⟨rfl, rfl, ByteArray.empty_append⟩
  | n + 1, s, h => by
    rw [readB] at h ⊢
    by_cases h1 : (takeCs s).2.2 ≠ 0
    · rw [if_pos h1] at h; exact absurd h h1
    rw [if_neg h1] at h ⊢
    unfold joinB at h ⊢
    by_cases h2 : (readB n (takeCs s).2.1).2.2 ≠ 0
    · rw [if_pos h2] at h; exact absurd h h2
    rw [if_neg h2]
    obtain ⟨i1, i2, i3⟩ := readB_back n (takeCs s).2.1 (by omega)
    obtain ⟨j1, j2⟩ := putC_take (s := s) (by omega)
    refine ⟨by simp [i1], ?_, ?_⟩
    · show errB ((takeCs s).1 :: (readB n (takeCs s).2.1).1) = 0
      rw [errB, if_neg (by omega)]; exact i2
    · show catC ((takeCs s).1 :: (readB n (takeCs s).2.1).1) ++ (readB n (takeCs s).2.1).2.1 = s
      rw [catC, ByteArray.append_assoc, i3, j2]
theorem batch_back {s : ByteArray} (h : (unbatchC s).2 = 0) : batchC (unbatchC s).1 = (s, 0) := by
  unfold unbatchC at h ⊢
  by_cases h1 : tkE s ≠ 0
  · rw [if_pos h1] at h; exact absurd h h1
  rw [if_neg h1] at h ⊢
  by_cases h2 : tkN s < 1
  · rw [if_pos h2] at h; cases h
  rw [if_neg h2] at h ⊢
  by_cases h3 : 8 < tkN s
  · rw [if_pos h3] at h; cases h
  rw [if_neg h3] at h ⊢
  by_cases h4 : (readB (tkN s) (tkR s)).2.2 ≠ 0
  · rw [if_pos h4] at h; exact absurd h h4
  rw [if_neg h4] at h ⊢
  by_cases h5 : (readB (tkN s) (tkR s)).2.1.size ≠ 0
  · rw [if_pos h5] at h; cases h
  rw [if_neg h5]
  obtain ⟨i1, i2, i3⟩ := readB_back (tkN s) (tkR s) (by omega)
  have hz : (readB (tkN s) (tkR s)).2.1 = ⟨#[]⟩ := size0 (by omega)
  rw [hz, show catC (readB (tkN s) (tkR s)).1 ++ (⟨#[]⟩ : ByteArray) = catC (readB (tkN s) (tkR s)).1 from ByteArray.append_empty] at i3
  show batchC (readB (tkN s) (tkR s)).1 = (s, 0)
  unfold batchC
  rw [i1, if_neg h2, if_neg h3, if_neg (by omega), i3, tk_again (by omega)]
end Go.Proofs.YtmieonfdenjedaaDoor

/-
  The document's Batch of commands.
-/
namespace Go.Proofs.YtmieonfdenjedaaDoor
open Go.RowKit

theorem putC_size (c : Cm) : (putC c).size ≤ 2000 := by
  by_cases h : rightC c = 0
  · rw [putC_head h]
    unfold headC bodyC
    have z0 := enc_small c.k.toNat
    have z4 := enc_small (c.se - c.sf).toNat
    have z5 := putS_size c.fs
    rcases rightC_is h with ⟨h1, h2, h3, h4, h5⟩ | ⟨h1, h2, h3, h4, h5⟩ | ⟨h1, h2, h3, h4, h5, h6⟩
    · obtain ⟨p1, p2, p3⟩ := span_bounds h4
      have hvb : valB c.sf = true := by unfold valB; simp only [Bool.and_eq_true, decide_eq_true_eq]; omega
      have z8 := int_small hvb
      have z9 := text_small24 (ent24 h3)
      rw [if_pos h1, if_neg (by omega)]
      simp only [ByteArray.size_append]
      omega
    · obtain ⟨p1, p2, p3⟩ := span_bounds h4
      have hvb : valB c.sf = true := by unfold valB; simp only [Bool.and_eq_true, decide_eq_true_eq]; omega
      have z8 := int_small hvb
      have z9 := int_small (tgB_val h3)
      rw [if_neg (by omega), if_neg (by omega)]
      simp only [ByteArray.size_append]
      omega
    · have z9 := int_small (tgB_val h3)
      rw [if_neg (by omega), if_pos h1]
      simp only [ByteArray.size_append]
      have : (⟨#[]⟩ : ByteArray).size = 0 := rfl
      omega
  · unfold putC; rw [if_neg h]; exact Nat.zero_le _
theorem catC_append : ∀ l m : List Cm, catC (l ++ m) = catC l ++ catC m
  | [], m => by show catC m = (⟨#[]⟩ : ByteArray) ++ catC m; exact ByteArray.empty_append.symm
  | c :: l, m => by rw [List.cons_append, catC, catC, catC_append l m, ByteArray.append_assoc]
theorem catC_next {l : List Cm} {k : Nat} {c : Cm} (h : l[k]? = some c) : catC (l.take (k + 1)) = catC (l.take k) ++ putC c := by
  rw [List.take_add_one, h, Option.toList_some, catC_append]
  show catC (l.take k) ++ (putC c ++ (⟨#[]⟩ : ByteArray)) = _
  rw [show putC c ++ (⟨#[]⟩ : ByteArray) = putC c from ByteArray.append_empty]
theorem catC_size : ∀ l : List Cm, (catC l).size ≤ 2000 * l.length
  | [] => Nat.le_refl _
  | c :: l => by
    have h1 := putC_size c
    have h2 := catC_size l
    rw [catC, ByteArray.size_append, List.length_cons]
    omega
theorem errB_append : ∀ l m : List Cm, errB (l ++ m) = if errB l ≠ 0 then errB l else errB m
  | [], m => by rw [List.nil_append, errB, if_neg (by simp)]
  | c :: l, m => by
    rw [List.cons_append, errB, errB, errB_append l m]
    by_cases h : rightC c ≠ 0
    · rw [if_pos h, if_pos h, if_pos h]
    · rw [if_neg h, if_neg h]
theorem errB_next {l : List Cm} {k : Nat} {c : Cm} (h : l[k]? = some c) (h0 : errB (l.take k) = 0) : errB (l.take (k + 1)) = rightC c := by
  rw [List.take_add_one, h, Option.toList_some, errB_append, if_neg (by omega), errB, errB]
  by_cases h1 : rightC c ≠ 0
  · rw [if_pos h1]
  · rw [if_neg h1]; omega
theorem errB_stop {l : List Cm} {k : Nat} (h : errB (l.take k) ≠ 0) : errB l = errB (l.take k) := by
  conv => lhs; rw [← List.take_append_drop k l]
  rw [errB_append, if_pos h]
set_option maxHeartbeats 4000000 in
set_option maxRecDepth 10000 in
theorem dbatch14_any (u : Value) (l : List Cm) (w : World) (hl : CmsL w u l) (hok : ∀ c ∈ l, okF c.fs ∧ c.fs.length ≤ 9223372036854775807 ∧ c.ent.size ≤ 9223372036854775807) (hn : l.length ≤ 9223372036854775807) : Ret 25 #[u] w (.tuple #[.string (batchC l).1, .int .i64 (((batchC l).2 : Nat) : Int)]) := by
  have HL := Lib.hid hl
  have HOK := Lib.hid hok
  obtain ⟨⟨A, c, rfl, _⟩, _⟩ := hl
  obtain ⟨B, hB⟩ : ∃ B, batchC l = B := ⟨_, rfl⟩
  have HB := Lib.hid hB
  rw [hB]
  obtain ⟨n, hnm⟩ : ∃ n, l.length = n := ⟨_, rfl⟩
  have HN := Lib.hid hnm
  have CM := Lib.hid (fun w => dmany14_any (n : Int) w)
  rw [hnm] at hn ⊢
  clear hB hok hnm
  by_cases h1 : n < 1
  · have HE := Lib.hid (show B = (⟨#[]⟩, 2) by rw [← HB.out]; unfold batchC; rw [if_pos (by rw [HN.out]; exact h1)])
    rw [if_pos (by omega)] at CM
    clear h1
    go_enter Tryd.func25, Tryd.ntmps25
    go_wp2_with (go_at_call 49; (with_reducible refine (CM.out _).mono ?_); rintro e w2 ⟨rfl, rfl⟩)
    go_ret2
    exact ⟨by rw [HE.out]; rfl, bl _⟩
  rw [if_neg (by omega)] at CM
  by_cases h2 : 8 < n
  · have HE := Lib.hid (show B = (⟨#[]⟩, 4) by rw [← HB.out]; unfold batchC; rw [if_neg (by rw [HN.out]; exact h1), if_pos (by rw [HN.out]; exact h2)])
    rw [if_pos (by omega)] at CM
    clear h1 h2
    go_enter Tryd.func25, Tryd.ntmps25
    go_wp2_with (go_at_call 49; (with_reducible refine (CM.out _).mono ?_); rintro e w2 ⟨rfl, rfl⟩)
    go_ret2
    exact ⟨by rw [HE.out]; rfl, bl _⟩
  rw [if_neg (by omega)] at CM
  have HE := Lib.hid (show B = if errB l ≠ 0 then (⟨#[]⟩, errB l) else (encS n ++ catC l, 0) by rw [← HB.out]; unfold batchC; rw [HN.out, if_neg h1, if_neg h2])
  have CO := Lib.hid (fun w => dnumof_any n (by omega) w)
  have ze := enc_small n
  go_enter Tryd.func25, Tryd.ntmps25
  go_wp2_with (first
    | (go_at_call 49; (with_reducible refine (CM.out _).mono ?_); rintro e w2 ⟨rfl, rfl⟩)
    | (go_at_call 38; (with_reducible refine (CO.out _).mono ?_); rintro e w3 ⟨rfl, hb3⟩; have HB3 := Lib.hid hb3; clear hb3))
  go_loopw [5, 6] (fun o i wr => ∃ k : Nat, k ≤ n ∧ i = .int .i64 (k : Nat) ∧ o = .string (encS n ++ catC (l.take k)) ∧ errB (l.take k) = 0 ∧ Below w2.heap.size w2 wr) (fun _ i _ => n - (intOf i).toNat)
  case atStart => exact ⟨0, Nat.zero_le _, rfl, by rw [List.take_zero]; show Value.string (encS n) = .string (encS n ++ (⟨#[]⟩ : ByteArray)); rw [show encS n ++ (⟨#[]⟩ : ByteArray) = encS n from ByteArray.append_empty], rfl, HB3.out⟩
  case round =>
    obtain ⟨k, hk, rfl, rfl, he, hb⟩ := hrel
    have HBR := Lib.hid hb
    have HER := Lib.hid he
    by_cases hlt : k < n
    · have hlt' : (k : Int) < (n : Int) := by omega
      obtain ⟨x, hx⟩ : ∃ x, l[k]? = some x := ⟨_, List.getElem?_eq_getElem (by have := HN.out; omega)⟩
      obtain ⟨⟨A', c', e1, r1, _⟩, vf1⟩ := HL.out.below hb
      injection e1 with e1 e1b e1c
      rw [← e1] at r1
      obtain ⟨g, o, hA, x0, x1, x2, x3, x4, x5⟩ := cells6_at r1 hx
      have hxm := List.mem_of_getElem? hx
      have CP := Lib.hid (dputc14_any x wr (vf1 x hxm) (HOK.out x hxm).1 (HOK.out x hxm).2.1 (HOK.out x hxm).2.2)
      have HCN := Lib.hid (catC_next hx)
      have HEN := Lib.hid (errB_next hx he)
      have y1 : ¬ (encS n).size + (catC (l.take k)).size + (putC x).size > 9223372036854775807 := by
        have := catC_size (l.take k)
        rw [List.length_take] at this
        have := putC_size x
        omega
      clear e1 e1b e1c r1 vf1 hx hxm he hb ze
      subst hA
      by_cases h0 : rightC x = 0
      · rw [h0] at CP HEN
        clear h0
        go_wp2_with (go_at_call 16; (with_reducible refine CP.out.mono ?_); rintro e w4 ⟨rfl, hb4⟩; have HB4 := Lib.hid (chain HBR.out hb4); clear hb4)
        exact ⟨⟨k + 1, by omega, by go_num, by rw [HCN.out, ByteArray.append_assoc], HEN.out, HB4.out⟩, by simp [intOf]; omega⟩
      · have h0' : ¬ ((rightC x : Nat) : Int) = 0 := by omega
        have HER2 := Lib.hid (show B = (⟨#[]⟩, rightC x) by
          have := HEN.out
          rw [HE.out, if_pos (by rw [errB_stop (k := k + 1) (by omega)]; omega), errB_stop (k := k + 1) (by omega), this])
        generalize rightC x = z at *
        clear h0
        go_wp2_with (go_at_call 16; (with_reducible refine CP.out.mono ?_); rintro e w4 ⟨rfl, hb4⟩; have HB4 := Lib.hid (chain HBR.out hb4); clear hb4)
        go_ret2
        exact ⟨by rw [HER2.out]; rfl, HB4.out⟩
    · obtain rfl : k = n := by omega
      have hlt' : ¬ (k : Int) < (k : Int) := by omega
      clear hb he ze
      go_wp2_with fail
      go_ret2
      have ht : l.take k = l := List.take_of_length_le (by have := HN.out; omega)
      have h0 := HER.out
      rw [ht] at h0
      exact ⟨by rw [HE.out, if_neg (by omega), ht]; rfl, HBR.out⟩
end Go.Proofs.YtmieonfdenjedaaDoor

/-
  The program's read of commands: one kind.
-/
namespace Go.Proofs.YtmieonfdenjedaaDoor
open Go.RowKit

set_option maxHeartbeats 8000000 in
set_option maxRecDepth 10000 in
theorem read14_1 (s : ByteArray) (hs : s.size ≤ 4611686018427387903) (w : World) (hT : TabK w) (r0 : ByteArray) (z0 : Nat) (h0 : numT s = (1, r0, z0)) (ent r1 : ByteArray) (z1 : Nat) (h1 : nx z0 ⟨#[]⟩ r0 (entT r0) = (ent, r1, z1)) (sf lg : Int) (r2 r3 r4 : ByteArray) (z2 z3 z4 : Nat) (fs : List Fd) (h2 : nx z1 0 r1 (intT r1) = (sf, r2, z2)) (h3 : nx z2 0 r2 (numT r2) = (lg, r3, z3)) (h4 : nx z3 [] r3 (takeF r3) = (fs, r4, z4)) :
    Calls Tryd.prog 42 #[.string s] w (ReadPost w (⟨1, ent, 0, sf, sf + lg, none, 0, fs⟩, r4, z4)) := by
  have HRA := Lib.hid (show HoldC ((w.alloc oZC14).alloc (oRd s)) w.heap.size noC from (holdC_new w).below ((bl _).alloc (Nat.le_refl _) _))
  have HRR := Lib.hid (show Rdr ((w.alloc oZC14).alloc (oRd s)) (w.heap.size + 1) s 0 from by
    have := rdr_new (w.alloc oZC14) s
    rwa [show (w.alloc oZC14).heap.size = w.heap.size + 1 by simp] at this)
  have HB0 := Lib.hid (show Below w.heap.size w ((w.alloc oZC14).alloc (oRd s)) from ((bl w).alloc (Nat.le_refl _) _).alloc (by simp) _)
  have CPA := Lib.hid (show ∀ w', Below w.heap.size w w' → Ret 26 #[.int .i64 1] w' (.agg #[.bool true, .bool false, .bool true]) from fun w' h => by have := parts_any 1 w' (hT.below h); rwa [pt1] at this)
  have s0 : r0.size ≤ 4611686018427387903 := by have := Nat.le_trans (tkR_size s) hs; have e := congrArg (fun t => t.2.1) h0; simp only [numT] at e; rw [← e]; exact this
  have C0 := Lib.hid (fun W h => num_next (R := w.heap.size + 1) (z := 0) hs (x := 1) (r' := r0) (z' := z0) (by rw [nx_zero]; exact h0) W h)
  have s1 : r1.size ≤ 4611686018427387903 := by have := nxE_size (z := z0) s0; rw [h1] at this; exact this
  have C1 := Lib.hid (fun W h => ent_next (R := w.heap.size + 1) s0 h1 W h)
  have s2 : r2.size ≤ 4611686018427387903 := by have := nxI_size (z := z1) s1; rw [h2] at this; exact this
  have C2 := Lib.hid (fun W h => int_next (R := w.heap.size + 1) s1 h2 W h)
  have s3 : r3.size ≤ 4611686018427387903 := by have := nxN_size (z := z2) s2; rw [h3] at this; exact this
  have C3 := Lib.hid (fun W h => num_next (R := w.heap.size + 1) s2 h3 W h)
  have C4 := Lib.hid (fun W h => fld_next (R := w.heap.size + 1) s3 h4 W h)
  have b1 : Bq sf := by have := nxI_bq z1 r1; rw [h2] at this; exact this
  have b2 : Bq lg := by have := nxN_bq z2 r2; rw [h3] at this; exact this
  have hlong : IntKind.i64.wrap (sf + lg) = sf + lg := by rw [IntKind.wrap_i64]; obtain ⟨u1, u2⟩ := b1; obtain ⟨u3, u4⟩ := b2; omega
  clear hT hs h0 s0 h1 s1 h2 h3 h4 s2 s3 b1 b2
  go_enter Tryd.func42, Tryd.ntmps42
  go_upto_region 4 with (first
    | (go_at_call 64; (with_reducible refine (C0.out _ HRR.out).mono ?_); rintro e w1 ⟨rfl, hr1, hb1⟩; have HR1 := Lib.hid hr1; have HB1 := Lib.hid hb1; clear hr1 hb1)
    | (go_at_call 26; (with_reducible refine (CPA.out _ (begR HB0.out HB1.out _)).mono ?_); rintro e w2 ⟨rfl, hb2⟩; have HB2 := Lib.hid hb2; clear hb2))
  have hI := rdI_start HRA.out HB0.out HR1.out HB1.out (c := ⟨1, ⟨#[]⟩, 0, 0, 0, none, 0, []⟩) rfl rfl rfl HB2.out (a := true) (b := false) (d := true)
  obtain ⟨C, hC⟩ : ∃ C, w1.heap.size = C := ⟨_, rfl⟩
  obtain ⟨P, hP⟩ : ∃ P, w2.heap.size = P := ⟨_, rfl⟩
  rw [hC, hP] at hI
  rw [hC, hP]
  clear hC hP
  refine abstract_worldW (fun W => RdI w C P true false true r0 z0 ⟨1, ⟨#[]⟩, 0, 0, 0, none, 0, []⟩ W) hI ?_
  intro W1 hW1
  have HW1 := Lib.hid hW1
  obtain ⟨pW10, pW11, pW12⟩ := hW1.prt
  clear hW1
  clear hI
  go_upto_region 6 with (go_at_call 65; (with_reducible refine (C1.out _ HW1.out.rdr).mono ?_); rintro e v2 ⟨rfl, hr, hb⟩; have HJ2 := Lib.hid (HW1.out.next hr hb); obtain ⟨y0, y1, y2, y3, y4, y5⟩ := HJ2.out.own.c; have yf := HJ2.out.own.f; clear hr hb)
  clear pW10 pW11 pW12
  refine abstract_worldW (fun W => RdI w C P true false true r1 z1 ⟨1, ent, 0, 0, 0, none, 0, []⟩ W) (HJ2.out.put (HJ2.out.own.set1 ent) rfl rfl rfl) ?_
  intro W2 hW2
  have HW2 := Lib.hid hW2
  obtain ⟨pW20, pW21, pW22⟩ := hW2.prt
  clear hW2
  clear y0 y1 y2 y3 y4 y5 yf
  go_upto_region 10 with (go_at_call 64; (with_reducible refine (C2.out _ HW2.out.rdr).mono ?_); rintro e v3 ⟨rfl, hr, hb⟩; have HJ3 := Lib.hid (HW2.out.next hr hb); obtain ⟨y0, y1, y2, y3, y4, y5⟩ := HJ3.out.own.c; have yf := HJ3.out.own.f; clear hr hb)
  clear pW20 pW21 pW22
  refine abstract_worldW (fun W => RdI w C P true false true r2 z2 ⟨1, ent, 0, sf, 0, none, 0, []⟩ W) (HJ3.out.put (HJ3.out.own.set3 sf) rfl rfl rfl) ?_
  intro W3 hW3
  have HW3 := Lib.hid hW3
  obtain ⟨pW30, pW31, pW32⟩ := hW3.prt
  clear hW3
  clear y0 y1 y2 y3 y4 y5 yf
  have MK := Lib.hid (show ∀ w', But (MB16 (w.heap.size + 1) C) W3 w' → (But (MB16 (w.heap.size + 1) C) W3 w' ∧ w'.cell? ⟨C, 3, none⟩ = some (.int .i64 sf)) from fun w' h => ⟨h, h.keep HW3.out.own.c.2.2.2.1 (fun e => by have := HW3.out.ord; rcases e with e | e <;> omega)⟩)
  refine wp_region_held_drew (S := fun w' => But (MB16 (w.heap.size + 1) C) W3 w' ∧ w'.cell? ⟨C, 3, none⟩ = some (.int .i64 sf)) (by kernel_rfl) (MK.out _ (But.of_below ((bl W3).drew))) (fun hHeld => ?_)
  refine wpAnyH_take (i := 0) (oi := _) (v := ?_) (by simp only [List.getElem?_toArray, List.getElem?_cons_zero]; rfl) (by kernel_rfl) (by kernel_rfl) (by kernel_rfl) (by exact fun _ _ _ h => h) (Or.inl ⟨by rfl, ?_⟩) (by assumption) ?_
  rotate_left 1
  · (intro w hSw; (try dsimp only at hSw); go_simp; try (with_reducible rfl))
  simp only [Act.put, List.setIfInBounds_toArray, List.set_cons_zero, List.set_cons_succ]
  refine wpAnyH_take (i := 1) (oi := _) (v := ?_) (by simp only [List.getElem?_toArray, List.getElem?_cons_succ, List.getElem?_cons_zero]; rfl) (by kernel_rfl) (by kernel_rfl) (by kernel_rfl) (by exact fun _ _ _ h => h) (Or.inl ⟨by rfl, ?_⟩) (by assumption) ?_
  rotate_left 1
  · (intro w hSw; (try dsimp only at hSw); go_simp; try (with_reducible rfl))
  simp only [Act.put, List.setIfInBounds_toArray, List.set_cons_zero, List.set_cons_succ]
  refine wpAnyH_take (i := 2) (oi := _) (v := ?_) (by simp only [List.getElem?_toArray, List.getElem?_cons_succ, List.getElem?_cons_zero]; rfl) (by kernel_rfl) (by kernel_rfl) (by kernel_rfl) (by exact fun _ _ _ h => h) (Or.inl ⟨by rfl, ?_⟩) (by assumption) ?_
  rotate_left 1
  · (intro w hSw; (try dsimp only at hSw); go_simp; try (with_reducible rfl))
  simp only [Act.put, List.setIfInBounds_toArray, List.set_cons_zero, List.set_cons_succ]
  refine wpAnyH_take (i := 3) (oi := _) (v := ?_) (by simp only [List.getElem?_toArray, List.getElem?_cons_succ, List.getElem?_cons_zero]; rfl) (by kernel_rfl) (by kernel_rfl) (by kernel_rfl) (by exact fun _ _ _ h => h) (Or.inl ⟨by rfl, ?_⟩) (by assumption) ?_
  rotate_left 1
  · (intro w hSw; (try dsimp only at hSw); go_simp; try (with_reducible rfl))
  simp only [Act.put, List.setIfInBounds_toArray, List.set_cons_zero, List.set_cons_succ]
  refine wpAnyH_ready (rs := [4]) (by kernel_rfl) (by simp) ?_
  refine AllReadyH.cons (o := _) (by simp only [List.getElem?_toArray, List.getElem?_cons_succ, List.getElem?_cons_zero]; rfl) (fun K hK => ?_) AllReadyH.nil
  go_simp
  go_at_call 64
  (with_reducible refine (C3.out _ (HW3.out.drew.rdr)).mono ?_)
  rintro e v4 ⟨rfl, hr, hb⟩
  have HJ4 := Lib.hid (HW3.out.drew.next hr hb)
  obtain ⟨y0, y1, y2, y3, y4, y5⟩ := HJ4.out.own.c
  have yf := HJ4.out.own.f
  try dsimp only
  refine hK.out _ _ (MK.out _ (hHeld.1.trans (hb.mono (fun _ _ _ e => .inl e)))) (fun hHeld => ?_)
  clear hK K
  try simp only [Act.put, List.setIfInBounds_toArray, List.set_cons_zero, List.set_cons_succ]
  refine wpAnyH_take (i := 5) (oi := _) (v := ?_) (by simp only [List.getElem?_toArray, List.getElem?_cons_succ, List.getElem?_cons_zero]; rfl) (by kernel_rfl) (by kernel_rfl) (by kernel_rfl) (by exact fun _ _ _ h => h) (Or.inl ⟨by rfl, ?_⟩) (by assumption) ?_
  rotate_left 1
  · (intro w hSw; (try dsimp only at hSw); go_simp; try (with_reducible rfl))
  simp only [Act.put, List.setIfInBounds_toArray, List.set_cons_zero, List.set_cons_succ]
  refine wpAnyH_take (i := 6) (oi := _) (v := ?_) (by simp only [List.getElem?_toArray, List.getElem?_cons_succ, List.getElem?_cons_zero]; rfl) (by kernel_rfl) (by kernel_rfl) (by kernel_rfl) (by exact fun _ _ _ h => h) (Or.inl ⟨by rfl, ?_⟩) (by assumption) ?_
  rotate_left 1
  · (intro w hSw; (try dsimp only at hSw); go_simp; try (with_reducible rfl))
  simp only [Act.put, List.setIfInBounds_toArray, List.set_cons_zero, List.set_cons_succ]
  refine wpAnyH_take (i := 7) (oi := _) (v := ?_) (by simp only [List.getElem?_toArray, List.getElem?_cons_succ, List.getElem?_cons_zero]; rfl) (by kernel_rfl) (by kernel_rfl) (by kernel_rfl) (by exact fun _ _ _ h => h) (Or.inl ⟨by rfl, ?_⟩) (by assumption) ?_
  rotate_left 1
  · (intro w hSw; (try dsimp only at hSw); go_simp; try (with_reducible rfl))
  simp only [Act.put, List.setIfInBounds_toArray, List.set_cons_zero, List.set_cons_succ]
  refine wpAnyH_ready (rs := [8]) (by kernel_rfl) (by simp) ?_
  refine AllReadyH.cons (o := _) (by simp only [List.getElem?_toArray, List.getElem?_cons_succ, List.getElem?_cons_zero]; rfl) (fun K hK => ?_) AllReadyH.nil
  go_simp
  try dsimp only
  refine hK.out _ _ (MK.out _ (hHeld.1.set (.inr ⟨rfl, rfl⟩) _)) (fun hHeld => ?_)
  clear hK K
  try simp only [Act.put, List.setIfInBounds_toArray, List.set_cons_zero, List.set_cons_succ]
  refine wpAnyH_done (by kernel_rfl) ?_ _
  refine abstract_then (fun W => RdI w C P true false true r3 z3 ⟨1, ent, 0, sf, sf + lg, none, 0, []⟩ W) (HJ4.out.put (HJ4.out.own.set4 (sf + lg)) rfl rfl rfl) ?_
  intro W4 hW4
  have HW4 := Lib.hid hW4
  clear hW4 y0 y1 y2 y3 y4 y5 yf hr hb hHeld
  go_upto_region 12 with (go_at_call 68; (with_reducible refine (C4.out _ HW4.out.rdr).mono ?_); rintro e v5 ⟨A, m, rfl, hr, hb, hcf, hfar⟩; have HJ5 := Lib.hid (HW4.out.next hr hb); have HCF := Lib.hid hcf; have HFA := Lib.hid (show ∀ a, A = some a → P < a.block from fun a ha => by have := hfar a ha; have := HW4.out.plt; omega); obtain ⟨y0, y1, y2, y3, y4, y5⟩ := HJ5.out.own.c; have yf := HJ5.out.own.f; clear hr hb hcf hfar)
  refine abstract_worldW (fun W => RdI w C P true false true r4 z4 ⟨1, ent, 0, sf, sf + lg, A, m, fs⟩ W) (HJ5.out.fields (HCF.out _ rfl rfl rfl) HFA.out) ?_
  intro W5 hW5
  have HW5 := Lib.hid hW5
  clear hW5 y0 y1 y2 y3 y4 y5 yf
  have hxx := HW5.out.own.c
  have MK9 := Lib.hid (show ∀ w', But (MB15 w.heap.size) W5 w' → (But (MB15 w.heap.size) W5 w' ∧ BoxC w' C ⟨1, ent, 0, sf, sf + lg, A, m, fs⟩ ∧ w'.cell? ⟨w.heap.size + 1, 0, none⟩ = some (.string r4) ∧ w'.cell? ⟨w.heap.size + 1, 1, none⟩ = some (.int .i64 ((z4 : Nat) : Int))) from fun w' h => ⟨h, (HW5.out.own.but h (fun _ e => by have := HW5.out.ord; have : C = w.heap.size := e; omega)).c, h.keep HW5.out.rdr.r (fun e => by have : w.heap.size + 1 = w.heap.size := e; omega), h.keep HW5.out.rdr.e (fun e => by have : w.heap.size + 1 = w.heap.size := e; omega)⟩)
  clear hxx
  obtain ⟨x0, x1, x2, x3, x4, x5⟩ := HW5.out.res.c
  have xf := HW5.out.res.f
  refine wp_region_held_drew (S := fun w' => But (MB15 w.heap.size) W5 w' ∧ BoxC w' C ⟨1, ent, 0, sf, sf + lg, A, m, fs⟩ ∧ w'.cell? ⟨w.heap.size + 1, 0, none⟩ = some (.string r4) ∧ w'.cell? ⟨w.heap.size + 1, 1, none⟩ = some (.int .i64 ((z4 : Nat) : Int))) (by kernel_rfl) (MK9.out _ (But.of_below ((bl W5).drew))) (fun hHeld => ?_)
  refine wpAnyH_take (i := 0) (oi := _) (v := ?_) (by simp only [List.getElem?_toArray, List.getElem?_cons_zero]; rfl) (by kernel_rfl) (by kernel_rfl) (by kernel_rfl) (by exact fun _ _ _ h => h) (Or.inl ⟨by rfl, ?_⟩) (by assumption) ?_
  rotate_left 1
  · (intro w hSw; (try dsimp only at hSw); go_simp; try (with_reducible rfl))
  simp only [Act.put, List.setIfInBounds_toArray, List.set_cons_zero, List.set_cons_succ]
  refine wpAnyH_take (i := 1) (oi := _) (v := ?_) (by simp only [List.getElem?_toArray, List.getElem?_cons_succ, List.getElem?_cons_zero]; rfl) (by kernel_rfl) (by kernel_rfl) (by kernel_rfl) (by exact fun _ _ _ h => h) (Or.inl ⟨by rfl, ?_⟩) (by assumption) ?_
  rotate_left 1
  · (intro w hSw; (try dsimp only at hSw); go_simp; try (with_reducible rfl))
  simp only [Act.put, List.setIfInBounds_toArray, List.set_cons_zero, List.set_cons_succ]
  refine wpAnyH_take (i := 2) (oi := _) (v := ?_) (by simp only [List.getElem?_toArray, List.getElem?_cons_succ, List.getElem?_cons_zero]; rfl) (by kernel_rfl) (by kernel_rfl) (by kernel_rfl) (by exact fun _ _ _ h => h) (Or.inl ⟨by rfl, ?_⟩) (by assumption) ?_
  rotate_left 1
  · (intro w hSw; (try dsimp only at hSw); go_simp; try (with_reducible rfl))
  simp only [Act.put, List.setIfInBounds_toArray, List.set_cons_zero, List.set_cons_succ]
  refine wpAnyH_take (i := 3) (oi := _) (v := ?_) (by simp only [List.getElem?_toArray, List.getElem?_cons_succ, List.getElem?_cons_zero]; rfl) (by kernel_rfl) (by kernel_rfl) (by kernel_rfl) (by exact fun _ _ _ h => h) (Or.inl ⟨by rfl, ?_⟩) (by assumption) ?_
  rotate_left 1
  · (intro w hSw; (try dsimp only at hSw); go_simp; try (with_reducible rfl))
  simp only [Act.put, List.setIfInBounds_toArray, List.set_cons_zero, List.set_cons_succ]
  refine wpAnyH_take (i := 4) (oi := _) (v := ?_) (by simp only [List.getElem?_toArray, List.getElem?_cons_succ, List.getElem?_cons_zero]; rfl) (by kernel_rfl) (by kernel_rfl) (by kernel_rfl) (by exact fun _ _ _ h => h) (Or.inl ⟨by rfl, ?_⟩) (by assumption) ?_
  rotate_left 1
  · (intro w hSw; (try dsimp only at hSw); go_simp; try (with_reducible rfl))
  simp only [Act.put, List.setIfInBounds_toArray, List.set_cons_zero, List.set_cons_succ]
  refine wpAnyH_take (i := 5) (oi := _) (v := ?_) (by simp only [List.getElem?_toArray, List.getElem?_cons_succ, List.getElem?_cons_zero]; rfl) (by kernel_rfl) (by kernel_rfl) (by kernel_rfl) (by exact fun _ _ _ h => h) (Or.inl ⟨by rfl, ?_⟩) (by assumption) ?_
  rotate_left 1
  · (intro w hSw; (try dsimp only at hSw); go_simp; try (with_reducible rfl))
  simp only [Act.put, List.setIfInBounds_toArray, List.set_cons_zero, List.set_cons_succ]
  refine wpAnyH_take (i := 6) (oi := _) (v := ?_) (by simp only [List.getElem?_toArray, List.getElem?_cons_succ, List.getElem?_cons_zero]; rfl) (by kernel_rfl) (by kernel_rfl) (by kernel_rfl) (by exact fun _ _ _ h => h) (Or.inl ⟨by rfl, ?_⟩) (by assumption) ?_
  rotate_left 1
  · (intro w hSw; (try dsimp only at hSw); go_simp; try (with_reducible rfl))
  simp only [Act.put, List.setIfInBounds_toArray, List.set_cons_zero, List.set_cons_succ]
  refine wpAnyH_take (i := 7) (oi := _) (v := ?_) (by simp only [List.getElem?_toArray, List.getElem?_cons_succ, List.getElem?_cons_zero]; rfl) (by kernel_rfl) (by kernel_rfl) (by kernel_rfl) (by exact fun _ _ _ h => h) (Or.inl ⟨by rfl, ?_⟩) (by assumption) ?_
  rotate_left 1
  · (intro w hSw; (try dsimp only at hSw); go_simp; try (with_reducible rfl))
  simp only [Act.put, List.setIfInBounds_toArray, List.set_cons_zero, List.set_cons_succ]
  refine wpAnyH_take (i := 8) (oi := _) (v := ?_) (by simp only [List.getElem?_toArray, List.getElem?_cons_succ, List.getElem?_cons_zero]; rfl) (by kernel_rfl) (by kernel_rfl) (by kernel_rfl) (by exact fun _ _ _ h => h) (Or.inl ⟨by rfl, ?_⟩) (by assumption) ?_
  rotate_left 1
  · (intro w hSw; (try dsimp only at hSw); go_simp; try (with_reducible rfl))
  simp only [Act.put, List.setIfInBounds_toArray, List.set_cons_zero, List.set_cons_succ]
  refine wpAnyH_ready (rs := [9]) (by kernel_rfl) (by simp) ?_
  refine AllReadyH.cons (o := _) (by simp only [List.getElem?_toArray, List.getElem?_cons_succ, List.getElem?_cons_zero]; rfl) (fun K hK => ?_) AllReadyH.nil
  go_simp
  try dsimp only
  refine hK.out _ _ (MK9.out _ ((six_but15 _ _ _ _ _ _ _ _).trans (But.of_below ((bl _).drew)))) (fun hHeld => ?_)
  clear hK K
  try simp only [Act.put, List.setIfInBounds_toArray, List.set_cons_zero, List.set_cons_succ]
  refine wpAnyH_take (i := 10) (oi := _) (v := ?_) (by simp only [List.getElem?_toArray, List.getElem?_cons_succ, List.getElem?_cons_zero]; rfl) (by kernel_rfl) (by kernel_rfl) (by kernel_rfl) (by exact fun _ _ _ h => h) (Or.inl ⟨by rfl, ?_⟩) (by assumption) ?_
  rotate_left 1
  · (intro w hSw; (try dsimp only at hSw); go_simp; try (with_reducible rfl))
  simp only [Act.put, List.setIfInBounds_toArray, List.set_cons_zero, List.set_cons_succ]
  refine wpAnyH_take (i := 11) (oi := _) (v := ?_) (by simp only [List.getElem?_toArray, List.getElem?_cons_succ, List.getElem?_cons_zero]; rfl) (by kernel_rfl) (by kernel_rfl) (by kernel_rfl) (by exact fun _ _ _ h => h) (Or.inl ⟨by rfl, ?_⟩) (by assumption) ?_
  rotate_left 1
  · (intro w hSw; (try dsimp only at hSw); go_simp; try (with_reducible rfl))
  simp only [Act.put, List.setIfInBounds_toArray, List.set_cons_zero, List.set_cons_succ]
  refine wpAnyH_done (by kernel_rfl) ?_ _
  go_wp2_with fail
  obtain ⟨q0, q1, q2, q3, q4, q5⟩ := (six_store HW5.out.res (⟨1, ent, 0, sf, sf + lg, A, m, fs⟩ : Cm).fa (⟨1, ent, 0, sf, sf + lg, A, m, fs⟩ : Cm).fc (⟨1, ent, 0, sf, sf + lg, A, m, fs⟩ : Cm).fs (⟨1, ent, 0, sf, sf + lg, A, m, fs⟩ : Cm).k (⟨1, ent, 0, sf, sf + lg, A, m, fs⟩ : Cm).ent (⟨1, ent, 0, sf, sf + lg, A, m, fs⟩ : Cm).tg (⟨1, ent, 0, sf, sf + lg, A, m, fs⟩ : Cm).sf (⟨1, ent, 0, sf, sf + lg, A, m, fs⟩ : Cm).se).c
  simp only at q0 q1 q2 q3 q4 q5
  refine bodyPost_ret (v := .tuple #[cv14 ⟨1, ent, 0, sf, sf + lg, A, m, fs⟩, .string r4, .int .i64 ((z4 : Nat) : Int)]) (by simp [results, Tryd.results42, go_sem, q0, q1, q2, q3, q4, q5]) rfl ?_
  exact (HW5.out.post rfl).drew

end Go.Proofs.YtmieonfdenjedaaDoor

/-
  The program's read of commands: one kind.
-/
namespace Go.Proofs.YtmieonfdenjedaaDoor
open Go.RowKit

set_option maxHeartbeats 8000000 in
set_option maxRecDepth 10000 in
theorem read14_2 (s : ByteArray) (hs : s.size ≤ 4611686018427387903) (w : World) (hT : TabK w) (r0 : ByteArray) (z0 : Nat) (h0 : numT s = (2, r0, z0)) (tg : Int) (r1 : ByteArray) (z1 : Nat) (h1 : nx z0 0 r0 (intT r0) = (tg, r1, z1)) (sf lg : Int) (r2 r3 r4 : ByteArray) (z2 z3 z4 : Nat) (fs : List Fd) (h2 : nx z1 0 r1 (intT r1) = (sf, r2, z2)) (h3 : nx z2 0 r2 (numT r2) = (lg, r3, z3)) (h4 : nx z3 [] r3 (takeF r3) = (fs, r4, z4)) :
    Calls Tryd.prog 42 #[.string s] w (ReadPost w (⟨2, ⟨#[]⟩, tg, sf, sf + lg, none, 0, fs⟩, r4, z4)) := by
  have HRA := Lib.hid (show HoldC ((w.alloc oZC14).alloc (oRd s)) w.heap.size noC from (holdC_new w).below ((bl _).alloc (Nat.le_refl _) _))
  have HRR := Lib.hid (show Rdr ((w.alloc oZC14).alloc (oRd s)) (w.heap.size + 1) s 0 from by
    have := rdr_new (w.alloc oZC14) s
    rwa [show (w.alloc oZC14).heap.size = w.heap.size + 1 by simp] at this)
  have HB0 := Lib.hid (show Below w.heap.size w ((w.alloc oZC14).alloc (oRd s)) from ((bl w).alloc (Nat.le_refl _) _).alloc (by simp) _)
  have CPA := Lib.hid (show ∀ w', Below w.heap.size w w' → Ret 26 #[.int .i64 2] w' (.agg #[.bool false, .bool true, .bool true]) from fun w' h => by have := parts_any 2 w' (hT.below h); rwa [pt2] at this)
  have s0 : r0.size ≤ 4611686018427387903 := by have := Nat.le_trans (tkR_size s) hs; have e := congrArg (fun t => t.2.1) h0; simp only [numT] at e; rw [← e]; exact this
  have C0 := Lib.hid (fun W h => num_next (R := w.heap.size + 1) (z := 0) hs (x := 2) (r' := r0) (z' := z0) (by rw [nx_zero]; exact h0) W h)
  have s1 : r1.size ≤ 4611686018427387903 := by have := nxI_size (z := z0) s0; rw [h1] at this; exact this
  have C1 := Lib.hid (fun W h => int_next (R := w.heap.size + 1) s0 h1 W h)
  have s2 : r2.size ≤ 4611686018427387903 := by have := nxI_size (z := z1) s1; rw [h2] at this; exact this
  have C2 := Lib.hid (fun W h => int_next (R := w.heap.size + 1) s1 h2 W h)
  have s3 : r3.size ≤ 4611686018427387903 := by have := nxN_size (z := z2) s2; rw [h3] at this; exact this
  have C3 := Lib.hid (fun W h => num_next (R := w.heap.size + 1) s2 h3 W h)
  have C4 := Lib.hid (fun W h => fld_next (R := w.heap.size + 1) s3 h4 W h)
  have b1 : Bq sf := by have := nxI_bq z1 r1; rw [h2] at this; exact this
  have b2 : Bq lg := by have := nxN_bq z2 r2; rw [h3] at this; exact this
  have hlong : IntKind.i64.wrap (sf + lg) = sf + lg := by rw [IntKind.wrap_i64]; obtain ⟨u1, u2⟩ := b1; obtain ⟨u3, u4⟩ := b2; omega
  clear hT hs h0 s0 h1 s1 h2 h3 h4 s2 s3 b1 b2
  go_enter Tryd.func42, Tryd.ntmps42
  go_upto_region 4 with (first
    | (go_at_call 64; (with_reducible refine (C0.out _ HRR.out).mono ?_); rintro e w1 ⟨rfl, hr1, hb1⟩; have HR1 := Lib.hid hr1; have HB1 := Lib.hid hb1; clear hr1 hb1)
    | (go_at_call 26; (with_reducible refine (CPA.out _ (begR HB0.out HB1.out _)).mono ?_); rintro e w2 ⟨rfl, hb2⟩; have HB2 := Lib.hid hb2; clear hb2))
  have hI := rdI_start HRA.out HB0.out HR1.out HB1.out (c := ⟨2, ⟨#[]⟩, 0, 0, 0, none, 0, []⟩) rfl rfl rfl HB2.out (a := false) (b := true) (d := true)
  obtain ⟨C, hC⟩ : ∃ C, w1.heap.size = C := ⟨_, rfl⟩
  obtain ⟨P, hP⟩ : ∃ P, w2.heap.size = P := ⟨_, rfl⟩
  rw [hC, hP] at hI
  rw [hC, hP]
  clear hC hP
  refine abstract_worldW (fun W => RdI w C P false true true r0 z0 ⟨2, ⟨#[]⟩, 0, 0, 0, none, 0, []⟩ W) hI ?_
  intro W1 hW1
  have HW1 := Lib.hid hW1
  obtain ⟨pW10, pW11, pW12⟩ := hW1.prt
  clear hW1
  clear hI
  go_upto_region 8 with (go_at_call 64; (with_reducible refine (C1.out _ HW1.out.rdr).mono ?_); rintro e v2 ⟨rfl, hr, hb⟩; have HJ2 := Lib.hid (HW1.out.next hr hb); obtain ⟨y0, y1, y2, y3, y4, y5⟩ := HJ2.out.own.c; have yf := HJ2.out.own.f; clear hr hb)
  clear pW10 pW11 pW12
  refine abstract_worldW (fun W => RdI w C P false true true r1 z1 ⟨2, ⟨#[]⟩, tg, 0, 0, none, 0, []⟩ W) (HJ2.out.put (HJ2.out.own.set2 tg) rfl rfl rfl) ?_
  intro W2 hW2
  have HW2 := Lib.hid hW2
  obtain ⟨pW20, pW21, pW22⟩ := hW2.prt
  clear hW2
  clear y0 y1 y2 y3 y4 y5 yf
  go_upto_region 10 with (go_at_call 64; (with_reducible refine (C2.out _ HW2.out.rdr).mono ?_); rintro e v3 ⟨rfl, hr, hb⟩; have HJ3 := Lib.hid (HW2.out.next hr hb); obtain ⟨y0, y1, y2, y3, y4, y5⟩ := HJ3.out.own.c; have yf := HJ3.out.own.f; clear hr hb)
  clear pW20 pW21 pW22
  refine abstract_worldW (fun W => RdI w C P false true true r2 z2 ⟨2, ⟨#[]⟩, tg, sf, 0, none, 0, []⟩ W) (HJ3.out.put (HJ3.out.own.set3 sf) rfl rfl rfl) ?_
  intro W3 hW3
  have HW3 := Lib.hid hW3
  obtain ⟨pW30, pW31, pW32⟩ := hW3.prt
  clear hW3
  clear y0 y1 y2 y3 y4 y5 yf
  have MK := Lib.hid (show ∀ w', But (MB16 (w.heap.size + 1) C) W3 w' → (But (MB16 (w.heap.size + 1) C) W3 w' ∧ w'.cell? ⟨C, 3, none⟩ = some (.int .i64 sf)) from fun w' h => ⟨h, h.keep HW3.out.own.c.2.2.2.1 (fun e => by have := HW3.out.ord; rcases e with e | e <;> omega)⟩)
  refine wp_region_held_drew (S := fun w' => But (MB16 (w.heap.size + 1) C) W3 w' ∧ w'.cell? ⟨C, 3, none⟩ = some (.int .i64 sf)) (by kernel_rfl) (MK.out _ (But.of_below ((bl W3).drew))) (fun hHeld => ?_)
  refine wpAnyH_take (i := 0) (oi := _) (v := ?_) (by simp only [List.getElem?_toArray, List.getElem?_cons_zero]; rfl) (by kernel_rfl) (by kernel_rfl) (by kernel_rfl) (by exact fun _ _ _ h => h) (Or.inl ⟨by rfl, ?_⟩) (by assumption) ?_
  rotate_left 1
  · (intro w hSw; (try dsimp only at hSw); go_simp; try (with_reducible rfl))
  simp only [Act.put, List.setIfInBounds_toArray, List.set_cons_zero, List.set_cons_succ]
  refine wpAnyH_take (i := 1) (oi := _) (v := ?_) (by simp only [List.getElem?_toArray, List.getElem?_cons_succ, List.getElem?_cons_zero]; rfl) (by kernel_rfl) (by kernel_rfl) (by kernel_rfl) (by exact fun _ _ _ h => h) (Or.inl ⟨by rfl, ?_⟩) (by assumption) ?_
  rotate_left 1
  · (intro w hSw; (try dsimp only at hSw); go_simp; try (with_reducible rfl))
  simp only [Act.put, List.setIfInBounds_toArray, List.set_cons_zero, List.set_cons_succ]
  refine wpAnyH_take (i := 2) (oi := _) (v := ?_) (by simp only [List.getElem?_toArray, List.getElem?_cons_succ, List.getElem?_cons_zero]; rfl) (by kernel_rfl) (by kernel_rfl) (by kernel_rfl) (by exact fun _ _ _ h => h) (Or.inl ⟨by rfl, ?_⟩) (by assumption) ?_
  rotate_left 1
  · (intro w hSw; (try dsimp only at hSw); go_simp; try (with_reducible rfl))
  simp only [Act.put, List.setIfInBounds_toArray, List.set_cons_zero, List.set_cons_succ]
  refine wpAnyH_take (i := 3) (oi := _) (v := ?_) (by simp only [List.getElem?_toArray, List.getElem?_cons_succ, List.getElem?_cons_zero]; rfl) (by kernel_rfl) (by kernel_rfl) (by kernel_rfl) (by exact fun _ _ _ h => h) (Or.inl ⟨by rfl, ?_⟩) (by assumption) ?_
  rotate_left 1
  · (intro w hSw; (try dsimp only at hSw); go_simp; try (with_reducible rfl))
  simp only [Act.put, List.setIfInBounds_toArray, List.set_cons_zero, List.set_cons_succ]
  refine wpAnyH_ready (rs := [4]) (by kernel_rfl) (by simp) ?_
  refine AllReadyH.cons (o := _) (by simp only [List.getElem?_toArray, List.getElem?_cons_succ, List.getElem?_cons_zero]; rfl) (fun K hK => ?_) AllReadyH.nil
  go_simp
  go_at_call 64
  (with_reducible refine (C3.out _ (HW3.out.drew.rdr)).mono ?_)
  rintro e v4 ⟨rfl, hr, hb⟩
  have HJ4 := Lib.hid (HW3.out.drew.next hr hb)
  obtain ⟨y0, y1, y2, y3, y4, y5⟩ := HJ4.out.own.c
  have yf := HJ4.out.own.f
  try dsimp only
  refine hK.out _ _ (MK.out _ (hHeld.1.trans (hb.mono (fun _ _ _ e => .inl e)))) (fun hHeld => ?_)
  clear hK K
  try simp only [Act.put, List.setIfInBounds_toArray, List.set_cons_zero, List.set_cons_succ]
  refine wpAnyH_take (i := 5) (oi := _) (v := ?_) (by simp only [List.getElem?_toArray, List.getElem?_cons_succ, List.getElem?_cons_zero]; rfl) (by kernel_rfl) (by kernel_rfl) (by kernel_rfl) (by exact fun _ _ _ h => h) (Or.inl ⟨by rfl, ?_⟩) (by assumption) ?_
  rotate_left 1
  · (intro w hSw; (try dsimp only at hSw); go_simp; try (with_reducible rfl))
  simp only [Act.put, List.setIfInBounds_toArray, List.set_cons_zero, List.set_cons_succ]
  refine wpAnyH_take (i := 6) (oi := _) (v := ?_) (by simp only [List.getElem?_toArray, List.getElem?_cons_succ, List.getElem?_cons_zero]; rfl) (by kernel_rfl) (by kernel_rfl) (by kernel_rfl) (by exact fun _ _ _ h => h) (Or.inl ⟨by rfl, ?_⟩) (by assumption) ?_
  rotate_left 1
  · (intro w hSw; (try dsimp only at hSw); go_simp; try (with_reducible rfl))
  simp only [Act.put, List.setIfInBounds_toArray, List.set_cons_zero, List.set_cons_succ]
  refine wpAnyH_take (i := 7) (oi := _) (v := ?_) (by simp only [List.getElem?_toArray, List.getElem?_cons_succ, List.getElem?_cons_zero]; rfl) (by kernel_rfl) (by kernel_rfl) (by kernel_rfl) (by exact fun _ _ _ h => h) (Or.inl ⟨by rfl, ?_⟩) (by assumption) ?_
  rotate_left 1
  · (intro w hSw; (try dsimp only at hSw); go_simp; try (with_reducible rfl))
  simp only [Act.put, List.setIfInBounds_toArray, List.set_cons_zero, List.set_cons_succ]
  refine wpAnyH_ready (rs := [8]) (by kernel_rfl) (by simp) ?_
  refine AllReadyH.cons (o := _) (by simp only [List.getElem?_toArray, List.getElem?_cons_succ, List.getElem?_cons_zero]; rfl) (fun K hK => ?_) AllReadyH.nil
  go_simp
  try dsimp only
  refine hK.out _ _ (MK.out _ (hHeld.1.set (.inr ⟨rfl, rfl⟩) _)) (fun hHeld => ?_)
  clear hK K
  try simp only [Act.put, List.setIfInBounds_toArray, List.set_cons_zero, List.set_cons_succ]
  refine wpAnyH_done (by kernel_rfl) ?_ _
  refine abstract_then (fun W => RdI w C P false true true r3 z3 ⟨2, ⟨#[]⟩, tg, sf, sf + lg, none, 0, []⟩ W) (HJ4.out.put (HJ4.out.own.set4 (sf + lg)) rfl rfl rfl) ?_
  intro W4 hW4
  have HW4 := Lib.hid hW4
  clear hW4 y0 y1 y2 y3 y4 y5 yf hr hb hHeld
  go_upto_region 12 with (go_at_call 68; (with_reducible refine (C4.out _ HW4.out.rdr).mono ?_); rintro e v5 ⟨A, m, rfl, hr, hb, hcf, hfar⟩; have HJ5 := Lib.hid (HW4.out.next hr hb); have HCF := Lib.hid hcf; have HFA := Lib.hid (show ∀ a, A = some a → P < a.block from fun a ha => by have := hfar a ha; have := HW4.out.plt; omega); obtain ⟨y0, y1, y2, y3, y4, y5⟩ := HJ5.out.own.c; have yf := HJ5.out.own.f; clear hr hb hcf hfar)
  refine abstract_worldW (fun W => RdI w C P false true true r4 z4 ⟨2, ⟨#[]⟩, tg, sf, sf + lg, A, m, fs⟩ W) (HJ5.out.fields (HCF.out _ rfl rfl rfl) HFA.out) ?_
  intro W5 hW5
  have HW5 := Lib.hid hW5
  clear hW5 y0 y1 y2 y3 y4 y5 yf
  have hxx := HW5.out.own.c
  have MK9 := Lib.hid (show ∀ w', But (MB15 w.heap.size) W5 w' → (But (MB15 w.heap.size) W5 w' ∧ BoxC w' C ⟨2, ⟨#[]⟩, tg, sf, sf + lg, A, m, fs⟩ ∧ w'.cell? ⟨w.heap.size + 1, 0, none⟩ = some (.string r4) ∧ w'.cell? ⟨w.heap.size + 1, 1, none⟩ = some (.int .i64 ((z4 : Nat) : Int))) from fun w' h => ⟨h, (HW5.out.own.but h (fun _ e => by have := HW5.out.ord; have : C = w.heap.size := e; omega)).c, h.keep HW5.out.rdr.r (fun e => by have : w.heap.size + 1 = w.heap.size := e; omega), h.keep HW5.out.rdr.e (fun e => by have : w.heap.size + 1 = w.heap.size := e; omega)⟩)
  clear hxx
  obtain ⟨x0, x1, x2, x3, x4, x5⟩ := HW5.out.res.c
  have xf := HW5.out.res.f
  refine wp_region_held_drew (S := fun w' => But (MB15 w.heap.size) W5 w' ∧ BoxC w' C ⟨2, ⟨#[]⟩, tg, sf, sf + lg, A, m, fs⟩ ∧ w'.cell? ⟨w.heap.size + 1, 0, none⟩ = some (.string r4) ∧ w'.cell? ⟨w.heap.size + 1, 1, none⟩ = some (.int .i64 ((z4 : Nat) : Int))) (by kernel_rfl) (MK9.out _ (But.of_below ((bl W5).drew))) (fun hHeld => ?_)
  refine wpAnyH_take (i := 0) (oi := _) (v := ?_) (by simp only [List.getElem?_toArray, List.getElem?_cons_zero]; rfl) (by kernel_rfl) (by kernel_rfl) (by kernel_rfl) (by exact fun _ _ _ h => h) (Or.inl ⟨by rfl, ?_⟩) (by assumption) ?_
  rotate_left 1
  · (intro w hSw; (try dsimp only at hSw); go_simp; try (with_reducible rfl))
  simp only [Act.put, List.setIfInBounds_toArray, List.set_cons_zero, List.set_cons_succ]
  refine wpAnyH_take (i := 1) (oi := _) (v := ?_) (by simp only [List.getElem?_toArray, List.getElem?_cons_succ, List.getElem?_cons_zero]; rfl) (by kernel_rfl) (by kernel_rfl) (by kernel_rfl) (by exact fun _ _ _ h => h) (Or.inl ⟨by rfl, ?_⟩) (by assumption) ?_
  rotate_left 1
  · (intro w hSw; (try dsimp only at hSw); go_simp; try (with_reducible rfl))
  simp only [Act.put, List.setIfInBounds_toArray, List.set_cons_zero, List.set_cons_succ]
  refine wpAnyH_take (i := 2) (oi := _) (v := ?_) (by simp only [List.getElem?_toArray, List.getElem?_cons_succ, List.getElem?_cons_zero]; rfl) (by kernel_rfl) (by kernel_rfl) (by kernel_rfl) (by exact fun _ _ _ h => h) (Or.inl ⟨by rfl, ?_⟩) (by assumption) ?_
  rotate_left 1
  · (intro w hSw; (try dsimp only at hSw); go_simp; try (with_reducible rfl))
  simp only [Act.put, List.setIfInBounds_toArray, List.set_cons_zero, List.set_cons_succ]
  refine wpAnyH_take (i := 3) (oi := _) (v := ?_) (by simp only [List.getElem?_toArray, List.getElem?_cons_succ, List.getElem?_cons_zero]; rfl) (by kernel_rfl) (by kernel_rfl) (by kernel_rfl) (by exact fun _ _ _ h => h) (Or.inl ⟨by rfl, ?_⟩) (by assumption) ?_
  rotate_left 1
  · (intro w hSw; (try dsimp only at hSw); go_simp; try (with_reducible rfl))
  simp only [Act.put, List.setIfInBounds_toArray, List.set_cons_zero, List.set_cons_succ]
  refine wpAnyH_take (i := 4) (oi := _) (v := ?_) (by simp only [List.getElem?_toArray, List.getElem?_cons_succ, List.getElem?_cons_zero]; rfl) (by kernel_rfl) (by kernel_rfl) (by kernel_rfl) (by exact fun _ _ _ h => h) (Or.inl ⟨by rfl, ?_⟩) (by assumption) ?_
  rotate_left 1
  · (intro w hSw; (try dsimp only at hSw); go_simp; try (with_reducible rfl))
  simp only [Act.put, List.setIfInBounds_toArray, List.set_cons_zero, List.set_cons_succ]
  refine wpAnyH_take (i := 5) (oi := _) (v := ?_) (by simp only [List.getElem?_toArray, List.getElem?_cons_succ, List.getElem?_cons_zero]; rfl) (by kernel_rfl) (by kernel_rfl) (by kernel_rfl) (by exact fun _ _ _ h => h) (Or.inl ⟨by rfl, ?_⟩) (by assumption) ?_
  rotate_left 1
  · (intro w hSw; (try dsimp only at hSw); go_simp; try (with_reducible rfl))
  simp only [Act.put, List.setIfInBounds_toArray, List.set_cons_zero, List.set_cons_succ]
  refine wpAnyH_take (i := 6) (oi := _) (v := ?_) (by simp only [List.getElem?_toArray, List.getElem?_cons_succ, List.getElem?_cons_zero]; rfl) (by kernel_rfl) (by kernel_rfl) (by kernel_rfl) (by exact fun _ _ _ h => h) (Or.inl ⟨by rfl, ?_⟩) (by assumption) ?_
  rotate_left 1
  · (intro w hSw; (try dsimp only at hSw); go_simp; try (with_reducible rfl))
  simp only [Act.put, List.setIfInBounds_toArray, List.set_cons_zero, List.set_cons_succ]
  refine wpAnyH_take (i := 7) (oi := _) (v := ?_) (by simp only [List.getElem?_toArray, List.getElem?_cons_succ, List.getElem?_cons_zero]; rfl) (by kernel_rfl) (by kernel_rfl) (by kernel_rfl) (by exact fun _ _ _ h => h) (Or.inl ⟨by rfl, ?_⟩) (by assumption) ?_
  rotate_left 1
  · (intro w hSw; (try dsimp only at hSw); go_simp; try (with_reducible rfl))
  simp only [Act.put, List.setIfInBounds_toArray, List.set_cons_zero, List.set_cons_succ]
  refine wpAnyH_take (i := 8) (oi := _) (v := ?_) (by simp only [List.getElem?_toArray, List.getElem?_cons_succ, List.getElem?_cons_zero]; rfl) (by kernel_rfl) (by kernel_rfl) (by kernel_rfl) (by exact fun _ _ _ h => h) (Or.inl ⟨by rfl, ?_⟩) (by assumption) ?_
  rotate_left 1
  · (intro w hSw; (try dsimp only at hSw); go_simp; try (with_reducible rfl))
  simp only [Act.put, List.setIfInBounds_toArray, List.set_cons_zero, List.set_cons_succ]
  refine wpAnyH_ready (rs := [9]) (by kernel_rfl) (by simp) ?_
  refine AllReadyH.cons (o := _) (by simp only [List.getElem?_toArray, List.getElem?_cons_succ, List.getElem?_cons_zero]; rfl) (fun K hK => ?_) AllReadyH.nil
  go_simp
  try dsimp only
  refine hK.out _ _ (MK9.out _ ((six_but15 _ _ _ _ _ _ _ _).trans (But.of_below ((bl _).drew)))) (fun hHeld => ?_)
  clear hK K
  try simp only [Act.put, List.setIfInBounds_toArray, List.set_cons_zero, List.set_cons_succ]
  refine wpAnyH_take (i := 10) (oi := _) (v := ?_) (by simp only [List.getElem?_toArray, List.getElem?_cons_succ, List.getElem?_cons_zero]; rfl) (by kernel_rfl) (by kernel_rfl) (by kernel_rfl) (by exact fun _ _ _ h => h) (Or.inl ⟨by rfl, ?_⟩) (by assumption) ?_
  rotate_left 1
  · (intro w hSw; (try dsimp only at hSw); go_simp; try (with_reducible rfl))
  simp only [Act.put, List.setIfInBounds_toArray, List.set_cons_zero, List.set_cons_succ]
  refine wpAnyH_take (i := 11) (oi := _) (v := ?_) (by simp only [List.getElem?_toArray, List.getElem?_cons_succ, List.getElem?_cons_zero]; rfl) (by kernel_rfl) (by kernel_rfl) (by kernel_rfl) (by exact fun _ _ _ h => h) (Or.inl ⟨by rfl, ?_⟩) (by assumption) ?_
  rotate_left 1
  · (intro w hSw; (try dsimp only at hSw); go_simp; try (with_reducible rfl))
  simp only [Act.put, List.setIfInBounds_toArray, List.set_cons_zero, List.set_cons_succ]
  refine wpAnyH_done (by kernel_rfl) ?_ _
  go_wp2_with fail
  obtain ⟨q0, q1, q2, q3, q4, q5⟩ := (six_store HW5.out.res (⟨2, ⟨#[]⟩, tg, sf, sf + lg, A, m, fs⟩ : Cm).fa (⟨2, ⟨#[]⟩, tg, sf, sf + lg, A, m, fs⟩ : Cm).fc (⟨2, ⟨#[]⟩, tg, sf, sf + lg, A, m, fs⟩ : Cm).fs (⟨2, ⟨#[]⟩, tg, sf, sf + lg, A, m, fs⟩ : Cm).k (⟨2, ⟨#[]⟩, tg, sf, sf + lg, A, m, fs⟩ : Cm).ent (⟨2, ⟨#[]⟩, tg, sf, sf + lg, A, m, fs⟩ : Cm).tg (⟨2, ⟨#[]⟩, tg, sf, sf + lg, A, m, fs⟩ : Cm).sf (⟨2, ⟨#[]⟩, tg, sf, sf + lg, A, m, fs⟩ : Cm).se).c
  simp only at q0 q1 q2 q3 q4 q5
  refine bodyPost_ret (v := .tuple #[cv14 ⟨2, ⟨#[]⟩, tg, sf, sf + lg, A, m, fs⟩, .string r4, .int .i64 ((z4 : Nat) : Int)]) (by simp [results, Tryd.results42, go_sem, q0, q1, q2, q3, q4, q5]) rfl ?_
  exact (HW5.out.post rfl).drew

end Go.Proofs.YtmieonfdenjedaaDoor

/-
  The program's read of commands: one kind.
-/
namespace Go.Proofs.YtmieonfdenjedaaDoor
open Go.RowKit

set_option maxHeartbeats 8000000 in
set_option maxRecDepth 10000 in
theorem read14_3 (s : ByteArray) (hs : s.size ≤ 4611686018427387903) (w : World) (hT : TabK w) (r0 : ByteArray) (z0 : Nat) (h0 : numT s = (3, r0, z0)) (tg : Int) (r1 : ByteArray) (z1 : Nat) (h1 : nx z0 0 r0 (intT r0) = (tg, r1, z1)) :
    Calls Tryd.prog 42 #[.string s] w (ReadPost w (⟨3, ⟨#[]⟩, tg, 0, 0, none, 0, []⟩, r1, z1)) := by
  have HRA := Lib.hid (show HoldC ((w.alloc oZC14).alloc (oRd s)) w.heap.size noC from (holdC_new w).below ((bl _).alloc (Nat.le_refl _) _))
  have HRR := Lib.hid (show Rdr ((w.alloc oZC14).alloc (oRd s)) (w.heap.size + 1) s 0 from by
    have := rdr_new (w.alloc oZC14) s
    rwa [show (w.alloc oZC14).heap.size = w.heap.size + 1 by simp] at this)
  have HB0 := Lib.hid (show Below w.heap.size w ((w.alloc oZC14).alloc (oRd s)) from ((bl w).alloc (Nat.le_refl _) _).alloc (by simp) _)
  have CPA := Lib.hid (show ∀ w', Below w.heap.size w w' → Ret 26 #[.int .i64 3] w' (.agg #[.bool false, .bool true, .bool false]) from fun w' h => by have := parts_any 3 w' (hT.below h); rwa [pt3] at this)
  have s0 : r0.size ≤ 4611686018427387903 := by have := Nat.le_trans (tkR_size s) hs; have e := congrArg (fun t => t.2.1) h0; simp only [numT] at e; rw [← e]; exact this
  have C0 := Lib.hid (fun W h => num_next (R := w.heap.size + 1) (z := 0) hs (x := 3) (r' := r0) (z' := z0) (by rw [nx_zero]; exact h0) W h)
  have s1 : r1.size ≤ 4611686018427387903 := by have := nxI_size (z := z0) s0; rw [h1] at this; exact this
  have C1 := Lib.hid (fun W h => int_next (R := w.heap.size + 1) s0 h1 W h)
  clear hT hs h0 s0 h1 s1
  go_enter Tryd.func42, Tryd.ntmps42
  go_upto_region 4 with (first
    | (go_at_call 64; (with_reducible refine (C0.out _ HRR.out).mono ?_); rintro e w1 ⟨rfl, hr1, hb1⟩; have HR1 := Lib.hid hr1; have HB1 := Lib.hid hb1; clear hr1 hb1)
    | (go_at_call 26; (with_reducible refine (CPA.out _ (begR HB0.out HB1.out _)).mono ?_); rintro e w2 ⟨rfl, hb2⟩; have HB2 := Lib.hid hb2; clear hb2))
  have hI := rdI_start HRA.out HB0.out HR1.out HB1.out (c := ⟨3, ⟨#[]⟩, 0, 0, 0, none, 0, []⟩) rfl rfl rfl HB2.out (a := false) (b := true) (d := false)
  obtain ⟨C, hC⟩ : ∃ C, w1.heap.size = C := ⟨_, rfl⟩
  obtain ⟨P, hP⟩ : ∃ P, w2.heap.size = P := ⟨_, rfl⟩
  rw [hC, hP] at hI
  rw [hC, hP]
  clear hC hP
  refine abstract_worldW (fun W => RdI w C P false true false r0 z0 ⟨3, ⟨#[]⟩, 0, 0, 0, none, 0, []⟩ W) hI ?_
  intro W1 hW1
  have HW1 := Lib.hid hW1
  obtain ⟨pW10, pW11, pW12⟩ := hW1.prt
  clear hW1
  clear hI
  go_upto_region 8 with (go_at_call 64; (with_reducible refine (C1.out _ HW1.out.rdr).mono ?_); rintro e v2 ⟨rfl, hr, hb⟩; have HJ2 := Lib.hid (HW1.out.next hr hb); obtain ⟨y0, y1, y2, y3, y4, y5⟩ := HJ2.out.own.c; have yf := HJ2.out.own.f; clear hr hb)
  clear pW10 pW11 pW12
  refine abstract_worldW (fun W => RdI w C P false true false r1 z1 ⟨3, ⟨#[]⟩, tg, 0, 0, none, 0, []⟩ W) (HJ2.out.put (HJ2.out.own.set2 tg) rfl rfl rfl) ?_
  intro W2 hW2
  have HW2 := Lib.hid hW2
  obtain ⟨pW20, pW21, pW22⟩ := hW2.prt
  clear hW2
  clear y0 y1 y2 y3 y4 y5 yf
  go_upto_region 12 with fail
  have hxx := HW2.out.own.c
  have MK9 := Lib.hid (show ∀ w', But (MB15 w.heap.size) W2 w' → (But (MB15 w.heap.size) W2 w' ∧ BoxC w' C ⟨3, ⟨#[]⟩, tg, 0, 0, none, 0, []⟩ ∧ w'.cell? ⟨w.heap.size + 1, 0, none⟩ = some (.string r1) ∧ w'.cell? ⟨w.heap.size + 1, 1, none⟩ = some (.int .i64 ((z1 : Nat) : Int))) from fun w' h => ⟨h, (HW2.out.own.but h (fun _ e => by have := HW2.out.ord; have : C = w.heap.size := e; omega)).c, h.keep HW2.out.rdr.r (fun e => by have : w.heap.size + 1 = w.heap.size := e; omega), h.keep HW2.out.rdr.e (fun e => by have : w.heap.size + 1 = w.heap.size := e; omega)⟩)
  clear hxx
  obtain ⟨x0, x1, x2, x3, x4, x5⟩ := HW2.out.res.c
  have xf := HW2.out.res.f
  refine wp_region_held_drew (S := fun w' => But (MB15 w.heap.size) W2 w' ∧ BoxC w' C ⟨3, ⟨#[]⟩, tg, 0, 0, none, 0, []⟩ ∧ w'.cell? ⟨w.heap.size + 1, 0, none⟩ = some (.string r1) ∧ w'.cell? ⟨w.heap.size + 1, 1, none⟩ = some (.int .i64 ((z1 : Nat) : Int))) (by kernel_rfl) (MK9.out _ (But.of_below ((bl W2).drew))) (fun hHeld => ?_)
  refine wpAnyH_take (i := 0) (oi := _) (v := ?_) (by simp only [List.getElem?_toArray, List.getElem?_cons_zero]; rfl) (by kernel_rfl) (by kernel_rfl) (by kernel_rfl) (by exact fun _ _ _ h => h) (Or.inl ⟨by rfl, ?_⟩) (by assumption) ?_
  rotate_left 1
  · (intro w hSw; (try dsimp only at hSw); go_simp; try (with_reducible rfl))
  simp only [Act.put, List.setIfInBounds_toArray, List.set_cons_zero, List.set_cons_succ]
  refine wpAnyH_take (i := 1) (oi := _) (v := ?_) (by simp only [List.getElem?_toArray, List.getElem?_cons_succ, List.getElem?_cons_zero]; rfl) (by kernel_rfl) (by kernel_rfl) (by kernel_rfl) (by exact fun _ _ _ h => h) (Or.inl ⟨by rfl, ?_⟩) (by assumption) ?_
  rotate_left 1
  · (intro w hSw; (try dsimp only at hSw); go_simp; try (with_reducible rfl))
  simp only [Act.put, List.setIfInBounds_toArray, List.set_cons_zero, List.set_cons_succ]
  refine wpAnyH_take (i := 2) (oi := _) (v := ?_) (by simp only [List.getElem?_toArray, List.getElem?_cons_succ, List.getElem?_cons_zero]; rfl) (by kernel_rfl) (by kernel_rfl) (by kernel_rfl) (by exact fun _ _ _ h => h) (Or.inl ⟨by rfl, ?_⟩) (by assumption) ?_
  rotate_left 1
  · (intro w hSw; (try dsimp only at hSw); go_simp; try (with_reducible rfl))
  simp only [Act.put, List.setIfInBounds_toArray, List.set_cons_zero, List.set_cons_succ]
  refine wpAnyH_take (i := 3) (oi := _) (v := ?_) (by simp only [List.getElem?_toArray, List.getElem?_cons_succ, List.getElem?_cons_zero]; rfl) (by kernel_rfl) (by kernel_rfl) (by kernel_rfl) (by exact fun _ _ _ h => h) (Or.inl ⟨by rfl, ?_⟩) (by assumption) ?_
  rotate_left 1
  · (intro w hSw; (try dsimp only at hSw); go_simp; try (with_reducible rfl))
  simp only [Act.put, List.setIfInBounds_toArray, List.set_cons_zero, List.set_cons_succ]
  refine wpAnyH_take (i := 4) (oi := _) (v := ?_) (by simp only [List.getElem?_toArray, List.getElem?_cons_succ, List.getElem?_cons_zero]; rfl) (by kernel_rfl) (by kernel_rfl) (by kernel_rfl) (by exact fun _ _ _ h => h) (Or.inl ⟨by rfl, ?_⟩) (by assumption) ?_
  rotate_left 1
  · (intro w hSw; (try dsimp only at hSw); go_simp; try (with_reducible rfl))
  simp only [Act.put, List.setIfInBounds_toArray, List.set_cons_zero, List.set_cons_succ]
  refine wpAnyH_take (i := 5) (oi := _) (v := ?_) (by simp only [List.getElem?_toArray, List.getElem?_cons_succ, List.getElem?_cons_zero]; rfl) (by kernel_rfl) (by kernel_rfl) (by kernel_rfl) (by exact fun _ _ _ h => h) (Or.inl ⟨by rfl, ?_⟩) (by assumption) ?_
  rotate_left 1
  · (intro w hSw; (try dsimp only at hSw); go_simp; try (with_reducible rfl))
  simp only [Act.put, List.setIfInBounds_toArray, List.set_cons_zero, List.set_cons_succ]
  refine wpAnyH_take (i := 6) (oi := _) (v := ?_) (by simp only [List.getElem?_toArray, List.getElem?_cons_succ, List.getElem?_cons_zero]; rfl) (by kernel_rfl) (by kernel_rfl) (by kernel_rfl) (by exact fun _ _ _ h => h) (Or.inl ⟨by rfl, ?_⟩) (by assumption) ?_
  rotate_left 1
  · (intro w hSw; (try dsimp only at hSw); go_simp; try (with_reducible rfl))
  simp only [Act.put, List.setIfInBounds_toArray, List.set_cons_zero, List.set_cons_succ]
  refine wpAnyH_take (i := 7) (oi := _) (v := ?_) (by simp only [List.getElem?_toArray, List.getElem?_cons_succ, List.getElem?_cons_zero]; rfl) (by kernel_rfl) (by kernel_rfl) (by kernel_rfl) (by exact fun _ _ _ h => h) (Or.inl ⟨by rfl, ?_⟩) (by assumption) ?_
  rotate_left 1
  · (intro w hSw; (try dsimp only at hSw); go_simp; try (with_reducible rfl))
  simp only [Act.put, List.setIfInBounds_toArray, List.set_cons_zero, List.set_cons_succ]
  refine wpAnyH_take (i := 8) (oi := _) (v := ?_) (by simp only [List.getElem?_toArray, List.getElem?_cons_succ, List.getElem?_cons_zero]; rfl) (by kernel_rfl) (by kernel_rfl) (by kernel_rfl) (by exact fun _ _ _ h => h) (Or.inl ⟨by rfl, ?_⟩) (by assumption) ?_
  rotate_left 1
  · (intro w hSw; (try dsimp only at hSw); go_simp; try (with_reducible rfl))
  simp only [Act.put, List.setIfInBounds_toArray, List.set_cons_zero, List.set_cons_succ]
  refine wpAnyH_ready (rs := [9]) (by kernel_rfl) (by simp) ?_
  refine AllReadyH.cons (o := _) (by simp only [List.getElem?_toArray, List.getElem?_cons_succ, List.getElem?_cons_zero]; rfl) (fun K hK => ?_) AllReadyH.nil
  go_simp
  try dsimp only
  refine hK.out _ _ (MK9.out _ ((six_but15 _ _ _ _ _ _ _ _).trans (But.of_below ((bl _).drew)))) (fun hHeld => ?_)
  clear hK K
  try simp only [Act.put, List.setIfInBounds_toArray, List.set_cons_zero, List.set_cons_succ]
  refine wpAnyH_take (i := 10) (oi := _) (v := ?_) (by simp only [List.getElem?_toArray, List.getElem?_cons_succ, List.getElem?_cons_zero]; rfl) (by kernel_rfl) (by kernel_rfl) (by kernel_rfl) (by exact fun _ _ _ h => h) (Or.inl ⟨by rfl, ?_⟩) (by assumption) ?_
  rotate_left 1
  · (intro w hSw; (try dsimp only at hSw); go_simp; try (with_reducible rfl))
  simp only [Act.put, List.setIfInBounds_toArray, List.set_cons_zero, List.set_cons_succ]
  refine wpAnyH_take (i := 11) (oi := _) (v := ?_) (by simp only [List.getElem?_toArray, List.getElem?_cons_succ, List.getElem?_cons_zero]; rfl) (by kernel_rfl) (by kernel_rfl) (by kernel_rfl) (by exact fun _ _ _ h => h) (Or.inl ⟨by rfl, ?_⟩) (by assumption) ?_
  rotate_left 1
  · (intro w hSw; (try dsimp only at hSw); go_simp; try (with_reducible rfl))
  simp only [Act.put, List.setIfInBounds_toArray, List.set_cons_zero, List.set_cons_succ]
  refine wpAnyH_done (by kernel_rfl) ?_ _
  go_wp2_with fail
  obtain ⟨q0, q1, q2, q3, q4, q5⟩ := (six_store HW2.out.res (⟨3, ⟨#[]⟩, tg, 0, 0, none, 0, []⟩ : Cm).fa (⟨3, ⟨#[]⟩, tg, 0, 0, none, 0, []⟩ : Cm).fc (⟨3, ⟨#[]⟩, tg, 0, 0, none, 0, []⟩ : Cm).fs (⟨3, ⟨#[]⟩, tg, 0, 0, none, 0, []⟩ : Cm).k (⟨3, ⟨#[]⟩, tg, 0, 0, none, 0, []⟩ : Cm).ent (⟨3, ⟨#[]⟩, tg, 0, 0, none, 0, []⟩ : Cm).tg (⟨3, ⟨#[]⟩, tg, 0, 0, none, 0, []⟩ : Cm).sf (⟨3, ⟨#[]⟩, tg, 0, 0, none, 0, []⟩ : Cm).se).c
  simp only [List.length_nil] at q0 q1 q2 q3 q4 q5
  refine bodyPost_ret (v := .tuple #[cv14 ⟨3, ⟨#[]⟩, tg, 0, 0, none, 0, []⟩, .string r1, .int .i64 ((z1 : Nat) : Int)]) (by simp [results, Tryd.results42, go_sem, q0, q1, q2, q3, q4, q5]) rfl ?_
  exact (HW2.out.post rfl).drew

end Go.Proofs.YtmieonfdenjedaaDoor

/-
  The program's read of commands: one kind.
-/
namespace Go.Proofs.YtmieonfdenjedaaDoor
open Go.RowKit

set_option maxHeartbeats 8000000 in
set_option maxRecDepth 10000 in
theorem read14_0 (s : ByteArray) (hs : s.size ≤ 4611686018427387903) (w : World) (hT : TabK w) (k : Int) (hk : k < 1 ∨ 3 < k) (r0 : ByteArray) (z0 : Nat) (h0 : numT s = (k, r0, z0)) :
    Calls Tryd.prog 42 #[.string s] w (ReadPost w (⟨k, ⟨#[]⟩, 0, 0, 0, none, 0, []⟩, r0, z0)) := by
  have HRA := Lib.hid (show HoldC ((w.alloc oZC14).alloc (oRd s)) w.heap.size noC from (holdC_new w).below ((bl _).alloc (Nat.le_refl _) _))
  have HRR := Lib.hid (show Rdr ((w.alloc oZC14).alloc (oRd s)) (w.heap.size + 1) s 0 from by
    have := rdr_new (w.alloc oZC14) s
    rwa [show (w.alloc oZC14).heap.size = w.heap.size + 1 by simp] at this)
  have HB0 := Lib.hid (show Below w.heap.size w ((w.alloc oZC14).alloc (oRd s)) from ((bl w).alloc (Nat.le_refl _) _).alloc (by simp) _)
  have CPA := Lib.hid (show ∀ w', Below w.heap.size w w' → Ret 26 #[.int .i64 k] w' (.agg #[.bool false, .bool false, .bool false]) from fun w' h => by have := parts_any k w' (hT.below h); rwa [pt0 hk] at this)
  have s0 : r0.size ≤ 4611686018427387903 := by have := Nat.le_trans (tkR_size s) hs; have e := congrArg (fun t => t.2.1) h0; simp only [numT] at e; rw [← e]; exact this
  have C0 := Lib.hid (fun W h => num_next (R := w.heap.size + 1) (z := 0) hs (x := k) (r' := r0) (z' := z0) (by rw [nx_zero]; exact h0) W h)
  clear hT hs h0 s0 hk
  go_enter Tryd.func42, Tryd.ntmps42
  go_upto_region 4 with (first
    | (go_at_call 64; (with_reducible refine (C0.out _ HRR.out).mono ?_); rintro e w1 ⟨rfl, hr1, hb1⟩; have HR1 := Lib.hid hr1; have HB1 := Lib.hid hb1; clear hr1 hb1)
    | (go_at_call 26; (with_reducible refine (CPA.out _ (begR HB0.out HB1.out _)).mono ?_); rintro e w2 ⟨rfl, hb2⟩; have HB2 := Lib.hid hb2; clear hb2))
  have hI := rdI_start HRA.out HB0.out HR1.out HB1.out (c := ⟨k, ⟨#[]⟩, 0, 0, 0, none, 0, []⟩) rfl rfl rfl HB2.out (a := false) (b := false) (d := false)
  obtain ⟨C, hC⟩ : ∃ C, w1.heap.size = C := ⟨_, rfl⟩
  obtain ⟨P, hP⟩ : ∃ P, w2.heap.size = P := ⟨_, rfl⟩
  rw [hC, hP] at hI
  rw [hC, hP]
  clear hC hP
  refine abstract_worldW (fun W => RdI w C P false false false r0 z0 ⟨k, ⟨#[]⟩, 0, 0, 0, none, 0, []⟩ W) hI ?_
  intro W1 hW1
  have HW1 := Lib.hid hW1
  obtain ⟨pW10, pW11, pW12⟩ := hW1.prt
  clear hW1
  clear hI
  go_upto_region 12 with fail
  have hxx := HW1.out.own.c
  have MK9 := Lib.hid (show ∀ w', But (MB15 w.heap.size) W1 w' → (But (MB15 w.heap.size) W1 w' ∧ BoxC w' C ⟨k, ⟨#[]⟩, 0, 0, 0, none, 0, []⟩ ∧ w'.cell? ⟨w.heap.size + 1, 0, none⟩ = some (.string r0) ∧ w'.cell? ⟨w.heap.size + 1, 1, none⟩ = some (.int .i64 ((z0 : Nat) : Int))) from fun w' h => ⟨h, (HW1.out.own.but h (fun _ e => by have := HW1.out.ord; have : C = w.heap.size := e; omega)).c, h.keep HW1.out.rdr.r (fun e => by have : w.heap.size + 1 = w.heap.size := e; omega), h.keep HW1.out.rdr.e (fun e => by have : w.heap.size + 1 = w.heap.size := e; omega)⟩)
  clear hxx
  obtain ⟨x0, x1, x2, x3, x4, x5⟩ := HW1.out.res.c
  have xf := HW1.out.res.f
  refine wp_region_held_drew (S := fun w' => But (MB15 w.heap.size) W1 w' ∧ BoxC w' C ⟨k, ⟨#[]⟩, 0, 0, 0, none, 0, []⟩ ∧ w'.cell? ⟨w.heap.size + 1, 0, none⟩ = some (.string r0) ∧ w'.cell? ⟨w.heap.size + 1, 1, none⟩ = some (.int .i64 ((z0 : Nat) : Int))) (by kernel_rfl) (MK9.out _ (But.of_below ((bl W1).drew))) (fun hHeld => ?_)
  refine wpAnyH_take (i := 0) (oi := _) (v := ?_) (by simp only [List.getElem?_toArray, List.getElem?_cons_zero]; rfl) (by kernel_rfl) (by kernel_rfl) (by kernel_rfl) (by exact fun _ _ _ h => h) (Or.inl ⟨by rfl, ?_⟩) (by assumption) ?_
  rotate_left 1
  · (intro w hSw; (try dsimp only at hSw); go_simp; try (with_reducible rfl))
  simp only [Act.put, List.setIfInBounds_toArray, List.set_cons_zero, List.set_cons_succ]
  refine wpAnyH_take (i := 1) (oi := _) (v := ?_) (by simp only [List.getElem?_toArray, List.getElem?_cons_succ, List.getElem?_cons_zero]; rfl) (by kernel_rfl) (by kernel_rfl) (by kernel_rfl) (by exact fun _ _ _ h => h) (Or.inl ⟨by rfl, ?_⟩) (by assumption) ?_
  rotate_left 1
  · (intro w hSw; (try dsimp only at hSw); go_simp; try (with_reducible rfl))
  simp only [Act.put, List.setIfInBounds_toArray, List.set_cons_zero, List.set_cons_succ]
  refine wpAnyH_take (i := 2) (oi := _) (v := ?_) (by simp only [List.getElem?_toArray, List.getElem?_cons_succ, List.getElem?_cons_zero]; rfl) (by kernel_rfl) (by kernel_rfl) (by kernel_rfl) (by exact fun _ _ _ h => h) (Or.inl ⟨by rfl, ?_⟩) (by assumption) ?_
  rotate_left 1
  · (intro w hSw; (try dsimp only at hSw); go_simp; try (with_reducible rfl))
  simp only [Act.put, List.setIfInBounds_toArray, List.set_cons_zero, List.set_cons_succ]
  refine wpAnyH_take (i := 3) (oi := _) (v := ?_) (by simp only [List.getElem?_toArray, List.getElem?_cons_succ, List.getElem?_cons_zero]; rfl) (by kernel_rfl) (by kernel_rfl) (by kernel_rfl) (by exact fun _ _ _ h => h) (Or.inl ⟨by rfl, ?_⟩) (by assumption) ?_
  rotate_left 1
  · (intro w hSw; (try dsimp only at hSw); go_simp; try (with_reducible rfl))
  simp only [Act.put, List.setIfInBounds_toArray, List.set_cons_zero, List.set_cons_succ]
  refine wpAnyH_take (i := 4) (oi := _) (v := ?_) (by simp only [List.getElem?_toArray, List.getElem?_cons_succ, List.getElem?_cons_zero]; rfl) (by kernel_rfl) (by kernel_rfl) (by kernel_rfl) (by exact fun _ _ _ h => h) (Or.inl ⟨by rfl, ?_⟩) (by assumption) ?_
  rotate_left 1
  · (intro w hSw; (try dsimp only at hSw); go_simp; try (with_reducible rfl))
  simp only [Act.put, List.setIfInBounds_toArray, List.set_cons_zero, List.set_cons_succ]
  refine wpAnyH_take (i := 5) (oi := _) (v := ?_) (by simp only [List.getElem?_toArray, List.getElem?_cons_succ, List.getElem?_cons_zero]; rfl) (by kernel_rfl) (by kernel_rfl) (by kernel_rfl) (by exact fun _ _ _ h => h) (Or.inl ⟨by rfl, ?_⟩) (by assumption) ?_
  rotate_left 1
  · (intro w hSw; (try dsimp only at hSw); go_simp; try (with_reducible rfl))
  simp only [Act.put, List.setIfInBounds_toArray, List.set_cons_zero, List.set_cons_succ]
  refine wpAnyH_take (i := 6) (oi := _) (v := ?_) (by simp only [List.getElem?_toArray, List.getElem?_cons_succ, List.getElem?_cons_zero]; rfl) (by kernel_rfl) (by kernel_rfl) (by kernel_rfl) (by exact fun _ _ _ h => h) (Or.inl ⟨by rfl, ?_⟩) (by assumption) ?_
  rotate_left 1
  · (intro w hSw; (try dsimp only at hSw); go_simp; try (with_reducible rfl))
  simp only [Act.put, List.setIfInBounds_toArray, List.set_cons_zero, List.set_cons_succ]
  refine wpAnyH_take (i := 7) (oi := _) (v := ?_) (by simp only [List.getElem?_toArray, List.getElem?_cons_succ, List.getElem?_cons_zero]; rfl) (by kernel_rfl) (by kernel_rfl) (by kernel_rfl) (by exact fun _ _ _ h => h) (Or.inl ⟨by rfl, ?_⟩) (by assumption) ?_
  rotate_left 1
  · (intro w hSw; (try dsimp only at hSw); go_simp; try (with_reducible rfl))
  simp only [Act.put, List.setIfInBounds_toArray, List.set_cons_zero, List.set_cons_succ]
  refine wpAnyH_take (i := 8) (oi := _) (v := ?_) (by simp only [List.getElem?_toArray, List.getElem?_cons_succ, List.getElem?_cons_zero]; rfl) (by kernel_rfl) (by kernel_rfl) (by kernel_rfl) (by exact fun _ _ _ h => h) (Or.inl ⟨by rfl, ?_⟩) (by assumption) ?_
  rotate_left 1
  · (intro w hSw; (try dsimp only at hSw); go_simp; try (with_reducible rfl))
  simp only [Act.put, List.setIfInBounds_toArray, List.set_cons_zero, List.set_cons_succ]
  refine wpAnyH_ready (rs := [9]) (by kernel_rfl) (by simp) ?_
  refine AllReadyH.cons (o := _) (by simp only [List.getElem?_toArray, List.getElem?_cons_succ, List.getElem?_cons_zero]; rfl) (fun K hK => ?_) AllReadyH.nil
  go_simp
  try dsimp only
  refine hK.out _ _ (MK9.out _ ((six_but15 _ _ _ _ _ _ _ _).trans (But.of_below ((bl _).drew)))) (fun hHeld => ?_)
  clear hK K
  try simp only [Act.put, List.setIfInBounds_toArray, List.set_cons_zero, List.set_cons_succ]
  refine wpAnyH_take (i := 10) (oi := _) (v := ?_) (by simp only [List.getElem?_toArray, List.getElem?_cons_succ, List.getElem?_cons_zero]; rfl) (by kernel_rfl) (by kernel_rfl) (by kernel_rfl) (by exact fun _ _ _ h => h) (Or.inl ⟨by rfl, ?_⟩) (by assumption) ?_
  rotate_left 1
  · (intro w hSw; (try dsimp only at hSw); go_simp; try (with_reducible rfl))
  simp only [Act.put, List.setIfInBounds_toArray, List.set_cons_zero, List.set_cons_succ]
  refine wpAnyH_take (i := 11) (oi := _) (v := ?_) (by simp only [List.getElem?_toArray, List.getElem?_cons_succ, List.getElem?_cons_zero]; rfl) (by kernel_rfl) (by kernel_rfl) (by kernel_rfl) (by exact fun _ _ _ h => h) (Or.inl ⟨by rfl, ?_⟩) (by assumption) ?_
  rotate_left 1
  · (intro w hSw; (try dsimp only at hSw); go_simp; try (with_reducible rfl))
  simp only [Act.put, List.setIfInBounds_toArray, List.set_cons_zero, List.set_cons_succ]
  refine wpAnyH_done (by kernel_rfl) ?_ _
  go_wp2_with fail
  obtain ⟨q0, q1, q2, q3, q4, q5⟩ := (six_store HW1.out.res (⟨k, ⟨#[]⟩, 0, 0, 0, none, 0, []⟩ : Cm).fa (⟨k, ⟨#[]⟩, 0, 0, 0, none, 0, []⟩ : Cm).fc (⟨k, ⟨#[]⟩, 0, 0, 0, none, 0, []⟩ : Cm).fs (⟨k, ⟨#[]⟩, 0, 0, 0, none, 0, []⟩ : Cm).k (⟨k, ⟨#[]⟩, 0, 0, 0, none, 0, []⟩ : Cm).ent (⟨k, ⟨#[]⟩, 0, 0, 0, none, 0, []⟩ : Cm).tg (⟨k, ⟨#[]⟩, 0, 0, 0, none, 0, []⟩ : Cm).sf (⟨k, ⟨#[]⟩, 0, 0, 0, none, 0, []⟩ : Cm).se).c
  simp only [List.length_nil] at q0 q1 q2 q3 q4 q5
  refine bodyPost_ret (v := .tuple #[cv14 ⟨k, ⟨#[]⟩, 0, 0, 0, none, 0, []⟩, .string r0, .int .i64 ((z0 : Nat) : Int)]) (by simp [results, Tryd.results42, go_sem, q0, q1, q2, q3, q4, q5]) rfl ?_
  exact (HW1.out.post rfl).drew

end Go.Proofs.YtmieonfdenjedaaDoor

/-
  The program's Take of commands.
-/
namespace Go.Proofs.YtmieonfdenjedaaDoor
open Go.RowKit

theorem pread14_any (s : ByteArray) (hs : s.size ≤ 4611686018427387903) (w : World) (hT : TabK w) : Calls Tryd.prog 42 #[.string s] w (ReadPost w (readP s)) := by
  by_cases h1 : tkN s = 1
  · have h := read14_1 s hs w hT (tkR s) (tkE s) (by unfold numT; rw [h1]; rfl) _ _ _ rfl _ _ _ _ _ _ _ _ _ rfl rfl rfl
    rwa [show readP s = _ from by unfold readP; rw [if_pos h1]]
  by_cases h2 : tkN s = 2
  · have h := read14_2 s hs w hT (tkR s) (tkE s) (by unfold numT; rw [h2]; rfl) _ _ _ rfl _ _ _ _ _ _ _ _ _ rfl rfl rfl
    rwa [show readP s = _ from by unfold readP; rw [if_neg h1, if_pos h2]]
  by_cases h3 : tkN s = 3
  · have h := read14_3 s hs w hT (tkR s) (tkE s) (by unfold numT; rw [h3]; rfl) _ _ _ rfl
    rwa [show readP s = _ from by unfold readP; rw [if_neg h1, if_neg h2, if_pos h3]]
  · have h := read14_0 s hs w hT (tkN s : Int) (by omega) (tkR s) (tkE s) rfl
    rwa [show readP s = _ from by unfold readP; rw [if_neg h1, if_neg h2, if_neg h3]]
theorem right_of14 {T x : Cm} (hx : contC x = T) (hs : smallC T) (w' : World) (h1 : CF14 w' x) (h2 : TabK w') : Ret 9 #[cv14 x] w' (.int .i64 ((rightC T : Nat) : Int)) := by
  subst hx
  exact pcright_any x w' h1 hs.1 hs.2.1 hs.2.2 h2
theorem endRd_zero {T : Cm × ByteArray × Nat} (h : T.2.2 = 0) : endRd T = endC T.1 T.2.1 := by unfold endRd; rw [h, if_neg (by simp)]

set_option maxHeartbeats 8000000 in
set_option maxRecDepth 10000 in
theorem pctakef_any (s : ByteArray) (hs : s.size ≤ 4611686018427387903) (w : World) (hT : TabK w) : Calls Tryd.prog 17 #[.string s] w (TakeC14f s w) := by
  have HB := Lib.hid (show Below w.heap.size w (w.alloc oZC14) from (bl w).alloc (Nat.le_refl _) _)
  have HH := Lib.hid (holdC_new w)
  have HSM := Lib.hid (readP_small hs)
  have HE := Lib.hid (takeCs_read s)
  have CRD := Lib.hid (show ∀ w', TabK w' → Calls Tryd.prog 42 #[.string s] w' fun e w'' => ∃ x, e = .returned (.tuple #[cv14 x, .string (readP s).2.1, .int .i64 (((readP s).2.2 : Nat) : Int)]) ∧ contC x = (readP s).1 ∧ CF14 w'' x ∧ (∀ a, x.fa = some a → w'.heap.size ≤ a.block) ∧ Below w'.heap.size w' w'' from fun w' h => pread14_any s hs w' h)
  have HT := Lib.hid (show ∀ w', Below w.heap.size w w' → TabK w' from fun w' h => hT.below h)
  obtain ⟨⟨T, r, z⟩, hR⟩ : ∃ R, readP s = R := ⟨_, rfl⟩
  rw [hR] at HSM HE CRD
  simp only at HSM CRD
  clear hT hs hR
  by_cases hz : z = 0
  · subst hz
    have HE2 := Lib.hid (show takeCs s = endC T r by rw [HE.out, endRd_zero rfl])
    by_cases h0 : rightC T = 0
    · have HE3 := Lib.hid (show takeCs s = (T, r, 0) by rw [HE2.out]; unfold endC; rw [if_pos h0])
      have CRT := Lib.hid (fun x hx w' h1 h2 => right_of14 (T := T) (x := x) hx HSM.out w' h1 h2)
      rw [h0] at CRT
      clear h0
      go_enter Tryd.func17, Tryd.ntmps17
      go_wp2_with (first
        | (go_at_call 42; (with_reducible refine (CRD.out _ (HT.out _ HB.out)).mono ?_); rintro e w2 ⟨x, rfl, hx, hf, hfa, hb2⟩; have HC2 := Lib.hid (chain HB.out hb2); have HX := Lib.hid hx; have HF := Lib.hid hf; have HFA := Lib.hid (show ∀ a, x.fa = some a → w.heap.size + 1 ≤ a.block from fun a ha => by have := hfa a ha; simp at this; omega); have HR2 := Lib.hid ((HH.out.below hb2).below ((bl w2).alloc (Nat.le_refl _) (ocC x))); have HD2 := Lib.hid (HC2.out.alloc HC2.out.size (ocC x)); have HO2 := Lib.hid (holdC_at w2 x); have HF2 := Lib.hid (hf.below ((bl w2).alloc (Nat.le_refl _) (ocC x))); clear hx hf hfa hb2)
        | (go_at_call 9; (with_reducible refine (CRT.out _ HX.out _ HF2.out (HT.out _ HD2.out)).mono ?_); rintro e w3 ⟨rfl, hb3⟩; have HD3 := Lib.hid (chain HD2.out hb3); have HR3 := Lib.hid (HR2.out.below hb3); have HF3 := Lib.hid (HF2.out.below hb3); obtain ⟨y0, y1, y2, y3, y4, y5⟩ := HO2.out.c.below hb3; obtain ⟨x0, x1, x2, x3, x4, x5⟩ := HR3.out.c; have xf := HR3.out.f; clear hb3))
      obtain ⟨q0, q1, q2, q3, q4, q5⟩ := (six_store HR3.out x.fa x.fc x.fs x.k x.ent x.tg x.sf x.se).c
      simp only at q0 q1 q2 q3 q4 q5
      refine bodyPost_ret (v := .tuple #[cv14 x, .string r, .int .i64 0]) (by simp [results, Tryd.results17, go_sem, q0, q1, q2, q3, q4, q5]) rfl (takeC_ok (by rw [HE3.out, HX.out]) (HF3.out.but (six_but15 _ _ _ _ _ _ _ _) (fun a _ ha e => by have := HFA.out a ha; have : a.block = w.heap.size := e; omega) rfl rfl rfl) (fun a ha => by have := HFA.out a ha; omega) (six_below HD3.out (Nat.le_refl _)))
    · have HE3 := Lib.hid (show takeCs s = badC 8 by rw [HE2.out]; unfold endC; rw [if_neg h0])
      obtain ⟨zz, hzz⟩ : ∃ zz, rightC T = zz := ⟨_, rfl⟩
      have h0' : ¬ ((zz : Nat) : Int) = 0 := by rw [← hzz]; omega
      have CRT := Lib.hid (fun x hx w' h1 h2 => right_of14 (T := T) (x := x) hx HSM.out w' h1 h2)
      rw [hzz] at CRT
      clear h0 hzz
      go_enter Tryd.func17, Tryd.ntmps17
      go_wp2_with (first
        | (go_at_call 42; (with_reducible refine (CRD.out _ (HT.out _ HB.out)).mono ?_); rintro e w2 ⟨x, rfl, hx, hf, hfa, hb2⟩; have HC2 := Lib.hid (chain HB.out hb2); have HR2 := Lib.hid ((HH.out.below hb2).below ((bl w2).alloc (Nat.le_refl _) (ocC x))); have HD2 := Lib.hid (HC2.out.alloc HC2.out.size (ocC x)); have HF2 := Lib.hid (hf.below ((bl w2).alloc (Nat.le_refl _) (ocC x))); have HX := Lib.hid hx; clear hx hf hfa hb2)
        | (go_at_call 9; (with_reducible refine (CRT.out _ HX.out _ HF2.out (HT.out _ HD2.out)).mono ?_); rintro e w3 ⟨rfl, hb3⟩; have HD3 := Lib.hid (chain HD2.out hb3); have HR3 := Lib.hid (HR2.out.below hb3); obtain ⟨x0, x1, x2, x3, x4, x5⟩ := HR3.out.c; have xf := HR3.out.f; clear hb3))
      obtain ⟨q0, q1, q2, q3, q4, q5⟩ := (six_store HR3.out none 0 [] 0 ⟨#[]⟩ 0 0 0).c
      simp only [List.length_nil] at q0 q1 q2 q3 q4 q5
      refine bodyPost_ret (v := .tuple #[cv14 noC, .string ⟨#[]⟩, .int .i64 8]) (by simp [results, Tryd.results17, go_sem, q0, q1, q2, q3, q4, q5, noC]) rfl (takeC_bad (e := 8) HE3.out (six_below HD3.out (Nat.le_refl _)))
  · have HE3 := Lib.hid (show takeCs s = badC z by rw [HE.out, endRd_err (z := z) rfl hz])
    have hz' : ¬ ((z : Nat) : Int) = 0 := by omega
    have hz2 : (((z : Nat) : Int) == 0) = false := by simpa using hz'
    clear hz
    go_enter Tryd.func17, Tryd.ntmps17
    go_wp2_with (go_at_call 42; (with_reducible refine (CRD.out _ (HT.out _ HB.out)).mono ?_); rintro e w2 ⟨x, rfl, hx, hf, hfa, hb2⟩; have HC2 := Lib.hid (chain HB.out hb2); have HR2 := Lib.hid ((HH.out.below hb2).below ((bl w2).alloc (Nat.le_refl _) (ocC x))); have HD2 := Lib.hid (HC2.out.alloc HC2.out.size (ocC x)); obtain ⟨x0, x1, x2, x3, x4, x5⟩ := HR2.out.c; have xf := HR2.out.f; clear hx hf hfa hb2)
    obtain ⟨q0, q1, q2, q3, q4, q5⟩ := (six_store HR2.out none 0 [] 0 ⟨#[]⟩ 0 0 0).c
    simp only [List.length_nil] at q0 q1 q2 q3 q4 q5
    refine bodyPost_ret (v := .tuple #[cv14 noC, .string ⟨#[]⟩, .int .i64 ((z : Nat) : Int)]) (by simp [results, Tryd.results17, go_sem, q0, q1, q2, q3, q4, q5, noC]) rfl (takeC_bad HE3.out (six_below HD2.out (Nat.le_refl _)))
theorem pctake_any (s : ByteArray) (hs : s.size ≤ 4611686018427387903) (w : World) (hT : TabK w) : Calls Tryd.prog 17 #[.string s] w fun e w' => ∃ x, e = .returned (.tuple #[cv14 x, .string (takeCs s).2.1, .int .i64 (((takeCs s).2.2 : Nat) : Int)]) ∧ contC x = (takeCs s).1 ∧ CF14 w' x ∧ Below w.heap.size w w' :=
  (pctakef_any s hs w hT).mono fun _ _ ⟨x, h1, h2, h3, _, h5⟩ => ⟨x, h1, h2, h3, h5⟩

end Go.Proofs.YtmieonfdenjedaaDoor

/-
  The chapter's example of commands; CommandRights and CommandBytes give back true.
-/
namespace Go.Proofs.YtmieonfdenjedaaDoor
open Go.RowKit

abbrev exC14 : Cm := ⟨3, ⟨#[]⟩, 5, 0, 0, none, 0, []⟩
theorem exC_put : putC exC14 = ⟨#[3, 10]⟩ ∧ rightC exC14 = 0 := by
  have h : rightC exC14 = 0 := by decide +kernel
  refine ⟨?_, h⟩
  unfold putC
  rw [if_pos h]
  decide +kernel
theorem cf_nil (w : World) (c : Cm) (h : c.fs = []) (hc : c.fa = none → c.fc = 0) : CF14 w c := by
  obtain ⟨k, ent, tg, sf, se, fa, fc, fs⟩ := c
  obtain rfl : fs = [] := h
  exact ⟨Fields.nil _ _, Nat.zero_le _, hc⟩
set_option maxHeartbeats 4000000 in
set_option maxRecDepth 10000 in
theorem alive14_any (w : World) (hT : TabK w) : Ret 8 #[] w (.bool true) := by
  have CP := Lib.hid (pcput_any exC14 w (cf_nil w exC14 rfl (fun _ => rfl)) (fun f hf => by simp at hf) (by simp) (by decide) hT)
  rw [exC_put.1, exC_put.2] at CP
  unfold exC14 at CP
  go_enter Tryd.func8, Tryd.ntmps8
  go_wp2_with (go_at_call 15; (refine CP.out.mono ?_); rintro e w1 ⟨rfl, hb1⟩)
  go_ret
  exact ⟨rfl, hb1⟩
set_option maxHeartbeats 4000000 in
set_option maxRecDepth 10000 in
theorem rights14_walk (c : Cm) (w : World) (hv : CF14 w c) (hok : okF c.fs) (hn : c.fs.length ≤ 9223372036854775807) (hz : c.ent.size ≤ 9223372036854775807) (hT : TabK w) : Ret 3 #[cv14 c] w (.bool true) := by
  have CAL := Lib.hid (fun w' (h : Below w.heap.size w w') => alive14_any w' (hT.below h))
  have HB := Lib.hid (show Below w.heap.size w (w.alloc (ocC c)) from (bl w).alloc (Nat.le_refl _) _)
  have HX := Lib.hid (boxC_new w c)
  have C1 := Lib.hid (fun w' (h : Below w.heap.size w w') => pcright_any c w' (hv.below h) hok hn hz (hT.below h))
  have C2 := Lib.hid (fun w' (h : Below w.heap.size w w') => drightc14_any c w' (hv.below h) hok hn hz)
  generalize rightC c = z1 at *
  clear hv hok hn hz hT
  by_cases h3 : 300 < c.fs.length
  · have h3' : (300 : Int) < (c.fs.length : Int) := by omega
    go_enter Tryd.func3, Tryd.ntmps3
    go_wp2_with (go_at_call 8; (with_reducible refine (CAL.out _ HB.out).mono ?_); rintro e w2 ⟨rfl, hb⟩)
    go_ret
    exact ⟨rfl, HB.out.trans (hb.mono HB.out.size)⟩
  · have h3' : ¬ (300 : Int) < (c.fs.length : Int) := by omega
    go_enter Tryd.func3, Tryd.ntmps3
    go_wp2_with fail
    refine abstract_worldW (fun W => Below w.heap.size w W ∧ BoxC W w.heap.size c) ⟨HB.out, HX.out⟩ ?_
    rintro W ⟨hBW, hXW⟩
    have HBW := Lib.hid hBW
    have MK := Lib.hid (show ∀ w', Below W.heap.size W w' → (Below W.heap.size W w' ∧ BoxC w' w.heap.size c) from fun w' h => ⟨h, hXW.below h⟩)
    clear hBW hXW
    go_region_held3 (fun w' => Below W.heap.size W w' ∧ BoxC w' w.heap.size c)
      (first | exact MK.out _ ((bl W).drew) | exact MK.out _ hb7 | exact MK.out _ hb2 | exact MK.out _ hb1 | fail)
      (first
        | (go_at_call 9; (with_reducible refine (C1.out _ (chain HBW.out (by go_split_ands; assumption))).mono ?_); (rintro e w1 ⟨rfl, hb0⟩); (have hb1 := chain (by go_split_ands; assumption) hb0); clear hb0)
        | (go_at_call 10; (with_reducible refine (C2.out _ (chain HBW.out (by go_split_ands; assumption))).mono ?_); (rintro e w2 ⟨rfl, hb0⟩); (have hb2 := chain (by go_split_ands; assumption) hb0); clear hb0)
        | (go_at_call 8; (with_reducible refine (CAL.out _ (chain HBW.out (by go_split_ands; assumption))).mono ?_); (rintro e w7 ⟨rfl, hb0⟩); (have hb7 := chain (by go_split_ands; assumption) hb0); clear hb0))
    go_wp2_with fail
    go_ret
    exact ⟨rfl, chain HBW.out hb7⟩
set_option maxHeartbeats 4000000 in
set_option maxRecDepth 10000 in
theorem bytes14_walk (v : Cm) (b : ByteArray) (w : World) (hv : CF14 w v) (hok : okF v.fs) (hn : v.fs.length ≤ 9223372036854775807) (hz : v.ent.size ≤ 9223372036854775807) (hb : b.size ≤ 140737488351232) (hT : TabK w) : Ret 5 #[cv14 v, .string b] w (.bool true) := by
  have CAL := Lib.hid (fun w' (h : Below w.heap.size w w') => alive14_any w' (hT.below h))
  have HB := Lib.hid ((bl w).alloc (Nat.le_refl _) (ocC v))
  have HX := Lib.hid (boxC_new w v)
  have C1 := Lib.hid (fun w' (h : Below w.heap.size w w') => pcput_any v w' (hv.below h) hok hn hz (hT.below h))
  have C2 := Lib.hid (fun w' (h : Below w.heap.size w w') => dputc14_any v w' (hv.below h) hok hn hz)
  have z1 := putC_size v
  have CT := Lib.hid (fun w' (h : Below w.heap.size w w') => pctake_any (putC v ++ b) (by rw [ByteArray.size_append]; omega) w' (hT.below h))
  have HT := Lib.hid (fun h => takeCs_put (c := v) h b)
  have y1 : ¬ (putC v).size + b.size > 9223372036854775807 := by omega
  obtain ⟨T, hT2⟩ : ∃ T, takeCs (putC v ++ b) = T := ⟨_, rfl⟩
  rw [hT2] at CT HT
  have HVF := Lib.hid hv
  obtain ⟨z, hzz⟩ : ∃ z, rightC v = z := ⟨_, rfl⟩
  rw [hzz] at C1 C2 HT
  generalize putC v = P at *
  clear hok hn hz hb z1 hT2 hzz hv hT
  by_cases h3 : 300 < v.fs.length
  · have h3' : (300 : Int) < (v.fs.length : Int) := by omega
    go_enter Tryd.func5, Tryd.ntmps5
    go_wp2_with (go_at_call 8; (with_reducible refine (CAL.out _ HB.out).mono ?_); rintro e w2 ⟨rfl, hb⟩)
    go_ret
    exact ⟨rfl, HB.out.trans (hb.mono HB.out.size)⟩
  · have h3' : ¬ (300 : Int) < (v.fs.length : Int) := by omega
    by_cases h0 : z = 0
    · have hT0 := HT.out h0
      subst h0 hT0
      clear HT
      have CO := Lib.hid (fun w' x (hc : contC x = contC v) (h : Below w.heap.size w w') (hx : CF14 w' x) => done14_any x v w' hx (HVF.out.below h) hc (by rw [(contC_eq hc).2.2.2.2.2]; omega))
      go_enter Tryd.func5, Tryd.ntmps5
      go_upto_region 8 with (first
        | (go_at_call 15; (with_reducible refine (C1.out _ HB.out).mono ?_); rintro e w1 ⟨rfl, hb1⟩; have hc1 := chain HB.out hb1; obtain ⟨k0, k1, k2, k3, k4, k5⟩ := HX.out.below hb1)
        | (go_at_call 16; (with_reducible refine (C2.out _ hc1).mono ?_); rintro e w2 ⟨rfl, hb2⟩; have hc2 := chain hc1 hb2)
        | (go_at_call 17; (with_reducible refine (CT.out _ hc2).mono ?_); rintro e w3 ⟨x3, rfl, hx3, hf3, hb3⟩; have hc3 := chain hc2 hb3; have hd3 := hc3.alloc hc3.size (ocC x3); have hq3 := ((HX.out.below hb1).below hb2).below (chain hb3 ((bl w3).alloc (Nat.le_refl _) (ocC x3))); have hg3 := hf3.below ((bl w3).alloc (Nat.le_refl _) (ocC x3))))
      refine abstract_worldW (fun W => Below w.heap.size w W ∧ BoxC W w.heap.size v ∧ BoxC W w3.heap.size x3 ∧ CF14 W x3) ⟨hd3, hq3, boxC_new w3 x3, hg3⟩ ?_
      rintro W ⟨hd4, ⟨q0, q1, q2, q3, q4, q5⟩, ⟨p0, p1, p2, p3, p4, p5⟩, hg4⟩
      clear k0 k1 k2 k3 k4 k5 hd3 hq3 hg3
      go_wp2_with (first
        | (go_at_call 18; (refine (CO.out _ x3 hx3 hd4 hg4).mono ?_); rintro e w4 ⟨rfl, hb4⟩; have hc4 := chain hd4 hb4)
        | (go_at_call 8; (with_reducible refine (CAL.out _ hc4).mono ?_); rintro e w9 ⟨rfl, hb9⟩; have hc9 := chain hc4 hb9))
      go_ret
      exact ⟨rfl, hc9⟩
    · have h0' : ¬ (z : Int) = 0 := by omega
      clear HT
      obtain ⟨T1, T2, T3⟩ := T
      go_enter Tryd.func5, Tryd.ntmps5
      go_wp2_with (first
        | (go_at_call 15; (with_reducible refine (C1.out _ HB.out).mono ?_); rintro e w1 ⟨rfl, hb1⟩; have hc1 := chain HB.out hb1; obtain ⟨k0, k1, k2, k3, k4, k5⟩ := HX.out.below hb1)
        | (go_at_call 16; (with_reducible refine (C2.out _ hc1).mono ?_); rintro e w2 ⟨rfl, hb2⟩; have hc2 := chain hc1 hb2)
        | (go_at_call 17; (with_reducible refine (CT.out _ hc2).mono ?_); rintro e w3 ⟨x3, rfl, hx3, hf3, hb3⟩; have hc3 := chain hc2 hb3; have hd3 := hc3.alloc hc3.size (ocC x3))
        | (go_at_call 8; (with_reducible refine (CAL.out _ hd3).mono ?_); rintro e w9 ⟨rfl, hb9⟩; have hc9 := chain hd3 hb9))
      go_ret
      exact ⟨rfl, hc9⟩

end Go.Proofs.YtmieonfdenjedaaDoor

/-
  An argument that is a list of fields, or a list of lists of fields.
-/
namespace Go.Proofs.YtmieonfdenjedaaDoor
open Go.ChangeShapes Go.WideShapes Go.ChangeAt Go.RowKit Go.Joins Go.ChangeMaps Go.Deep

theorem Tryd.own : ownKnob Tryd.prog.godebug = none := by kernel_rfl
theorem Tryd.laidOut : laidOutB Tryd.prog = true := by kernel_rfl
theorem Tryd.cellsField : Tryd.prog.cellsOf 90 = 2 := by kernel_rfl
theorem Tryd.cells3i : Tryd.prog.cellsOf 3 = 1 := by kernel_rfl
theorem Tryd.cells3s : Tryd.prog.cellsOf 9 = 1 := by kernel_rfl
theorem Tryd.cells3l : Tryd.prog.cellsOf 24 = 1 := by kernel_rfl

instance : Inhabited Fd := ⟨⟨⟨#[]⟩, 0⟩⟩
theorem plain_of_cell {w : World} {a : Addr} {v : Value} (h : w.cell? (a.add 0) = some v) : a = ⟨a.block, a.off, none⟩ := by
  obtain ⟨b, off, spot⟩ := a
  have hs : spot = none := by simpa [Addr.add] using World.cell?_spot h
  subst hs
  rfl
/-- Fields that may be. -/
def wellF (l : List Fd) : Prop := ∀ f ∈ l, (-9223372036854775808 ≤ f.v ∧ f.v ≤ 9223372036854775807) ∧ f.n.size ≤ 9223372036854775807
theorem int_of_wf {n : Int} (h : (Lit.int .i64 n).wf = true) : -9223372036854775808 ≤ n ∧ n ≤ 9223372036854775807 := by
  have h1 : IntKind.i64.min = -9223372036854775808 := rfl
  have h2 : IntKind.i64.max = 9223372036854775807 := rfl
  simp only [Lit.wf, Bool.and_eq_true, decide_eq_true_eq] at h
  omega
section
variable {H : Type} {enc : TypeId × Value → H} {W : World} {r : Reach} {base : Nat}

set_option maxRecDepth 100000 in
theorem fields_of {fuel : Nat} {v : Value} {x : DataW H × List MemPlace} (hf : DataW.trod enc Tryd.prog W 0 (fun _ => true) true fuel 24 [v] = some x) :
    ∃ l, ListF W v l ∧ wellF l ∧ l.length ≤ 9223372036854775807 := by
  rcases open_slice Tryd.underlying24 hf with ⟨hcs, _⟩ | ⟨a, len', cap', m, n, D, Pl, hcs, _, hl, hmx, hm, _, hx⟩
  · obtain rfl : v = .slice none 0 0 := by simpa using hcs
    exact ⟨[], ⟨none, 0, rfl, Fields.nil _ _, Nat.le_refl _, fun _ => rfl⟩, fun f hf => by simp at hf, by simp⟩
  · obtain rfl : v = .slice (some a) len' cap' := by simpa using hcs
    simp only [if_true] at hm
    subst hm
    have each : ∀ i, i < len' → ∃ q : Fd, W.cell? (a.add (i * 2)) = some (.string q.n) ∧ W.cell? (a.add (i * 2 + 1)) = some (.int .i64 q.v) ∧ (-9223372036854775808 ≤ q.v ∧ q.v ≤ 9223372036854775807) ∧ q.n.size ≤ 9223372036854775807 := by
      intro i hi
      obtain ⟨cs', h1, h2⟩ := hx i (by omega)
      rw [Tryd.cellsField] at h1
      obtain ⟨_, hlen, hcell⟩ := World.cells?_some h1
      obtain ⟨xs, k, hk, hxy, _, hxl, hf⟩ := DataW.trod_struct Tryd.underlying90 h2
      match xs, hxl, cs', hlen with
      | [y0, y1], _, [v0, v1], _ =>
        have g0 := hf 0 _ rfl
        have g1 := hf 1 _ rfl
        simp [Tryd.cells3i, Tryd.cells3s] at g0 g1
        obtain ⟨s, e0, _, hz⟩ := DataW.trod_string Tryd.underlying9 g0
        obtain ⟨x, e1, _, hw⟩ := DataW.trod_int Tryd.underlying3 g1
        simp at e0 e1
        subst e0 e1
        have f0 := hcell 0 (by omega)
        have f1 := hcell 1 (by omega)
        rw [add_add] at f0 f1
        exact ⟨⟨s, x⟩, by simpa using f0, by simpa using f1, int_of_wf hw, by unfold maxLen at hz; omega⟩
    obtain ⟨q, hq⟩ := choose_lt each
    refine ⟨(List.range len').map q, ⟨some a, m, by simp, fun i x hxx => ?_, by simpa using hl, by simp⟩, fun x hxx => ?_, by simp; unfold maxLen at hmx; omega⟩
    · have hi : i < len' := by
        rcases Nat.lt_or_ge i len' with hlt | hge
        · exact hlt
        · rw [List.getElem?_eq_none (by simpa using hge)] at hxx
          cases hxx
      obtain rfl : q i = x := by
        rw [List.getElem?_map, List.getElem?_range hi] at hxx
        simpa using hxx
      obtain ⟨z0, _⟩ := hq 0 (by omega)
      have ha := plain_of_cell (by simpa using z0)
      obtain ⟨c0, c1, _⟩ := hq i hi
      rw [ha, Go.WideShapes.add_plain] at c0 c1
      exact ⟨a.block, a.off, by rw [← ha], c0, by rw [Nat.add_assoc]; exact c1⟩
    · obtain ⟨i, hi, rfl⟩ := List.mem_map.1 hxx
      exact (hq i (List.mem_range.1 hi)).2.2

set_option maxRecDepth 100000 in
theorem arg_fields {v : Value} {d : DataW H} {p : List MemPlace} (hv : Value.okWide Tryd.prog W r base 24 v) (h : DataW.Trod enc Tryd.prog W 0 (fun _ => true) true 24 v d p) :
    ∃ l, ListF W v l ∧ wellF l ∧ l.length ≤ 9223372036854775807 := by
  obtain ⟨A, len, cap, rfl⟩ := okWide_slice Tryd.underlying24 hv
  obtain ⟨fuel, hf⟩ := h
  exact fields_of (by simpa [Value.cells] using hf)

end

end Go.Proofs.YtmieonfdenjedaaDoor

/-
  An argument that is a list of versions.
-/
namespace Go.Proofs.YtmieonfdenjedaaDoor
open Go.ChangeShapes Go.WideShapes Go.ChangeAt Go.RowKit Go.Joins Go.ChangeMaps Go.Deep

theorem Tryd.cellsVersion : Tryd.prog.cellsOf 32 = 7 := by kernel_rfl
theorem Tryd.cellsSpan : Tryd.prog.cellsOf 23 = 2 := by kernel_rfl
theorem Tryd.cells3b : Tryd.prog.cellsOf 4 = 1 := by kernel_rfl
instance : Inhabited Vr := ⟨⟨0, 0, ⟨#[]⟩, 0, 0, none, 0, [], false⟩⟩

section
variable {H : Type} {enc : TypeId × Value → H} {W : World} {r : Reach} {base : Nat}

end

end Go.Proofs.YtmieonfdenjedaaDoor
