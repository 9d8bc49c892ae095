/-
  Texts joined into one: what the program's and the document's calls give back, piece by piece.
-/
import Derived.Test.YtepjhkcnhahhiaaMg1
import Derived.Test.YtepjhkcnhahhiaaMg2
import Derived.Test.YtepjhkcnhahhiaaMg3
import Derived.Test.YtepjhkcnhahhiaaRows
import Derived.BigQuiet
import Derived.ChangeAlike
import Derived.ChangeKeysEq
import Derived.Deep.AppendLies
import Derived.Deep.CutBlock
import Derived.Deep.CutRange
import Derived.Deep.Light
import Derived.Deep.QuietTactic
import Derived.Deep.RegionHeld3
import Derived.Deep.RegionLaw
import Derived.Handy
import Derived.Laws.BytesArg
import Derived.Laws.OwnMore
import Derived.Laws.Strings
import Derived.Laws.StructEq
import Derived.Lib.Hide
import Derived.Maps.AppendAt
import Derived.OneCell
import Derived.OwnWalk
import Derived.RegionTactic
import Derived.StillTailTactics
import Derived.WalkArith
import Derived.WalkKit
import Derived.WalkLawsBesides
import Derived.WalkSpells
import Derived.Laws.Externs
import Derived.Laws.IdiomCopy
import Derived.Lib.AppendStr
import Derived.Lib.Builder
import Derived.Lib.UnsafeStr
import Derived.Test.YtepjhkcnhahhiaaChecked
import Derived.ChangeMaps5
import Derived.Deep.SlicePairs
import Derived.Lib.SmallJoins
import Derived.OpenShut
import Derived.ProofKit
import Derived.SizedLaws

/-
  A version as it is read, step by step: plain facts.
-/
namespace Go.Proofs.Ytepjhkcnhahhiaa

theorem ttR_small (s : ByteArray) (most : Int) : (ttR s most).size ≤ s.size := by
  have h := tkR_size s
  by_cases h1 : tkE s = 0
  · by_cases h2 : most < tkN s
    · rw [(tt_most h1 h2).2.1]; exact Nat.zero_le _
    · by_cases h3 : (tkR s).size < tkN s
      · rw [(tt_end h1 h2 h3).2.1]; exact Nat.zero_le _
      · rw [(tt_good h1 h2 h3).2.1, ByteArray.size_extract]; omega
  · rw [(tt_err h1).2.1]; exact Nat.zero_le _
theorem takeG_size : ∀ (n : Nat) (o : Option ByteArray) (s : ByteArray), (takeG n o s).2.1.size ≤ s.size
  | 0, _, _ => Nat.le_refl _
  | n + 1, o, s => by
    have ih := takeG_size n (some (ttS s 12)) (tkR (ttR s 12))
    have h1 := ttR_small s 12
    have h2 := tkR_size (ttR s 12)
    rw [takeG]
    repeat' split
    all_goals first | exact Nat.zero_le _ | exact Nat.le_trans ih (Nat.le_trans h2 h1)
theorem takeF_size (s : ByteArray) : (takeF s).2.1.size ≤ s.size := by
  have h1 := tkR_size s
  have h2 := takeG_size (tkN s) none (tkR s)
  unfold takeF
  split
  · exact Nat.zero_le _
  · split
    · exact Nat.zero_le _
    · exact Nat.le_trans h2 h1

def noP (e : Nat) : TV := (noV, ⟨#[]⟩, e)
def rdF (v : Vr) (l : Int) (s : ByteArray) : TV := if (takeF s).2.2 ≠ 0 then noP (takeF s).2.2 else ({v with fs := (takeF s).1, se := v.sf + l}, (takeF s).2.1, 0)
def rdL (v : Vr) (s : ByteArray) : TV := if tkE s ≠ 0 then noP (tkE s) else rdF v (tkN s) (tkR s)
/-- What a version sets. -/
def rdS (v : Vr) (s : ByteArray) : TV := if v.gone = true then (v, s, 0) else if tkE s ≠ 0 then noP (tkE s) else rdL {v with sf := unzig (tkN s)} (tkR s)
/-- What is wrong with the place that tells whether it is gone. -/
def gnE (s : ByteArray) : Nat := if tkE s ≠ 0 then tkE s else if 1 < tkN s then 8 else 0
def rdG (v : Vr) (s : ByteArray) : TV := if gnE s ≠ 0 then noP (gnE s) else rdS {v with gone := decide (tkN s = 1)} (tkR s)
def rdE (v : Vr) (s : ByteArray) : TV := if ttE s 24 ≠ 0 then noP (ttE s 24) else rdG {v with ent := ttS s 24} (ttR s 24)
def rdT (v : Vr) (s : ByteArray) : TV := if tkE s ≠ 0 then noP (tkE s) else rdE {v with st := tkN s} (tkR s)
def rdI (v : Vr) (s : ByteArray) : TV := if tkE s ≠ 0 then noP (tkE s) else rdT {v with id := tkN s} (tkR s)
def rdV (s : ByteArray) : TV := rdI noV s
/-- Read, and then looked at. -/
def lookV (r : TV) : TV := if r.2.2 ≠ 0 then badV r.2.2 else endV r.1 r.2.1
theorem look_no (e : Nat) (h : e ≠ 0) : lookV (noP e) = badV e := by unfold lookV noP; rw [if_pos h]
theorem restV_rd (id st : Int) (ent s : ByteArray) : restV id st ent s = lookV (rdS ⟨id, st, ent, 0, 0, none, 0, [], false⟩ s) := by
  unfold restV rdS
  rw [if_neg (show ¬ (false = true) by simp)]
  by_cases h1 : tkE s ≠ 0
  · rw [if_pos h1, if_pos h1, look_no _ h1]
  · rw [if_neg h1, if_neg h1, rdL]
    by_cases h2 : tkE (tkR s) ≠ 0
    · rw [if_pos h2, if_pos h2, look_no _ h2]
    · rw [if_neg h2, if_neg h2, rdF]
      by_cases h3 : (takeF (tkR (tkR s))).2.2 ≠ 0
      · rw [if_pos h3, if_pos h3, look_no _ h3]
      · rw [if_neg h3, if_neg h3]; rfl
theorem goneV_rd (id st : Int) (ent s : ByteArray) : goneV id st ent s = lookV (rdG ⟨id, st, ent, 0, 0, none, 0, [], false⟩ s) := by
  unfold goneV rdG
  by_cases h1 : tkE s ≠ 0
  · have e : gnE s = tkE s := by unfold gnE; rw [if_pos h1]
    rw [if_pos h1, e, if_pos h1, look_no _ h1]
  · rw [if_neg h1]
    by_cases h2 : 1 < tkN s
    · have e : gnE s = 8 := by unfold gnE; rw [if_neg h1, if_pos h2]
      rw [if_pos h2, e]; rfl
    · have e : gnE s = 0 := by unfold gnE; rw [if_neg h1, if_neg h2]
      rw [if_neg h2, e, if_neg (show ¬ (0 : Nat) ≠ 0 from fun h => h rfl)]
      by_cases h3 : tkN s = 1
      · rw [if_pos h3, decide_eq_true h3]; rfl
      · rw [if_neg h3, decide_eq_false h3, restV_rd]
theorem entV_rd (id st : Int) (s : ByteArray) : entV id st s = lookV (rdE ⟨id, st, ⟨#[]⟩, 0, 0, none, 0, [], false⟩ s) := by
  unfold entV rdE
  by_cases h1 : ttE s 24 ≠ 0
  · rw [if_pos h1, if_pos h1, look_no _ h1]
  · rw [if_neg h1, if_neg h1, goneV_rd]
theorem takeVs_rd (s : ByteArray) : takeVs s = lookV (rdV s) := by
  unfold takeVs rdV rdI
  by_cases h1 : tkE s ≠ 0
  · rw [if_pos h1, if_pos h1, look_no _ h1]
  · rw [if_neg h1, if_neg h1, rdT]
    by_cases h2 : tkE (tkR s) ≠ 0
    · rw [if_pos h2, if_pos h2, look_no _ h2]
    · rw [if_neg h2, if_neg h2, entV_rd]; rfl

/-- A row, as the program reads it: the version is looked at when Until is read, too. -/
def takeRp (s : ByteArray) : TR :=
  if (rdV s).2.2 ≠ 0 then badR (rdV s).2.2
  else if tkE (rdV s).2.1 ≠ 0 then badR (tkE (rdV s).2.1)
  else endR ⟨(rdV s).1, untilI (tkN (rdV s).2.1)⟩ (tkR (rdV s).2.1)
theorem takeRp_put {r : Rw} (h : rightR r = 0) (b : ByteArray) : takeRp (putR r ++ b) = (contR r, b, 0) := by
  have k := takeRs_put h b
  generalize putR r ++ b = s at *
  unfold takeRs at k
  rw [takeVs_rd] at k
  unfold takeRp
  by_cases h1 : (rdV s).2.2 ≠ 0
  · have e : lookV (rdV s) = badV (rdV s).2.2 := by unfold lookV; rw [if_pos h1]
    rw [e, if_pos (show (badV (rdV s).2.2).2.2 ≠ 0 from h1)] at k
    exact absurd (congrArg (fun z : TR => z.2.2) k) h1
  · have e : lookV (rdV s) = endV (rdV s).1 (rdV s).2.1 := by unfold lookV; rw [if_neg h1]
    rw [e] at k
    by_cases h2 : rightV (rdV s).1 = 0
    · have e2 : endV (rdV s).1 (rdV s).2.1 = ((rdV s).1, (rdV s).2.1, 0) := by unfold endV; rw [if_pos h2]
      rw [e2, if_neg (by simp)] at k
      rw [if_neg h1]
      exact k
    · have e2 : endV (rdV s).1 (rdV s).2.1 = badV 8 := by unfold endV; rw [if_neg h2]
      rw [e2, if_pos (show (badV 8).2.2 ≠ 0 by show (8 : Nat) ≠ 0; decide)] at k
      have := congrArg (fun z : TR => z.2.2) k
      exact absurd this (by show (8 : Nat) ≠ 0; decide)

/-- What was read is small enough. -/
def GV (v : Vr) : Prop := okF v.fs ∧ v.fs.length ≤ 1000 ∧ v.ent.size ≤ 9223372036854775807
theorem GV.no : GV noV := ⟨fun f h => by simp [noV] at h, by simp [noV], by show (0 : Nat) ≤ _; exact Nat.zero_le _⟩
theorem ttS_small (s : ByteArray) (most : Int) : (ttS s most).size ≤ s.size := by
  have h := tkR_size s
  by_cases h1 : tkE s = 0
  · by_cases h2 : most < tkN s
    · rw [(tt_most h1 h2).1]; exact Nat.zero_le _
    · by_cases h3 : (tkR s).size < tkN s
      · rw [(tt_end h1 h2 h3).1]; exact Nat.zero_le _
      · rw [(tt_good h1 h2 h3).1, ByteArray.size_extract]; omega
  · rw [(tt_err h1).1]; exact Nat.zero_le _
theorem takeG_small : ∀ (n : Nat) (o : Option ByteArray) (s : ByteArray), (∀ f ∈ (takeG n o s).1, f.n.size ≤ s.size) ∧ (takeG n o s).1.length ≤ n
  | 0, _, _ => ⟨fun f h => by simp [takeG] at h, Nat.le_refl _⟩
  | n + 1, o, s => by
    obtain ⟨i1, i2⟩ := takeG_small n (some (ttS s 12)) (tkR (ttR s 12))
    have h1 := ttR_small s 12
    have h2 := tkR_size (ttR s 12)
    have h3 := ttS_small s 12
    rw [takeG]
    repeat' split
    all_goals first
      | exact ⟨fun f h => by simp at h, Nat.zero_le _⟩
      | (refine ⟨fun f h => ?_, Nat.succ_le_succ i2⟩
         rcases List.mem_cons.1 h with rfl | h
         · exact h3
         · have := i1 f h; omega)
theorem takeF_small (s : ByteArray) : (∀ f ∈ (takeF s).1, f.n.size ≤ s.size) ∧ (takeF s).1.length ≤ 8 := by
  have h1 := tkR_size s
  obtain ⟨i1, i2⟩ := takeG_small (tkN s) none (tkR s)
  unfold takeF
  split
  · exact ⟨fun f h => by simp at h, Nat.zero_le _⟩
  · split
    · exact ⟨fun f h => by simp at h, Nat.zero_le _⟩
    · exact ⟨fun f h => by have := i1 f h; omega, by omega⟩
theorem rdF_gv {v : Vr} (h : GV v) (l : Int) {s : ByteArray} (hs : s.size ≤ 9223372036854775807) : GV (rdF v l s).1 := by
  obtain ⟨i1, i2⟩ := takeF_small s
  unfold rdF
  split
  · exact GV.no
  · exact ⟨fun f hf => Nat.le_trans (i1 f hf) hs, Nat.le_trans i2 (by decide), h.2.2⟩
theorem rdL_gv {v : Vr} (h : GV v) {s : ByteArray} (hs : s.size ≤ 9223372036854775807) : GV (rdL v s).1 := by
  unfold rdL
  split
  · exact GV.no
  · exact rdF_gv h _ (Nat.le_trans (tkR_size s) hs)
theorem rdS_gv {v : Vr} (h : GV v) {s : ByteArray} (hs : s.size ≤ 9223372036854775807) : GV (rdS v s).1 := by
  unfold rdS
  split
  · exact h
  · split
    · exact GV.no
    · exact rdL_gv (v := {v with sf := unzig (tkN s)}) h (Nat.le_trans (tkR_size s) hs)
theorem rdG_gv {v : Vr} (h : GV v) {s : ByteArray} (hs : s.size ≤ 9223372036854775807) : GV (rdG v s).1 := by
  unfold rdG
  split
  · exact GV.no
  · exact rdS_gv (v := {v with gone := decide (tkN s = 1)}) h (Nat.le_trans (tkR_size s) hs)
theorem rdE_gv {v : Vr} (h : GV v) {s : ByteArray} (hs : s.size ≤ 9223372036854775807) : GV (rdE v s).1 := by
  unfold rdE
  split
  · exact GV.no
  · exact rdG_gv (v := {v with ent := ttS s 24}) ⟨h.1, h.2.1, Nat.le_trans (ttS_small s 24) hs⟩ (Nat.le_trans (ttR_small s 24) hs)
theorem rdV_gv {s : ByteArray} (hs : s.size ≤ 9223372036854775807) : GV (rdV s).1 := by
  unfold rdV rdI
  split
  · exact GV.no
  · unfold rdT
    split
    · exact GV.no
    · exact rdE_gv (v := ⟨tkN s, tkN (tkR s), ⟨#[]⟩, 0, 0, none, 0, [], false⟩) GV.no (Nat.le_trans (tkR_size _) (Nat.le_trans (tkR_size s) hs))

end Go.Proofs.Ytepjhkcnhahhiaa

/-
  The program's small takers of version, and what tells whether what was read may be.
-/
namespace Go.Proofs.Ytepjhkcnhahhiaa
open Go.RowKit

theorem takeent_any (s : ByteArray) (hs : s.size ≤ 4611686018427387903) (w : World) : Calls Try.prog 63 #[.string s] w fun e w' => e = .returned (.tuple #[.string (ttS s 24), .string (ttR s 24), .int .i64 ((ttE s 24 : Nat) : Int)]) ∧ Below w.heap.size w w' := by
  have CT := Lib.hid (show ∀ w, Calls Try.prog 79 #[.string s, .int .i64 24] w fun e w' => e = .returned (.tuple #[.string (ttS s 24), .string (ttR s 24), .int .i64 ((ttE s 24 : Nat) : Int)]) ∧ Below w.heap.size w w' from fun w => taketext_any s hs 24 w)
  generalize ttS s 24 = a at *
  generalize ttR s 24 = b at *
  generalize ttE s 24 = c at *
  go_enter Try.func63, Try.ntmps63
  go_wp2_with (go_at_call 79; (with_reducible refine (CT.out _).mono ?_); rintro e w2 ⟨rfl, hb2⟩)
  go_ret3
  exact ⟨rfl, hb2⟩

theorem gnE_first (s : ByteArray) (x : Int) (hx : (1 < tkN s ∧ x = 8) ∨ (¬ 1 < tkN s ∧ x = 0)) : firstN [((tkE s : Nat) : Int), x] = ((gnE s : Nat) : Int) := by
  unfold gnE
  show (if ((tkE s : Nat) : Int) = 0 then (if x = 0 then 0 else x) else ((tkE s : Nat) : Int)) = _
  by_cases h1 : tkE s = 0
  · rw [if_pos (by omega), if_neg (show ¬ tkE s ≠ 0 from fun h => h h1)]
    rcases hx with ⟨h, rfl⟩ | ⟨h, rfl⟩
    · rw [if_pos h]; rfl
    · rw [if_neg h]; rfl
  · rw [if_neg (by omega), if_pos h1]

set_option maxHeartbeats 4000000 in
set_option maxRecDepth 10000 in
theorem takegone_any (s : ByteArray) (hs : s.size ≤ 4611686018427387903) (w : World) : Calls Try.prog 65 #[.string s] w fun e w' => e = .returned (.tuple #[.bool (decide (tkN s = 1)), .string (tkR s), .int .i64 ((gnE s : Nat) : Int)]) ∧ Below w.heap.size w w' := by
  have CN := Lib.hid (show ∀ w, Calls Try.prog 61 #[.string s] w fun e w' => e = .returned (.tuple #[.int .i64 (tkN s : Int), .string (tkR s), .int .i64 (tkE s : Int)]) ∧ Below w.heap.size w w' from fun w => take_any s hs w)
  have W1 := Lib.hid when_any
  have FI := Lib.hid first2
  have HG := Lib.hid (gnE_first s)
  generalize gnE s = G at *
  generalize tkR s = b at *
  generalize tkE s = c at *
  by_cases h0 : tkN s = 0
  · have HD := Lib.hid (show decide (tkN s = 1) = false by rw [h0]; rfl)
    have HL := Lib.hid (show ¬ 1 < tkN s by omega)
    have z0 : (((tkN s : Nat) : Int) == 1) = false := by rw [h0]; rfl
    have z1 : (((tkN s : Nat) : Int) != 0) = false := by rw [h0]; rfl
    generalize tkN s = n at *
    clear h0
    go_enter Try.func65, Try.ntmps65
    go_wp2_with (first
      | (go_at_call 61; (with_reducible refine (CN.out _).mono ?_); rintro e w2 ⟨rfl, hb2⟩)
      | (go_at_call 27; (with_reducible refine (W1.out _ _ _).mono ?_); rintro e w3 ⟨rfl, hw3⟩; obtain rfl := hw3.symm)
      | (go_at_call 26; (with_reducible refine (FI.out _ _ _ _).mono ?_); rintro e w4 ⟨rfl, hw4⟩; obtain rfl := hw4.symm))
    go_ret3
    exact ⟨by rw [HD.out, ← HG.out _ (.inr ⟨HL.out, rfl⟩)]; rfl, hb2.alloc hb2.size _⟩
  · by_cases h1 : tkN s = 1
    · have HD := Lib.hid (show decide (tkN s = 1) = true by rw [h1]; rfl)
      have HL := Lib.hid (show ¬ 1 < tkN s by omega)
      have z0 : (((tkN s : Nat) : Int) == 1) = true := by rw [h1]; rfl
      have z1 : (((tkN s : Nat) : Int) != 0) = true := by rw [h1]; rfl
      have z2 : (((tkN s : Nat) : Int) != 1) = false := by rw [h1]; rfl
      generalize tkN s = n at *
      clear h0 h1
      go_enter Try.func65, Try.ntmps65
      go_wp2_with (first
        | (go_at_call 61; (with_reducible refine (CN.out _).mono ?_); rintro e w2 ⟨rfl, hb2⟩)
        | (go_at_call 27; (with_reducible refine (W1.out _ _ _).mono ?_); rintro e w3 ⟨rfl, hw3⟩; obtain rfl := hw3.symm)
        | (go_at_call 26; (with_reducible refine (FI.out _ _ _ _).mono ?_); rintro e w4 ⟨rfl, hw4⟩; obtain rfl := hw4.symm))
      go_ret3
      exact ⟨by rw [HD.out, ← HG.out _ (.inr ⟨HL.out, rfl⟩)]; rfl, hb2.alloc hb2.size _⟩
    · have HD := Lib.hid (show decide (tkN s = 1) = false by rw [decide_eq_false h1])
      have HL := Lib.hid (show 1 < tkN s by omega)
      have z0 : (((tkN s : Nat) : Int) == 1) = false := by rw [beq_eq_false_iff_ne]; omega
      have z1 : (((tkN s : Nat) : Int) != 0) = true := by rw [bne_iff_ne]; omega
      have z2 : (((tkN s : Nat) : Int) != 1) = true := by rw [bne_iff_ne]; omega
      generalize tkN s = n at *
      clear h0 h1
      go_enter Try.func65, Try.ntmps65
      go_wp2_with (first
        | (go_at_call 61; (with_reducible refine (CN.out _).mono ?_); rintro e w2 ⟨rfl, hb2⟩)
        | (go_at_call 27; (with_reducible refine (W1.out _ _ _).mono ?_); rintro e w3 ⟨rfl, hw3⟩; obtain rfl := hw3.symm)
        | (go_at_call 26; (with_reducible refine (FI.out _ _ _ _).mono ?_); rintro e w4 ⟨rfl, hw4⟩; obtain rfl := hw4.symm))
      go_ret3
      exact ⟨by rw [HD.out, ← HG.out _ (.inl ⟨HL.out, rfl⟩)]; rfl, hb2.alloc hb2.size _⟩

set_option maxHeartbeats 4000000 in
theorem takeun_any (s : ByteArray) (hs : s.size ≤ 4611686018427387903) (w : World) : Calls Try.prog 47 #[.string s] w fun e w' => e = .returned (.tuple #[.int .i64 (untilI (tkN s)), .string (tkR s), .int .i64 ((tkE s : Nat) : Int)]) ∧ Below w.heap.size w w' := by
  have CN := Lib.hid (show ∀ w, Calls Try.prog 61 #[.string s] w fun e w' => e = .returned (.tuple #[.int .i64 (tkN s : Int), .string (tkR s), .int .i64 (tkE s : Int)]) ∧ Below w.heap.size w w' from fun w => take_any s hs w)
  generalize tkR s = b at *
  generalize tkE s = c at *
  by_cases h0 : tkN s = 0
  · have HU := Lib.hid (show untilI (tkN s) = 4611686018427387904 by unfold untilI; rw [if_pos h0])
    have z0 : (((tkN s : Nat) : Int) == 0) = true := by rw [h0]; rfl
    generalize tkN s = n at *
    clear h0
    go_enter Try.func47, Try.ntmps47
    go_wp2_with (go_at_call 61; (with_reducible refine (CN.out _).mono ?_); rintro e w2 ⟨rfl, hb2⟩)
    go_ret3
    exact ⟨by rw [HU.out]; rfl, hb2⟩
  · have HU := Lib.hid (show untilI (tkN s) = ((tkN s : Nat) : Int) by unfold untilI; rw [if_neg h0])
    have z0 : (((tkN s : Nat) : Int) == 0) = false := by rw [beq_eq_false_iff_ne]; omega
    generalize tkN s = n at *
    clear h0
    go_enter Try.func47, Try.ntmps47
    go_wp2_with (go_at_call 61; (with_reducible refine (CN.out _).mono ?_); rintro e w2 ⟨rfl, hb2⟩)
    go_ret3
    exact ⟨by rw [HU.out]; rfl, hb2⟩

/-- The makers of steps. -/
theorem makes_hold (fv : Value) (h1 : fv.oneCell' = true) (w : World) : Calls Try.prog 42 #[fv] w fun e w' => ∃ bh, e = .returned (.func (.func 67) #[] #[ptr bh 0]) ∧ w'.cell? ⟨bh, 0, none⟩ = some fv ∧ Below w.heap.size w w' := by
  go_enter Try.func42, Try.ntmps42
  go_wp2_with fail
  go_ret
  exact ⟨_, rfl, by simp [go_sem], (bl w).alloc (Nat.le_refl _) _⟩
theorem makes_set (fv : Value) (h1 : fv.oneCell' = true) (w : World) : Calls Try.prog 66 #[fv] w fun e w' => ∃ bh, e = .returned (.func (.func 81) #[] #[ptr bh 0]) ∧ w'.cell? ⟨bh, 0, none⟩ = some fv ∧ Below w.heap.size w w' := by
  go_enter Try.func66, Try.ntmps66
  go_wp2_with fail
  go_ret
  exact ⟨_, rfl, by simp [go_sem], (bl w).alloc (Nat.le_refl _) _⟩
theorem makes_ver (fv : Value) (h1 : fv.oneCell' = true) (w : World) : Calls Try.prog 41 #[fv] w fun e w' => ∃ bh, e = .returned (.func (.func 60) #[] #[ptr bh 0]) ∧ w'.cell? ⟨bh, 0, none⟩ = some fv ∧ Below w.heap.size w w' := by
  go_enter Try.func41, Try.ntmps41
  go_wp2_with fail
  go_ret
  exact ⟨_, rfl, by simp [go_sem], (bl w).alloc (Nat.le_refl _) _⟩

/-- Whether what was read may be. -/
def mayE (n : Nat) : Nat := if n = 0 then 0 else 8
set_option maxHeartbeats 1000000 in
theorem hold_any (rf B bh : Nat) (erf : ∀ args w, (callFunc rf args).run Try.prog w = .ok (.enter rf args) w) (s : ByteArray) (n : Nat) (w : World) (hc : w.cell? ⟨bh, 0, none⟩ = some (.func (.func rf) #[] #[ptr B 0]))
    (CR : Calls Try.prog rf #[ptr B 0] w fun e w' => e = .returned (.int .i64 ((n : Nat) : Int)) ∧ Below w.heap.size w w') :
    Calls Try.prog 67 #[.string s, ptr bh 0] w fun e w' => e = .returned (.tuple #[.string s, .int .i64 ((mayE n : Nat) : Int)]) ∧ Below w.heap.size w w' := by
  have HC := Lib.hid CR
  have W1 := Lib.hid when_any
  clear CR
  by_cases h0 : n = 0
  · have HM := Lib.hid (show mayE n = 0 by rw [h0]; rfl)
    have z0 : (((n : Nat) : Int) != 0) = false := by rw [h0]; rfl
    clear h0
    go_enter Try.func67, Try.ntmps67
    go_wp2_with (first
      | (go_at_fn rf; (with_reducible refine HC.out.mono ?_); rintro e w2 ⟨rfl, hb2⟩)
      | (go_at_call 27; (with_reducible refine (W1.out _ _ _).mono ?_); rintro e w3 ⟨rfl, hw3⟩; obtain rfl := hw3.symm))
    go_ret2
    exact ⟨by rw [HM.out]; first | rfl | (rw [whenE_f z0]; rfl), hb2⟩
  · have HM := Lib.hid (show mayE n = 8 by unfold mayE; rw [if_neg h0])
    have z0 : (((n : Nat) : Int) != 0) = true := by rw [bne_iff_ne]; omega
    clear h0
    go_enter Try.func67, Try.ntmps67
    go_wp2_with (first
      | (go_at_fn rf; (with_reducible refine HC.out.mono ?_); rintro e w2 ⟨rfl, hb2⟩)
      | (go_at_call 27; (with_reducible refine (W1.out _ _ _).mono ?_); rintro e w3 ⟨rfl, hw3⟩; obtain rfl := hw3.symm))
    go_ret2
    exact ⟨by rw [HM.out]; first | rfl | (rw [whenE_t z0]; rfl), hb2⟩

set_option maxHeartbeats 1000000 in
theorem take1_any (B : Nat) (v : Vr) (w : World) (hX : BoxV w B v) (hv : VF w v) (hok : okF v.fs) (hn : v.fs.length ≤ 9223372036854775807) (hz : v.ent.size ≤ 9223372036854775807) :
    Calls Try.prog 43 #[ptr B 0] w fun e w' => e = .returned (.int .i64 ((rightV v : Nat) : Int)) ∧ Below w.heap.size w w' := by
  have CR := Lib.hid (pright_ab v w hv hok hn hz)
  obtain ⟨k0, k1, k2, k3, k4, k5, k6⟩ := hX
  generalize rightV v = z at *
  clear hv hok hn hz
  go_enter Try.func43, Try.ntmps43
  go_wp2_with (go_at_call 8; (with_reducible refine CR.out.mono ?_); rintro e w2 ⟨rfl, hb2⟩)
  go_ret
  exact ⟨rfl, hb2⟩
set_option maxHeartbeats 1000000 in
theorem takerow1_any (B : Nat) (r : Rw) (w : World) (hX : BoxR w B r) (hv : VF w r.v) (hok : okF r.v.fs) (hn : r.v.fs.length ≤ 9223372036854775807) (hz : r.v.ent.size ≤ 9223372036854775807) :
    Calls Try.prog 48 #[ptr B 0] w fun e w' => e = .returned (.int .i64 ((rightR r : Nat) : Int)) ∧ Below w.heap.size w w' := by
  have CR := Lib.hid (pright_row r w hv hok hn hz)
  obtain ⟨⟨k0, k1, k2, k3, k4, k5, k6⟩, k7⟩ := hX
  generalize rightR r = z at *
  clear hv hok hn hz
  go_enter Try.func48, Try.ntmps48
  go_wp2_with (go_at_call 10; (with_reducible refine CR.out.mono ?_); rintro e w2 ⟨rfl, hb2⟩)
  go_ret
  exact ⟨rfl, hb2⟩

end Go.Proofs.Ytepjhkcnhahhiaa

/-
  What a version sets, as the program reads it.
-/
namespace Go.Proofs.Ytepjhkcnhahhiaa
open Go.RowKit

abbrev Bz (x : Int) : Prop := -4611686018427387904 < x ∧ x < 4611686018427387904
abbrev NilF (v : Vr) : Prop := v.fs = [] ∧ v.fa = none ∧ v.fc = 0
theorem unzig_bz (s : ByteArray) : Bz (unzig (tkN s)) := by
  have := tkN_lt s
  unfold unzig
  split <;> constructor <;> omega
theorem tkN_bz (s : ByteArray) : Bz ((tkN s : Nat) : Int) := by
  have := tkN_lt s
  constructor <;> omega
def rdS0 (v : Vr) (s : ByteArray) : TV := if tkE s ≠ 0 then noP (tkE s) else rdL {v with sf := unzig (tkN s)} (tkR s)
theorem rdS_here {v : Vr} (h : v.gone = false) (s : ByteArray) : rdS v s = rdS0 v s := by unfold rdS rdS0; rw [if_neg (by rw [h]; simp)]
theorem rdS_gone {v : Vr} (h : v.gone = true) (s : ByteArray) : rdS v s = (v, s, 0) := by unfold rdS; rw [if_pos h]

/-- The cells that reading what a version sets may turn. -/
abbrev MStp (b d : Nat) : Nat → Nat → Prop := fun c o => (c = b ∧ o < 7) ∨ c = d
/-- Where it stands behind k steps. -/
structure RStp0 (b d : Nat) (w : World) (r : ByteArray) (v : Vr) (l : Int) (w' : World) : Prop where
  H : HoldV w' b v
  d0 : w'.cell? ⟨d, 0, none⟩ = some (.int .i64 l)
  f0 : w'.frozen? ⟨d, 0, none⟩ = false
  but : But (MStp b d) w w'
  few : r.size ≤ 4611686018427387903
def RStp (b d n : Nat) (w : World) (T : TV) (k : Nat) (r : ByteArray) (w' : World) : Prop := ∃ v l, RStp0 b d w r v l w' ∧
  ((k = 0 ∧ NilF v ∧ rdS0 (contV v) r = T) ∨ (k = 1 ∧ NilF v ∧ Bz v.sf ∧ rdL (contV v) r = T) ∨ (k = 2 ∧ NilF v ∧ Bz v.sf ∧ Bz l ∧ rdF (contV v) l r = T) ∨
   (k = 3 ∧ FarF n w' v ∧ Bz v.sf ∧ Bz l ∧ (contV {v with se := v.sf + l}, r, 0) = T))
def EStp (b d : Nat) (w : World) (T : TV) (n : Nat) (w' : World) : Prop := T.2.2 = n ∧ ∃ v l, HoldV w' b v ∧ w'.cell? ⟨d, 0, none⟩ = some (.int .i64 l) ∧ w'.frozen? ⟨d, 0, none⟩ = false ∧ But (MStp b d) w w'

theorem RStp0.cell {b d : Nat} {w w' w2 : World} {r r' : ByteArray} {v v' : Vr} {l : Int} {o : Nat} {u : Value} (h : RStp0 b d w r v l w') (hb : Below w'.heap.size w' w2) (ho : o < 7) (hd : d ≠ b)
    (hv : HoldV w2 b v → HoldV (w2.setCell ⟨b, o, none⟩ u) b v') (hr : r'.size ≤ r.size) : RStp0 b d w r' v' l (w2.setCell ⟨b, o, none⟩ u) :=
  ⟨hv (h.H.below hb), (World.cell?_setCell_other _ ⟨b, o, none⟩ ⟨d, 0, none⟩ _ (fun e => hd (by injection e with e1 e2; exact e1.symm))).trans (keepc hb h.d0),
   (World.frozen?_setCell _ _ _ _).trans (keepf hb (lt_of_cell h.d0) h.f0), (h.but.trans (But.of_below hb)).set (.inl ⟨rfl, ho⟩) _, Nat.le_trans hr h.few⟩
theorem RStp0.long {b d : Nat} {w w' w2 : World} {r r' : ByteArray} {v : Vr} {l l' : Int} (h : RStp0 b d w r v l w') (hb : Below w'.heap.size w' w2) (hd : d ≠ b) (hr : r'.size ≤ r.size) : RStp0 b d w r' v l' (w2.setCell ⟨d, 0, none⟩ (.int .i64 l')) :=
  ⟨(h.H.below hb).other (fun e => hd e.symm) _, World.cell?_setCell_same _ _ _ (keepc hb h.d0),
   (World.frozen?_setCell _ _ _ _).trans (keepf hb (lt_of_cell h.d0) h.f0), (h.but.trans (But.of_below hb)).set (.inr rfl) _, Nat.le_trans hr h.few⟩

theorem read_set (w : World) (b d g : Nat) (v : Vr) (x0 : Int) (s : ByteArray) (hs : s.size ≤ 4611686018427387903) (t0 k0 t1 k1 t2 k2 : Nat)
    (H : HoldV w b v) (F : NilF v) (hd : w.cell? ⟨d, 0, none⟩ = some (.int .i64 x0)) (fd : w.frozen? ⟨d, 0, none⟩ = false) (hdb : d ≠ b)
    (i0 : InBox w t0 k0 (fnv 82) (ptr b 3)) (i1 : InBox w t1 k1 (fnv 61) (ptr d 0)) (i2 : InBox w t2 k2 (fnv 84) (ptr b 5))
    (c0 : w.cell? ⟨g, 0, none⟩ = some (.func (.func 70) #[] #[ptr t0 0, ptr k0 0])) (c1 : w.cell? ⟨g, 1, none⟩ = some (.func (.func 70) #[] #[ptr t1 0, ptr k1 0]))
    (c2 : w.cell? ⟨g, 2, none⟩ = some (.func (.func 88) #[] #[ptr t2 0, ptr k2 0])) :
    Calls Try.prog 40 #[.string s, .slice (some ⟨g, 0, none⟩) 3 3] w fun e w' => ∃ r n, e = .returned (.tuple #[.string r, .int .i64 ((n : Nat) : Int)]) ∧ ((n = 0 ∧ RStp b d w.heap.size w (rdS0 (contV v) s) 3 r w') ∨ (n ≠ 0 ∧ r = ⟨#[]⟩ ∧ EStp b d w (rdS0 (contV v) s) n w')) := by
  obtain ⟨T, hT⟩ : ∃ T, rdS0 (contV v) s = T := ⟨_, rfl⟩
  rw [hT]
  have hb0 := H.c.1
  have hblt := lt_of_cell hb0
  have hdlt := lt_of_cell hd
  -- blocks that the steps leave as they lie
  have nb : ∀ {c o : Nat} {u : Value}, w.cell? ⟨c, 0, none⟩ = some u → (∀ x, u ≠ .int .i64 x) → ∀ {w' : World} {u' : Value}, But (MStp b d) w w' → w.cell? ⟨c, o, none⟩ = some u' → w'.cell? ⟨c, o, none⟩ = some u' := fun {c o u} h0 hu {w' u'} hbut hc => by
    have n1 : c ≠ b := ne_cells hb0 h0 (fun e => hu _ e.symm)
    have n2 : c ≠ d := ne_cells hd h0 (fun e => hu _ e.symm)
    exact hbut.keep hc (fun hm => by rcases hm with ⟨e, _⟩ | e; exact n1 e; exact n2 e)
  refine read_any w s g 3 (by omega) (RStp b d w.heap.size w T) (EStp b d w T) ⟨v, x0, ⟨H, hd, fd, But.refl _ _, hs⟩, .inl ⟨rfl, F, hT⟩⟩ ?_
  rintro k r w' hk ⟨v', l, hR, hcase⟩
  have j0 : InBox w' t0 k0 (fnv 82) (ptr b 3) := ⟨nb i0.t (fun _ => by simp) hR.but i0.t, nb i0.k (fun _ => by simp) hR.but i0.k⟩
  have j1 : InBox w' t1 k1 (fnv 61) (ptr d 0) := ⟨nb i1.t (fun _ => by simp) hR.but i1.t, nb i1.k (fun _ => by simp) hR.but i1.k⟩
  have j2 : InBox w' t2 k2 (fnv 84) (ptr b 5) := ⟨nb i2.t (fun _ => by simp) hR.but i2.t, nb i2.k (fun _ => by simp) hR.but i2.k⟩
  rcases hcase with ⟨rfl, hN, hE⟩ | ⟨rfl, hN, hz, hE⟩ | ⟨rfl, hN, hz, hl, hE⟩ | ⟨rfl, _⟩
  · refine ⟨_, _, nb c0 (fun _ => by simp) hR.but c0, enters_of Try.func70 (by kernel_rfl) rfl, ?_⟩
    refine (keep_int 82 (enters_of Try.func82 (by kernel_rfl) rfl) r (tkR r) (unzig (tkN r)) (tkE r) (fun w => takeint_any r hR.few w) w' t0 k0 b 3 _ j0 hR.H.c.2.2.2.1 hR.H.f.2.2.2.1).mono ?_
    rintro e w3 ⟨rfl, w2, hb2, rfl⟩
    refine ⟨_, _, rfl, ?_⟩
    have h3 := hR.cell (v' := {v' with sf := unzig (tkN r)}) (r' := tkR r) hb2 (by omega) hdb (fun h => h.set3 _) (tkR_size r)
    by_cases h0 : tkE r = 0
    · refine .inl ⟨h0, _, l, h3, .inr (.inl ⟨rfl, hN, unzig_bz r, ?_⟩)⟩
      rw [← hE, rdS0, if_neg (fun h => h h0)]
      rfl
    · refine .inr ⟨h0, ?_, _, l, h3.H, h3.d0, h3.f0, h3.but⟩
      rw [← hE, rdS0, if_pos h0]
      rfl
  · refine ⟨_, _, nb c0 (fun _ => by simp) hR.but c1, enters_of Try.func70 (by kernel_rfl) rfl, ?_⟩
    refine (keep_int 61 (enters_of Try.func61 (by kernel_rfl) rfl) r (tkR r) ((tkN r : Nat) : Int) (tkE r) (fun w => take_any r hR.few w) w' t1 k1 d 0 _ j1 hR.d0 hR.f0).mono ?_
    rintro e w3 ⟨rfl, w2, hb2, rfl⟩
    refine ⟨_, _, rfl, ?_⟩
    have h3 := hR.long (r' := tkR r) (l' := ((tkN r : Nat) : Int)) hb2 hdb (tkR_size r)
    by_cases h0 : tkE r = 0
    · refine .inl ⟨h0, _, _, h3, .inr (.inr (.inl ⟨rfl, hN, hz, tkN_bz r, ?_⟩))⟩
      rw [← hE, rdL, if_neg (fun h => h h0)]
    · refine .inr ⟨h0, ?_, _, _, h3.H, h3.d0, h3.f0, h3.but⟩
      rw [← hE, rdL, if_pos h0]
      rfl
  · refine ⟨_, _, nb c0 (fun _ => by simp) hR.but c2, enters_of Try.func88 (by kernel_rfl) rfl, ?_⟩
    refine (keep_fld r hR.few w' t2 k2 b 5 _ j2 hR.H.c.2.2.2.2.2.1 hR.H.f.2.2.2.2.2.1).mono ?_
    rintro e w3 ⟨rfl, w2, A, c, hb2, hfar, rfl⟩
    refine ⟨_, _, rfl, ?_⟩
    have h3 := hR.cell (v' := {v' with fa := A, fc := c, fs := (takeF r).1}) (r' := r) hb2 (by omega) hdb (fun h => h.set5 A c _) (Nat.le_refl _)
    have hF := (hfar {v' with fa := A, fc := c, fs := (takeF r).1} rfl rfl rfl).but (M := MStp b d) ((But.refl _ w2).set (b := b) (o := 5) (.inl ⟨rfl, by omega⟩) (.slice A (takeF r).1.length c)) (fun c o hm => by
      have := hR.but.size
      rcases hm with ⟨e, _⟩ | e <;> omega)
    by_cases h0 : (takeF r).2.2 = 0
    · refine .inl ⟨h0, _, l, ⟨h3.H, h3.d0, h3.f0, h3.but, ?_⟩, .inr (.inr (.inr ⟨rfl, ⟨hF.1, fun a ha => Nat.le_trans hR.but.size (hF.2 a ha)⟩, hz, hl, ?_⟩))⟩
      · exact Nat.le_trans (takeF_size r) hR.few
      · rw [← hE, rdF, if_neg (fun h => h h0)]
        rfl
    · refine .inr ⟨h0, ?_, _, l, h3.H, h3.d0, h3.f0, h3.but⟩
      rw [← hE, rdF, if_pos h0]
      rfl
  · exact absurd hk (by omega)

end Go.Proofs.Ytepjhkcnhahhiaa

/-
  The step that reads what a version sets.
-/
namespace Go.Proofs.Ytepjhkcnhahhiaa
open Go.RowKit

/-- What a step that reads into block b leaves. -/
def SetPost (b d n : Nat) (w : World) (T : TV) (r : ByteArray) (m : Nat) (w' : World) : Prop := ∃ v l, HoldV w' b v ∧ w'.cell? ⟨d, 0, none⟩ = some (.int .i64 l) ∧ But (MStp b d) w w' ∧
  ((m = 0 ∧ r.size ≤ 4611686018427387903 ∧ FarF n w' v ∧ Bz v.sf ∧ Bz l ∧ (contV {v with se := v.sf + l}, r, 0) = T) ∨ (m ≠ 0 ∧ r = ⟨#[]⟩ ∧ T.2.2 = m))
theorem SetPost.of {b d n : Nat} {w w' : World} {T : TV} {r : ByteArray} {m : Nat} (h : (m = 0 ∧ RStp b d n w T 3 r w') ∨ (m ≠ 0 ∧ r = ⟨#[]⟩ ∧ EStp b d w T m w')) : SetPost b d n w T r m w' := by
  rcases h with ⟨h0, v, l, hR, hc⟩ | ⟨h0, hr, hT, v, l, hH, hd, hf, hb⟩
  · rcases hc with ⟨h, _⟩ | ⟨h, _⟩ | ⟨h, _⟩ | ⟨_, hF, hz, hl, hT⟩
    · exact absurd h (by decide)
    · exact absurd h (by decide)
    · exact absurd h (by decide)
    · exact ⟨v, l, hR.H, hR.d0, hR.but, .inl ⟨h0, hR.few, hF, hz, hl, hT⟩⟩
  · exact ⟨v, l, hH, hd, hb, .inr ⟨h0, hr, hT⟩⟩
def StepPost (b n : Nat) (w : World) (T : TV) (r : ByteArray) (m : Nat) (w' : World) : Prop := ∃ v, HoldV w' b v ∧ But (MV b) w w' ∧
  ((m = 0 ∧ r.size ≤ 4611686018427387903 ∧ FarF n w' v ∧ (contV v, r, 0) = T) ∨ (m ≠ 0 ∧ T.2.2 = m))

theorem set_last {b n : Nat} {w w5 : World} {T : TV} {r : ByteArray} {m : Nat} {Z : Int} {v : Vr} {l : Int} (hn : w.heap.size ≤ n) (hbw : b < w.heap.size) (hZ : IntKind.i64.wrap (v.sf + l) = Z) (hH : HoldV w5 b v) (hb : But (MStp b w.heap.size) (w.alloc (.cells #[.int .i64 0] 3)) w5)
    (hc : (m = 0 ∧ r.size ≤ 4611686018427387903 ∧ FarF n w5 v ∧ Bz v.sf ∧ Bz l ∧ (contV {v with se := v.sf + l}, r, 0) = T) ∨ (m ≠ 0 ∧ r = ⟨#[]⟩ ∧ T.2.2 = m)) {w6 : World} (hb6 : Below w5.heap.size w5 w6) :
    StepPost b w.heap.size w T r m (w6.setCell ⟨b, 4, none⟩ (.int .i64 Z)) := by
  refine ⟨{v with se := Z}, (hH.below hb6).set4 Z, ?_, ?_⟩
  · have h1 : But (MStp b w.heap.size) w w5 := But.ahead ((bl w).alloc (Nat.le_refl _) _) hb
    exact ((h1.trans (But.of_below hb6)).set (.inl ⟨rfl, by omega⟩) _).mono (fun c o hc hm => by
      rcases hm with h | h
      · exact h
      · omega)
  · rcases hc with ⟨h0, hr, hF, hz, hl, hT⟩ | ⟨h0, _, hT⟩
    · have hZ2 : Z = v.sf + l := by
        rw [← hZ, IntKind.wrap_i64]
        obtain ⟨a1, a2⟩ := hz
        obtain ⟨a3, a4⟩ := hl
        omega
      have hF6 := (hF.below hb6).but (M := MV b) ((But.refl _ w6).set (b := b) (o := 4) ⟨rfl, by omega⟩ (.int .i64 Z)) (fun c o hm => by have := hm.1; omega)
      exact .inl ⟨h0, hr, ⟨(hF6.same (v' := {v with se := Z}) rfl rfl rfl).1, fun a ha => Nat.le_trans hn (hF6.2 a ha)⟩, by rw [← hT, hZ2]⟩
    · exact .inr ⟨h0, hT⟩

set_option maxHeartbeats 4000000 in
set_option maxRecDepth 10000 in
theorem pset1 (w : World) (b c : Nat) (v : Vr) (s : ByteArray) (hs : s.size ≤ 4611686018427387903) (H : HoldV w b v) (N : NilF v) (hc : w.cell? ⟨c, 0, none⟩ = some (ptr b 0)) :
    Calls Try.prog 81 #[.string s, ptr c 0] w fun e w' => ∃ r m, e = .returned (.tuple #[.string r, .int .i64 ((m : Nat) : Int)]) ∧ StepPost b w.heap.size w (rdS (contV v) s) r m w' := by
  have hblt := lt_of_cell H.c.1
  have hcb : c ≠ b := ne_cells H.c.1 hc (by simp)
  have hclt := lt_of_cell hc
  have HC := Lib.hid hc
  cases hg : v.gone with
  | true =>
    have x6 := H.c.2.2.2.2.2.2
    rw [hg] at x6
    have HP := Lib.hid (show StepPost b w.heap.size w (rdS (contV v) s) s 0 w from ⟨v, H, But.refl _ _, .inl ⟨rfl, hs, FarF.nil w v N.1 N.2.1 N.2.2, by rw [rdS_gone (v := contV v) hg]⟩⟩)
    clear hg H N
    go_enter Try.func81, Try.ntmps81
    go_wp2_with fail
    go_ret2
    exact ⟨s, 0, rfl, HP.out⟩
  | false =>
    have x6 := H.c.2.2.2.2.2.2
    rw [hg] at x6
    have hT : rdS (contV v) s = rdS0 (contV v) s := rdS_here (v := contV v) hg s
    rw [hT]
    obtain ⟨W, hW⟩ : ∃ W, w.alloc (.cells #[.int .i64 0] 3) = W := ⟨_, rfl⟩
    have HW := Lib.hid hW
    have hsz : W.heap.size = w.heap.size + 1 := by rw [← hW]; simp
    have HSZ := Lib.hid hsz
    have HBW := Lib.hid (show Below w.heap.size w W by rw [← hW]; exact (bl w).alloc (Nat.le_refl _) _)
    have HH := Lib.hid (H.below HBW.out)
    have HD := Lib.hid (show W.cell? ⟨w.heap.size, 0, none⟩ = some (.int .i64 0) by rw [← hW]; simp [go_sem])
    have FD := Lib.hid (show W.frozen? ⟨w.heap.size, 0, none⟩ = false by rw [← hW]; simp [go_sem])
    have hcW := keepc HBW.out hc
    have HN := Lib.hid N
    have CI0 := Lib.hid (fun w => into_int (ptr b 3) (fnv 82) rfl rfl w)
    have CI1 := Lib.hid (fun w' => into_int (ptr w.heap.size 0) (fnv 61) rfl rfl w')
    have CI2 := Lib.hid (fun w => into_fld (ptr b 5) (fnv 84) rfl rfl w)
    have MK := Lib.hid (show ∀ w', But (MStp b w.heap.size) W w' → (But (MStp b w.heap.size) W w' ∧ w'.cell? ⟨c, 0, none⟩ = some (ptr b 0)) from fun w' h => ⟨h, h.keep hcW (fun hm => by rcases hm with ⟨e, _⟩ | e; exact hcb e; exact absurd hclt (by omega))⟩)
    have RD := Lib.hid (fun (w1 : World) (g t0 k0 t1 k1 t2 k2 : Nat) (hb : Below W.heap.size W w1) => read_set w1 b w.heap.size g v 0 s hs t0 k0 t1 k1 t2 k2 (HH.out.below hb) HN.out (keepc hb HD.out) (keepf hb (by have := HSZ.out; omega) FD.out) (by omega))
    have HBLT := Lib.hid hblt
    clear hg H N hW hsz hT hcW hcb hclt hblt
    go_enter Try.func81, Try.ntmps81
    go_wp2_with fail
    rw [HW.out]
    go_region_held3 (fun w' => But (MStp b w.heap.size) W w' ∧ w'.cell? ⟨c, 0, none⟩ = some (ptr b 0))
      (first | exact MK.out _ (But.of_below ((bl W).drew)) | exact MK.out _ hbut | exact MK.out _ (But.of_below (hb4.alloc hb4.size _)) | exact MK.out _ (But.of_below (hb4.alloc hb4.size _).drew) | exact MK.out _ (But.of_below hb4) | exact MK.out _ (But.of_below hb3) | exact MK.out _ (But.of_below hb2) | fail)
      (first
        | (go_at_call 46; (with_reducible refine (CI0.out _).mono ?_); (rintro e w2 ⟨t0, k0, rfl, i0, hb0⟩); (have hb2 := chain ((bl W).drew) hb0); clear hb0)
        | (go_at_call 46; (with_reducible refine (CI1.out _).mono ?_); (rintro e w3 ⟨t1, k1, rfl, i1, hb0⟩); (have i0b := i0.below hb0); (have hb3 := chain hb2 hb0); clear hb0)
        | (go_at_call 83; (with_reducible refine (CI2.out _).mono ?_); (rintro e w4 ⟨t2, k2, rfl, i2, hb0⟩); (have i0c := i0b.below hb0); (have i1c := i1.below hb0); (have hb4 := chain hb3 hb0); clear hb0)
        | (go_at_call 40; (with_reducible refine (RD.out _ _ t0 k0 t1 k1 t2 k2 (hb4.alloc hb4.size _) (i0c.below ((bl w4).alloc (Nat.le_refl _) _)) (i1c.below ((bl w4).alloc (Nat.le_refl _) _)) (i2.below ((bl w4).alloc (Nat.le_refl _) _)) (by simp [go_sem]) (by simp [go_sem]) (by simp [go_sem])).mono ?_); (rintro e w5 ⟨r, m, rfl, hpost⟩); (have hp := SetPost.of hpost); (obtain ⟨v5, l5, h5, d5, hbut5, hc5⟩ := hp); (have hbut := But.ahead (hb4.alloc hb4.size _) hbut5); clear hpost)
        | fail)
    obtain ⟨Z, hZ⟩ : ∃ Z, IntKind.i64.wrap (v5.sf + l5) = Z := ⟨_, rfl⟩
    have c5c := (MK.out _ hbut).2
    have k3 := h5.c.2.2.2.1
    have k4 := h5.c.2.2.2.2.1
    have f4 := h5.f.2.2.2.2.1
    have HL := Lib.hid (fun (w6 : World) (hb6 : Below w5.heap.size w5 w6) => set_last (w := w) (w6 := w6) (Z := Z) (n := (w4.alloc (.cells #[.func (.func 70) #[] #[ptr t0 0, ptr k0 0], .func (.func 70) #[] #[ptr t1 0, ptr k1 0], .func (.func 88) #[] #[ptr t2 0, ptr k2 0]] 64)).heap.size)
      (by have h1 := HBW.out.size; have h2 := hb4.size; simp; omega) HBLT.out hZ h5 (by rw [HW.out]; exact hbut) hc5 hb6)
    clear h5 hc5 hbut hbut5 i0 i0b i0c i1 i1c i2
    go_wp2_with fail
    go_still_tail 11, (by kernel_rfl)
    change wpList _ _ _ _ _ w5.drew
    go_wp2_with fail
    go_ret2
    exact ⟨_, _, rfl, HL.out _ ((bl w5).drew)⟩

end Go.Proofs.Ytepjhkcnhahhiaa

/-
  The step that reads a version.
-/
namespace Go.Proofs.Ytepjhkcnhahhiaa
open Go.RowKit

structure RVer0 (b : Nat) (w : World) (r : ByteArray) (v : Vr) (w' : World) : Prop where
  H : HoldV w' b v
  but : But (MV b) w w'
  few : r.size ≤ 4611686018427387903
def RVer (b n : Nat) (w : World) (T : TV) (k : Nat) (r : ByteArray) (w' : World) : Prop := ∃ v, RVer0 b w r v w' ∧
  ((k = 0 ∧ NilF v ∧ rdI (contV v) r = T) ∨ (k = 1 ∧ NilF v ∧ rdT (contV v) r = T) ∨ (k = 2 ∧ NilF v ∧ rdE (contV v) r = T) ∨ (k = 3 ∧ NilF v ∧ rdG (contV v) r = T) ∨ (k = 4 ∧ NilF v ∧ rdS (contV v) r = T) ∨
   (k = 5 ∧ FarF n w' v ∧ (contV v, r, 0) = T))
def EVer (b : Nat) (w : World) (T : TV) (m : Nat) (w' : World) : Prop := T.2.2 = m ∧ But (MV b) w w'
def VerPost (b n : Nat) (w : World) (T : TV) (r : ByteArray) (m : Nat) (w' : World) : Prop := But (MV b) w w' ∧ ((m = 0 ∧ r.size ≤ 4611686018427387903 ∧ ∃ v, HoldV w' b v ∧ FarF n w' v ∧ (contV v, r, 0) = T) ∨ (m ≠ 0 ∧ T.2.2 = m))
theorem VerPost.of {b n : Nat} {w w' : World} {T : TV} {r : ByteArray} {m : Nat} (h : (m = 0 ∧ RVer b n w T 5 r w') ∨ (m ≠ 0 ∧ r = ⟨#[]⟩ ∧ EVer b w T m w')) : VerPost b n w T r m w' := by
  rcases h with ⟨h0, v, hR, hc⟩ | ⟨h0, hr, hT, hb⟩
  · rcases hc with ⟨h, _⟩ | ⟨h, _⟩ | ⟨h, _⟩ | ⟨h, _⟩ | ⟨h, _⟩ | ⟨_, hF, hT⟩
    · exact absurd h (by decide)
    · exact absurd h (by decide)
    · exact absurd h (by decide)
    · exact absurd h (by decide)
    · exact absurd h (by decide)
    · exact ⟨hR.but, .inl ⟨h0, hR.few, v, hR.H, hF, hT⟩⟩
  · exact ⟨hb, .inr ⟨h0, hT⟩⟩
theorem RVer0.cell {b : Nat} {w w' w2 : World} {r r' : ByteArray} {v v' : Vr} {o : Nat} {u : Value} (h : RVer0 b w r v w') (hb : Below w'.heap.size w' w2) (ho : o < 7)
    (hv : HoldV w2 b v → HoldV (w2.setCell ⟨b, o, none⟩ u) b v') (hr : r'.size ≤ r.size) : RVer0 b w r' v' (w2.setCell ⟨b, o, none⟩ u) :=
  ⟨hv (h.H.below hb), (h.but.trans (But.of_below hb)).set ⟨rfl, ho⟩ _, Nat.le_trans hr h.few⟩

set_option maxHeartbeats 1000000 in
theorem read_ver (w : World) (b g c4 : Nat) (v : Vr) (s : ByteArray) (hs : s.size ≤ 4611686018427387903) (t0 k0 t1 k1 t2 k2 t3 k3 : Nat)
    (H : HoldV w b v) (F : NilF v)
    (i0 : InBox w t0 k0 (fnv 61) (ptr b 0)) (i1 : InBox w t1 k1 (fnv 61) (ptr b 1)) (i2 : InBox w t2 k2 (fnv 63) (ptr b 2)) (i3 : InBox w t3 k3 (fnv 65) (ptr b 6))
    (i4 : w.cell? ⟨c4, 0, none⟩ = some (ptr b 0))
    (c0 : w.cell? ⟨g, 0, none⟩ = some (.func (.func 70) #[] #[ptr t0 0, ptr k0 0])) (c1 : w.cell? ⟨g, 1, none⟩ = some (.func (.func 70) #[] #[ptr t1 0, ptr k1 0]))
    (c2 : w.cell? ⟨g, 2, none⟩ = some (.func (.func 78) #[] #[ptr t2 0, ptr k2 0])) (c3 : w.cell? ⟨g, 3, none⟩ = some (.func (.func 80) #[] #[ptr t3 0, ptr k3 0]))
    (cc : w.cell? ⟨g, 4, none⟩ = some (.func (.func 81) #[] #[ptr c4 0])) :
    Calls Try.prog 40 #[.string s, .slice (some ⟨g, 0, none⟩) 5 5] w fun e w' => ∃ r n, e = .returned (.tuple #[.string r, .int .i64 ((n : Nat) : Int)]) ∧ ((n = 0 ∧ RVer b w.heap.size w (rdI (contV v) s) 5 r w') ∨ (n ≠ 0 ∧ r = ⟨#[]⟩ ∧ EVer b w (rdI (contV v) s) n w')) := by
  obtain ⟨T, hT⟩ : ∃ T, rdI (contV v) s = T := ⟨_, rfl⟩
  rw [hT]
  have hb0 := H.c.1
  have hblt := lt_of_cell hb0
  have nb : ∀ {c o : Nat} {u : Value}, w.cell? ⟨c, 0, none⟩ = some u → (∀ x, u ≠ .int .i64 x) → ∀ {w' : World} {u' : Value}, But (MV b) w w' → w.cell? ⟨c, o, none⟩ = some u' → w'.cell? ⟨c, o, none⟩ = some u' := fun {c o u} h0 hu {w' u'} hbut hc => by
    have n1 : c ≠ b := ne_cells hb0 h0 (fun e => hu _ e.symm)
    exact hbut.keep hc (fun hm => n1 hm.1)
  refine read_any w s g 5 (by omega) (RVer b w.heap.size w T) (EVer b w T) ⟨v, ⟨H, But.refl _ _, hs⟩, .inl ⟨rfl, F, hT⟩⟩ ?_
  rintro k r w' hk ⟨v', hR, hcase⟩
  rcases hcase with ⟨rfl, hN, hE⟩ | ⟨rfl, hN, hE⟩ | ⟨rfl, hN, hE⟩ | ⟨rfl, hN, hE⟩ | ⟨rfl, hN, hE⟩ | ⟨rfl, _⟩
  · refine ⟨_, _, nb c0 (fun _ => by simp) hR.but c0, enters_of Try.func70 (by kernel_rfl) rfl, ?_⟩
    refine (keep_int 61 (enters_of Try.func61 (by kernel_rfl) rfl) r (tkR r) ((tkN r : Nat) : Int) (tkE r) (fun w => take_any r hR.few w) w' t0 k0 b 0 _ ⟨nb i0.t (fun _ => by simp) hR.but i0.t, nb i0.k (fun _ => by simp) hR.but i0.k⟩ hR.H.c.1 hR.H.f.1).mono ?_
    rintro e w3 ⟨rfl, w2, hb2, rfl⟩
    refine ⟨_, _, rfl, ?_⟩
    have h3 := hR.cell (v' := {v' with id := ((tkN r : Nat) : Int)}) (r' := tkR r) hb2 (by omega) (fun h => h.set0 _) (tkR_size r)
    by_cases h0 : tkE r = 0
    · refine .inl ⟨h0, _, h3, .inr (.inl ⟨rfl, hN, ?_⟩)⟩
      rw [← hE, rdI, if_neg (fun h => h h0)]
      rfl
    · refine .inr ⟨h0, ?_, h3.but⟩
      rw [← hE, rdI, if_pos h0]
      rfl
  · refine ⟨_, _, nb c0 (fun _ => by simp) hR.but c1, enters_of Try.func70 (by kernel_rfl) rfl, ?_⟩
    refine (keep_int 61 (enters_of Try.func61 (by kernel_rfl) rfl) r (tkR r) ((tkN r : Nat) : Int) (tkE r) (fun w => take_any r hR.few w) w' t1 k1 b 1 _ ⟨nb i1.t (fun _ => by simp) hR.but i1.t, nb i1.k (fun _ => by simp) hR.but i1.k⟩ hR.H.c.2.1 hR.H.f.2.1).mono ?_
    rintro e w3 ⟨rfl, w2, hb2, rfl⟩
    refine ⟨_, _, rfl, ?_⟩
    have h3 := hR.cell (v' := {v' with st := ((tkN r : Nat) : Int)}) (r' := tkR r) hb2 (by omega) (fun h => h.set1 _) (tkR_size r)
    by_cases h0 : tkE r = 0
    · refine .inl ⟨h0, _, h3, .inr (.inr (.inl ⟨rfl, hN, ?_⟩))⟩
      rw [← hE, rdT, if_neg (fun h => h h0)]
      rfl
    · refine .inr ⟨h0, ?_, h3.but⟩
      rw [← hE, rdT, if_pos h0]
      rfl
  · refine ⟨_, _, nb c0 (fun _ => by simp) hR.but c2, enters_of Try.func78 (by kernel_rfl) rfl, ?_⟩
    refine (keep_str 63 (enters_of Try.func63 (by kernel_rfl) rfl) r (ttR r 24) (ttS r 24) (ttE r 24) (fun w => takeent_any r hR.few w) w' t2 k2 b 2 _ ⟨nb i2.t (fun _ => by simp) hR.but i2.t, nb i2.k (fun _ => by simp) hR.but i2.k⟩ hR.H.c.2.2.1 hR.H.f.2.2.1).mono ?_
    rintro e w3 ⟨rfl, w2, hb2, rfl⟩
    refine ⟨_, _, rfl, ?_⟩
    have h3 := hR.cell (v' := {v' with ent := ttS r 24}) (r' := ttR r 24) hb2 (by omega) (fun h => h.set2 _) (ttR_small r 24)
    by_cases h0 : ttE r 24 = 0
    · refine .inl ⟨h0, _, h3, .inr (.inr (.inr (.inl ⟨rfl, hN, ?_⟩)))⟩
      rw [← hE, rdE, if_neg (fun h => h h0)]
      rfl
    · refine .inr ⟨h0, ?_, h3.but⟩
      rw [← hE, rdE, if_pos h0]
      rfl
  · refine ⟨_, _, nb c0 (fun _ => by simp) hR.but c3, enters_of Try.func80 (by kernel_rfl) rfl, ?_⟩
    refine (keep_bool 65 (enters_of Try.func65 (by kernel_rfl) rfl) r (tkR r) (decide (tkN r = 1)) (gnE r) (fun w => takegone_any r hR.few w) w' t3 k3 b 6 _ ⟨nb i3.t (fun _ => by simp) hR.but i3.t, nb i3.k (fun _ => by simp) hR.but i3.k⟩ hR.H.c.2.2.2.2.2.2 hR.H.f.2.2.2.2.2.2).mono ?_
    rintro e w3 ⟨rfl, w2, hb2, rfl⟩
    refine ⟨_, _, rfl, ?_⟩
    have h3 := hR.cell (v' := {v' with gone := decide (tkN r = 1)}) (r' := tkR r) hb2 (by omega) (fun h => h.set6 _) (tkR_size r)
    by_cases h0 : gnE r = 0
    · refine .inl ⟨h0, _, h3, .inr (.inr (.inr (.inr (.inl ⟨rfl, hN, ?_⟩))))⟩
      rw [← hE, rdG, if_neg (fun h => h h0)]
      rfl
    · refine .inr ⟨h0, ?_, h3.but⟩
      rw [← hE, rdG, if_pos h0]
      rfl
  · refine ⟨_, _, nb c0 (fun _ => by simp) hR.but cc, enters_of Try.func81 (by kernel_rfl) rfl, ?_⟩
    refine (pset1 w' b c4 v' r hR.few hR.H hN (nb i4 (fun _ => by simp) hR.but i4)).mono ?_
    rintro e w3 ⟨r', m, rfl, v3, h3, hbut3, hc3⟩
    refine ⟨_, _, rfl, ?_⟩
    rw [hE] at hc3
    rcases hc3 with ⟨h0, hr, hF, hT3⟩ | ⟨h0, hT3⟩
    · exact .inl ⟨h0, v3, ⟨h3, hR.but.trans hbut3, hr⟩, .inr (.inr (.inr (.inr (.inr ⟨rfl, ⟨hF.1, fun a ha => Nat.le_trans hR.but.size (hF.2 a ha)⟩, hT3⟩))))⟩
    · exact .inr ⟨h0, hT3, hR.but.trans hbut3⟩
  · exact absurd hk (by omega)

set_option maxHeartbeats 4000000 in
set_option maxRecDepth 10000 in
theorem pver1 (w : World) (b c : Nat) (s : ByteArray) (hs : s.size ≤ 4611686018427387903) (H : HoldV w b noV) (hc : w.cell? ⟨c, 0, none⟩ = some (ptr b 0)) :
    Calls Try.prog 60 #[.string s, ptr c 0] w fun e w' => ∃ r m, e = .returned (.tuple #[.string r, .int .i64 ((m : Nat) : Int)]) ∧ VerPost b w.heap.size w (rdV s) r m w' := by
  have hblt := lt_of_cell H.c.1
  have hcb : c ≠ b := ne_cells H.c.1 hc (by simp)
  have hclt := lt_of_cell hc
  have HH := Lib.hid H
  have CI0 := Lib.hid (fun w => into_int (ptr b 0) (fnv 61) rfl rfl w)
  have CI1 := Lib.hid (fun w => into_int (ptr b 1) (fnv 61) rfl rfl w)
  have CI2 := Lib.hid (fun w => into_str (ptr b 2) (fnv 63) rfl rfl w)
  have CI3 := Lib.hid (fun w => into_bool (ptr b 6) (fnv 65) rfl rfl w)
  have CI4 := Lib.hid (fun w => makes_set (ptr b 0) rfl w)
  have MK := Lib.hid (show ∀ w', But (MV b) w w' → (But (MV b) w w' ∧ w'.cell? ⟨c, 0, none⟩ = some (ptr b 0)) from fun w' h => ⟨h, h.keep hc (fun hm => hcb hm.1)⟩)
  have RD := Lib.hid (fun (w1 : World) (g c4 t0 k0 t1 k1 t2 k2 t3 k3 : Nat) (hb : Below w.heap.size w w1) => read_ver w1 b g c4 noV s hs t0 k0 t1 k1 t2 k2 t3 k3 (HH.out.below hb) ⟨rfl, rfl, rfl⟩)
  clear H hcb hclt hblt
  go_enter Try.func60, Try.ntmps60
  go_wp2_with fail
  go_region_held3 (fun w' => But (MV b) w w' ∧ w'.cell? ⟨c, 0, none⟩ = some (ptr b 0))
    (first | exact MK.out _ (But.of_below ((bl w).drew)) | exact MK.out _ hbut | exact MK.out _ (But.of_below (hb6.alloc hb6.size _)) | exact MK.out _ (But.of_below (hb6.alloc hb6.size _).drew) | exact MK.out _ (But.of_below hb6) | exact MK.out _ (But.of_below hb5) | exact MK.out _ (But.of_below hb4) | exact MK.out _ (But.of_below hb3) | exact MK.out _ (But.of_below hb2) | fail)
    (first
      | (go_at_call 46; (with_reducible refine (CI0.out _).mono ?_); (rintro e w2 ⟨t0, k0, rfl, i0, hb0⟩); (have hb2 := chain ((bl w).drew) hb0); clear hb0)
      | (go_at_call 46; (with_reducible refine (CI1.out _).mono ?_); (rintro e w3 ⟨t1, k1, rfl, i1, hb0⟩); (have i0b := i0.below hb0); (have hb3 := chain hb2 hb0); clear hb0)
      | (go_at_call 62; (with_reducible refine (CI2.out _).mono ?_); (rintro e w4 ⟨t2, k2, rfl, i2, hb0⟩); (have i0c := i0b.below hb0); (have i1c := i1.below hb0); (have hb4 := chain hb3 hb0); clear hb0)
      | (go_at_call 64; (with_reducible refine (CI3.out _).mono ?_); (rintro e w5 ⟨t3, k3, rfl, i3, hb0⟩); (have i0d := i0c.below hb0); (have i1d := i1c.below hb0); (have i2d := i2.below hb0); (have hb5 := chain hb4 hb0); clear hb0)
      | (go_at_call 66; (with_reducible refine (CI4.out _).mono ?_); (rintro e w6 ⟨c4, rfl, i4, hb0⟩); (have i0e := i0d.below hb0); (have i1e := i1d.below hb0); (have i2e := i2d.below hb0); (have i3e := i3.below hb0); (have hb6 := chain hb5 hb0); clear hb0)
      | (go_at_call 40; (with_reducible refine (RD.out _ _ c4 t0 k0 t1 k1 t2 k2 t3 k3 (hb6.alloc hb6.size _) (i0e.below ((bl w6).alloc (Nat.le_refl _) _)) (i1e.below ((bl w6).alloc (Nat.le_refl _) _)) (i2e.below ((bl w6).alloc (Nat.le_refl _) _)) (i3e.below ((bl w6).alloc (Nat.le_refl _) _)) (keepc ((bl w6).alloc (Nat.le_refl _) _) i4) (by simp [go_sem]) (by simp [go_sem]) (by simp [go_sem]) (by simp [go_sem]) (by simp [go_sem])).mono ?_); (rintro e w7 ⟨r, m, rfl, hpost⟩); (have hp := VerPost.of hpost); (obtain ⟨hbut7, hc7⟩ := hp); (have hbut := But.ahead (hb6.alloc hb6.size _) hbut7); clear hpost)
      | fail)
  have HE := Lib.hid (show VerPost b w.heap.size w (rdV s) r m w7 from ⟨hbut, by
    rcases hc7 with ⟨h0, hr, v, hH, hF, hT⟩ | ⟨h0, hT⟩
    · exact .inl ⟨h0, hr, v, hH, ⟨hF.1, fun a ha => Nat.le_trans (hb6.alloc hb6.size _).size (hF.2 a ha)⟩, hT⟩
    · exact .inr ⟨h0, hT⟩⟩)
  clear hc7 hbut hbut7 i0 i0b i0c i0d i0e i1 i1c i1d i1e i2 i2d i2e i3 i3e i4
  go_wp2_with fail
  go_ret2
  exact ⟨_, _, rfl, HE.out⟩

end Go.Proofs.Ytepjhkcnhahhiaa

/-
  The program's Take and TakeRow, and its nine calls as the laws want them.
-/
namespace Go.Proofs.Ytepjhkcnhahhiaa
open Go.RowKit

theorem prightv_any (v : Vr) (w : World) (hv : VF w v) (hok : okF v.fs) (hn : v.fs.length ≤ 9223372036854775807) (hz : v.ent.size ≤ 9223372036854775807) : Ret 8 #[vv v] w (.int .i64 ((rightV v : Nat) : Int)) := pright_ab v w hv hok hn hz
theorem prightr_any (r : Rw) (w : World) (hv : VF w r.v) (hok : okF r.v.fs) (hn : r.v.fs.length ≤ 9223372036854775807) (hz : r.v.ent.size ≤ 9223372036854775807) : Ret 10 #[rv r] w (.int .i64 ((rightR r : Nat) : Int)) := pright_row r w hv hok hn hz

theorem HoldV.but {M : Nat → Nat → Prop} {w w' : World} {g : Nat} {v : Vr} (h : HoldV w g v) (hb : But M w w') (hM : ∀ o, ¬ M g o) : HoldV w' g v :=
  have hg := lt_of_cell h.c.1
  ⟨⟨hb.keep h.c.1 (hM _), hb.keep h.c.2.1 (hM _), hb.keep h.c.2.2.1 (hM _), hb.keep h.c.2.2.2.1 (hM _), hb.keep h.c.2.2.2.2.1 (hM _), hb.keep h.c.2.2.2.2.2.1 (hM _), hb.keep h.c.2.2.2.2.2.2 (hM _)⟩,
   (hb.frz _ _ hg).trans h.f.1, (hb.frz _ _ hg).trans h.f.2.1, (hb.frz _ _ hg).trans h.f.2.2.1, (hb.frz _ _ hg).trans h.f.2.2.2.1, (hb.frz _ _ hg).trans h.f.2.2.2.2.1, (hb.frz _ _ hg).trans h.f.2.2.2.2.2.1, (hb.frz _ _ hg).trans h.f.2.2.2.2.2.2⟩
theorem seven_but {M : Nat → Nat → Prop} {w : World} {b : Nat} (hM : ∀ o, M b o) (x0 x1 x2 x3 x4 x5 x6 : Value) : But M w (((((((w.setCell ⟨b, 0, none⟩ x0).setCell ⟨b, 1, none⟩ x1).setCell ⟨b, 2, none⟩ x2).setCell ⟨b, 3, none⟩ x3).setCell ⟨b, 4, none⟩ x4).setCell ⟨b, 5, none⟩ x5).setCell ⟨b, 6, none⟩ x6) := (((((((But.refl _ _).set (hM _) _).set (hM _) _).set (hM _) _).set (hM _) _).set (hM _) _).set (hM _) _).set (hM _) _
theorem eight_but {M : Nat → Nat → Prop} {w : World} {b : Nat} (hM : ∀ o, M b o) (x0 x1 x2 x3 x4 x5 x6 x7 : Value) : But M w ((((((((w.setCell ⟨b, 0, none⟩ x0).setCell ⟨b, 1, none⟩ x1).setCell ⟨b, 2, none⟩ x2).setCell ⟨b, 3, none⟩ x3).setCell ⟨b, 4, none⟩ x4).setCell ⟨b, 5, none⟩ x5).setCell ⟨b, 6, none⟩ x6).setCell ⟨b, 7, none⟩ x7) := ((((((((But.refl _ _).set (hM _) _).set (hM _) _).set (hM _) _).set (hM _) _).set (hM _) _).set (hM _) _).set (hM _) _).set (hM _) _
/-- A version that says nothing. -/
abbrev oc0 : Obj := .cells #[.int .i64 0, .int .i64 0, .string ⟨#[]⟩, .int .i64 0, .int .i64 0, .slice none 0 0, .bool false] 26
theorem hold0_new (w : World) : HoldV (w.alloc oc0) w.heap.size noV := holdV_new w noV
/-- What the reader of a version leaves. -/
def TakePostV (b : Nat) (w : World) (t : TV) (r : ByteArray) (m : Nat) (w' : World) : Prop := But (MV b) w w' ∧ ((m = 0 ∧ ∃ v, HoldV w' b v ∧ FarF w.heap.size w' v ∧ (contV v, r, 0) = t) ∨ (m ≠ 0 ∧ badV m = t))
def RTake (b : Nat) (w : World) (s : ByteArray) (k : Nat) (r : ByteArray) (w' : World) : Prop := But (MV b) w w' ∧
  ((k = 0 ∧ HoldV w' b noV ∧ r = s) ∨ (k = 1 ∧ ∃ v, HoldV w' b v ∧ FarF w.heap.size w' v ∧ (contV v, r, 0) = rdV s) ∨ (k = 2 ∧ ∃ v, HoldV w' b v ∧ FarF w.heap.size w' v ∧ (contV v, r, 0) = takeVs s))
theorem gv_cont {s r : ByteArray} {v : Vr} (hs : s.size ≤ 4611686018427387903) (h : (contV v, r, 0) = rdV s) : GV v := by
  have := rdV_gv (s := s) (by omega)
  rw [← h] at this
  exact this

theorem read_take (w : World) (b g c h1 : Nat) (s : ByteArray) (hs : s.size ≤ 4611686018427387903) (H : HoldV w b noV) (hc : w.cell? ⟨c, 0, none⟩ = some (ptr b 0)) (hh : w.cell? ⟨h1, 0, none⟩ = some (.func (.func 43) #[] #[ptr b 0]))
    (c0 : w.cell? ⟨g, 0, none⟩ = some (.func (.func 60) #[] #[ptr c 0])) (c1 : w.cell? ⟨g, 1, none⟩ = some (.func (.func 67) #[] #[ptr h1 0])) :
    Calls Try.prog 40 #[.string s, .slice (some ⟨g, 0, none⟩) 2 2] w fun e w' => ∃ r n, e = .returned (.tuple #[.string r, .int .i64 ((n : Nat) : Int)]) ∧ TakePostV b w (takeVs s) r n w' := by
  have hb0 := H.c.1
  have nb : ∀ {c o : Nat} {u : Value}, w.cell? ⟨c, 0, none⟩ = some u → (∀ x, u ≠ .int .i64 x) → ∀ {w' : World} {u' : Value}, But (MV b) w w' → w.cell? ⟨c, o, none⟩ = some u' → w'.cell? ⟨c, o, none⟩ = some u' := fun {c o u} h0 hu {w' u'} hbut hc => by
    have n1 : c ≠ b := ne_cells hb0 h0 (fun e => hu _ e.symm)
    exact hbut.keep hc (fun hm => n1 hm.1)
  have eT := takeVs_rd s
  refine (read_any w s g 2 (by omega) (RTake b w s) (fun n w' => But (MV b) w w' ∧ takeVs s = badV n) ⟨But.refl _ _, .inl ⟨rfl, H, rfl⟩⟩ ?_).mono ?_
  · rintro k r w' hk ⟨hbut, hcase⟩
    rcases hcase with ⟨rfl, hH, rfl⟩ | ⟨rfl, v, hH, hF, hE⟩ | ⟨rfl, _⟩
    · refine ⟨_, _, nb c0 (fun _ => by simp) hbut c0, enters_of Try.func60 (by kernel_rfl) rfl, ?_⟩
      refine (pver1 w' b c r hs hH (nb hc (fun _ => by simp) hbut hc)).mono ?_
      rintro e w3 ⟨r3, m, rfl, hbut3, hc3⟩
      refine ⟨r3, m, rfl, ?_⟩
      rcases hc3 with ⟨h0, hr, v, hH3, hF3, hT⟩ | ⟨h0, hT⟩
      · exact .inl ⟨h0, hbut.trans hbut3, .inr (.inl ⟨rfl, v, hH3, ⟨hF3.1, fun a ha => Nat.le_trans hbut.size (hF3.2 a ha)⟩, hT⟩)⟩
      · refine .inr ⟨h0, hbut.trans hbut3, ?_⟩
        rw [eT, lookV, if_pos (by rw [hT]; exact h0), hT]
    · refine ⟨_, _, nb c0 (fun _ => by simp) hbut c1, enters_of Try.func67 (by kernel_rfl) rfl, ?_⟩
      have hg := gv_cont hs hE
      refine (hold_any 43 b h1 (enters_of Try.func43 (by kernel_rfl) rfl) r (rightV v) w' (nb hh (fun _ => by simp) hbut hh) (take1_any b v w' hH.c hF.1 hg.1 (by have := hg.2.1; omega) hg.2.2)).mono ?_
      rintro e w3 ⟨rfl, hb3⟩
      refine ⟨r, mayE (rightV v), rfl, ?_⟩
      have eT2 : takeVs s = if rightV v = 0 then (contV v, r, 0) else badV 8 := by
        rw [eT, lookV, ← hE]
        rw [if_neg (show ¬ (0 : Nat) ≠ 0 from fun h => h rfl)]
        rfl
      by_cases h0 : rightV v = 0
      · rw [if_pos h0] at eT2
        exact .inl ⟨by rw [h0]; rfl, hbut.trans (But.of_below hb3), .inr (.inr ⟨rfl, v, hH.below hb3, hF.below hb3, eT2.symm⟩)⟩
      · rw [if_neg h0] at eT2
        have e8 : mayE (rightV v) = 8 := by unfold mayE; rw [if_neg h0]
        exact .inr ⟨by rw [e8]; decide, hbut.trans (But.of_below hb3), by rw [e8, eT2]⟩
    · exact absurd hk (by omega)
  · rintro e w' ⟨r, n, rfl, hc⟩
    refine ⟨r, n, rfl, ?_⟩
    rcases hc with ⟨h0, hbut, hcase⟩ | ⟨h0, _, hbut, hT⟩
    · rcases hcase with ⟨h, _⟩ | ⟨h, _⟩ | ⟨_, v, hH, hF, hE⟩
      · exact absurd h (by decide)
      · exact absurd h (by decide)
      · exact ⟨hbut, .inl ⟨h0, v, hH, hF, hE⟩⟩
    · exact ⟨hbut, .inr ⟨h0, hT.symm⟩⟩

set_option maxHeartbeats 4000000 in
set_option maxRecDepth 100000 in
theorem ptakevs_any (s : ByteArray) (hs : s.size ≤ 4611686018427387903) (w : World) : Calls Try.prog 20 #[.string s] w fun e w' => ∃ x, e = .returned (.tuple #[vv x, .string (takeVs s).2.1, .int .i64 (((takeVs s).2.2 : Nat) : Int)]) ∧ contV x = (takeVs s).1 ∧ VF w' x ∧ Below w.heap.size w w' := by
  obtain ⟨W, hW⟩ : ∃ W, (w.alloc oc0).alloc oc0 = W := ⟨_, rfl⟩
  have HW := Lib.hid hW
  have HBW := Lib.hid (show Below w.heap.size w W by rw [← hW]; exact ((bl w).alloc (Nat.le_refl _) _).alloc (by simp) _)
  have HSZ := Lib.hid (show W.heap.size = w.heap.size + 2 by rw [← hW]; simp)
  have HR := Lib.hid (show HoldV W w.heap.size noV by rw [← hW]; exact (hold0_new w).below ((bl _).alloc (Nat.le_refl _) _))
  have HV := Lib.hid (show HoldV W (w.heap.size + 1) noV by
    have := hold0_new (w.alloc oc0)
    rw [show (w.alloc oc0).heap.size = w.heap.size + 1 by simp, hW] at this
    exact this)
  have CV := Lib.hid (fun w' => makes_ver (ptr (w.heap.size + 1) 0) rfl w')
  have CH := Lib.hid (fun w' => makes_hold (.func (.func 43) #[] #[ptr (w.heap.size + 1) 0]) rfl w')
  have RD := Lib.hid (fun (w1 : World) (g c h1 : Nat) (hb : Below W.heap.size W w1) => read_take w1 (w.heap.size + 1) g c h1 s hs (HV.out.below hb))
  clear hW
  go_enter Try.func20, Try.ntmps20
  go_upto_region 2 with fail
  rw [HW.out]
  go_wp2_with (first
    | (go_at_call 41; (with_reducible refine (CV.out _).mono ?_); rintro e w2 ⟨c, rfl, hc2, hb2⟩)
    | (go_at_call 42; (with_reducible refine (CH.out _).mono ?_); rintro e w3 ⟨h1, rfl, hh3, hb3⟩; have hc3 := keepc hb3 hc2; have hbb := chain hb2 hb3))
  go_at_call 40
  refine (RD.out _ _ c h1 (hbb.alloc hbb.size _) (keepc ((bl w3).alloc (Nat.le_refl _) _) hc3) (keepc ((bl w3).alloc (Nat.le_refl _) _) hh3) (by simp [go_sem]) (by simp [go_sem])).mono ?_
  rintro e w4 ⟨r, m, rfl, hbut, hcase⟩
  have hbw := hbb.alloc hbb.size (.cells #[.func (.func 60) #[] #[ptr c 0], .func (.func 67) #[] #[ptr h1 0]] 64)
  have hR4 := (HR.out.below hbw).but hbut (fun o hm => by have := hm.1; omega)
  have HB4 := Lib.hid (show Below w.heap.size w w4 from HBW.out.trans ((But.ahead hbw hbut).below (by have := HSZ.out; omega) (fun c o hm => by have := hm.1; omega)))
  obtain ⟨⟨k0, k1, k2, k3, k4, k5, k6⟩, ⟨f0, f1, f2, f3, f4, f5, f6⟩⟩ := hR4
  have HS4 := Lib.hid (show w.heap.size < (w3.alloc (.cells #[.func (.func 60) #[] #[ptr c 0], .func (.func 67) #[] #[ptr h1 0]] 64)).heap.size by have h2 := hbb.size; have := HSZ.out; simp; omega)
  rcases hcase with ⟨rfl, v, hH, hF, hE⟩ | ⟨h0, hE⟩
  · obtain ⟨x0, x1, x2, x3, x4, x5, x6⟩ := hH.c
    have HE := Lib.hid hE
    have HF := Lib.hid hF
    clear hH hF hE hbut hbw hbb hc2 hc3 hh3 hb2 hb3
    go_wp2_with fail
    obtain ⟨q0, q1, q2, q3, q4, q5, q6⟩ := seven_store (.int .i64 v.id) (.int .i64 v.st) (.string v.ent) (.int .i64 v.sf) (.int .i64 v.se) (.slice v.fa v.fs.length v.fc) (.bool v.gone) k0 k1 k2 k3 k4 k5 k6
    refine bodyPost_ret (v := .tuple #[vv v, .string r, .int .i64 0]) (by simp [results, Try.results20, go_sem, q0, q1, q2, q3, q4, q5, q6]) rfl ⟨v, by rw [← HE.out]; rfl, by rw [← HE.out], ?_, seven_below HB4.out (Nat.le_refl _)⟩
    exact (HF.out.but (M := fun c _ => c = w.heap.size) (seven_but (fun _ => rfl) _ _ _ _ _ _ _) (fun c o hm => by have := HS4.out; omega)).1
  · have HE := Lib.hid hE
    have h0' : ¬ (m : Int) = 0 := by omega
    clear hE hbut hbw hbb hc2 hc3 hh3 hb2 hb3
    go_wp2_with fail
    obtain ⟨q0, q1, q2, q3, q4, q5, q6⟩ := seven_store (.int .i64 0) (.int .i64 0) (.string ⟨#[]⟩) (.int .i64 0) (.int .i64 0) (.slice none 0 0) (.bool false) k0 k1 k2 k3 k4 k5 k6
    refine bodyPost_ret (v := .tuple #[vv noV, .string ⟨#[]⟩, .int .i64 (m : Int)]) (by simp [results, Try.results20, go_sem, q0, q1, q2, q3, q4, q5, q6, noV]) rfl ⟨noV, by rw [← HE.out]; rfl, by rw [← HE.out]; rfl, (FarF.nil (n := 0) _ noV rfl rfl rfl).1, seven_below HB4.out (Nat.le_refl _)⟩

theorem HoldV.at7 {w : World} {b : Nat} {v : Vr} (h : HoldV w b v) (u : Value) : HoldV (w.setCell ⟨b, 7, none⟩ u) b v :=
  ⟨⟨(World.cell?_setCell_other _ ⟨b, 7, none⟩ ⟨b, 0, none⟩ _ (by simp)).trans (h.c.1), (World.cell?_setCell_other _ ⟨b, 7, none⟩ ⟨b, 1, none⟩ _ (by simp)).trans (h.c.2.1), (World.cell?_setCell_other _ ⟨b, 7, none⟩ ⟨b, 2, none⟩ _ (by simp)).trans (h.c.2.2.1), (World.cell?_setCell_other _ ⟨b, 7, none⟩ ⟨b, 3, none⟩ _ (by simp)).trans (h.c.2.2.2.1), (World.cell?_setCell_other _ ⟨b, 7, none⟩ ⟨b, 4, none⟩ _ (by simp)).trans (h.c.2.2.2.2.1), (World.cell?_setCell_other _ ⟨b, 7, none⟩ ⟨b, 5, none⟩ _ (by simp)).trans (h.c.2.2.2.2.2.1), (World.cell?_setCell_other _ ⟨b, 7, none⟩ ⟨b, 6, none⟩ _ (by simp)).trans (h.c.2.2.2.2.2.2)⟩, (World.frozen?_setCell _ _ _ _).trans (h.f.1), (World.frozen?_setCell _ _ _ _).trans (h.f.2.1), (World.frozen?_setCell _ _ _ _).trans (h.f.2.2.1), (World.frozen?_setCell _ _ _ _).trans (h.f.2.2.2.1), (World.frozen?_setCell _ _ _ _).trans (h.f.2.2.2.2.1), (World.frozen?_setCell _ _ _ _).trans (h.f.2.2.2.2.2.1), (World.frozen?_setCell _ _ _ _).trans (h.f.2.2.2.2.2.2)⟩
abbrev MRw (b : Nat) : Nat → Nat → Prop := fun c _ => c = b
def TakePostR (b : Nat) (w : World) (t : TR) (r : ByteArray) (m : Nat) (w' : World) : Prop := But (MRw b) w w' ∧ ((m = 0 ∧ ∃ v un, HoldV w' b v ∧ w'.cell? ⟨b, 7, none⟩ = some (.int .i64 un) ∧ FarF w.heap.size w' v ∧ ((⟨contV v, un⟩ : Rw), r, 0) = t) ∨ (m ≠ 0 ∧ badR m = t))
def RTakeR (b : Nat) (w : World) (s : ByteArray) (k : Nat) (r : ByteArray) (w' : World) : Prop := But (MRw b) w w' ∧ w'.frozen? ⟨b, 7, none⟩ = false ∧
  ((k = 0 ∧ HoldV w' b noV ∧ (∃ x, w'.cell? ⟨b, 7, none⟩ = some (.int .i64 x)) ∧ r = s) ∨
   (k = 1 ∧ ∃ v, HoldV w' b v ∧ (∃ x, w'.cell? ⟨b, 7, none⟩ = some (.int .i64 x)) ∧ FarF w.heap.size w' v ∧ r.size ≤ 4611686018427387903 ∧ (contV v, r, 0) = rdV s) ∨
   (k = 2 ∧ ∃ v un, HoldV w' b v ∧ w'.cell? ⟨b, 7, none⟩ = some (.int .i64 un) ∧ FarF w.heap.size w' v ∧ GV v ∧ takeRp s = endR ⟨contV v, un⟩ r) ∨
   (k = 3 ∧ ∃ v un, HoldV w' b v ∧ w'.cell? ⟨b, 7, none⟩ = some (.int .i64 un) ∧ FarF w.heap.size w' v ∧ ((⟨contV v, un⟩ : Rw), r, 0) = takeRp s))

set_option maxHeartbeats 1000000 in
theorem read_taker (w : World) (b g c h1 t1 k1 : Nat) (s : ByteArray) (hs : s.size ≤ 4611686018427387903) (H : HoldV w b noV) (x7 : Int) (H7 : w.cell? ⟨b, 7, none⟩ = some (.int .i64 x7)) (F7 : w.frozen? ⟨b, 7, none⟩ = false)
    (hc : w.cell? ⟨c, 0, none⟩ = some (ptr b 0)) (hh : w.cell? ⟨h1, 0, none⟩ = some (.func (.func 48) #[] #[ptr b 0])) (i1 : InBox w t1 k1 (fnv 47) (ptr b 7))
    (c0 : w.cell? ⟨g, 0, none⟩ = some (.func (.func 60) #[] #[ptr c 0])) (c1 : w.cell? ⟨g, 1, none⟩ = some (.func (.func 70) #[] #[ptr t1 0, ptr k1 0])) (c2 : w.cell? ⟨g, 2, none⟩ = some (.func (.func 67) #[] #[ptr h1 0])) :
    Calls Try.prog 40 #[.string s, .slice (some ⟨g, 0, none⟩) 3 3] w fun e w' => ∃ r n, e = .returned (.tuple #[.string r, .int .i64 ((n : Nat) : Int)]) ∧ TakePostR b w (takeRp s) r n w' := by
  have hb0 := H.c.1
  have nb : ∀ {c o : Nat} {u : Value}, w.cell? ⟨c, 0, none⟩ = some u → (∀ x, u ≠ .int .i64 x) → ∀ {w' : World} {u' : Value}, But (MRw b) w w' → w.cell? ⟨c, o, none⟩ = some u' → w'.cell? ⟨c, o, none⟩ = some u' := fun {c o u} h0 hu {w' u'} hbut hc => by
    have n1 : c ≠ b := ne_cells hb0 h0 (fun e => hu _ e.symm)
    exact hbut.keep hc (fun hm => n1 hm)
  have hblt := lt_of_cell hb0
  refine (read_any w s g 3 (by omega) (RTakeR b w s) (fun n w' => But (MRw b) w w' ∧ takeRp s = badR n) ⟨But.refl _ _, F7, .inl ⟨rfl, H, ⟨x7, H7⟩, rfl⟩⟩ ?_).mono ?_
  · rintro k r w' hk ⟨hbut, hf7, hcase⟩
    rcases hcase with ⟨rfl, hH, ⟨x, h7⟩, rfl⟩ | ⟨rfl, v, hH, ⟨x, h7⟩, hF, hr, hE⟩ | ⟨rfl, v, un, hH, h7, hF, hg, hE⟩ | ⟨rfl, _⟩
    · refine ⟨_, _, nb c0 (fun _ => by simp) hbut c0, enters_of Try.func60 (by kernel_rfl) rfl, ?_⟩
      refine (pver1 w' b c r hs hH (nb hc (fun _ => by simp) hbut hc)).mono ?_
      rintro e w3 ⟨r3, m, rfl, hbut3, hc3⟩
      refine ⟨r3, m, rfl, ?_⟩
      have hb4 : But (MRw b) w w3 := hbut.trans (hbut3.mono (fun c o _ hm => hm.1))
      have h74 := hbut3.keep h7 (fun hm => by have := hm.2; omega)
      have hf4 := (hbut3.frz b 7 (lt_of_cell h7)).trans hf7
      rcases hc3 with ⟨h0, hr, v, hH3, hF3, hT⟩ | ⟨h0, hT⟩
      · exact .inl ⟨h0, hb4, hf4, .inr (.inl ⟨rfl, v, hH3, ⟨x, h74⟩, ⟨hF3.1, fun a ha => Nat.le_trans hbut.size (hF3.2 a ha)⟩, hr, hT⟩)⟩
      · refine .inr ⟨h0, hb4, ?_⟩
        rw [takeRp, if_pos (by rw [hT]; exact h0), hT]
    · refine ⟨_, _, nb c0 (fun _ => by simp) hbut c1, enters_of Try.func70 (by kernel_rfl) rfl, ?_⟩
      refine (keep_int 47 (enters_of Try.func47 (by kernel_rfl) rfl) r (tkR r) (untilI (tkN r)) (tkE r) (fun w => takeun_any r hr w) w' t1 k1 b 7 _ ⟨nb i1.t (fun _ => by simp) hbut i1.t, nb i1.k (fun _ => by simp) hbut i1.k⟩ h7 hf7).mono ?_
      rintro e w3 ⟨rfl, w2, hb2, rfl⟩
      refine ⟨_, _, rfl, ?_⟩
      have hb4 : But (MRw b) w (w2.setCell ⟨b, 7, none⟩ (.int .i64 (untilI (tkN r)))) := (hbut.trans (But.of_below hb2)).set (b := b) (o := 7) rfl _
      have eT : takeRp s = if tkE r ≠ 0 then badR (tkE r) else endR ⟨contV v, untilI (tkN r)⟩ (tkR r) := by
        rw [takeRp, ← hE, if_neg (show ¬ (0 : Nat) ≠ 0 from fun h => h rfl)]
      by_cases h0 : tkE r = 0
      · rw [if_neg (fun h => h h0)] at eT
        refine .inl ⟨h0, hb4, (World.frozen?_setCell _ _ _ _).trans (keepf hb2 (lt_of_cell h7) hf7), .inr (.inr (.inl ⟨rfl, v, _, ?_, World.cell?_setCell_same _ _ _ (keepc hb2 h7), ?_, gv_cont hs hE, eT⟩))⟩
        · have h8 := hH.below hb2
          exact h8.at7 _
        · exact (hF.below hb2).but (M := MRw b) ((But.refl _ w2).set (b := b) (o := 7) rfl _) (fun c o hm => by have : c = b := hm; omega)
      · rw [if_pos h0] at eT
        exact .inr ⟨h0, hb4, eT⟩
    · refine ⟨_, _, nb c0 (fun _ => by simp) hbut c2, enters_of Try.func67 (by kernel_rfl) rfl, ?_⟩
      refine (hold_any 48 b h1 (enters_of Try.func48 (by kernel_rfl) rfl) r (rightR ⟨v, un⟩) w' (nb hh (fun _ => by simp) hbut hh) (takerow1_any b ⟨v, un⟩ w' ⟨hH.c, h7⟩ hF.1 hg.1 (Nat.le_trans hg.2.1 (by decide)) hg.2.2)).mono ?_
      rintro e w3 ⟨rfl, hb3⟩
      refine ⟨r, mayE (rightR ⟨v, un⟩), rfl, ?_⟩
      have eT2 : takeRp s = if rightR ⟨v, un⟩ = 0 then ((⟨contV v, un⟩ : Rw), r, 0) else badR 8 := hE
      by_cases h0 : rightR ⟨v, un⟩ = 0
      · rw [if_pos h0] at eT2
        exact .inl ⟨by rw [h0]; rfl, hbut.trans (But.of_below hb3), keepf hb3 (lt_of_cell h7) hf7, .inr (.inr (.inr ⟨rfl, v, un, hH.below hb3, keepc hb3 h7, hF.below hb3, eT2.symm⟩))⟩
      · rw [if_neg h0] at eT2
        have e8 : mayE (rightR ⟨v, un⟩) = 8 := by unfold mayE; rw [if_neg h0]
        exact .inr ⟨by rw [e8]; decide, hbut.trans (But.of_below hb3), by rw [e8, eT2]⟩
    · exact absurd hk (by omega)
  · rintro e w' ⟨r, n, rfl, hc⟩
    refine ⟨r, n, rfl, ?_⟩
    rcases hc with ⟨h0, hbut, _, hcase⟩ | ⟨h0, _, hbut, hT⟩
    · rcases hcase with ⟨h, _⟩ | ⟨h, _⟩ | ⟨h, _⟩ | ⟨_, v, un, hH, h7, hF, hE⟩
      · exact absurd h (by decide)
      · exact absurd h (by decide)
      · exact absurd h (by decide)
      · exact ⟨hbut, .inl ⟨h0, v, un, hH, h7, hF, hE⟩⟩
    · exact ⟨hbut, .inr ⟨h0, hT.symm⟩⟩

abbrev oc0R : Obj := .cells #[.int .i64 0, .int .i64 0, .string ⟨#[]⟩, .int .i64 0, .int .i64 0, .slice none 0 0, .bool false, .int .i64 0] 28
theorem hold0R_new (w : World) : HoldV (w.alloc oc0R) w.heap.size noV ∧ (w.alloc oc0R).cell? ⟨w.heap.size, 7, none⟩ = some (.int .i64 0) ∧ (w.alloc oc0R).frozen? ⟨w.heap.size, 7, none⟩ = false :=
  ⟨⟨⟨by simp [go_sem, noV], by simp [go_sem, noV], by simp [go_sem, noV], by simp [go_sem, noV], by simp [go_sem, noV], by simp [go_sem, noV], by simp [go_sem, noV]⟩, ⟨by simp [go_sem], by simp [go_sem], by simp [go_sem], by simp [go_sem], by simp [go_sem], by simp [go_sem], by simp [go_sem]⟩⟩, by simp [go_sem], by simp [go_sem]⟩

set_option maxHeartbeats 4000000 in
set_option maxRecDepth 100000 in
theorem ptakers_any (s : ByteArray) (hs : s.size ≤ 4611686018427387903) (w : World) : Calls Try.prog 24 #[.string s] w fun e w' => ∃ x, e = .returned (.tuple #[rv x, .string (takeRp s).2.1, .int .i64 (((takeRp s).2.2 : Nat) : Int)]) ∧ contR x = (takeRp s).1 ∧ VF w' x.v ∧ Below w.heap.size w w' := by
  obtain ⟨W, hW⟩ : ∃ W, (w.alloc oc0R).alloc oc0R = W := ⟨_, rfl⟩
  have HW := Lib.hid hW
  have HBW := Lib.hid (show Below w.heap.size w W by rw [← hW]; exact ((bl w).alloc (Nat.le_refl _) _).alloc (by simp) _)
  have HSZ := Lib.hid (show W.heap.size = w.heap.size + 2 by rw [← hW]; simp)
  have HR := Lib.hid (show HoldV W w.heap.size noV ∧ W.cell? ⟨w.heap.size, 7, none⟩ = some (.int .i64 0) ∧ W.frozen? ⟨w.heap.size, 7, none⟩ = false by
    rw [← hW]
    have h := hold0R_new w
    have hb := (bl (w.alloc oc0R)).alloc (Nat.le_refl _) oc0R
    exact ⟨h.1.below hb, keepc hb h.2.1, keepf hb (lt_of_cell h.2.1) h.2.2⟩)
  have HV := Lib.hid (show HoldV W (w.heap.size + 1) noV ∧ W.cell? ⟨w.heap.size + 1, 7, none⟩ = some (.int .i64 0) ∧ W.frozen? ⟨w.heap.size + 1, 7, none⟩ = false by
    have := hold0R_new (w.alloc oc0R)
    rw [show (w.alloc oc0R).heap.size = w.heap.size + 1 by simp, hW] at this
    exact this)
  have CV := Lib.hid (fun w' => makes_ver (ptr (w.heap.size + 1) 0) rfl w')
  have CI := Lib.hid (fun w' => into_int (ptr (w.heap.size + 1) 7) (fnv 47) rfl rfl w')
  have CH := Lib.hid (fun w' => makes_hold (.func (.func 48) #[] #[ptr (w.heap.size + 1) 0]) rfl w')
  have RD := Lib.hid (fun (w1 : World) (g c h1 t1 k1 : Nat) (hb : Below W.heap.size W w1) => read_taker w1 (w.heap.size + 1) g c h1 t1 k1 s hs (HV.out.1.below hb) 0 (keepc hb HV.out.2.1) (keepf hb (lt_of_cell HV.out.2.1) HV.out.2.2))
  clear hW
  go_enter Try.func24, Try.ntmps24
  go_upto_region 2 with fail
  rw [HW.out]
  go_wp2_with (first
    | (go_at_call 41; (with_reducible refine (CV.out _).mono ?_); rintro e w2 ⟨c, rfl, hc2, hb2⟩)
    | (go_at_call 46; (with_reducible refine (CI.out _).mono ?_); rintro e w3 ⟨t1, k1, rfl, i1, hb0⟩; have hc3 := keepc hb0 hc2; have hb3 := chain hb2 hb0; clear hb0)
    | (go_at_call 42; (with_reducible refine (CH.out _).mono ?_); rintro e w4 ⟨h1, rfl, hh4, hb0⟩; have hc4 := keepc hb0 hc3; have i4 := i1.below hb0; have hbb := chain hb3 hb0; clear hb0))
  go_at_call 40
  refine (RD.out _ _ c h1 t1 k1 (hbb.alloc hbb.size _) (keepc ((bl w4).alloc (Nat.le_refl _) _) hc4) (keepc ((bl w4).alloc (Nat.le_refl _) _) hh4) (i4.below ((bl w4).alloc (Nat.le_refl _) _)) (by simp [go_sem]) (by simp [go_sem]) (by simp [go_sem])).mono ?_
  rintro e w5 ⟨r, m, rfl, hbut, hcase⟩
  have hbw := hbb.alloc hbb.size (.cells #[.func (.func 60) #[] #[ptr c 0], .func (.func 70) #[] #[ptr t1 0, ptr k1 0], .func (.func 67) #[] #[ptr h1 0]] 64)
  have hR4 := (HR.out.1.below hbw).but hbut (fun o hm => by have : w.heap.size = w.heap.size + 1 := hm; omega)
  have k7 := hbut.keep (keepc hbw HR.out.2.1) (fun hm => by have : w.heap.size = w.heap.size + 1 := hm; omega)
  have f7 := (hbut.frz w.heap.size 7 (lt_of_cell (keepc hbw HR.out.2.1))).trans (keepf hbw (lt_of_cell HR.out.2.1) HR.out.2.2)
  have HB4 := Lib.hid (show Below w.heap.size w w5 from HBW.out.trans ((But.ahead hbw hbut).below (by have := HSZ.out; omega) (fun c o hm => by have : c = w.heap.size + 1 := hm; omega)))
  obtain ⟨⟨k0, k1', k2, k3, k4, k5, k6⟩, ⟨f0, f1, f2, f3, f4, f5, f6⟩⟩ := hR4
  have HS4 := Lib.hid (show w.heap.size < (w4.alloc (.cells #[.func (.func 60) #[] #[ptr c 0], .func (.func 70) #[] #[ptr t1 0, ptr k1 0], .func (.func 67) #[] #[ptr h1 0]] 64)).heap.size by have h2 := hbb.size; have := HSZ.out; simp; omega)
  rcases hcase with ⟨rfl, v, un, hH, h7, hF, hE⟩ | ⟨h0, hE⟩
  · obtain ⟨x0, x1, x2, x3, x4, x5, x6⟩ := hH.c
    have HE := Lib.hid hE
    have HF := Lib.hid hF
    clear hH hF hE hbut hbw hbb hc2 hc3 hc4 hh4 hb2 hb3 i1 i4
    go_wp2_with fail
    obtain ⟨q0, q1, q2, q3, q4, q5, q6, q7⟩ := eight_store (.int .i64 v.id) (.int .i64 v.st) (.string v.ent) (.int .i64 v.sf) (.int .i64 v.se) (.slice v.fa v.fs.length v.fc) (.bool v.gone) (.int .i64 un) k0 k1' k2 k3 k4 k5 k6 k7
    refine bodyPost_ret (v := .tuple #[rv ⟨v, un⟩, .string r, .int .i64 0]) (by simp [results, Try.results24, go_sem, q0, q1, q2, q3, q4, q5, q6, q7]) rfl ⟨⟨v, un⟩, by rw [← HE.out]; rfl, by rw [← HE.out]; rfl, ?_, eight_below HB4.out (Nat.le_refl _)⟩
    exact (HF.out.but (M := fun c _ => c = w.heap.size) (eight_but (fun _ => rfl) _ _ _ _ _ _ _ _) (fun c o hm => by have := HS4.out; omega)).1
  · have HE := Lib.hid hE
    have h0' : ¬ (m : Int) = 0 := by omega
    clear hE hbut hbw hbb hc2 hc3 hc4 hh4 hb2 hb3 i1 i4
    go_wp2_with fail
    obtain ⟨q0, q1, q2, q3, q4, q5, q6, q7⟩ := eight_store (.int .i64 0) (.int .i64 0) (.string ⟨#[]⟩) (.int .i64 0) (.int .i64 0) (.slice none 0 0) (.bool false) (.int .i64 0) k0 k1' k2 k3 k4 k5 k6 k7
    refine bodyPost_ret (v := .tuple #[rv ⟨noV, 0⟩, .string ⟨#[]⟩, .int .i64 (m : Int)]) (by simp [results, Try.results24, go_sem, q0, q1, q2, q3, q4, q5, q6, q7, noV]) rfl ⟨⟨noV, 0⟩, by rw [← HE.out]; rfl, by rw [← HE.out]; rfl, (FarF.nil (n := 0) _ noV rfl rfl rfl).1, eight_below HB4.out (Nat.le_refl _)⟩

end Go.Proofs.Ytepjhkcnhahhiaa

/-
  The chapter's example holds; VersionRights gives back true for any row and any text.
-/
namespace Go.Proofs.Ytepjhkcnhahhiaa
open Go.RowKit

theorem abstract_worldW {P : Program} {code : Code} {Q : Exit → Act → World → Prop} {a : Act} {w : World} (R : World → Prop) (h0 : R w) (h : ∀ W, R W → Code.wp P code Q a W) : Code.wp P code Q a w := h w h0
abbrev exV : Vr := ⟨1, 2, ⟨#[101]⟩, 0, 0, none, 0, [], true⟩
theorem ex_put : putV exV = ⟨#[1, 2, 1, 101, 1]⟩ ∧ rightV exV = 0 := by
  have h : rightV exV = 0 := by decide +kernel
  refine ⟨?_, h⟩
  unfold putV
  rw [if_pos h]
  decide +kernel
theorem vf_nil (w : World) (v : Vr) (h : v.fs = []) (hc : v.fa = none → v.fc = 0) : VF w v := by
  obtain ⟨id, st, ent, sf, se, fa, fc, fs, gone⟩ := v
  obtain rfl : fs = [] := h
  exact ⟨Fields.nil _ _, Nat.zero_le _, hc⟩
abbrev exR : Rw := ⟨⟨0, 2, ⟨#[]⟩, 0, 0, none, 0, [], false⟩, 3⟩

set_option maxHeartbeats 4000000 in
set_option maxRecDepth 10000 in
theorem alive_any (w : World) : Ret 7 #[] w (.bool true) := by
  have CP := Lib.hid (fun w => pputv_any exV w (vf_nil w exV rfl (fun _ => rfl)) (fun f hf => by simp at hf) (by simp) (by decide))
  rw [ex_put.1, ex_put.2] at CP
  have CL := Lib.hid (fun w => plive_any exR 2 w)
  rw [show liveB exR 2 = true from rfl] at CL
  unfold exV at CP
  unfold exR at CL
  go_enter Try.func7, Try.ntmps7
  go_wp2_with (first
    | (go_at_call 18; (refine (CP.out _).mono ?_); rintro e w1 ⟨rfl, hb1⟩)
    | (go_at_call 14; (refine (CL.out _).mono ?_); rintro e w2 ⟨rfl, hb2⟩))
  go_ret
  exact ⟨rfl, chain hb1 hb2⟩

set_option maxHeartbeats 4000000 in
set_option maxRecDepth 10000 in
theorem rights_walk (r : Rw) (s : ByteArray) (w : World) (hv : VF w r.v) (hok : okF r.v.fs) (hn : r.v.fs.length ≤ 9223372036854775807) (hz : r.v.ent.size ≤ 9223372036854775807) (hs : s.size ≤ 9223372036854775807) : Ret 3 #[rv r, .string s] w (.bool true) := by
  have CAL := Lib.hid alive_any
  have HB := Lib.hid ((bl w).alloc (Nat.le_refl _) (ocR r))
  have HX := Lib.hid (boxR_new w r)
  have C1 := Lib.hid (fun w' (h : Below w.heap.size w w') => prightv_any r.v w' (hv.below h) hok hn hz)
  have C2 := Lib.hid (fun w' (h : Below w.heap.size w w') => drightv_any r.v w' (hv.below h) hok hn hz)
  have C3 := Lib.hid (fun w' (h : Below w.heap.size w w') => prightr_any r w' (hv.below h) hok hn hz)
  have C4 := Lib.hid (fun w' (h : Below w.heap.size w w') => drightr_any r w' (hv.below h) hok hn hz)
  have C5 := Lib.hid (fun w' => pent_any s hs w')
  have C6 := Lib.hid (fun w' => dent_any s hs w')
  generalize rightV r.v = z1 at *
  generalize rightR r = z2 at *
  generalize entE s = z3 at *
  clear hv hok hn hz hs
  by_cases h3 : 300 < r.v.fs.length
  · have h3' : (300 : Int) < (r.v.fs.length : Int) := by omega
    go_enter Try.func3, Try.ntmps3
    go_wp2_with (go_at_call 7; (with_reducible refine (CAL.out _).mono ?_); rintro e w2 ⟨rfl, hb⟩)
    go_ret
    exact ⟨rfl, HB.out.trans (hb.mono HB.out.size)⟩
  · have h3' : ¬ (300 : Int) < (r.v.fs.length : Int) := by omega
    go_enter Try.func3, Try.ntmps3
    go_wp2_with fail
    refine abstract_worldW (fun W => Below w.heap.size w W ∧ BoxR W w.heap.size r) ⟨HB.out, HX.out⟩ ?_
    rintro W ⟨hBW, hXW⟩
    have HBW := Lib.hid hBW
    have MK := Lib.hid (show ∀ w', Below W.heap.size W w' → (Below W.heap.size W w' ∧ BoxR w' w.heap.size r) from fun w' h => ⟨h, hXW.below h⟩)
    clear hBW hXW
    go_region_held3 (fun w' => Below W.heap.size W w' ∧ BoxR w' w.heap.size r)
      (first | exact MK.out _ ((bl W).drew) | exact MK.out _ hb7 | exact MK.out _ hb6 | exact MK.out _ hb5 | exact MK.out _ hb4 | exact MK.out _ hb3 | exact MK.out _ hb2 | exact MK.out _ hb1 | fail)
      (first
        | (go_at_call 8; (with_reducible refine (C1.out _ (chain HBW.out (by go_split_ands; assumption))).mono ?_); (rintro e w1 ⟨rfl, hb0⟩); (have hb1 := chain (by go_split_ands; assumption) hb0); clear hb0)
        | (go_at_call 9; (with_reducible refine (C2.out _ (chain HBW.out (by go_split_ands; assumption))).mono ?_); (rintro e w2 ⟨rfl, hb0⟩); (have hb2 := chain (by go_split_ands; assumption) hb0); clear hb0)
        | (go_at_call 10; (with_reducible refine (C3.out _ (chain HBW.out (by go_split_ands; assumption))).mono ?_); (rintro e w3 ⟨rfl, hb0⟩); (have hb3 := chain (by go_split_ands; assumption) hb0); clear hb0)
        | (go_at_call 11; (with_reducible refine (C4.out _ (chain HBW.out (by go_split_ands; assumption))).mono ?_); (rintro e w4 ⟨rfl, hb0⟩); (have hb4 := chain (by go_split_ands; assumption) hb0); clear hb0)
        | (go_at_call 12; (with_reducible refine (C5.out _).mono ?_); (rintro e w5 ⟨rfl, hb0⟩); (have hb5 := chain (by go_split_ands; assumption) hb0); clear hb0)
        | (go_at_call 13; (with_reducible refine (C6.out _).mono ?_); (rintro e w6 ⟨rfl, rfl⟩); (have hb6 : Below W.heap.size W w6 := by (go_split_ands; assumption)))
        | (go_at_call 7; (with_reducible refine (CAL.out _).mono ?_); (rintro e w7 ⟨rfl, hb0⟩); (have hb7 := chain (by go_split_ands; assumption) hb0); clear hb0))
    go_wp2_with fail
    go_ret
    exact ⟨rfl, chain HBW.out hb7⟩

end Go.Proofs.Ytepjhkcnhahhiaa

/-
  An argument that is a list of fields, or a list of lists of fields.
-/
namespace Go.Proofs.Ytepjhkcnhahhiaa
open Go.ChangeShapes Go.WideShapes Go.ChangeAt Go.RowKit Go.Joins Go.ChangeMaps Go.Deep

theorem Try.own : ownKnob Try.prog.godebug = none := by kernel_rfl
theorem Try.laidOut : laidOutB Try.prog = true := by kernel_rfl
theorem Try.cellsField : Try.prog.cellsOf 78 = 2 := by kernel_rfl
theorem Try.cells3i : Try.prog.cellsOf 3 = 1 := by kernel_rfl
theorem Try.cells3s : Try.prog.cellsOf 9 = 1 := by kernel_rfl
theorem Try.cells3l : Try.prog.cellsOf 24 = 1 := by kernel_rfl

instance : Inhabited Fd := ⟨⟨⟨#[]⟩, 0⟩⟩
theorem plain_of_cell {w : World} {a : Addr} {v : Value} (h : w.cell? (a.add 0) = some v) : a = ⟨a.block, a.off, none⟩ := by
  obtain ⟨b, off, spot⟩ := a
  have hs : spot = none := by simpa [Addr.add] using World.cell?_spot h
  subst hs
  rfl
/-- Fields that may be. -/
def wellF (l : List Fd) : Prop := ∀ f ∈ l, (-9223372036854775808 ≤ f.v ∧ f.v ≤ 9223372036854775807) ∧ f.n.size ≤ 9223372036854775807
theorem int_of_wf {n : Int} (h : (Lit.int .i64 n).wf = true) : -9223372036854775808 ≤ n ∧ n ≤ 9223372036854775807 := by
  have h1 : IntKind.i64.min = -9223372036854775808 := rfl
  have h2 : IntKind.i64.max = 9223372036854775807 := rfl
  simp only [Lit.wf, Bool.and_eq_true, decide_eq_true_eq] at h
  omega
section
variable {H : Type} {enc : TypeId × Value → H} {W : World} {r : Reach} {base : Nat}

set_option maxRecDepth 100000 in
theorem fields_of {fuel : Nat} {v : Value} {x : DataW H × List MemPlace} (hf : DataW.trod enc Try.prog W 0 (fun _ => true) true fuel 24 [v] = some x) :
    ∃ l, ListF W v l ∧ wellF l ∧ l.length ≤ 9223372036854775807 := by
  rcases open_slice Try.underlying24 hf with ⟨hcs, _⟩ | ⟨a, len', cap', m, n, D, Pl, hcs, _, hl, hmx, hm, _, hx⟩
  · obtain rfl : v = .slice none 0 0 := by simpa using hcs
    exact ⟨[], ⟨none, 0, rfl, Fields.nil _ _, Nat.le_refl _, fun _ => rfl⟩, fun f hf => by simp at hf, by simp⟩
  · obtain rfl : v = .slice (some a) len' cap' := by simpa using hcs
    simp only [if_true] at hm
    subst hm
    have each : ∀ i, i < len' → ∃ q : Fd, W.cell? (a.add (i * 2)) = some (.string q.n) ∧ W.cell? (a.add (i * 2 + 1)) = some (.int .i64 q.v) ∧ (-9223372036854775808 ≤ q.v ∧ q.v ≤ 9223372036854775807) ∧ q.n.size ≤ 9223372036854775807 := by
      intro i hi
      obtain ⟨cs', h1, h2⟩ := hx i (by omega)
      rw [Try.cellsField] at h1
      obtain ⟨_, hlen, hcell⟩ := World.cells?_some h1
      obtain ⟨xs, k, hk, hxy, _, hxl, hf⟩ := DataW.trod_struct Try.underlying78 h2
      match xs, hxl, cs', hlen with
      | [y0, y1], _, [v0, v1], _ =>
        have g0 := hf 0 _ rfl
        have g1 := hf 1 _ rfl
        simp [Try.cells3i, Try.cells3s] at g0 g1
        obtain ⟨s, e0, _, hz⟩ := DataW.trod_string Try.underlying9 g0
        obtain ⟨x, e1, _, hw⟩ := DataW.trod_int Try.underlying3 g1
        simp at e0 e1
        subst e0 e1
        have f0 := hcell 0 (by omega)
        have f1 := hcell 1 (by omega)
        rw [add_add] at f0 f1
        exact ⟨⟨s, x⟩, by simpa using f0, by simpa using f1, int_of_wf hw, by unfold maxLen at hz; omega⟩
    obtain ⟨q, hq⟩ := choose_lt each
    refine ⟨(List.range len').map q, ⟨some a, m, by simp, fun i x hxx => ?_, by simpa using hl, by simp⟩, fun x hxx => ?_, by simp; unfold maxLen at hmx; omega⟩
    · have hi : i < len' := by
        rcases Nat.lt_or_ge i len' with hlt | hge
        · exact hlt
        · rw [List.getElem?_eq_none (by simpa using hge)] at hxx
          cases hxx
      obtain rfl : q i = x := by
        rw [List.getElem?_map, List.getElem?_range hi] at hxx
        simpa using hxx
      obtain ⟨z0, _⟩ := hq 0 (by omega)
      have ha := plain_of_cell (by simpa using z0)
      obtain ⟨c0, c1, _⟩ := hq i hi
      rw [ha, Go.WideShapes.add_plain] at c0 c1
      exact ⟨a.block, a.off, by rw [← ha], c0, by rw [Nat.add_assoc]; exact c1⟩
    · obtain ⟨i, hi, rfl⟩ := List.mem_map.1 hxx
      exact (hq i (List.mem_range.1 hi)).2.2

set_option maxRecDepth 100000 in
theorem arg_fields {v : Value} {d : DataW H} {p : List MemPlace} (hv : Value.okWide Try.prog W r base 24 v) (h : DataW.Trod enc Try.prog W 0 (fun _ => true) true 24 v d p) :
    ∃ l, ListF W v l ∧ wellF l ∧ l.length ≤ 9223372036854775807 := by
  obtain ⟨A, len, cap, rfl⟩ := okWide_slice Try.underlying24 hv
  obtain ⟨fuel, hf⟩ := h
  exact fields_of (by simpa [Value.cells] using hf)

end

end Go.Proofs.Ytepjhkcnhahhiaa

/-
  An argument that is a list of versions.
-/
namespace Go.Proofs.Ytepjhkcnhahhiaa
open Go.ChangeShapes Go.WideShapes Go.ChangeAt Go.RowKit Go.Joins Go.ChangeMaps Go.Deep

theorem Try.cellsVersion : Try.prog.cellsOf 26 = 7 := by kernel_rfl
theorem Try.cellsSpan : Try.prog.cellsOf 23 = 2 := by kernel_rfl
theorem Try.cells3b : Try.prog.cellsOf 4 = 1 := by kernel_rfl
instance : Inhabited Vr := ⟨⟨0, 0, ⟨#[]⟩, 0, 0, none, 0, [], false⟩⟩

section
variable {H : Type} {enc : TypeId × Value → H} {W : World} {r : Reach} {base : Nat}

end

end Go.Proofs.Ytepjhkcnhahhiaa

/-
  An argument that is a version or a row, by value.
-/
namespace Go.Proofs.Ytepjhkcnhahhiaa
open Go.ChangeShapes Go.WideShapes Go.ChangeAt Go.RowKit Go.Joins Go.ChangeMaps Go.Deep
set_option maxRecDepth 100000

theorem Try.cellsRow : Try.prog.cellsOf 28 = 8 := by kernel_rfl
/-- The cells of a version. -/
def cells7 (v : Vr) : List Value := [.int .i64 v.id, .int .i64 v.st, .string v.ent, .int .i64 v.sf, .int .i64 v.se, .slice v.fa v.fs.length v.fc, .bool v.gone]

section
variable {H : Type} {enc : TypeId × Value → H} {W : World} {r : Reach} {base : Nat}

set_option maxRecDepth 100000 in
theorem ver_of {fuel : Nat} {cs : List Value} {x : DataW H × List MemPlace} (hl : cs.length = 7) (hf : DataW.trod enc Try.prog W 0 (fun _ => true) true fuel 26 cs = some x) :
    ∃ q : Vr, cs = cells7 q ∧ VF W q ∧ okF q.fs ∧ q.fs.length ≤ 9223372036854775807 ∧ q.ent.size ≤ 9223372036854775807 := by
  obtain ⟨xs, k, hk, hxy, _, hxl, hf⟩ := DataW.trod_struct Try.underlying26 hf
  match xs, hxl, cs, hl with
  | [y0, y1, y2, y3, y4, y5], _, [v0, v1, v2, v3, v4, v5, v6], _ =>
    have g0 := hf 0 _ rfl
    have g1 := hf 1 _ rfl
    have g2 := hf 2 _ rfl
    have g3 := hf 3 _ rfl
    have g4 := hf 4 _ rfl
    have g5 := hf 5 _ rfl
    simp [Try.cells3i, Try.cells3s, Try.cells3b, Try.cells3l, Try.cellsSpan] at g0 g1 g2 g3 g4 g5
    obtain ⟨x0, e0, _, _⟩ := DataW.trod_int Try.underlying3 g0
    obtain ⟨x1, e1, _, _⟩ := DataW.trod_int Try.underlying3 g1
    obtain ⟨x2, e2, _, hz2⟩ := DataW.trod_string Try.underlying9 g2
    obtain ⟨xs3, k3, hk3, hxy3, _, hxl3, hf3⟩ := DataW.trod_struct Try.underlying23 g3
    obtain ⟨l4, hl4, hw4, hn4⟩ := fields_of g4
    obtain ⟨x5, e5, _⟩ := DataW.trod_bool Try.underlying4 g5
    match xs3, hxl3 with
    | [z0, z1], _ =>
      have s0 := hf3 0 _ rfl
      have s1 := hf3 1 _ rfl
      simp [Try.cells3i] at s0 s1
      obtain ⟨x3, e3, _, _⟩ := DataW.trod_int Try.underlying3 s0
      obtain ⟨x4, e4, _, _⟩ := DataW.trod_int Try.underlying3 s1
      simp at e0 e1 e2 e3 e4 e5
      subst e0 e1 e2 e3 e4 e5
      obtain ⟨B, c, rfl, hB, hc, hnc⟩ := hl4
      exact ⟨⟨x0, x1, x2, x3, x4, B, c, l4, x5⟩, rfl, ⟨hB, hc, hnc⟩, fun f hf => (hw4 f hf).2, hn4, by unfold maxLen at hz2; show x2.size ≤ _; omega⟩

theorem arg_ver {v : Value} {d : DataW H} {p : List MemPlace} (hv : Value.okWide Try.prog W r base 26 v) (h : DataW.Trod enc Try.prog W 0 (fun _ => true) true 26 v d p) :
    ∃ q : Vr, v = vv q ∧ VF W q ∧ okF q.fs ∧ q.fs.length ≤ 9223372036854775807 ∧ q.ent.size ≤ 9223372036854775807 := by
  obtain ⟨cs, rfl, hs⟩ := okWide_struct Try.underlying26 hv
  rw [Try.cellsVersion] at hs
  obtain ⟨fuel, hf⟩ := h
  obtain ⟨q, e, h1, h2, h3, h4⟩ := ver_of (cs := cs.toList) (by simpa using hs) hf
  exact ⟨q, by rw [show cs = #[.int .i64 q.id, .int .i64 q.st, .string q.ent, .int .i64 q.sf, .int .i64 q.se, .slice q.fa q.fs.length q.fc, .bool q.gone] from by apply Array.toList_inj.1; rw [e]; rfl], h1, h2, h3, h4⟩

set_option maxRecDepth 100000 in
theorem row_of {fuel : Nat} {cs : List Value} {x : DataW H × List MemPlace} (hl : cs.length = 8) (hf : DataW.trod enc Try.prog W 0 (fun _ => true) true fuel 28 cs = some x) :
    ∃ q : Rw, cs = cells7 q.v ++ [.int .i64 q.un] ∧ VF W q.v ∧ okF q.v.fs ∧ q.v.fs.length ≤ 9223372036854775807 ∧ q.v.ent.size ≤ 9223372036854775807 := by
  obtain ⟨xs, k, hk, hxy, _, hxl, hf⟩ := DataW.trod_struct Try.underlying28 hf
  match xs, hxl, cs, hl with
  | [y0, y1], _, [v0, v1, v2, v3, v4, v5, v6, v7], _ =>
    have g0 := hf 0 _ rfl
    have g1 := hf 1 _ rfl
    simp [Try.cells3i, Try.cellsVersion] at g0 g1
    obtain ⟨q, e, h1, h2, h3, h4⟩ := ver_of (by simp) g0
    obtain ⟨x1, e1, _, _⟩ := DataW.trod_int Try.underlying3 g1
    simp at e1
    subst e1
    refine ⟨⟨q, x1⟩, ?_, h1, h2, h3, h4⟩
    show [v0, v1, v2, v3, v4, v5, v6] ++ _ = _
    rw [e]

theorem arg_row {v : Value} {d : DataW H} {p : List MemPlace} (hv : Value.okWide Try.prog W r base 28 v) (h : DataW.Trod enc Try.prog W 0 (fun _ => true) true 28 v d p) :
    ∃ q : Rw, v = rv q ∧ VF W q.v ∧ okF q.v.fs ∧ q.v.fs.length ≤ 9223372036854775807 ∧ q.v.ent.size ≤ 9223372036854775807 := by
  obtain ⟨cs, rfl, hs⟩ := okWide_struct Try.underlying28 hv
  rw [Try.cellsRow] at hs
  obtain ⟨fuel, hf⟩ := h
  obtain ⟨q, e, h1, h2, h3, h4⟩ := row_of (cs := cs.toList) (by simpa using hs) hf
  exact ⟨q, by rw [show cs = #[.int .i64 q.v.id, .int .i64 q.v.st, .string q.v.ent, .int .i64 q.v.sf, .int .i64 q.v.se, .slice q.v.fa q.v.fs.length q.v.fc, .bool q.v.gone, .int .i64 q.un] from by apply Array.toList_inj.1; rw [e]; rfl], h1, h2, h3, h4⟩
end

end Go.Proofs.Ytepjhkcnhahhiaa
