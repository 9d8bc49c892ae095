/-
  Texts joined into one: what the program's and the document's calls give back, piece by piece.
-/
import Derived.Test.YtmieonfdenjedaaDoorMg1
import Derived.Test.YtmieonfdenjedaaDoorMg2
import Derived.Test.YtmieonfdenjedaaDoorMg3
import Derived.Test.YtmieonfdenjedaaDoorMg4
import Derived.Test.YtmieonfdenjedaaDoorMg5
import Derived.Test.YtmieonfdenjedaaDoorChecked
import Derived.Test.YtmieonfdenjedaaDoorRows
import Derived.BigQuiet
import Derived.ChangeAlike
import Derived.ChangeKeysEq
import Derived.ChangeMaps5
import Derived.Deep.AppendLies
import Derived.Deep.CutBlock
import Derived.Deep.CutRange
import Derived.Deep.Light
import Derived.Deep.QuietTactic
import Derived.Deep.RegionHeld3
import Derived.Deep.RegionLaw
import Derived.Deep.SlicePairs
import Derived.Handy
import Derived.Laws.BytesArg
import Derived.Laws.OwnMore
import Derived.Laws.Strings
import Derived.Laws.StructEq
import Derived.Lib.Hide
import Derived.Lib.SmallJoins
import Derived.Maps.AppendAt
import Derived.OneCell
import Derived.OpenShut
import Derived.OwnWalk
import Derived.ProofKit
import Derived.RegionTactic
import Derived.SizedLaws
import Derived.StillTailTactics
import Derived.WalkArith
import Derived.WalkKit
import Derived.WalkLawsBesides
import Derived.WalkSpells
import Derived.Laws.Externs
import Derived.Laws.IdiomCopy
import Derived.Lib.AppendStr
import Derived.Lib.Builder
import Derived.Lib.UnsafeStr

/-
  An argument that is a version or a row, by value.
-/
namespace Go.Proofs.YtmieonfdenjedaaDoor
open Go.ChangeShapes Go.WideShapes Go.ChangeAt Go.RowKit Go.Joins Go.ChangeMaps Go.Deep
set_option maxRecDepth 100000

/-- The cells of a version. -/
def cells7 (v : Vr) : List Value := [.int .i64 v.id, .int .i64 v.st, .string v.ent, .int .i64 v.sf, .int .i64 v.se, .slice v.fa v.fs.length v.fc, .bool v.gone]

section
variable {H : Type} {enc : TypeId × Value → H} {W : World} {r : Reach} {base : Nat}

set_option maxRecDepth 100000 in
theorem ver_of {fuel : Nat} {cs : List Value} {x : DataW H × List MemPlace} (hl : cs.length = 7) (hf : DataW.trod enc Tryd.prog W 0 (fun _ => true) true fuel 32 cs = some x) :
    ∃ q : Vr, cs = cells7 q ∧ VF W q ∧ okF q.fs ∧ q.fs.length ≤ 9223372036854775807 ∧ q.ent.size ≤ 9223372036854775807 := by
  obtain ⟨xs, k, hk, hxy, _, hxl, hf⟩ := DataW.trod_struct Tryd.underlying32 hf
  match xs, hxl, cs, hl with
  | [y0, y1, y2, y3, y4, y5], _, [v0, v1, v2, v3, v4, v5, v6], _ =>
    have g0 := hf 0 _ rfl
    have g1 := hf 1 _ rfl
    have g2 := hf 2 _ rfl
    have g3 := hf 3 _ rfl
    have g4 := hf 4 _ rfl
    have g5 := hf 5 _ rfl
    simp [Tryd.cells3i, Tryd.cells3s, Tryd.cells3b, Tryd.cells3l, Tryd.cellsSpan] at g0 g1 g2 g3 g4 g5
    obtain ⟨x0, e0, _, _⟩ := DataW.trod_int Tryd.underlying3 g0
    obtain ⟨x1, e1, _, _⟩ := DataW.trod_int Tryd.underlying3 g1
    obtain ⟨x2, e2, _, hz2⟩ := DataW.trod_string Tryd.underlying9 g2
    obtain ⟨xs3, k3, hk3, hxy3, _, hxl3, hf3⟩ := DataW.trod_struct Tryd.underlying23 g3
    obtain ⟨l4, hl4, hw4, hn4⟩ := fields_of g4
    obtain ⟨x5, e5, _⟩ := DataW.trod_bool Tryd.underlying4 g5
    match xs3, hxl3 with
    | [z0, z1], _ =>
      have s0 := hf3 0 _ rfl
      have s1 := hf3 1 _ rfl
      simp [Tryd.cells3i] at s0 s1
      obtain ⟨x3, e3, _, _⟩ := DataW.trod_int Tryd.underlying3 s0
      obtain ⟨x4, e4, _, _⟩ := DataW.trod_int Tryd.underlying3 s1
      simp at e0 e1 e2 e3 e4 e5
      subst e0 e1 e2 e3 e4 e5
      obtain ⟨B, c, rfl, hB, hc, hnc⟩ := hl4
      exact ⟨⟨x0, x1, x2, x3, x4, B, c, l4, x5⟩, rfl, ⟨hB, hc, hnc⟩, fun f hf => (hw4 f hf).2, hn4, by unfold maxLen at hz2; show x2.size ≤ _; omega⟩

theorem arg_ver {v : Value} {d : DataW H} {p : List MemPlace} (hv : Value.okWide Tryd.prog W r base 32 v) (h : DataW.Trod enc Tryd.prog W 0 (fun _ => true) true 32 v d p) :
    ∃ q : Vr, v = vv q ∧ VF W q ∧ okF q.fs ∧ q.fs.length ≤ 9223372036854775807 ∧ q.ent.size ≤ 9223372036854775807 := by
  obtain ⟨cs, rfl, hs⟩ := okWide_struct Tryd.underlying32 hv
  rw [Tryd.cellsVersion] at hs
  obtain ⟨fuel, hf⟩ := h
  obtain ⟨q, e, h1, h2, h3, h4⟩ := ver_of (cs := cs.toList) (by simpa using hs) hf
  exact ⟨q, by rw [show cs = #[.int .i64 q.id, .int .i64 q.st, .string q.ent, .int .i64 q.sf, .int .i64 q.se, .slice q.fa q.fs.length q.fc, .bool q.gone] from by apply Array.toList_inj.1; rw [e]; rfl], h1, h2, h3, h4⟩

end

end Go.Proofs.YtmieonfdenjedaaDoor

/-
  Plain facts for the laws of fields: what is made may be; the chapter's examples.
-/
namespace Go.Proofs.YtmieonfdenjedaaDoor

theorem layL_length : ∀ (l : List Fd) (f : Fd), (layL l f).length ≤ l.length + 1
  | [], _ => Nat.le_refl _
  | g :: l, f => by
    rw [layL]
    split
    · rw [List.length_cons, List.length_cons]; have := layL_length l f; omega
    · split
      · rw [List.length_cons, List.length_cons]; omega
      · rw [List.length_cons, List.length_cons]; omega
theorem foldl_length : ∀ (l a : List Fd), (l.foldl layL a).length ≤ a.length + l.length
  | [], _ => Nat.le_refl _
  | f :: l, a => by
    rw [List.foldl_cons, List.length_cons]
    have h1 := foldl_length l (layL a f)
    have h2 := layL_length a f
    omega
theorem overL_length (l : List Fd) : (overL l).length ≤ l.length := by have := foldl_length l []; rw [List.length_nil] at this; unfold overL; omega
theorem overL_snoc (l : List Fd) (f : Fd) : overL (l ++ [f]) = layL (overL l) f := by unfold overL; rw [List.foldl_append]; rfl
theorem foldl_mem : ∀ (l a : List Fd) (g : Fd), g ∈ l.foldl layL a → g ∈ a ∨ g ∈ l
  | [], _, _, h => .inl h
  | f :: l, a, g, h => by
    rcases foldl_mem l (layL a f) g h with h | h
    · rcases layL_mem a f g h with rfl | h
      · exact .inr List.mem_cons_self
      · exact .inl h
    · exact .inr (List.mem_cons_of_mem _ h)
theorem overL_mem {l : List Fd} {g : Fd} (h : g ∈ overL l) : g ∈ l := by
  rcases foldl_mem l [] g h with h | h
  · simp at h
  · exact h
theorem firstE_all : ∀ l : List Fd, firstE l = 0 → ∀ f ∈ l, oneE f = 0
  | [], _, f, hf => by simp at hf
  | g :: l, h, f, hf => by
    rw [firstE] at h
    by_cases h1 : oneE g = 0
    · rw [if_pos h1] at h
      rcases List.mem_cons.1 hf with rfl | hf
      · exact h1
      · exact firstE_all l h f hf
    · rw [if_neg h1] at h; exact absurd h h1
theorem rises_right : ∀ (l : List Fd) (o : Option ByteArray), Rises l → (∀ f ∈ l, oneE f = 0) → (∀ p, o = some p → ∀ f ∈ l, aheadB p f.n = true) → rightG o l = 0
  | [], o, _, _, _ => by cases o <;> rfl
  | f :: l, o, h, h1, h2 => by
    have h0 := h1 f List.mem_cons_self
    have ih := rises_right l (some f.n) h.2 (fun g hg => h1 g (List.mem_cons_of_mem _ hg)) (fun p hp g hg => by cases hp; exact h.1 g hg)
    cases o with
    | none => rw [rightG_none, if_pos h0, ih]
    | some p => rw [rightG_some, if_pos h0, if_pos (h2 p rfl f List.mem_cons_self), ih]
theorem make_big {l : List Fd} (h : 8 < l.length) : makeF l = ([], 4) := by unfold makeF; rw [if_pos h]
theorem make_bad {l : List Fd} (h : ¬ 8 < l.length) (h2 : firstE l ≠ 0) : makeF l = ([], firstE l) := by unfold makeF; rw [if_neg h, if_neg h2]
theorem make_twice {l : List Fd} (h : ¬ 8 < l.length) (h2 : firstE l = 0) (h3 : (overL l).length ≠ l.length) : makeF l = ([], 7) := by unfold makeF; rw [if_neg h, if_pos h2, if_neg h3]
theorem make_good {l : List Fd} (h : ¬ 8 < l.length) (h2 : firstE l = 0) (h3 : (overL l).length = l.length) : makeF l = (overL l, 0) := by unfold makeF; rw [if_neg h, if_pos h2, if_pos h3]
/-- What is made may be. -/
theorem make_right {l : List Fd} (h : (makeF l).2 = 0) : rightE (makeF l).1 = 0 := by
  by_cases h8 : 8 < l.length
  · rw [make_big h8] at h; cases h
  · by_cases h2 : firstE l = 0
    · by_cases h3 : (overL l).length = l.length
      · rw [make_good h8 h2 h3]
        unfold rightE
        rw [if_neg (by show ¬ 8 < (overL l).length; omega)]
        exact rises_right _ none (overL_rises l) (fun f hf => firstE_all l h2 f (overL_mem hf)) (fun p hp => by cases hp)
      · rw [make_twice h8 h2 h3] at h; cases h
    · rw [make_bad h8 h2] at h; exact absurd h h2
theorem make_length (l : List Fd) : (makeF l).1.length ≤ 8 := by
  by_cases h8 : 8 < l.length
  · rw [make_big h8]; decide
  · by_cases h2 : firstE l = 0
    · by_cases h3 : (overL l).length = l.length
      · rw [make_good h8 h2 h3]; show (overL l).length ≤ 8; omega
      · rw [make_twice h8 h2 h3]; decide
    · rw [make_bad h8 h2]; exact Nat.zero_le _
theorem right_length {l : List Fd} (h : rightE l = 0) : l.length ≤ 8 := by
  unfold rightE at h
  by_cases h8 : 8 < l.length
  · rw [if_pos h8] at h; cases h
  · omega
theorem take_length (s : ByteArray) : (takeF s).1.length ≤ 8 := by
  by_cases h : (takeF s).2.2 = 0
  · exact right_length (putF_take h).1
  · have e : (takeF s).1 = [] := by
      unfold takeF at h ⊢
      by_cases h1 : tkE s ≠ 0
      · rw [if_pos h1]
      · rw [if_neg h1] at h ⊢
        by_cases h2 : 8 < tkN s
        · rw [if_pos h2]
        · rw [if_neg h2] at h ⊢
          rw [takeG_err h]
    rw [e]; decide

/-- The chapter's examples. -/
def nA : ByteArray := ⟨#[97]⟩
def nB : ByteArray := ⟨#[98]⟩
def nC : ByteArray := ⟨#[99]⟩
theorem example_over : overL ([[⟨nA, 1⟩, ⟨nB, 2⟩], [⟨nB, 3⟩, ⟨nC, 4⟩]] : List (List Fd)).flatten = [⟨nA, 1⟩, ⟨nB, 3⟩, ⟨nC, 4⟩] := by
  have h1 : aheadB nA nB = true := by decide +kernel
  have h2 : aheadB nB nB = false := by decide +kernel
  have h3 : aheadB nB nC = true := by decide +kernel
  have h4 : aheadB nA nC = true := by decide +kernel
  have h5 : aheadB nB nA = false := by decide +kernel
  simp [overL, layL, h1, h2, h3, h4]
theorem example_put : rightE [⟨nA, 1⟩] = 0 ∧ putS [⟨nA, 1⟩] = ⟨#[1, 1, 97, 2]⟩ := by
  have h : rightE [⟨nA, 1⟩] = 0 := by decide +kernel
  refine ⟨h, ?_⟩
  unfold putS
  rw [if_pos h]
  decide +kernel

end Go.Proofs.YtmieonfdenjedaaDoor

/-
  The program's Make of commands.
-/
namespace Go.Proofs.YtmieonfdenjedaaDoor
open Go.RowKit

/-- What Make leaves. -/
def MkC14 (w : World) (r : Vr × Nat) (e : Ending) (w' : World) : Prop := ∃ x, e = .returned (.tuple #[vv x, .int .i64 ((r.2 : Nat) : Int)]) ∧ contV x = contV r.1 ∧ VF w' x ∧ Below w.heap.size w w'
theorem vf_noV (w : World) : VF w noV := ⟨Fields.nil _ _, Nat.le_refl _, fun _ => rfl⟩
theorem mkC_bad {w w' : World} {r : Vr × Nat} {z : Nat} {z' : Int} (h : r = (noV, z)) (hz : z' = (z : Int)) (hb : Below w.heap.size w w') : MkC14 w r (.returned (.tuple #[vv noV, .int .i64 z'])) w' :=
  ⟨noV, by rw [h, hz], by rw [h], vf_noV w', hb⟩
theorem mkC_ok {w w' : World} {r : Vr × Nat} {x v : Vr} (h : r.2 = 0) (h2 : contV r.1 = v) (hx : contV x = v) (hv : VF w' x) (hb : Below w.heap.size w w') : MkC14 w r (.returned (.tuple #[vv x, .int .i64 0])) w' :=
  ⟨x, by rw [h]; rfl, by rw [h2]; exact hx, hv, hb⟩
theorem run_field_parts (a b c : Bool) (w : World) : (Instr.field TPt (.agg #[.bool a, .bool b, .bool c]) 1).run Tryd.prog w = .ok (.bool b) w := by kernel_rfl
theorem tarB_is {k : Int} (h1 : 1 ≤ k) (h3 : k ≤ 3) : tarB k = !decide (k = 1) := by
  have : k = 1 ∨ k = 2 ∨ k = 3 := by omega
  rcases this with rfl | rfl | rfl <;> rfl

set_option maxHeartbeats 8000000 in
set_option maxRecDepth 10000 in
theorem pcmake_any (now : Int) (last : Vr) (there : Bool) (c : Cm) (w : World) (hv : CF14 w c) (hok : okF c.fs) (hn : c.fs.length ≤ 9223372036854775807) (hz : c.ent.size ≤ 9223372036854775807) (hT : TabK w) :
    Calls Tryd.prog 11 #[.int .i64 now, vv last, .bool there, cv14 c] w fun e w' => ∃ x, e = .returned (.tuple #[vv x, .int .i64 (((makeC now last there c).2 : Nat) : Int)]) ∧ contV x = contV (makeC now last there c).1 ∧ VF w' x ∧ Below w.heap.size w w' := by
  show Calls Tryd.prog 11 #[.int .i64 now, vv last, .bool there, cv14 c] w (MkC14 w (makeC now last there c))
  have hb1 : Below w.heap.size w (w.alloc (ocV last)) := (bl w).alloc (Nat.le_refl _) _
  have hb2 : Below w.heap.size w ((w.alloc (ocV last)).alloc (ocC c)) := hb1.alloc hb1.size _
  have HB := Lib.hid (show Below w.heap.size w (((w.alloc (ocV last)).alloc (ocC c)).alloc ocZ14) from hb2.alloc hb2.size _)
  have HX1 := Lib.hid (show BoxV (((w.alloc (ocV last)).alloc (ocC c)).alloc ocZ14) w.heap.size last from ((boxV_new w last).below ((bl _).alloc (Nat.le_refl _) _)).below ((bl _).alloc (Nat.le_refl _) _))
  have HX2 := Lib.hid (show BoxC (((w.alloc (ocV last)).alloc (ocC c)).alloc ocZ14) (w.heap.size + 1) c from by
    have := (boxC_new (w.alloc (ocV last)) c).below ((bl ((w.alloc (ocV last)).alloc (ocC c))).alloc (Nat.le_refl _) ocZ14)
    rwa [show (w.alloc (ocV last)).heap.size = w.heap.size + 1 by simp] at this)
  have HX3 := Lib.hid (show HoldV (((w.alloc (ocV last)).alloc (ocC c)).alloc ocZ14) (w.heap.size + 1 + 1) noV from by
    have := holdV_z14 ((w.alloc (ocV last)).alloc (ocC c))
    rwa [show ((w.alloc (ocV last)).alloc (ocC c)).heap.size = w.heap.size + 1 + 1 by simp] at this)
  have CR := Lib.hid (fun w' (h : Below w.heap.size w w') => pcright_any c w' (hv.below h) hok hn hz (hT.below h))
  obtain ⟨MC, hMC⟩ : ∃ MC, makeC now last there c = MC := ⟨_, rfl⟩
  have HM : MC = if rightC c ≠ 0 then (noV, rightC c)
    else if now < 0 then (noV, 2)
    else if 1099511627775 ≤ now then (noV, 12)
    else if c.k = 1 then (⟨now + 1, now + 1, c.ent, c.sf, c.se, c.fa, c.fc, c.fs, false⟩, 0)
    else if there = false ∨ last.id ≠ c.tg then (noV, 5)
    else if last.gone = true then (noV, 6)
    else (⟨c.tg, now + 1, last.ent, c.sf, c.se, c.fa, c.fc, c.fs, decide (c.k = 3)⟩, 0) := hMC.symm
  rw [hMC]
  clear hMC hb1 hb2
  by_cases h0 : rightC c ≠ 0
  · rw [if_pos h0] at HM
    have h0' : ¬ ((rightC c : Nat) : Int) = 0 := by omega
    have HE := Lib.hid HM
    generalize rightC c = z at *
    clear HM h0 hv hok hn hz hT
    go_enter Tryd.func11, Tryd.ntmps11
    go_wp2_with (go_at_call 9; (with_reducible refine (CR.out _ HB.out).mono ?_); rintro e w2 ⟨rfl, hb2⟩; have HC2 := Lib.hid (chain HB.out hb2); have HH2 := Lib.hid (HX3.out.below hb2); obtain ⟨r0, r1, r2, r3, r4, r5, r6⟩ := HH2.out.c; obtain ⟨f0, f1, f2, f3, f4, f5, f6⟩ := HH2.out.f; clear hb2)
    obtain ⟨q0, q1, q2, q3, q4, q5, q6⟩ := seven_store (.int .i64 0) (.int .i64 0) (.string ⟨#[]⟩) (.int .i64 0) (.int .i64 0) (.slice none 0 0) (.bool false) r0 r1 r2 r3 r4 r5 r6
    refine bodyPost_ret (v := .tuple #[vv noV, .int .i64 (z : Int)]) (by simp [results, Tryd.results11, go_sem, q0, q1, q2, q3, q4, q5, q6, noV]) rfl (mkC_bad HE.out rfl (seven_below HC2.out (by omega)))
  have h0 : rightC c = 0 := by omega
  rw [if_neg (by omega)] at HM
  rw [h0] at CR
  have hk : 1 ≤ c.k ∧ c.k ≤ 3 := by
    rcases rightC_is h0 with ⟨k, _⟩ | ⟨k, _⟩ | ⟨k, _⟩ <;> omega
  have hfl : c.fs.length ≤ 8 := by
    rcases rightC_is h0 with ⟨_, _, _, _, hr⟩ | ⟨_, _, _, _, hr⟩ | ⟨_, _, _, _, _, hr⟩
    · exact right_length hr
    · exact right_length hr
    · rw [hr]; simp
  have CP := Lib.hid (show ∀ w', Below w.heap.size w w' → Ret 26 #[.int .i64 c.k] w' (.agg #[.bool (entB c.k), .bool (tarB c.k), .bool (setB c.k)]) from fun w' h => parts_any c.k w' (hT.below h))
  have CMK := Lib.hid (fun w' (h : Below w.heap.size w w') => made_any (now + 1) last c w' (hv.below h) (by omega) hk.1 hk.2)
  have htar := tarB_is hk.1 hk.2
  generalize entB c.k = eB at *
  generalize setB c.k = sB at *
  clear hv hok hn hz hT h0 hfl
  by_cases n1 : now < 0
  · rw [if_pos n1] at HM
    have HE := Lib.hid HM
    generalize tarB c.k = tB at *
    have hfd := run_field_parts eB tB sB
    clear HM htar
    go_enter Tryd.func11, Tryd.ntmps11
    go_wp2_with (first
      | (go_at_call 9; (with_reducible refine (CR.out _ HB.out).mono ?_); rintro e w2 ⟨rfl, hb2⟩; have HC2 := Lib.hid (chain HB.out hb2); have HP2 := Lib.hid (HX2.out.below hb2); have HH2 := Lib.hid (HX3.out.below hb2); have c0 := HP2.out.1; clear hb2)
      | (go_at_call 26; (with_reducible refine (CP.out _ HC2.out).mono ?_); rintro e w3 ⟨rfl, hb3⟩; have HC3 := Lib.hid (chain HC2.out hb3); have HH3 := Lib.hid (HH2.out.below hb3); obtain ⟨r0, r1, r2, r3, r4, r5, r6⟩ := HH3.out.c; obtain ⟨f0, f1, f2, f3, f4, f5, f6⟩ := HH3.out.f; clear hb3))
    obtain ⟨q0, q1, q2, q3, q4, q5, q6⟩ := seven_store (.int .i64 0) (.int .i64 0) (.string ⟨#[]⟩) (.int .i64 0) (.int .i64 0) (.slice none 0 0) (.bool false) r0 r1 r2 r3 r4 r5 r6
    refine bodyPost_ret (v := .tuple #[vv noV, .int .i64 2]) (by simp [results, Tryd.results11, go_sem, q0, q1, q2, q3, q4, q5, q6, noV]) rfl (mkC_bad HE.out rfl (seven_below HC3.out (by omega)))
  rw [if_neg n1] at HM
  by_cases n2 : 1099511627775 ≤ now
  · rw [if_pos n2] at HM
    have HE := Lib.hid HM
    generalize tarB c.k = tB at *
    have hfd := run_field_parts eB tB sB
    clear HM htar
    go_enter Tryd.func11, Tryd.ntmps11
    go_wp2_with (first
      | (go_at_call 9; (with_reducible refine (CR.out _ HB.out).mono ?_); rintro e w2 ⟨rfl, hb2⟩; have HC2 := Lib.hid (chain HB.out hb2); have HP2 := Lib.hid (HX2.out.below hb2); have HH2 := Lib.hid (HX3.out.below hb2); have c0 := HP2.out.1; clear hb2)
      | (go_at_call 26; (with_reducible refine (CP.out _ HC2.out).mono ?_); rintro e w3 ⟨rfl, hb3⟩; have HC3 := Lib.hid (chain HC2.out hb3); have HH3 := Lib.hid (HH2.out.below hb3); obtain ⟨r0, r1, r2, r3, r4, r5, r6⟩ := HH3.out.c; obtain ⟨f0, f1, f2, f3, f4, f5, f6⟩ := HH3.out.f; clear hb3))
    obtain ⟨q0, q1, q2, q3, q4, q5, q6⟩ := seven_store (.int .i64 0) (.int .i64 0) (.string ⟨#[]⟩) (.int .i64 0) (.int .i64 0) (.slice none 0 0) (.bool false) r0 r1 r2 r3 r4 r5 r6
    refine bodyPost_ret (v := .tuple #[vv noV, .int .i64 12]) (by simp [results, Tryd.results11, go_sem, q0, q1, q2, q3, q4, q5, q6, noV]) rfl (mkC_bad HE.out rfl (seven_below HC3.out (by omega)))
  rw [if_neg n2] at HM
  have hw1 : wrap64 (now + 1) = now + 1 := IntWalk.wrap64_in _ (by omega)
  by_cases k1 : c.k = 1
  · rw [if_pos k1] at HM
    have hB : tarB c.k = false := by rw [htar, k1]; rfl
    rw [hB] at CP
    have hfd := run_field_parts eB false sB
    have HE2 := Lib.hid (show MC.2 = 0 by rw [HM])
    have HE1 := Lib.hid (show contV MC.1 = madeV (now + 1) last c by rw [HM]; unfold madeV; rw [if_pos k1]; rfl)
    generalize madeV (now + 1) last c = MV at *
    clear HM htar hB hk k1
    go_enter Tryd.func11, Tryd.ntmps11
    go_wp2_with (first
      | (go_at_call 9; (with_reducible refine (CR.out _ HB.out).mono ?_); rintro e w2 ⟨rfl, hb2⟩; have HC2 := Lib.hid (chain HB.out hb2); have HL2 := Lib.hid (HX1.out.below hb2); have HP2 := Lib.hid (HX2.out.below hb2); have HH2 := Lib.hid (HX3.out.below hb2); have c0 := HP2.out.1; clear hb2)
      | (go_at_call 26; (with_reducible refine (CP.out _ HC2.out).mono ?_); rintro e w3 ⟨rfl, hb3⟩; have HC3 := Lib.hid (chain HC2.out hb3); have HH3 := Lib.hid (HH2.out.below hb3); obtain ⟨l0, l1, l2, l3, l4, l5, l6⟩ := HL2.out.below hb3; obtain ⟨d0, d1, d2, d3, d4, d5⟩ := HP2.out.below hb3; clear hb3)
      | (go_at_call 35; (with_reducible refine (CMK.out _ HC3.out).mono ?_); rintro e w4 ⟨x, rfl, hx, hvx, hfx, hb4⟩; have HC4 := Lib.hid (chain HC3.out hb4); have HH4 := Lib.hid (HH3.out.below hb4); obtain ⟨r0, r1, r2, r3, r4, r5, r6⟩ := HH4.out.c; obtain ⟨f0, f1, f2, f3, f4, f5, f6⟩ := HH4.out.f; have hlt := lt_of_cell HH3.out.c.1; have HX := Lib.hid hx; have HVX := Lib.hid hvx; have HFX := Lib.hid (show ∀ a, x.fa = some a → a.block ≠ w.heap.size + 1 + 1 from fun a ha => by have := hfx a ha; omega); clear hb4 hx hvx hfx hlt))
    obtain ⟨q0, q1, q2, q3, q4, q5, q6⟩ := seven_store (.int .i64 x.id) (.int .i64 x.st) (.string x.ent) (.int .i64 x.sf) (.int .i64 x.se) (.slice x.fa x.fs.length x.fc) (.bool x.gone) r0 r1 r2 r3 r4 r5 r6
    refine bodyPost_ret (v := .tuple #[vv x, .int .i64 0]) (by simp [results, Tryd.results11, go_sem, q0, q1, q2, q3, q4, q5, q6]) rfl (mkC_ok HE2.out HE1.out HX.out (vf_seven HVX.out HFX.out) (seven_below HC4.out (by omega)))
  rw [if_neg k1] at HM
  have hB : tarB c.k = true := by rw [htar, decide_eq_false k1]; rfl
  rw [hB] at CP
  have hfd := run_field_parts eB true sB
  have hk3 := hk
  clear htar hB
  cases there with
  | false =>
    rw [if_pos (.inl rfl)] at HM
    have HE := Lib.hid HM
    clear HM hk3 hk k1
    go_enter Tryd.func11, Tryd.ntmps11
    go_wp2_with (first
      | (go_at_call 9; (with_reducible refine (CR.out _ HB.out).mono ?_); rintro e w2 ⟨rfl, hb2⟩; have HC2 := Lib.hid (chain HB.out hb2); have HL2 := Lib.hid (HX1.out.below hb2); have HP2 := Lib.hid (HX2.out.below hb2); have HH2 := Lib.hid (HX3.out.below hb2); have c0 := HP2.out.1; clear hb2)
      | (go_at_call 26; (with_reducible refine (CP.out _ HC2.out).mono ?_); rintro e w3 ⟨rfl, hb3⟩; have HC3 := Lib.hid (chain HC2.out hb3); have HH3 := Lib.hid (HH2.out.below hb3); obtain ⟨l0, l1, l2, l3, l4, l5, l6⟩ := HL2.out.below hb3; obtain ⟨d0, d1, d2, d3, d4, d5⟩ := HP2.out.below hb3; obtain ⟨r0, r1, r2, r3, r4, r5, r6⟩ := HH3.out.c; obtain ⟨f0, f1, f2, f3, f4, f5, f6⟩ := HH3.out.f; clear hb3))
    obtain ⟨q0, q1, q2, q3, q4, q5, q6⟩ := seven_store (.int .i64 0) (.int .i64 0) (.string ⟨#[]⟩) (.int .i64 0) (.int .i64 0) (.slice none 0 0) (.bool false) r0 r1 r2 r3 r4 r5 r6
    refine bodyPost_ret (v := .tuple #[vv noV, .int .i64 5]) (by simp [results, Tryd.results11, go_sem, q0, q1, q2, q3, q4, q5, q6, noV]) rfl (mkC_bad HE.out rfl (seven_below HC3.out (by omega)))
  | true =>
    by_cases k2 : last.id = c.tg
    · have k2b : (last.id != c.tg) = false := by simpa using k2
      rw [if_neg (fun h => by rcases h with h | h; exact absurd h (by simp); exact h k2)] at HM
      cases hg : last.gone with
      | true =>
        rw [if_pos hg] at HM
        have HE := Lib.hid HM
        have HG := Lib.hid hg
        have HK := Lib.hid k2b
        clear HM hk3 hk k1 k2 hg k2b
        go_enter Tryd.func11, Tryd.ntmps11
        go_wp2_with (first
          | (go_at_call 9; (with_reducible refine (CR.out _ HB.out).mono ?_); rintro e w2 ⟨rfl, hb2⟩; have HC2 := Lib.hid (chain HB.out hb2); have HL2 := Lib.hid (HX1.out.below hb2); have HP2 := Lib.hid (HX2.out.below hb2); have HH2 := Lib.hid (HX3.out.below hb2); have c0 := HP2.out.1; clear hb2)
          | (go_at_call 26; (with_reducible refine (CP.out _ HC2.out).mono ?_); rintro e w3 ⟨rfl, hb3⟩; have HC3 := Lib.hid (chain HC2.out hb3); have HH3 := Lib.hid (HH2.out.below hb3); obtain ⟨l0, l1, l2, l3, l4, l5, l6⟩ := HL2.out.below hb3; rw [HG.out] at l6; obtain ⟨d0, d1, d2, d3, d4, d5⟩ := HP2.out.below hb3; obtain ⟨r0, r1, r2, r3, r4, r5, r6⟩ := HH3.out.c; obtain ⟨f0, f1, f2, f3, f4, f5, f6⟩ := HH3.out.f; have hkv := HK.out; clear hb3))
        obtain ⟨q0, q1, q2, q3, q4, q5, q6⟩ := seven_store (.int .i64 0) (.int .i64 0) (.string ⟨#[]⟩) (.int .i64 0) (.int .i64 0) (.slice none 0 0) (.bool false) r0 r1 r2 r3 r4 r5 r6
        refine bodyPost_ret (v := .tuple #[vv noV, .int .i64 6]) (by simp [results, Tryd.results11, go_sem, q0, q1, q2, q3, q4, q5, q6, noV]) rfl (mkC_bad HE.out rfl (seven_below HC3.out (by omega)))
      | false =>
        rw [if_neg (by rw [hg]; simp)] at HM
        have HE2 := Lib.hid (show MC.2 = 0 by rw [HM])
        have HE1 := Lib.hid (show contV MC.1 = madeV (now + 1) last c by rw [HM]; unfold madeV; rw [if_neg k1]; rfl)
        have HG := Lib.hid hg
        have HK := Lib.hid k2b
        generalize madeV (now + 1) last c = MV at *
        clear HM hk3 hk k1 k2 hg k2b
        go_enter Tryd.func11, Tryd.ntmps11
        go_wp2_with (first
          | (go_at_call 9; (with_reducible refine (CR.out _ HB.out).mono ?_); rintro e w2 ⟨rfl, hb2⟩; have HC2 := Lib.hid (chain HB.out hb2); have HL2 := Lib.hid (HX1.out.below hb2); have HP2 := Lib.hid (HX2.out.below hb2); have HH2 := Lib.hid (HX3.out.below hb2); have c0 := HP2.out.1; clear hb2)
          | (go_at_call 26; (with_reducible refine (CP.out _ HC2.out).mono ?_); rintro e w3 ⟨rfl, hb3⟩; have HC3 := Lib.hid (chain HC2.out hb3); have HH3 := Lib.hid (HH2.out.below hb3); have HB3 := Lib.hid (HL2.out.below hb3); have hg3 := HB3.out.2.2.2.2.2.2; rw [HG.out] at hg3; have hi3 := HB3.out.1; obtain ⟨l0, l1, l2, l3, l4, l5, l6⟩ := HB3.out; obtain ⟨d0, d1, d2, d3, d4, d5⟩ := HP2.out.below hb3; have hkv := HK.out; clear hb3)
          | (go_at_call 35; (have CMK2 := CMK.out _ HC3.out); (rw [← HG.out]); (with_reducible refine CMK2.mono ?_); rintro e w4 ⟨x, rfl, hx, hvx, hfx, hb4⟩; have HC4 := Lib.hid (chain HC3.out hb4); have HH4 := Lib.hid (HH3.out.below hb4); obtain ⟨r0, r1, r2, r3, r4, r5, r6⟩ := HH4.out.c; obtain ⟨f0, f1, f2, f3, f4, f5, f6⟩ := HH4.out.f; have hlt := lt_of_cell HH3.out.c.1; have HX := Lib.hid hx; have HVX := Lib.hid hvx; have HFX := Lib.hid (show ∀ a, x.fa = some a → a.block ≠ w.heap.size + 1 + 1 from fun a ha => by have := hfx a ha; omega); clear hb4 hx hvx hfx hlt))
        obtain ⟨q0, q1, q2, q3, q4, q5, q6⟩ := seven_store (.int .i64 x.id) (.int .i64 x.st) (.string x.ent) (.int .i64 x.sf) (.int .i64 x.se) (.slice x.fa x.fs.length x.fc) (.bool x.gone) r0 r1 r2 r3 r4 r5 r6
        refine bodyPost_ret (v := .tuple #[vv x, .int .i64 0]) (by simp [results, Tryd.results11, go_sem, q0, q1, q2, q3, q4, q5, q6]) rfl (mkC_ok HE2.out HE1.out HX.out (vf_seven HVX.out HFX.out) (seven_below HC4.out (by omega)))
    · have k2b : (last.id != c.tg) = true := by rw [bne_iff_ne]; exact k2
      rw [if_pos (.inr k2)] at HM
      have HE := Lib.hid HM
      have HK := Lib.hid k2b
      clear HM hk3 hk k1 k2 k2b
      go_enter Tryd.func11, Tryd.ntmps11
      go_wp2_with (first
        | (go_at_call 9; (with_reducible refine (CR.out _ HB.out).mono ?_); rintro e w2 ⟨rfl, hb2⟩; have HC2 := Lib.hid (chain HB.out hb2); have HL2 := Lib.hid (HX1.out.below hb2); have HP2 := Lib.hid (HX2.out.below hb2); have HH2 := Lib.hid (HX3.out.below hb2); have c0 := HP2.out.1; clear hb2)
        | (go_at_call 26; (with_reducible refine (CP.out _ HC2.out).mono ?_); rintro e w3 ⟨rfl, hb3⟩; have HC3 := Lib.hid (chain HC2.out hb3); have HH3 := Lib.hid (HH2.out.below hb3); obtain ⟨l0, l1, l2, l3, l4, l5, l6⟩ := HL2.out.below hb3; obtain ⟨d0, d1, d2, d3, d4, d5⟩ := HP2.out.below hb3; obtain ⟨r0, r1, r2, r3, r4, r5, r6⟩ := HH3.out.c; obtain ⟨f0, f1, f2, f3, f4, f5, f6⟩ := HH3.out.f; have hkv := HK.out; clear hb3))
      obtain ⟨q0, q1, q2, q3, q4, q5, q6⟩ := seven_store (.int .i64 0) (.int .i64 0) (.string ⟨#[]⟩) (.int .i64 0) (.int .i64 0) (.slice none 0 0) (.bool false) r0 r1 r2 r3 r4 r5 r6
      refine bodyPost_ret (v := .tuple #[vv noV, .int .i64 5]) (by simp [results, Tryd.results11, go_sem, q0, q1, q2, q3, q4, q5, q6, noV]) rfl (mkC_bad HE.out rfl (seven_below HC3.out (by omega)))

end Go.Proofs.YtmieonfdenjedaaDoor

/-
  CommandMakes gives back true.
-/
namespace Go.Proofs.YtmieonfdenjedaaDoor
open Go.RowKit

/-- What Make makes may be. -/
theorem makeC_right {now : Int} {last : Vr} {c : Cm} {v : Vr} (h : makeC now last true c = (v, 0)) (hl : rightV last = 0) (hs : last.st ≤ now) : rightV v = 0 := by
  unfold makeC at h
  by_cases h0 : rightC c ≠ 0
  · rw [if_pos h0] at h; injection h with _ h; exact absurd h h0
  rw [if_neg h0] at h
  have h0 : rightC c = 0 := by omega
  obtain ⟨l1, l2, l3, l4, l5⟩ := right_stamps hl
  by_cases h1 : now < 0
  · rw [if_pos h1] at h; injection h with _ h; cases h
  rw [if_neg h1] at h
  by_cases h2 : 1099511627775 ≤ now
  · rw [if_pos h2] at h; injection h with _ h; cases h
  rw [if_neg h2] at h
  by_cases h3 : c.k = 1
  · rw [if_pos h3] at h
    injection h with h _
    subst h
    rcases rightC_is h0 with ⟨_, q2, q3, q4, q5⟩ | ⟨q1, _⟩ | ⟨q1, _⟩
    · unfold rightV
      rw [if_neg (by simp only; omega), if_neg (by simp only; omega), if_neg (by simp), if_pos q4]
      exact q5
    · omega
    · omega
  rw [if_neg h3] at h
  by_cases h4 : true = false ∨ last.id ≠ c.tg
  · rw [if_pos h4] at h; injection h with _ h; cases h
  rw [if_neg h4] at h
  have h4 : last.id = c.tg := by
    by_cases hh : last.id = c.tg
    · exact hh
    · exact absurd (.inr hh) h4
  by_cases h5 : last.gone = true
  · rw [if_pos h5] at h; injection h with _ h; cases h
  rw [if_neg h5] at h
  injection h with h _
  subst h
  rcases rightC_is h0 with ⟨q1, _⟩ | ⟨q1, q2, q3, q4, q5⟩ | ⟨q1, q2, q3, q4, q5, q6⟩
  · omega
  · unfold rightV
    rw [if_neg (by simp only; omega), if_neg (by simp only; omega), if_neg (by simp [q1]), if_pos q4]
    exact q5
  · unfold rightV
    rw [if_neg (by simp only; omega), if_neg (by simp only; omega), if_pos (by simp [q1]), if_neg (by simp only [q4, q5, q6]; simp; omega)]
theorem make_parts (now : Int) (last : Vr) (there : Bool) (c : Cm) : ((makeC now last there c).1.fs = [] ∧ (makeC now last there c).1.fa = none ∧ (makeC now last there c).1.fc = 0 ∨ (makeC now last there c).1.fs = c.fs ∧ (makeC now last there c).1.fa = c.fa ∧ (makeC now last there c).1.fc = c.fc) ∧
    ((makeC now last there c).1.ent = ⟨#[]⟩ ∨ (makeC now last there c).1.ent = c.ent ∨ (makeC now last there c).1.ent = last.ent) := by
  unfold makeC
  (repeat' split) <;> first | exact ⟨.inl ⟨rfl, rfl, rfl⟩, .inl rfl⟩ | exact ⟨.inr ⟨rfl, rfl, rfl⟩, .inr (.inl rfl)⟩ | exact ⟨.inr ⟨rfl, rfl, rfl⟩, .inr (.inr rfl)⟩
theorem make_vf {w : World} {c : Cm} (h : CF14 w c) (now : Int) (last : Vr) (there : Bool) : VF w (makeC now last there c).1 := by
  rcases (make_parts now last there c).1 with ⟨h1, h2, h3⟩ | ⟨h1, h2, h3⟩
  · unfold VF
    rw [h1, h2, h3]
    exact ⟨Fields.nil _ _, Nat.le_refl _, fun _ => rfl⟩
  · unfold VF
    rw [h1, h2, h3]
    exact h
theorem contV_eq {a b : Vr} (h : contV a = contV b) : a.id = b.id ∧ a.st = b.st ∧ a.ent = b.ent ∧ a.sf = b.sf ∧ a.se = b.se ∧ a.fs = b.fs ∧ a.gone = b.gone := by
  unfold contV at h
  injection h with h1 h2 h3 h4 h5 _ _ h6 h7
  exact ⟨h1, h2, h3, h4, h5, h6, h7⟩
theorem sameV_cont {a b : Vr} (h : contV a = contV b) : sameV a b = true := by
  obtain ⟨h1, h2, h3, h4, h5, h6, h7⟩ := contV_eq h
  unfold sameV
  rw [h1, h2, h3, h4, h5, h6, h7, sameF_self]
  simp
set_option maxHeartbeats 8000000 in
set_option maxRecDepth 10000 in
theorem makes14_walk (now : Int) (last : Vr) (c : Cm) (w : World) (hl : VF w last) (hlk : okF last.fs) (hlz : last.ent.size ≤ 9223372036854775807) (hln : last.fs.length ≤ 9223372036854775807)
    (hv : CF14 w c) (hok : okF c.fs) (hn : c.fs.length ≤ 9223372036854775807) (hz : c.ent.size ≤ 9223372036854775807) (hT : TabK w) : Ret 4 #[.int .i64 now, vv last, cv14 c] w (.bool true) := by
  have CAL := Lib.hid (fun w' (h : Below w.heap.size w w') => alive14_any w' (hT.below h))
  have hb1 : Below w.heap.size w (w.alloc (ocV last)) := (bl w).alloc (Nat.le_refl _) _
  have HB := Lib.hid (show Below w.heap.size w ((w.alloc (ocV last)).alloc (ocC c)) from hb1.alloc hb1.size _)
  have HX1 := Lib.hid (show BoxV ((w.alloc (ocV last)).alloc (ocC c)) w.heap.size last from (boxV_new w last).below ((bl _).alloc (Nat.le_refl _) _))
  have HX2 := Lib.hid (show BoxC ((w.alloc (ocV last)).alloc (ocC c)) (w.heap.size + 1) c from by
    have := boxC_new (w.alloc (ocV last)) c
    rwa [show (w.alloc (ocV last)).heap.size = w.heap.size + 1 by simp] at this)
  by_cases h3 : 300 < c.fs.length
  · have h3' : (300 : Int) < (c.fs.length : Int) := by omega
    clear hv hl hok hlk hb1 hT
    go_enter Tryd.func4, Tryd.ntmps4
    go_wp2_with (go_at_call 8; (with_reducible refine (CAL.out _ HB.out).mono ?_); rintro e w2 ⟨rfl, hb⟩)
    go_ret
    exact ⟨rfl, chain HB.out hb⟩
  have h3' : ¬ (300 : Int) < (c.fs.length : Int) := by omega
  by_cases h4 : 300 < last.fs.length
  · have h4' : (300 : Int) < (last.fs.length : Int) := by omega
    clear hv hl hok hlk hb1 hT
    go_enter Tryd.func4, Tryd.ntmps4
    go_wp2_with (go_at_call 8; (with_reducible refine (CAL.out _ HB.out).mono ?_); rintro e w2 ⟨rfl, hb⟩)
    go_ret
    exact ⟨rfl, chain HB.out hb⟩
  have h4' : ¬ (300 : Int) < (last.fs.length : Int) := by omega
  have C1 := Lib.hid (fun w' (h : Below w.heap.size w w') => pcmake_any now last true c w' (hv.below h) hok hn hz (hT.below h))
  have C2 := Lib.hid (fun w' (h : Below w.heap.size w w') => dmake14_any now last true c w' (hv.below h) hok hn hz)
  have C3 := Lib.hid (fun w' (h : Below w.heap.size w w') => pcmake_any now last false c w' (hv.below h) hok hn hz (hT.below h))
  have C4 := Lib.hid (fun w' (h : Below w.heap.size w w') => dmake14_any now last false c w' (hv.below h) hok hn hz)
  have HV1 := Lib.hid (show ∀ w', Below w.heap.size w w' → VF w' (makeC now last true c).1 from fun w' h => make_vf (hv.below h) now last true)
  have HV2 := Lib.hid (show ∀ w', Below w.heap.size w w' → VF w' (makeC now last false c).1 from fun w' h => make_vf (hv.below h) now last false)
  have hfs : ∀ there, (makeC now last there c).1.fs.length ≤ 300 ∧ okF (makeC now last there c).1.fs ∧ (makeC now last there c).1.ent.size ≤ 9223372036854775807 := fun there => by
    obtain ⟨p1, p2⟩ := make_parts now last there c
    refine ⟨?_, ?_, ?_⟩
    · rcases p1 with ⟨p1, _⟩ | ⟨p1, _⟩
      · rw [p1]; exact Nat.zero_le _
      · rw [p1]; omega
    · rcases p1 with ⟨p1, _⟩ | ⟨p1, _⟩
      · rw [p1]; exact fun f hf => by simp at hf
      · rw [p1]; exact hok
    · rcases p2 with p2 | p2 | p2
      · rw [p2]; exact Nat.zero_le _
      · rw [p2]; exact hz
      · rw [p2]; exact hlz
  have HF1 := Lib.hid (hfs true)
  have HF2 := Lib.hid (hfs false)
  have CR := Lib.hid (fun w' (h : Below w.heap.size w w') => drightv_any last w' (hl.below h) hlk hln hlz)
  have HMR := Lib.hid (show ∀ v, makeC now last true c = (v, 0) → rightV last = 0 → last.st ≤ now → rightV v = 0 from fun v => makeC_right)
  obtain ⟨⟨m1, e1⟩, hm1⟩ : ∃ m1, makeC now last true c = m1 := ⟨_, rfl⟩
  obtain ⟨⟨m2, e2⟩, hm2⟩ : ∃ m2, makeC now last false c = m2 := ⟨_, rfl⟩
  rw [hm1] at C1 C2 HV1 HF1 HMR
  rw [hm2] at C3 C4 HV2 HF2
  clear hv hl hok hlk hb1 hfs hm1 hm2 hT
  simp only at C1 C2 C3 C4 HV1 HV2 HF1 HF2
  go_enter Tryd.func4, Tryd.ntmps4
  go_upto_region 7 with (first
    | (go_at_call 11; (with_reducible refine (C1.out _ HB.out).mono ?_); rintro e w1 ⟨x1, rfl, hx1, hf1, hb1⟩; have hc1 := chain HB.out hb1; have hd1 := hc1.alloc hc1.size (ocV x1); have hs1 := hb1.alloc hb1.size (ocV x1); obtain ⟨k0, k1, k2, k3, k4, k5, k6⟩ := HX1.out.below hs1; obtain ⟨b0, b1, b2, b3, b4, b5⟩ := HX2.out.below hs1)
    | (go_at_call 12; (with_reducible refine (C2.out _ hd1).mono ?_); rintro e w2 ⟨rfl, hb2⟩; have hc2 := chain hd1 hb2; have hd2 := hc2.alloc hc2.size (ocV m1); have hs2 := chain hs1 (hb2.alloc hb2.size (ocV m1)); obtain ⟨l0, l1, l2, l3, l4, l5, l6⟩ := HX1.out.below hs2; obtain ⟨d0, d1, d2, d3, d4, d5⟩ := HX2.out.below hs2)
    | (go_at_call 11; (with_reducible refine (C3.out _ hd2).mono ?_); rintro e w3 ⟨x2, rfl, hx2, hf2, hb3⟩; have hc3 := chain hd2 hb3; have hd3 := hc3.alloc hc3.size (ocV x2); have hs3 := chain hs2 (hb3.alloc hb3.size (ocV x2)); obtain ⟨n0, n1, n2, n3, n4, n5, n6⟩ := HX1.out.below hs3; obtain ⟨f0, f1, f2, f3, f4, f5⟩ := HX2.out.below hs3)
    | (go_at_call 12; (with_reducible refine (C4.out _ hd3).mono ?_); rintro e w4 ⟨rfl, hb4⟩; have hc4 := chain hd3 hb4; have hd4 := hc4.alloc hc4.size (ocV m2); have hs4 := chain hs3 (hb4.alloc hb4.size (ocV m2))))
  have g2 := hb2.alloc hb2.size (ocV m1)
  have g3 := hb3.alloc hb3.size (ocV x2)
  have g4 := hb4.alloc hb4.size (ocV m2)
  refine abstract_worldW (fun W => Below w.heap.size w W ∧ BoxV W w.heap.size last ∧ (BoxV W w1.heap.size x1 ∧ VF W x1) ∧ BoxV W w2.heap.size m1 ∧ (BoxV W w3.heap.size x2 ∧ VF W x2) ∧ BoxV W w4.heap.size m2)
    ⟨hd4, HX1.out.below hs4, ⟨(((boxV_new w1 x1).below g2).below g3).below g4, (((hf1.below ((bl w1).alloc (Nat.le_refl _) _)).below g2).below g3).below g4⟩, ((boxV_new w2 m1).below g3).below g4, ⟨(boxV_new w3 x2).below g4, (hf2.below ((bl w3).alloc (Nat.le_refl _) _)).below g4⟩, boxV_new w4 m2⟩ ?_
  rintro W ⟨hBW, hY0, ⟨hY1, hvx1⟩, hY2, ⟨hY3, hvx2⟩, hY4⟩
  have HBW := Lib.hid hBW
  have HY0 := Lib.hid hY0
  have HY1 := Lib.hid hY1
  have HY3 := Lib.hid hY3
  have HY4 := Lib.hid hY4
  obtain ⟨q1a, q1b, q1c, q1d, q1e, q1f, q1g⟩ := hY1
  obtain ⟨q2a, q2b, q2c, q2d, q2e, q2f, q2g⟩ := hY2
  obtain ⟨i1, i2, i3, i4, i5, i6, i7⟩ := contV_eq hx1
  obtain ⟨j1, j2, j3, j4, j5, j6, j7⟩ := contV_eq hx2
  have CO1 := Lib.hid (show ∀ w', Below W.heap.size W w' → Ret 13 #[vv x1, vv m1] w' (.bool true) from fun w' h => by
    have := done_v x1 m1 w' (hvx1.below h) (HV1.out w' (chain HBW.out h)) (by rw [i6]; have := HF1.out.1; omega) (by have := HF1.out.1; omega)
    rwa [sameV_cont hx1] at this)
  have CO2 := Lib.hid (show ∀ w', Below W.heap.size W w' → Ret 13 #[vv x2, vv m2] w' (.bool true) from fun w' h => by
    have := done_v x2 m2 w' (hvx2.below h) (HV2.out w' (chain HBW.out h)) (by rw [j6]; have := HF2.out.1; omega) (by have := HF2.out.1; omega)
    rwa [sameV_cont hx2] at this)
  have hrx : rightV x1 = rightV m1 := by rw [← right_cont x1, hx1, right_cont]
  have CX := Lib.hid (show ∀ w', Below W.heap.size W w' → Ret 14 #[vv x1] w' (.int .i64 ((rightV m1 : Nat) : Int)) from fun w' h => by
    have := drightv_any x1 w' (hvx1.below h) (by rw [i6]; exact HF1.out.2.1) (by rw [i6]; have := HF1.out.1; omega) (by rw [i3]; exact HF1.out.2.2)
    rwa [hrx] at this)
  have HMR2 := Lib.hid (show e1 = 0 → rightV last = 0 → last.st ≤ now → rightV m1 = 0 from fun h => HMR.out m1 (by rw [h]))
  generalize rightV m1 = rm at *
  generalize rightV last = rl at *
  clear hx1 hx2 hf1 hf2 hb1 hb2 hb3 hb4 hc1 hc2 hc3 hc4 hd1 hd2 hd3 hd4 hs1 hs2 hs3 hs4 g2 g3 g4 hBW hY0 hY3 hY4 hvx1 hvx2 HMR hrx
  clear k0 k1 k2 k3 k4 k5 k6 b0 b1 b2 b3 b4 b5 l0 l1 l2 l3 l4 l5 l6 d0 d1 d2 d3 d4 d5 n0 n1 n2 n3 n4 n5 n6 f0 f1 f2 f3 f4 f5
  clear i1 i2 i3 i4 i5 i6 i7 j1 j2 j3 j4 j5 j6 j7
  by_cases h0 : e1 = 0
  · by_cases h5 : rl = 0
    · by_cases h6 : last.st ≤ now
      · have h6' : ¬ now < last.st := by omega
        have h6'' : decide (now < last.st) = false := by simpa using h6
        have h7 := HMR2.out h0 h5 h6
        subst h0
        subst h5
        subst h7
        go_wp2_with (first
      | (go_at_call 13; (with_reducible refine (CO1.out _ (bl _)).mono ?_); rintro e w5 ⟨rfl, hb5⟩; have hc5 := chain HBW.out hb5; obtain ⟨q0, q1, q2, q3, q4, q5, q6⟩ := HY1.out.below hb5; obtain ⟨r0, r1, r2, r3, r4, r5, r6⟩ := HY3.out.below hb5; obtain ⟨s0, s1, s2, s3, s4, s5, s6⟩ := HY4.out.below hb5; obtain ⟨t0, t1, t2, t3, t4, t5, t6⟩ := HY0.out.below hb5)
      | (go_at_call 13; (with_reducible refine (CO2.out _ hb5).mono ?_); rintro e w6 ⟨rfl, hb6⟩; have hb65 := chain hb5 hb6; have hc6 := chain HBW.out hb65; obtain ⟨u0, u1, u2, u3, u4, u5, u6⟩ := HY1.out.below hb65; obtain ⟨v0, v1, v2, v3, v4, v5, v6⟩ := HY0.out.below hb65)
      | (go_at_call 14; (with_reducible refine (CR.out _ hc6).mono ?_); rintro e w7 ⟨rfl, hb7⟩; have hb75 := chain hb65 hb7; have hc7 := chain HBW.out hb75; obtain ⟨y0, y1, y2, y3, y4, y5, y6⟩ := HY1.out.below hb75; obtain ⟨z0, z1, z2, z3, z4, z5, z6⟩ := HY0.out.below hb75)
      | (go_at_call 14; (with_reducible refine (CX.out _ hb75).mono ?_); rintro e w8 ⟨rfl, hb8⟩; have hc8 := chain hc7 hb8)
      | (go_at_call 8; (with_reducible refine (CAL.out _ (by first | exact hc8 | exact hc7 | exact hc6)).mono ?_); rintro e w9 ⟨rfl, hb9⟩))
        go_ret
        exact ⟨rfl, chain hc8 hb9⟩
      · have h6' : now < last.st := by omega
        have h6'' : decide (now < last.st) = true := by simpa using h6'
        subst h0
        subst h5
        go_wp2_with (first
      | (go_at_call 13; (with_reducible refine (CO1.out _ (bl _)).mono ?_); rintro e w5 ⟨rfl, hb5⟩; have hc5 := chain HBW.out hb5; obtain ⟨q0, q1, q2, q3, q4, q5, q6⟩ := HY1.out.below hb5; obtain ⟨r0, r1, r2, r3, r4, r5, r6⟩ := HY3.out.below hb5; obtain ⟨s0, s1, s2, s3, s4, s5, s6⟩ := HY4.out.below hb5; obtain ⟨t0, t1, t2, t3, t4, t5, t6⟩ := HY0.out.below hb5)
      | (go_at_call 13; (with_reducible refine (CO2.out _ hb5).mono ?_); rintro e w6 ⟨rfl, hb6⟩; have hb65 := chain hb5 hb6; have hc6 := chain HBW.out hb65; obtain ⟨u0, u1, u2, u3, u4, u5, u6⟩ := HY1.out.below hb65; obtain ⟨v0, v1, v2, v3, v4, v5, v6⟩ := HY0.out.below hb65)
      | (go_at_call 14; (with_reducible refine (CR.out _ hc6).mono ?_); rintro e w7 ⟨rfl, hb7⟩; have hb75 := chain hb65 hb7; have hc7 := chain HBW.out hb75; obtain ⟨y0, y1, y2, y3, y4, y5, y6⟩ := HY1.out.below hb75; obtain ⟨z0, z1, z2, z3, z4, z5, z6⟩ := HY0.out.below hb75)
      | (go_at_call 14; (with_reducible refine (CX.out _ hb75).mono ?_); rintro e w8 ⟨rfl, hb8⟩; have hc8 := chain hc7 hb8)
      | (go_at_call 8; (with_reducible refine (CAL.out _ (by first | exact hc8 | exact hc7 | exact hc6)).mono ?_); rintro e w9 ⟨rfl, hb9⟩))
        go_ret
        exact ⟨rfl, chain hc7 hb9⟩
    · have h5' : ¬ (rl : Int) = 0 := by omega
      subst h0
      go_wp2_with (first
      | (go_at_call 13; (with_reducible refine (CO1.out _ (bl _)).mono ?_); rintro e w5 ⟨rfl, hb5⟩; have hc5 := chain HBW.out hb5; obtain ⟨q0, q1, q2, q3, q4, q5, q6⟩ := HY1.out.below hb5; obtain ⟨r0, r1, r2, r3, r4, r5, r6⟩ := HY3.out.below hb5; obtain ⟨s0, s1, s2, s3, s4, s5, s6⟩ := HY4.out.below hb5; obtain ⟨t0, t1, t2, t3, t4, t5, t6⟩ := HY0.out.below hb5)
      | (go_at_call 13; (with_reducible refine (CO2.out _ hb5).mono ?_); rintro e w6 ⟨rfl, hb6⟩; have hb65 := chain hb5 hb6; have hc6 := chain HBW.out hb65; obtain ⟨u0, u1, u2, u3, u4, u5, u6⟩ := HY1.out.below hb65; obtain ⟨v0, v1, v2, v3, v4, v5, v6⟩ := HY0.out.below hb65)
      | (go_at_call 14; (with_reducible refine (CR.out _ hc6).mono ?_); rintro e w7 ⟨rfl, hb7⟩; have hb75 := chain hb65 hb7; have hc7 := chain HBW.out hb75; obtain ⟨y0, y1, y2, y3, y4, y5, y6⟩ := HY1.out.below hb75; obtain ⟨z0, z1, z2, z3, z4, z5, z6⟩ := HY0.out.below hb75)
      | (go_at_call 14; (with_reducible refine (CX.out _ hb75).mono ?_); rintro e w8 ⟨rfl, hb8⟩; have hc8 := chain hc7 hb8)
      | (go_at_call 8; (with_reducible refine (CAL.out _ (by first | exact hc8 | exact hc7 | exact hc6)).mono ?_); rintro e w9 ⟨rfl, hb9⟩))
      go_ret
      exact ⟨rfl, chain hc7 hb9⟩
  · have h0' : ¬ (e1 : Int) = 0 := by omega
    go_wp2_with (first
      | (go_at_call 13; (with_reducible refine (CO1.out _ (bl _)).mono ?_); rintro e w5 ⟨rfl, hb5⟩; have hc5 := chain HBW.out hb5; obtain ⟨q0, q1, q2, q3, q4, q5, q6⟩ := HY1.out.below hb5; obtain ⟨r0, r1, r2, r3, r4, r5, r6⟩ := HY3.out.below hb5; obtain ⟨s0, s1, s2, s3, s4, s5, s6⟩ := HY4.out.below hb5; obtain ⟨t0, t1, t2, t3, t4, t5, t6⟩ := HY0.out.below hb5)
      | (go_at_call 13; (with_reducible refine (CO2.out _ hb5).mono ?_); rintro e w6 ⟨rfl, hb6⟩; have hb65 := chain hb5 hb6; have hc6 := chain HBW.out hb65; obtain ⟨u0, u1, u2, u3, u4, u5, u6⟩ := HY1.out.below hb65; obtain ⟨v0, v1, v2, v3, v4, v5, v6⟩ := HY0.out.below hb65)
      | (go_at_call 14; (with_reducible refine (CR.out _ hc6).mono ?_); rintro e w7 ⟨rfl, hb7⟩; have hb75 := chain hb65 hb7; have hc7 := chain HBW.out hb75; obtain ⟨y0, y1, y2, y3, y4, y5, y6⟩ := HY1.out.below hb75; obtain ⟨z0, z1, z2, z3, z4, z5, z6⟩ := HY0.out.below hb75)
      | (go_at_call 14; (with_reducible refine (CX.out _ hb75).mono ?_); rintro e w8 ⟨rfl, hb8⟩; have hc8 := chain hc7 hb8)
      | (go_at_call 8; (with_reducible refine (CAL.out _ (by first | exact hc8 | exact hc7 | exact hc6)).mono ?_); rintro e w9 ⟨rfl, hb9⟩))
    go_ret
    exact ⟨rfl, chain hc6 hb9⟩
end Go.Proofs.YtmieonfdenjedaaDoor
