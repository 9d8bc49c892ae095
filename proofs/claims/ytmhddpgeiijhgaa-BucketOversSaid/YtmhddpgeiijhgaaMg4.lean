/-
  Texts joined into one: what the program's and the document's calls give back, piece by piece.
-/
import Derived.Test.YtmhddpgeiijhgaaMg1
import Derived.Test.YtmhddpgeiijhgaaMg2
import Derived.Test.YtmhddpgeiijhgaaMg3
import Derived.Test.YtmhddpgeiijhgaaChecked
import Derived.Test.YtmhddpgeiijhgaaRows
import Derived.BigQuiet
import Derived.ChangeAlike
import Derived.ChangeKeysEq
import Derived.ChangeMaps5
import Derived.Deep.AppendLies
import Derived.Deep.CutBlock
import Derived.Deep.CutRange
import Derived.Deep.Light
import Derived.Deep.QuietTactic
import Derived.Deep.RegionHeld3
import Derived.Deep.RegionLaw
import Derived.Deep.SlicePairs
import Derived.DeepKeys4
import Derived.Handy
import Derived.Laws.BytesArg
import Derived.Laws.OwnMore
import Derived.Laws.Strings
import Derived.Laws.StructEq
import Derived.Lib.Hide
import Derived.Lib.SmallJoins
import Derived.Maps.AppendAt
import Derived.Maps.OwnSet
import Derived.Maps.RangeWalk
import Derived.OneCell
import Derived.OpenShut
import Derived.OwnWalk
import Derived.ProofKit
import Derived.RegionTactic
import Derived.SizedLaws
import Derived.StillTailTactics
import Derived.WalkArith
import Derived.WalkKit
import Derived.WalkLawsBesides
import Derived.WalkSpells
import Derived.Lib.Bytealg
import Derived.RangeFuncOwn
import Derived.Deep.OwnRows

/-
  The program's totals in memory: what is added to a place.
-/
namespace Go.Proofs.Ytmhddpgeiijhgaa
open Go.RowKit
open Go.Maps (Keyed)

set_option maxRecDepth 100000 in
theorem run_eql_ta13 (a b : Int) (w : World) : (binOp .eql TTa (.agg #[.int .i64 a, .int .i64 b]) (.agg #[.int .i64 0, .int .i64 0])).run Try.prog w = .ok (.bool (decide (a = 0 ∧ b = 0))) w := by
  rw [run_eql_struct, run_equalIn_struct w 9999 TTa _ _ Try.underlying71 (by kernel_rfl)]
  have h3 := Try.underlying3
  have a3 : ∀ w, (isAgg 3).run Try.prog w = .ok false w := Try.isAgg3
  have c3 : Try.prog.cellsOf 3 = 1 := by kernel_rfl
  simp [Op.eqFields, Program.fieldsOf, Try.underlying71, part, a3, run_equalIn_int w 9998 _ .i64 .i64 _ _ h3]
  by_cases h1 : a = 0
  · by_cases h2 : b = 0 <;> simp [h1, h2]
  · simp [h1]
theorem kl13_lit (n : ByteArray) (k : Int) : Go.WideAt.IsKeyLit (kl13 n k) := by trivial
section
variable {w : World} {S M : Nat} {x : Int} {m : Nat} {D : DataW Value} {L : List Tt}
theorem getT_ok (h : WfT L) (hok : ∀ t ∈ L, t.n.size ≤ maxLen ∧ okI13 t.k) {n : ByteArray} {k : Int} (hn : n.size ≤ maxLen) (hk : okI13 k) (c s : Int) : ∀ t ∈ addT L n k c s, t.n.size ≤ maxLen ∧ okI13 t.k := fun t ht => by
  rcases (mem_addT h n k c s t).1 ht with ⟨h1, _⟩ | h1
  · exact hok t h1
  · obtain ⟨rfl, _⟩ := newT_mem.1 h1
    exact ⟨hn, hk⟩
/-- What is put at a place. -/
theorem St13.put (h : St13 w S M x m D L) {n : ByteArray} {k : Int} (hn : n.size ≤ maxLen) (hk : okI13 k) (c s : Int) {w1 w2 : World} (hg : w.grownBy w1 none) (hg2 : w1.grownBy w2 (some M)) {m' : Nat}
    (hm : w2.ownsMap Try.prog TPl heldV13 M m' (D.put (kl13 n k) (.held (tv13 (getT (addT L n k c s) n k))))) (h0 : getT (addT L n k c s) n k ≠ (0, 0)) :
    St13 w2 S M x m' (D.put (kl13 n k) (.held (tv13 (getT (addT L n k c s) n k)))) (addT L n k c s) := by
  have h1 := h.kept hg (by simp) (by simp)
  refine ⟨(hg2.block S h1.lt (fun e => h.ne (by injection e))).trans h1.box, hm, fun n' k' hn' hk' zd => ?_, wfT_addT h.wf _ _ _ _, getT_ok h.wf h.ok hn hk c s⟩
  by_cases he : n' = n ∧ k' = k
  · obtain ⟨rfl, rfl⟩ := he
    rw [Maps.atKey_put_same h.map.isMap (kl13_lit _ _), if_neg h0]
  · rw [Maps.atKey_put_other (fun e => he (kl13_inj hn' hk' hn hk e)), h.key n' k' hn' hk', getT_addT_other h.wf n k c s he]
theorem St13.del (h : St13 w S M x m D L) {n : ByteArray} {k : Int} (hn : n.size ≤ maxLen) (hk : okI13 k) (c s : Int) {w1 w2 : World} (hg : w.grownBy w1 none) (hg2 : w1.grownBy w2 (some M)) {m' : Nat}
    (hm : w2.ownsMap Try.prog TPl heldV13 M m' (D.del (kl13 n k))) (h0 : getT (addT L n k c s) n k = (0, 0)) :
    St13 w2 S M x m' (D.del (kl13 n k)) (addT L n k c s) := by
  have h1 := h.kept hg (by simp) (by simp)
  refine ⟨(hg2.block S h1.lt (fun e => h.ne (by injection e))).trans h1.box, hm, fun n' k' hn' hk' zd => ?_, wfT_addT h.wf _ _ _ _, getT_ok h.wf h.ok hn hk c s⟩
  by_cases he : n' = n ∧ k' = k
  · obtain ⟨rfl, rfl⟩ := he
    rw [Maps.atKey_del_same, if_pos h0]
  · rw [Maps.atKey_del_other (fun e => he (kl13_inj hn' hk' hn hk e)), h.key n' k' hn' hk', getT_addT_other h.wf n k c s he]
end
/-- What add leaves. -/
def AddP13 (S M : Nat) (x : Int) (m : Nat) (L : List Tt) (n : ByteArray) (k c s : Int) (w : World) (e : Ending) (w' : World) : Prop := e = .returned (.tuple #[]) ∧ (∃ D', St13 w' S M x (m + 1) D' (addT L n k c s)) ∧ w.grownBy w' (some M)
theorem grown_trans13 {a b c : World} {row : Option Nat} (h : a.grownBy b row) (k : b.grownBy c row) : a.grownBy c row :=
  ⟨k.os.trans h.os, k.tape.trans h.tape, k.output.trans h.output, Nat.le_trans h.size k.size, fun i h1 h2 => (k.block i (Nat.lt_of_lt_of_le h1 h.size) h2).trans (h.block i h1 h2)⟩
theorem grown_of13 {w w' : World} (h : Below w.heap.size w w') (row : Option Nat) : w.grownBy w' row := ⟨h.os, h.tape, h.output, h.size, fun k hk _ => h.block k hk⟩
set_option maxHeartbeats 4000000 in
set_option maxRecDepth 100000 in
theorem padd13_any {w : World} {S M : Nat} {x : Int} {m : Nat} {D : DataW Value} {L : List Tt} (h : St13 w S M x m D L) (n : ByteArray) (k c s : Int) (hn : n.size ≤ maxLen) (hk : okI13 k) (hm : m < 1000000) :
    Calls Try.prog 42 #[.pointer (some ⟨S, 0, none⟩), .agg #[.string n, .int .i64 k], .agg #[.int .i64 c, .int .i64 s]] w (AddP13 S M x m L n k c s w) := by
  obtain ⟨W, hW⟩ : ∃ W, (w.alloc (.cells #[.string n, .int .i64 k] 73)).alloc (.cells #[.int .i64 c, .int .i64 s] 71) = W := ⟨_, rfl⟩
  have hbW : Below w.heap.size w W := by rw [← hW]; exact ((bl w).alloc (Nat.le_refl _) _).alloc (by simp) _
  have HW := Lib.hid (h.below hbW)
  have x1 := HW.out.c1
  have hl := HW.out.look hn hk W HW.out.map
  have hl2 := fun o => HW.out.look hn hk (W.alloc o) (HW.out.map.alloc o)
  have hl3 := HW.out.look hn hk W.drew HW.out.map.drew
  have hl4 := fun o => HW.out.look hn hk (W.drew.alloc o) (HW.out.map.drew.alloc o)
  have hl5 := fun o => HW.out.look hn hk (W.alloc o).drew (HW.out.map.alloc o).drew
  have k0 : W.cell? ⟨w.heap.size, 0, none⟩ = some (.string n) := by rw [← hW]; simp [go_sem]
  have k1 : W.cell? ⟨w.heap.size, 1, none⟩ = some (.int .i64 k) := by rw [← hW]; simp [go_sem]
  have k2 : W.cell? ⟨w.heap.size + 1, 0, none⟩ = some (.int .i64 c) := by rw [← hW]; simp [go_sem]
  have k3 : W.cell? ⟨w.heap.size + 1, 1, none⟩ = some (.int .i64 s) := by rw [← hW]; simp [go_sem]
  have y0 := fun o => keepc ((bl W).alloc (Nat.le_refl _) o) k0
  have y1 := fun o => keepc ((bl W).alloc (Nat.le_refl _) o) k1
  have y2 := fun o => keepc ((bl W).alloc (Nat.le_refl _) o) k2
  have y3 := fun o => keepc ((bl W).alloc (Nat.le_refl _) o) k3
  have y4 := fun o => keepc ((bl W).alloc (Nat.le_refl _) o) x1
  have HBW := Lib.hid hbW
  have HH := Lib.hid h
  clear hbW h
  go_enter Try.func42, Try.ntmps42
  go_upto_region 1 with fail
  clear hW
  obtain ⟨p, hp⟩ : ∃ p, getT L n k = p := ⟨_, rfl⟩
  rw [hp] at hl hl2 hl3 hl4 hl5
  obtain ⟨c0, s0⟩ := p
  go_region
  obtain ⟨C, hC⟩ : ∃ C, wrap64 (c0 + c) = C := ⟨_, rfl⟩
  obtain ⟨T, hT⟩ : ∃ T, wrap64 (s0 + s) = T := ⟨_, rfl⟩
  have HG := Lib.hid (show getT (addT L n k c s) n k = (C, T) by rw [getT_addT_same HH.out.wf, hp, ← hC, ← hT, Int.add_comm c0, Int.add_comm s0])
  have HKEY := Lib.hid (keyP_mk hn hk)
  have HNK := Lib.hid (And.intro hn hk)
  have HM := Lib.hid (show m < maxLen by unfold maxLen; omega)
  clear hp hn hk hm
  by_cases hz : C = 0 ∧ T = 0
  · obtain ⟨h1, h2⟩ := hz
    subst h1
    subst h2
    go_wp2_with fail
    obtain ⟨V, hV⟩ : ∃ V, (W.alloc (.cells #[.int .i64 0, .int .i64 0] 71)).drew = V := ⟨_, rfl⟩
    have v0 : V.cell? ⟨w.heap.size, 0, none⟩ = some (.string n) := by rw [← hV]; exact y0 _
    have v1 : V.cell? ⟨w.heap.size, 1, none⟩ = some (.int .i64 k) := by rw [← hV]; exact y1 _
    have v4 : V.cell? ⟨S, 1, none⟩ = some (.map (some M)) := by rw [← hV]; exact y4 _
    have v5 : V.cell? ⟨W.heap.size, 0, none⟩ = some (.int .i64 0) := by rw [← hV]; exact (keepc (Below.refl _ _) (by simp [go_sem]))
    have v6 : V.cell? ⟨W.heap.size, 1, none⟩ = some (.int .i64 0) := by rw [← hV]; exact (keepc (Below.refl _ _) (by simp [go_sem]))
    have HVB := Lib.hid (show Below w.heap.size w V by rw [← hV]; exact (HBW.out.alloc HBW.out.size _).drew)
    have HVM := Lib.hid (show V.ownsMap Try.prog TPl heldV13 M m D by rw [← hV]; exact (HW.out.map.alloc _).drew)
    rw [hV]
    clear hV y0 y1 y2 y3 y4 hl hl2 hl3 hl4 hl5 x1 k0 k1 k2 k3
    go_still_tail 5, (by kernel_rfl)
    change wpList _ _ _ _ _ V.drew
    go_wp2_with (first
      | (at_delete; refine wpList_delete_own _ rfl _ _ TPm TPl rfl TTa keyP Try.underlying62 heldV13 M m D rfl HVM.out.drew _ _ rfl HKEY.out ?_; intro w6 hown6 hturn6; have HM6 := Lib.hid hown6; have HT6 := Lib.hid hturn6.grown; clear hown6 hturn6)
      | go_in)
    go_end0
    have hg1 : w.grownBy V none := grown_of13 HVB.out none
    have hg6 : V.grownBy w6 (some M) := grown_trans13 (grown_of13 ((bl V).drew) _) HT6.out
    exact ⟨rfl, ⟨_, HH.out.del HNK.out.1 HNK.out.2 c s (w1 := V) hg1 hg6 (HM6.out.mono (by omega)) HG.out⟩, grown_trans13 (grown_of13 HVB.out (some M)) hg6⟩
  · have HZ := Lib.hid hz
    by_cases h1 : C = 0
    · have h2 : ¬ T = 0 := fun h => hz ⟨h1, h⟩
      have h2' : (T == 0) = false := by simpa using h2
      clear hz
      subst h1
      go_wp2_with fail
      obtain ⟨V, hV⟩ : ∃ V, (W.alloc (.cells #[.int .i64 0, .int .i64 T] 71)).drew = V := ⟨_, rfl⟩
      have v0 : V.cell? ⟨w.heap.size, 0, none⟩ = some (.string n) := by rw [← hV]; exact y0 _
      have v1 : V.cell? ⟨w.heap.size, 1, none⟩ = some (.int .i64 k) := by rw [← hV]; exact y1 _
      have v4 : V.cell? ⟨S, 1, none⟩ = some (.map (some M)) := by rw [← hV]; exact y4 _
      have v5 : V.cell? ⟨W.heap.size, 0, none⟩ = some (.int .i64 0) := by rw [← hV]; exact (keepc (Below.refl _ _) (by simp [go_sem]))
      have v6 : V.cell? ⟨W.heap.size, 1, none⟩ = some (.int .i64 T) := by rw [← hV]; exact (keepc (Below.refl _ _) (by simp [go_sem]))
      have HVB := Lib.hid (show Below w.heap.size w V by rw [← hV]; exact (HBW.out.alloc HBW.out.size _).drew)
      have HVM := Lib.hid (show V.ownsMap Try.prog TPl heldV13 M m D by rw [← hV]; exact (HW.out.map.alloc _).drew)
      rw [hV]
      clear hV y0 y1 y2 y3 y4 hl hl2 hl3 hl4 hl5 x1 k0 k1 k2 k3
      go_still_tail 6, (by kernel_rfl)
      change wpList _ _ _ _ _ V.drew
      go_wp2_with (first
        | (at_mapUpdate; refine wpList_mapUpdate_own _ rfl _ _ _ TPm rfl TPl TTa keyP Try.underlying62 heldV13 M m D rfl HVM.out.drew HM.out _ _ _ rfl rfl HKEY.out (.held (tv13 (0, T))) [] rfl ?_; intro w6 hown6 hg6; have HM6 := Lib.hid hown6; have HT6 := Lib.hid hg6; clear hown6 hg6)
        | go_in)
      go_end0
      have hg1 : w.grownBy V none := grown_of13 HVB.out none
      have hg6 : V.grownBy w6 (some M) := grown_trans13 (grown_of13 ((bl V).drew) _) HT6.out
      have hm6 := HM6.out
      rw [← HG.out] at hm6
      exact ⟨rfl, ⟨_, HH.out.put HNK.out.1 HNK.out.2 c s (w1 := V) hg1 hg6 hm6 (by rw [HG.out]; intro h; have e1 := congrArg Prod.fst h; have e2 := congrArg Prod.snd h; exact HZ.out (by first | exact ⟨e1, e2⟩ | (simp only at e1 e2 ⊢; exact ⟨e1, e2⟩) | (simp only at e2; simp [e2])))⟩, grown_trans13 (grown_of13 HVB.out (some M)) hg6⟩
    · have h1' : (C == 0) = false := by simpa using h1
      clear hz
      go_wp2_with fail
      obtain ⟨V, hV⟩ : ∃ V, (W.alloc (.cells #[.int .i64 C, .int .i64 T] 71)).drew = V := ⟨_, rfl⟩
      have v0 : V.cell? ⟨w.heap.size, 0, none⟩ = some (.string n) := by rw [← hV]; exact y0 _
      have v1 : V.cell? ⟨w.heap.size, 1, none⟩ = some (.int .i64 k) := by rw [← hV]; exact y1 _
      have v4 : V.cell? ⟨S, 1, none⟩ = some (.map (some M)) := by rw [← hV]; exact y4 _
      have v5 : V.cell? ⟨W.heap.size, 0, none⟩ = some (.int .i64 C) := by rw [← hV]; exact (keepc (Below.refl _ _) (by simp [go_sem]))
      have v6 : V.cell? ⟨W.heap.size, 1, none⟩ = some (.int .i64 T) := by rw [← hV]; exact (keepc (Below.refl _ _) (by simp [go_sem]))
      have HVB := Lib.hid (show Below w.heap.size w V by rw [← hV]; exact (HBW.out.alloc HBW.out.size _).drew)
      have HVM := Lib.hid (show V.ownsMap Try.prog TPl heldV13 M m D by rw [← hV]; exact (HW.out.map.alloc _).drew)
      rw [hV]
      clear hV y0 y1 y2 y3 y4 hl hl2 hl3 hl4 hl5 x1 k0 k1 k2 k3
      go_still_tail 6, (by kernel_rfl)
      change wpList _ _ _ _ _ V.drew
      go_wp2_with (first
        | (at_mapUpdate; refine wpList_mapUpdate_own _ rfl _ _ _ TPm rfl TPl TTa keyP Try.underlying62 heldV13 M m D rfl HVM.out.drew HM.out _ _ _ rfl rfl HKEY.out (.held (tv13 (C, T))) [] rfl ?_; intro w6 hown6 hg6; have HM6 := Lib.hid hown6; have HT6 := Lib.hid hg6; clear hown6 hg6)
        | go_in)
      go_end0
      have hg1 : w.grownBy V none := grown_of13 HVB.out none
      have hg6 : V.grownBy w6 (some M) := grown_trans13 (grown_of13 ((bl V).drew) _) HT6.out
      have hm6 := HM6.out
      rw [← HG.out] at hm6
      exact ⟨rfl, ⟨_, HH.out.put HNK.out.1 HNK.out.2 c s (w1 := V) hg1 hg6 hm6 (by rw [HG.out]; intro h; have e1 := congrArg Prod.fst h; have e2 := congrArg Prod.snd h; exact HZ.out (by first | exact ⟨e1, e2⟩ | (simp only at e1 e2 ⊢; exact ⟨e1, e2⟩) | (simp only at e2; simp [e2])))⟩, grown_trans13 (grown_of13 HVB.out (some M)) hg6⟩
end Go.Proofs.Ytmhddpgeiijhgaa

/-
  The program's All: its totals, sorted.
-/
namespace Go.Proofs.Ytmhddpgeiijhgaa
open Go.RowKit

abbrev mkPl13 (p : ByteArray × Int) : Value := .agg #[.string p.1, .int .i64 p.2]
theorem keyP_inv (key : Value) (kl : Lit) (h : keyOf Try.prog TPl key = some kl) : ∃ p, key = mkPl13 p := by
  obtain ⟨n, k, h1, _⟩ := keyP_inv2 key kl h
  exact ⟨(n, k), h1⟩
theorem heldV13_inv (v : Value) (y : DataW Value × List MemPlace) (_ : heldV13 v = some y) : ∃ c : Value, v = c := ⟨v, rfl⟩
/-- What has come of the totals. -/
def GotT13 (L : List Tt) (left : Lit → Bool) (acc : List Tt) : Prop := acc.Nodup ∧ ∀ t, t ∈ acc ↔ (t ∈ L ∧ left (kl13 t.n t.k) = false)
section
variable {w : World} {S M : Nat} {x : Int} {m : Nat} {D : DataW Value} {L : List Tt}
theorem GotT13.start (h : St13 w S M x m D L) : GotT13 L (Maps.has D) [] := by
  refine ⟨List.nodup_nil, fun t => ⟨fun ht => by simp at ht, fun ⟨ht, h1⟩ => ?_⟩⟩
  obtain ⟨o1, o2⟩ := h.ok t ht
  have hg := getT_mem h.wf ht
  have : Maps.has D (kl13 t.n t.k) = true := Maps.has_true_of_atKey (y := .held (tv13 (t.c, t.s))) fun zd => by
    rw [h.key _ _ o1 o2, hg, if_neg]
    intro e
    injection e with e1 e2
    exact h.wf.no0 t ht ⟨e1, e2⟩
  rw [this] at h1
  cases h1
/-- What the map holds at a place is a total. -/
theorem St13.at_key (h : St13 w S M x m D L) {n : ByteArray} {k : Int} (hn : n.size ≤ maxLen) (hk : okI13 k) {c : Value} (hat : ∀ zd, D.atKey (kl13 n k) zd = .held c) : ∃ t ∈ L, t.n = n ∧ t.k = k ∧ c = tv13 (t.c, t.s) := by
  have h1 := hat .nil
  rw [h.key n k hn hk] at h1
  by_cases h0 : getT L n k = (0, 0)
  · rw [if_pos h0] at h1; cases h1
  · rw [if_neg h0] at h1
    obtain ⟨t, ht, e1, e2, hg⟩ := getT_some h.wf h0
    injection h1 with h1
    exact ⟨t, ht, e1, e2, by rw [← h1, hg]⟩
theorem GotT13.step (h : St13 w S M x m D L) {left : Lit → Bool} {acc : List Tt} (hg : GotT13 L left acc) {t : Tt} (ht : t ∈ L) (hl : left (kl13 t.n t.k) = true) : GotT13 L (fun z => left z && !z.sameKey (kl13 t.n t.k)) (acc ++ [t]) := by
  obtain ⟨o1, o2⟩ := h.ok t ht
  have hne : t ∉ acc := fun hm => by
    have := ((hg.2 t).1 hm).2
    rw [hl] at this
    cases this
  refine ⟨List.nodup_append.2 ⟨hg.1, by simp, fun a ha b hb e => ?_⟩, fun y => ?_⟩
  · obtain rfl : b = t := by simpa using hb
    exact hne (e ▸ ha)
  · rw [List.mem_append, hg.2, List.mem_singleton]
    constructor
    · rintro (⟨h1, h2⟩ | rfl)
      · exact ⟨h1, by simp [h2]⟩
      · exact ⟨ht, by simp [Go.WideAt.sameKey_self (kl13_lit _ _)]⟩
    · rintro ⟨h1, h2⟩
      by_cases hs : (kl13 y.n y.k).sameKey (kl13 t.n t.k) = true
      · right
        obtain ⟨p1, p2⟩ := h.ok y h1
        obtain ⟨e1, e2⟩ := kl13_inj p1 p2 o1 o2 (Go.WideAt.sameKey_eq hs)
        have g1 := getT_mem h.wf h1
        have g2 := getT_mem h.wf ht
        rw [e1, e2, g2] at g1
        injection g1 with e3 e4
        obtain ⟨yn, yk, yc, ys⟩ := y
        obtain ⟨tn, tk, tc, ts⟩ := t
        simp only at e1 e2 e3 e4
        rw [e1, e2, e3, e4]
      · left
        have hs' : (kl13 y.n y.k).sameKey (kl13 t.n t.k) = false := by simpa using hs
        simp only [hs', Bool.not_false, Bool.and_true] at h2
        exact ⟨h1, h2⟩
theorem GotT13.done {left : Lit → Bool} {acc : List Tt} (hg : GotT13 L left acc) (hl : ∀ kl, left kl = false) : ∀ t, t ∈ acc ↔ t ∈ L := fun t => (hg.2 t).trans ⟨fun h => h.1, fun h => ⟨h, hl _⟩⟩
end
theorem ne_iterT13 {w : World} {base B r n cnt : Nat} {v : Value} {l : List Tt} {D : DataW Value} {left : Lit → Bool} (h : ownE ETp w base v l) (hr : w.ranges Try.prog TPl heldV13 B r n D left cnt) : v.ownBlock ≠ some r ∧ v.ownBlock ≠ some B := by
  obtain ⟨es, clock, since, seen, c0, hb, _, _, _, hr, _⟩ := hr
  rcases h.2 with ⟨rfl, _⟩ | ⟨g, cap, cur, rfl, _, hg, _⟩
  · exact ⟨fun e => (by cases e), fun e => (by cases e)⟩
  · refine ⟨fun e => ?_, fun e => ?_⟩
    · obtain rfl := Option.some.inj e
      rw [hg] at hr; cases hr
    · obtain rfl := Option.some.inj e
      rw [hg] at hb; cases hb
theorem other13 {W w w' : World} {l : List Tt} {v : Value} {row : Option Nat} (h : OE ETp W l v w) (hg : w.grownBy w' row) (hne : v.ownBlock ≠ row) (hr : ∀ j, row = some j → W.heap.size ≤ j) : OE ETp W l v w' :=
  ⟨h.own.kept hg (by cases hv : v.ownBlock with
    | none => exact Or.inl rfl
    | some b => exact Or.inr (hv ▸ hne)), h.bel.grown hg h.bel.size hr⟩
/-- What All leaves. -/
def All13Post (L : List Tt) (w : World) (e : Ending) (w' : World) : Prop := ∃ u, e = .returned u ∧ ListE ETp w' u L ∧ Below w.heap.size w w'
set_option maxHeartbeats 1000000 in
theorem pall13_nil (w : World) : Same 26 #[.pointer none] w (.slice none 0 0) := by
  have CM := Lib.hid (pmade13_nil w)
  go_enter Try.func26, Try.ntmps26
  go_wp2_with (go_at_call 35; (with_reducible refine CM.out.mono ?_); rintro e w2 ⟨rfl, rfl⟩)
  go_ret
  exact ⟨rfl, rfl⟩
set_option maxHeartbeats 8000000 in
set_option maxRecDepth 100000 in
theorem pall13_any {w : World} {S M : Nat} {x : Int} {m : Nat} {D : DataW Value} {L : List Tt} (h : St13 w S M x m D L) (hx : 1 ≤ x) (hm : m ≤ 1000000) : Calls Try.prog 26 #[.pointer (some ⟨S, 0, none⟩)] w (All13Post L w) := by
  have CM := Lib.hid (pmade13_any h.c0 hx)
  have HS := Lib.hid h
  have HN := Lib.hid hm
  have x1 := h.c1
  clear h hm
  go_enter Try.func26, Try.ntmps26
  go_wp2_with (first
    | (go_at_call 35; (with_reducible refine CM.out.mono ?_); rintro e w2 ⟨rfl, rfl⟩)
    | (at_range; refine wpList_range_own _ rfl _ TPm rfl TPl TTa keyP Try.underlying62 heldV13 M m D rfl HS.out.map ?_; intro w0 hrg0 hg0 hs0)
    | go_in)
  have HG0 := Lib.hid (show Below w2.heap.size w2 w0 from ⟨hg0.os, hg0.tape, hg0.output, hg0.size, fun k hk => hg0.block k hk (by simp)⟩)
  have HR0 := Lib.hid hrg0
  have HMS := Lib.hid (show Maps.size D ≤ m by
    obtain ⟨es, clock, _, _, hs, rfl⟩ := HS.out.map
    show (List.foldr DataW.insert [] _).length ≤ m
    rw [length_sorted, List.length_map, Array.length_toList]
    exact hs)
  obtain ⟨r, hr⟩ : ∃ r, w2.heap.size = r := ⟨_, rfl⟩
  have HRE := Lib.hid hr
  rw [hr] at HR0 ⊢
  clear hg0 hrg0 hs0 hr
  go_frame
  go_loopw [3] (fun o wr => ∃ (left : Lit → Bool) (cnt : Nat) (acc : List Tt), wr.ranges Try.prog TPl heldV13 M r m D left cnt ∧ acc.length + cnt ≤ m ∧ OE ETp w2 acc o wr ∧ GotT13 L left acc) (fun _ wr => wr.rangeLeft M r)
  case atStart => exact ⟨_, _, [], HR0.out, by have := HMS.out; simpa using this, (OE.nil w2).below HG0.out, GotT13.start HS.out⟩
  case round =>
    obtain ⟨left, cnt, acc, hrg, hcs, hO, hG⟩ := hrel
    have HO := Lib.hid hO
    have HLO := Lib.hid hG
    have HRG := Lib.hid hrg
    have HCS := Lib.hid hcs
    clear hO hG hrg hcs
    go_wp2_with (first
      | (at_next; refine wpList_next_ranges _ rfl _ rfl TPl keyP heldV13 mkPl13 (fun v : Value => v) keyP_inv heldV13_inv M r m D left cnt rfl HRG.out ?_ ?_)
      | go_in)
    · intro hc0 hl0
      have HL0 := Lib.hid hl0
      have CS := Lib.hid (sort_totals13 _ HO.out.own (by have := HCS.out; have := HN.out; omega))
      clear hl0 hc0
      go_wp2_with (first
        | (go_at_call 37; (with_reducible refine CS.out.mono ?_); rintro e w3 ⟨rfl, q, hp3, hs3, hl3, hb3⟩; have HP3 := Lib.hid hp3; have HS3 := Lib.hid hs3; have HL3 := Lib.hid hl3; have HB3 := Lib.hid hb3; clear hp3 hs3 hl3 hb3))
      go_ret
      have e := sorted_is HS.out.wf HLO.out.1 (HLO.out.done HL0.out) HP3.out HS3.out
      exact ⟨_, rfl, by rw [← e]; exact HL3.out, HO.out.bel.trans HB3.out⟩
    · intro n k c kl yd yp w1 cnt1 hkey hlk hv hat hrg1 hcl hg1 hs1 hen
      obtain ⟨n', k', e1, hn, hk, ekl⟩ := keyP_inv2 _ kl hkey
      have e2 : n = n' ∧ k = k' := by
        injection e1 with e1
        have e1 : ([.string n, .int .i64 k] : List Value) = [.string n', .int .i64 k'] := congrArg Array.toList e1
        injection e1 with e3 e4
        injection e4 with e4 _
        injection e3 with e3
        injection e4 with _ e4
        exact ⟨e3, e4⟩
      obtain ⟨rfl, rfl⟩ := e2
      subst ekl
      have ey : ((DataW.held c, []) : DataW Value × List MemPlace) = (yd, yp) := Option.some.inj hv
      injection ey with ey1 ey2
      subst ey1
      obtain ⟨y, hyL, ey3, ey4, rfl⟩ := HS.out.at_key hn hk hat
      obtain ⟨yn, yk, yc, ys⟩ := y
      simp only at ey3 ey4
      subst ey3
      subst ey4
      have HST := Lib.hid (HLO.out.step HS.out hyL hlk)
      have hr1 : ∀ j, (some r : Option Nat) = some j → w2.heap.size ≤ j := fun j hj => by cases hj; rw [HRE.out]; exact Nat.le_refl _
      have HO1 := Lib.hid (other13 HO.out hg1 (ne_iterT13 HO.out.own HRG.out).1 hr1)
      have HLT := Lib.hid hcl
      have HR1 := Lib.hid hrg1
      have HAC := Lib.hid (show acc.length < 1000000 by have := HCS.out; have := HN.out; omega)
      clear hrg1 hg1 hs1 hkey hlk hv hat hcl hyL hr1 hn hk
      go_wp2_with (first
        | (at_builtin; refine wpList_appE (E := ETp) (xs := [⟨yn, yk, yc, ys⟩]) rfl (.tmp 19) (.tmp 29) rfl rfl (base := w2.heap.size) rfl (World.ownsRow.alloc (World.ownsRow.alloc (World.ownsRow.alloc HO1.out.own _) _) _) rfl rfl (by have hrow := rowE_one (E := ETp) ((w1.alloc (.cells #[.string yn, .int .i64 yk] 73)).alloc (.cells #[.int .i64 yc, .int .i64 ys] 71)) (⟨yn, yk, yc, ys⟩ : Tt) #[.string yn, .int .i64 yk, .int .i64 yc, .int .i64 ys] rfl 78; first | exact hrow | (simp at hrow ⊢; exact hrow)) (fun h => by cases h) (by have := HAC.out; simp; omega) (by have := HO1.out.bel.size; simp; omega) ?_; intro v' w3 hown3 hg3; have HN3 := Lib.hid ((HO1.out.below ((((bl w1).alloc (Nat.le_refl _) _).alloc (by simp) _).alloc (by simp; omega) _)).grown hg3 hown3); have HR3 := Lib.hid ((((HR1.out.alloc _).alloc _).alloc _).kept hg3 (fun e => (ne_iterT13 HO1.out.own HR1.out).2 e.symm) (fun e => (ne_iterT13 HO1.out.own HR1.out).1 e.symm)); clear hown3 hg3)
        | go_in)
      go_roundw
      case rel => exact ⟨_, cnt1, acc ++ [⟨yn, yk, yc, ys⟩], HR3.out, by have := HCS.out; have := HLT.out; simp; omega, HN3.out, HST.out⟩
      case measure => rw [HR3.out.left_eq, HRG.out.left_eq]; exact HLT.out
end Go.Proofs.Ytmhddpgeiijhgaa

/-
  The program's totals in memory: versions put and dropped.
-/
namespace Go.Proofs.Ytmhddpgeiijhgaa
open Go.RowKit

section
variable {w w' : World} {S M : Nat} {x : Int} {m : Nat} {D : DataW Value} {L : List Tt}
/-- What a turn of the map leaves of other blocks. -/
theorem cellM13 (h : St13 w S M x m D L) (hg : w.grownBy w' (some M)) {g o : Nat} {u : Value} (hc : w.cell? ⟨g, o, none⟩ = some u) : w'.cell? ⟨g, o, none⟩ = some u := by
  obtain ⟨es, clock, hm, _⟩ := h.map
  have hlt : g < w.heap.size := by
    rcases Nat.lt_or_ge g w.heap.size with h' | h'
    · exact h'
    · simp [World.cell?, Array.getElem?_eq_none h'] at hc
  have hne : some g ≠ some M := fun e => by
    injection e with e
    rw [e] at hc
    simp [World.cell?, hm] at hc
  exact (World.cell?_of_block (a := ⟨g, o, none⟩) (hg.block g hlt hne)).trans hc
theorem vfM13 {v : Vr} (hv : VF w v) (h : St13 w S M x m D L) (hg : w.grownBy w' (some M)) : VF w' v := by
  refine ⟨fun j f hf => ?_, hv.2⟩
  obtain ⟨g, off, e, c0, c1⟩ := hv.1 j f hf
  exact ⟨g, off, e, cellM13 h hg c0, cellM13 h hg c1⟩
theorem rowM13 {α : Type} {E : El α} {A : Option Addr} {l : List α} (hl : RowE E w A l) (h : St13 w S M x m D L) (hg : w.grownBy w' (some M)) : RowE E w' A l := fun i y hy => by
  obtain ⟨g, off, e, hc⟩ := hl i y hy
  exact ⟨g, off, e, fun j u hu => cellM13 h hg (hc j u hu)⟩
theorem versM13 {u : Value} {l : List Vr} (hl : VersL w u l) (h : St13 w S M x m D L) (hg : w.grownBy w' (some M)) : VersL w' u l := by
  obtain ⟨⟨A, c, e, hr, hc, hn⟩, hv⟩ := hl
  exact ⟨⟨A, c, e, rowM13 hr h hg, hc, hn⟩, fun v hv' => vfM13 (hv v hv') h hg⟩
end
theorem putVs_next {L : List Tt} {l : List Vr} {x sg : Int} {j : Nat} {v : Vr} (h : l[j]? = some v) : putVs L (l.take (j + 1)) x sg = putT (putVs L (l.take j) x sg) v x sg := by
  unfold putVs
  rw [List.take_add_one, h, Option.toList_some, List.foldl_append]; rfl
theorem putT_counts {L : List Tt} {v : Vr} {x sg : Int} (h : countsB v = true) : putT L v x sg = putsT L (floorV v.sf x) sg v.fs := by unfold putT; rw [if_pos h]; rfl
theorem putT_not {L : List Tt} {v : Vr} {x sg : Int} (h : countsB v = false) : putT L v x sg = L := by unfold putT; rw [if_neg (by rw [h]; simp)]
/-- What turn leaves. -/
def Turn13Post (S M : Nat) (x : Int) (m : Nat) (L : List Tt) (l : List Vr) (sg : Int) (w : World) (e : Ending) (w' : World) : Prop :=
  e = .returned (.int .i64 0) ∧ (∃ m' D', m' ≤ m + 20 * l.length ∧ St13 w' S M x m' D' (putVs L l x sg)) ∧ w.grownBy w' (some M)
theorem grown_refl13 (w : World) (row : Option Nat) : w.grownBy w row := ⟨rfl, rfl, rfl, Nat.le_refl _, fun _ _ _ => rfl⟩
set_option maxHeartbeats 8000000 in
set_option maxRecDepth 100000 in
theorem pturn13_any {w : World} {S M : Nat} {x : Int} {m : Nat} {D : DataW Value} {L : List Tt} (h : St13 w S M x m D L) (hx : 1 ≤ x ∧ x ≤ 1099511627776) (sg : Int) (u : Value) (l : List Vr) (hl : VersL w u l)
    (hfn : ∀ v ∈ l, ∀ f ∈ v.fs, f.n.size ≤ maxLen) (hfs : ∀ v ∈ l, v.fs.length ≤ 20) (hn : l.length ≤ 1000) (hm : m ≤ 100000) :
    Calls Try.prog 32 #[.pointer (some ⟨S, 0, none⟩), .int .i64 sg, u] w (Turn13Post S M x m L l sg w) := by
  have CM := Lib.hid (pmade13_any h.c0 hx.1)
  have HH := Lib.hid h
  have HL := Lib.hid hl
  have HFN := Lib.hid hfn
  have HFS := Lib.hid hfs
  obtain ⟨⟨A, c, rfl, _⟩, _⟩ := hl
  obtain ⟨n, hnl⟩ : ∃ n, l.length = n := ⟨_, rfl⟩
  rw [hnl] at hn ⊢
  have HNL := Lib.hid hnl
  clear h hfn hfs hnl
  go_enter Try.func32, Try.ntmps32
  go_wp2_with (go_at_call 35; (with_reducible refine CM.out.mono ?_); rintro e w2 ⟨rfl, rfl⟩)
  go_loopw [17] (fun i wr => ∃ (t m' : Nat) (D' : DataW Value), t ≤ n ∧ i = .int .i64 (t : Nat) ∧ m' ≤ m + 20 * t ∧ St13 wr S M x m' D' (putVs L (l.take t) x sg) ∧ w2.grownBy wr (some M)) (fun i _ => n - (intOf i).toNat)
  case atStart => exact ⟨0, m, D, Nat.zero_le _, rfl, Nat.le_refl _, HH.out, grown_refl13 _ _⟩
  case round =>
    obtain ⟨t, m', D', ht, rfl, hm', hst, hgw⟩ := hrel
    have HST := Lib.hid hst
    have HGW := Lib.hid hgw
    by_cases hlt : t < n
    · have hlt' : (t : Int) < (n : Int) := by omega
      obtain ⟨v, hv⟩ : ∃ v, l[t]? = some v := ⟨_, List.getElem?_eq_getElem (by have := HNL.out; omega)⟩
      have hvm := List.mem_of_getElem? hv
      have hvl := versM13 HL.out HH.out hgw
      have HVF := Lib.hid (hvl.2 v hvm)
      obtain ⟨⟨A', c', he, hr, _⟩, _⟩ := hvl
      injection he with he1 he2 he3
      rw [← he1] at hr
      obtain ⟨b, off, rfl, hX⟩ := RowE.cells7 hr hv
      obtain ⟨z0, z1, z2, z3, z4, z5, z6⟩ := hX
      have HNX := Lib.hid (putVs_next (L := L) (x := x) (sg := sg) hv)
      have HFV := Lib.hid (And.intro (HFN.out v hvm) (HFS.out v hvm))
      have x0 := hst.c0
      have CR := Lib.hid (fun w => pspan_right v.sf v.se w)
      have HB1 := Lib.hid (show Below wr.heap.size wr (wr.alloc (ocV v)) from (bl wr).alloc (Nat.le_refl _) _)
      clear hst hgw hr he1 he2 he3 hv hvm
      cases hg : v.gone with
      | true =>
        have HE := Lib.hid (putT_not (L := putVs L (l.take t) x sg) (x := x) (sg := sg) (show countsB v = false by unfold countsB; rw [hg]; rfl))
        go_wp2_with fail
        exact ⟨⟨t + 1, m', D', by omega, by go_num, by omega, by rw [HNX.out, HE.out]; exact HST.out.below ((bl wr).alloc (Nat.le_refl _) _), grown_trans13 HGW.out (grown_of13 ((bl wr).alloc (Nat.le_refl _) _) _)⟩, by simp [intOf]; omega⟩
      | false =>
        cases hrt : rightS v.sf v.se with
        | false =>
          have HE := Lib.hid (putT_not (L := putVs L (l.take t) x sg) (x := x) (sg := sg) (show countsB v = false by unfold countsB; rw [hrt, Bool.and_false]))
          rw [hrt] at CR
          go_wp2_with (go_at_call 30; (with_reducible refine (CR.out _).mono ?_); rintro e w3 ⟨rfl, hb3⟩; have HB3 := Lib.hid hb3; clear hb3)
          exact ⟨⟨t + 1, m', D', by omega, by go_num, by omega, by rw [HNX.out, HE.out]; exact HST.out.below (chain ((bl wr).alloc (Nat.le_refl _) _) HB3.out), grown_trans13 HGW.out (grown_of13 (chain ((bl wr).alloc (Nat.le_refl _) _) HB3.out) _)⟩, by simp [intOf]; omega⟩
        | true =>
          have hcb : countsB v = true := by unfold countsB; rw [hg, hrt]; rfl
          have HE := Lib.hid (putT_counts (L := putVs L (l.take t) x sg) (x := x) (sg := sg) hcb)
          have hsf : -1099511627776 ≤ v.sf ∧ v.sf < 1099511627776 := by
            simp only [rightS, Bool.and_eq_true, decide_eq_true_eq] at hrt
            omega
          have hfl : floorV v.sf x = v.sf / x := by
            rw [floorV, (widthB_iff x).2 hx, (timeB_iff v.sf).2 hsf]; rfl
          have hkb := ediv_small (t := v.sf) hx.1 hsf.1 (by omega)
          have HKI := Lib.hid (show okI13 (floorV v.sf x) by rw [hfl]; exact ⟨by omega, by omega⟩)
          have CF := Lib.hid (fun w => pfl13_any v.sf x w hx.1 hsf.1 (by omega))
          rw [← hfl] at CF
          generalize floorV v.sf x = kk at *
          rw [hrt] at CR
          obtain ⟨nf, hnf⟩ : ∃ nf, v.fs.length = nf := ⟨_, rfl⟩
          have HNF := Lib.hid hnf
          have HX3 := Lib.hid (show ∀ w', Below (wr.alloc (.cells #[.int .i64 v.id, .int .i64 v.st, .string v.ent, .int .i64 v.sf, .int .i64 v.se, .slice v.fa v.fs.length v.fc, .bool false] 51)).heap.size (wr.alloc (.cells #[.int .i64 v.id, .int .i64 v.st, .string v.ent, .int .i64 v.sf, .int .i64 v.se, .slice v.fa v.fs.length v.fc, .bool false] 51)) w' → w'.cell? ⟨wr.heap.size, 3, none⟩ = some (.int .i64 v.sf) ∧ w'.cell? ⟨wr.heap.size, 4, none⟩ = some (.int .i64 v.se) ∧ w'.cell? ⟨wr.heap.size, 5, none⟩ = some (.slice v.fa v.fs.length v.fc) ∧ w'.cell? ⟨S, 0, none⟩ = some (.int .i64 x) from fun w' h => ⟨keepc h (by simp [go_sem]), keepc h (by simp [go_sem]), keepc h (by simp [go_sem]), keepc (chain ((bl wr).alloc (Nat.le_refl _) _) h) x0⟩)
          have HB2 := Lib.hid (show Below wr.heap.size wr (wr.alloc (.cells #[.int .i64 v.id, .int .i64 v.st, .string v.ent, .int .i64 v.sf, .int .i64 v.se, .slice v.fa v.fs.length v.fc, .bool false] 51)) from (bl wr).alloc (Nat.le_refl _) _)
          clear hcb hsf hfl hkb hrt hnf
          go_wp2_with (first
            | (go_at_call 30; (with_reducible refine (CR.out _).mono ?_); rintro e w3 ⟨rfl, hb3⟩; obtain ⟨y3, y4, y5, y6⟩ := HX3.out _ hb3; have HB3 := Lib.hid (chain HB2.out hb3); clear hb3)
            | fail)
          go_quiet (first | (go_at_call 29; (with_reducible refine (CF.out _).mono ?_); exact fun e w' h => ⟨h.1, _, h.2⟩))
          have HB4 := Lib.hid (belowN HB3.out nq)
          have HS4 := Lib.hid (HST.out.below HB4.out)
          have HG4 := Lib.hid (grown_trans13 HGW.out (grown_of13 HB4.out (some M)))
          have HF4 := Lib.hid (HVF.out.below HB4.out)
          have y7 : (w3.drewN nq).cell? ⟨wr.heap.size, 5, none⟩ = some (.slice v.fa nf v.fc) := by rw [← HNF.out]; exact y5
          generalize w3.drewN nq = w4 at *
          clear y3 y4 y5 y6
          clear HVF HB2 HB3 HB4 HX3 HB1 CF CR x0 z0 z1 z2 z3 z4 z5 z6
          have HFA := Lib.hid HFV.out.1
          have HF20 := Lib.hid HFV.out.2
          have hf1 := HF4.out.1
          have hnf := HNF.out
          clear HFV HF4 HNF
          generalize v.fa = fa at *
          generalize v.fs = fs at *
          have HF1 := Lib.hid hf1
          have HNF := Lib.hid hnf
          have hnf20 : nf ≤ 20 := by have := HF20.out; omega
          clear hf1 hnf
          go_wp2_with fail
          go_loopw [40] (fun i wi => ∃ (q m2 : Nat) (D2 : DataW Value), q ≤ nf ∧ i = .int .i64 (q : Nat) ∧ m2 ≤ m' + q ∧ St13 wi S M x m2 D2 (putsT (putVs L (l.take t) x sg) kk sg (fs.take q)) ∧ w4.grownBy wi (some M)) (fun i _ => nf - (intOf i).toNat)
          case atStart => exact ⟨0, m', D', Nat.zero_le _, rfl, Nat.le_refl _, HS4.out, grown_refl13 _ _⟩
          case round =>
            obtain ⟨q, m2, D2, hq, rfl, hm2, hs2, hg2⟩ := hrel
            have HS2 := Lib.hid hs2
            have HG2 := Lib.hid hg2
            by_cases hlq : q < nf
            · have hlq' : (q : Int) < (nf : Int) := by omega
              obtain ⟨f, hf⟩ : ∃ f, fs[q]? = some f := ⟨_, List.getElem?_eq_getElem (by have := HNF.out; omega)⟩
              have HNX2 := Lib.hid (putsT_next (l := putVs L (l.take t) x sg) (k := kk) (sg := sg) hf)
              obtain ⟨g, o, hfa, c0, c1⟩ := HF1.out q f hf
              subst hfa
              have c0 := cellM13 HS4.out hg2 c0
              have c1 := cellM13 HS4.out hg2 c1
              have CA := Lib.hid (show ∀ w', Below wr.heap.size wr w' → Calls Try.prog 42 #[.pointer (some ⟨S, 0, none⟩), .agg #[.string f.n, .int .i64 kk], .agg #[.int .i64 sg, .int .i64 (wrap64 (sg * f.v))]] w' (AddP13 S M x m2 (putsT (putVs L (l.take t) x sg) kk sg (fs.take q)) f.n kk sg (wrap64 (sg * f.v)) w') from fun w' h => by
                exact padd13_any (hs2.below h) f.n kk sg (wrap64 (sg * f.v)) (HFA.out f (List.mem_of_getElem? hf)) HKI.out (by have := HF20.out; have := HNF.out; omega))
              clear hs2 hg2 hf
              go_wp2_with (go_at_call 42; (with_reducible refine (CA.out _ ((bl wr).alloc (Nat.le_refl _) _)).mono ?_); rintro e w5 ⟨rfl, ⟨D5, hs5⟩, hg5⟩; have HS5 := Lib.hid hs5; have HG5 := Lib.hid hg5; clear hs5 hg5)
              exact ⟨⟨q + 1, m2 + 1, D5, by omega, by go_num, by omega, by rw [HNX2.out]; exact HS5.out, grown_trans13 (grown_trans13 HG2.out (grown_of13 ((bl wr).alloc (Nat.le_refl _) _) _)) HG5.out⟩, by simp [intOf]; omega⟩
            · obtain rfl : q = nf := by omega
              have hlq' : ¬ (q : Int) < (q : Int) := by omega
              clear hs2 hg2
              go_wp2_with fail
              have h6 := HS2.out
              rw [List.take_of_length_le (l := fs) (by have := HNF.out; omega), ← HE.out, ← HNX.out] at h6
              exact ⟨⟨t + 1, m2, D2, by omega, by go_num, by have := HF20.out; have := HNF.out; omega, h6, grown_trans13 HG4.out HG2.out⟩, by simp [intOf]; omega⟩
    · obtain rfl : t = n := by omega
      have hlt' : ¬ (t : Int) < (t : Int) := by omega
      go_wp2_with fail
      go_ret
      have := HST.out
      rw [List.take_of_length_le (by have := HNL.out; omega)] at this
      exact ⟨rfl, ⟨m', D', by have := HNL.out; omega, this⟩, HGW.out⟩
end Go.Proofs.Ytmhddpgeiijhgaa

/-
  The program's totals in memory: Put, Drop; those that no call made.
-/
namespace Go.Proofs.Ytmhddpgeiijhgaa
open Go.RowKit

set_option maxHeartbeats 1000000 in
theorem pturn13_nil (w : World) (sg : Int) (A : Option Addr) (n c : Nat) : Same 32 #[.pointer none, .int .i64 sg, .slice A n c] w (.int .i64 1) := by
  have CM := Lib.hid (pmade13_nil w)
  go_enter Try.func32, Try.ntmps32
  go_wp2_with (go_at_call 35; (with_reducible refine CM.out.mono ?_); rintro e w2 ⟨rfl, rfl⟩)
  go_ret
  exact ⟨rfl, rfl⟩
set_option maxHeartbeats 1000000 in
theorem pput13_nil (w : World) (A : Option Addr) (n c : Nat) : Same 21 #[.pointer none, .slice A n c] w (.int .i64 1) := by
  have CM := Lib.hid (pturn13_nil w 1 A n c)
  go_enter Try.func21, Try.ntmps21
  go_wp2_with (go_at_call 32; (with_reducible refine CM.out.mono ?_); rintro e w2 ⟨rfl, rfl⟩)
  go_ret
  exact ⟨rfl, rfl⟩
set_option maxHeartbeats 1000000 in
theorem pdrop13_nil (w : World) (A : Option Addr) (n c : Nat) : Same 20 #[.pointer none, .slice A n c] w (.int .i64 1) := by
  have CM := Lib.hid (pturn13_nil w (-1) A n c)
  go_enter Try.func20, Try.ntmps20
  go_wp2_with (go_at_call 32; (with_reducible refine CM.out.mono ?_); rintro e w2 ⟨rfl, rfl⟩)
  go_ret
  exact ⟨rfl, rfl⟩
set_option maxHeartbeats 1000000 in
theorem pput13_any {w : World} {S M : Nat} {x : Int} {m : Nat} {D : DataW Value} {L : List Tt} (h : St13 w S M x m D L) (hx : 1 ≤ x ∧ x ≤ 1099511627776) (u : Value) (l : List Vr) (hl : VersL w u l)
    (hfn : ∀ v ∈ l, ∀ f ∈ v.fs, f.n.size ≤ maxLen) (hfs : ∀ v ∈ l, v.fs.length ≤ 20) (hn : l.length ≤ 1000) (hm : m ≤ 100000) :
    Calls Try.prog 21 #[.pointer (some ⟨S, 0, none⟩), u] w (Turn13Post S M x m L l 1 w) := by
  have CT := Lib.hid (pturn13_any h hx 1 u l hl hfn hfs hn hm)
  obtain ⟨⟨A, c, rfl, _⟩, _⟩ := hl
  clear h hfn hfs
  go_enter Try.func21, Try.ntmps21
  go_wp2_with (go_at_call 32; (with_reducible refine CT.out.mono ?_); rintro e w2 ⟨rfl, hs, hg⟩)
  go_ret
  exact ⟨rfl, hs, hg⟩
set_option maxHeartbeats 1000000 in
theorem pdrop13_any {w : World} {S M : Nat} {x : Int} {m : Nat} {D : DataW Value} {L : List Tt} (h : St13 w S M x m D L) (hx : 1 ≤ x ∧ x ≤ 1099511627776) (u : Value) (l : List Vr) (hl : VersL w u l)
    (hfn : ∀ v ∈ l, ∀ f ∈ v.fs, f.n.size ≤ maxLen) (hfs : ∀ v ∈ l, v.fs.length ≤ 20) (hn : l.length ≤ 1000) (hm : m ≤ 100000) :
    Calls Try.prog 20 #[.pointer (some ⟨S, 0, none⟩), u] w (Turn13Post S M x m L l (-1) w) := by
  have CT := Lib.hid (pturn13_any h hx (-1) u l hl hfn hfs hn hm)
  obtain ⟨⟨A, c, rfl, _⟩, _⟩ := hl
  clear h hfn hfs
  go_enter Try.func20, Try.ntmps20
  go_wp2_with (go_at_call 32; (with_reducible refine CT.out.mono ?_); rintro e w2 ⟨rfl, hs, hg⟩)
  go_ret
  exact ⟨rfl, hs, hg⟩
end Go.Proofs.Ytmhddpgeiijhgaa

/-
  The statement of what is put and dropped again, walked.
-/
namespace Go.Proofs.Ytmhddpgeiijhgaa
open Go.RowKit

theorem few13 {l : List Vr} {m : Int} (h : fewB l m = true) : (l.length : Int) ≤ m ∧ ∀ v ∈ l, v.fs.length ≤ 20 := by
  unfold fewB at h
  rw [Bool.and_eq_true, decide_eq_true_eq, List.all_eq_true] at h
  exact ⟨h.1, fun v hv => by simpa using h.2 v hv⟩
theorem below_turn13 {base : Nat} {W w w' : World} {M : Nat} (h : Below base W w) (hg : w.grownBy w' (some M)) (hM : base ≤ M) (hb : base ≤ w.heap.size) : Below base W w' :=
  ⟨hg.os.trans h.os, hg.tape.trans h.tape, hg.output.trans h.output, Nat.le_trans h.size hg.size, fun k hk => (hg.block k (by omega) (fun e => by injection e with e; omega)).trans (h.block k hk)⟩
set_option maxHeartbeats 8000000 in
set_option maxRecDepth 100000 in
theorem back13_walk (u : Value) (l : List Vr) (x n : Int) (W : World) (hl : VersL W u l) (hw : ∀ v ∈ l, okF v.fs) (hn : l.length ≤ 9223372036854775807) : Ret 7 #[u, .int .i64 x, .int .i64 n] W (.bool true) := by
  have CA := Lib.hid (fun w => alive13_any w)
  have CW := Lib.hid (dwidth13_any x)
  have CAN := Lib.hid pall13_nil
  have CPN := Lib.hid pput13_nil
  have CDN := Lib.hid pdrop13_nil
  have HL := Lib.hid hl
  obtain ⟨⟨A, c, rfl, hA, hc, h0⟩, hv⟩ := hl
  cases hwx : widthB x with
  | false =>
    rw [hwx] at CW
    have CN := Lib.hid (fun w => pnew13_bad x w hwx)
    clear hwx hv hA hw
    go_enter Try.func7, Try.ntmps7
    go_wp2_with (first
      | (go_at_call 26; (with_reducible refine (CAN.out _).mono ?_); rintro e w1 ⟨rfl, rfl⟩)
      | (go_at_call 21; (with_reducible refine (CPN.out _ _ _ _).mono ?_); rintro e w2 ⟨rfl, rfl⟩)
      | (go_at_call 20; (with_reducible refine (CDN.out _ _ _ _).mono ?_); rintro e w3 ⟨rfl, rfl⟩)
      | (go_at_call 17; (with_reducible refine (CN.out _).mono ?_); rintro e w4 ⟨rfl, rfl⟩)
      | (go_at_call 18; (with_reducible refine (CW.out _).mono ?_); rintro e w5 ⟨rfl, rfl⟩)
      | (go_at_call 12; (with_reducible refine (CA.out _).mono ?_); rintro e w7 ⟨rfl, hb7⟩))
    go_ret
    exact ⟨rfl, hb7⟩
  | true =>
    rw [hwx] at CW
    have hx := (widthB_iff x).1 hwx
    have CN := Lib.hid (fun w => pnew13_any x w hwx)
    have CF := Lib.hid (fun w' (h : Below W.heap.size W w') => dfew_any w' (.slice A l.length c) l 100 (HL.out.below h).1 hn)
    clear hwx
    by_cases hl0 : l.length = 0
    · have hl1 : (l.length : Int) = 0 := by omega
      have hl2 : ((l.length : Int) == 0) = true := by simpa using hl0
      generalize l.length = nl at *
      subst hl0
      clear hv hA hw
      go_enter Try.func7, Try.ntmps7
      go_wp2_with (first
        | (go_at_call 26; (with_reducible refine (CAN.out _).mono ?_); rintro e w1 ⟨rfl, rfl⟩)
        | (go_at_call 21; (with_reducible refine (CPN.out _ _ _ _).mono ?_); rintro e w2 ⟨rfl, rfl⟩)
        | (go_at_call 20; (with_reducible refine (CDN.out _ _ _ _).mono ?_); rintro e w3 ⟨rfl, rfl⟩)
        | (go_at_call 18; (with_reducible refine (CW.out _).mono ?_); rintro e w5 ⟨rfl, rfl⟩)
        | (go_at_call 19; (with_reducible refine (CF.out _ HB4.out).mono ?_); rintro e w6 ⟨rfl, rfl⟩)
        | (go_at_call 12; (with_reducible refine (CA.out _).mono ?_); rintro e w7 ⟨rfl, hb7⟩)
        | (go_at_call 17; (with_reducible refine (CN.out _).mono ?_); rintro e w4 ⟨S, M, D, rfl, hs4, hS4, hM4, hb4⟩; have HS4 := Lib.hid hs4; have HM4 := Lib.hid hM4; have HB4 := Lib.hid hb4; clear hs4 hS4 hM4 hb4))
      go_ret
      exact ⟨rfl, chain HB4.out hb7⟩
    · have hl1 : ¬ (l.length : Int) = 0 := by omega
      have hl2 : ((l.length : Int) == 0) = false := by simpa using hl0
      cases hf : fewB l 100 with
      | false =>
        rw [hf] at CF
        clear hv hA hw hf
        generalize l.length = nl at *
        go_enter Try.func7, Try.ntmps7
        go_wp2_with (first
          | (go_at_call 26; (with_reducible refine (CAN.out _).mono ?_); rintro e w1 ⟨rfl, rfl⟩)
          | (go_at_call 21; (with_reducible refine (CPN.out _ _ _ _).mono ?_); rintro e w2 ⟨rfl, rfl⟩)
          | (go_at_call 20; (with_reducible refine (CDN.out _ _ _ _).mono ?_); rintro e w3 ⟨rfl, rfl⟩)
          | (go_at_call 18; (with_reducible refine (CW.out _).mono ?_); rintro e w5 ⟨rfl, rfl⟩)
          | (go_at_call 19; (with_reducible refine (CF.out _ HB4.out).mono ?_); rintro e w6 ⟨rfl, rfl⟩)
          | (go_at_call 12; (with_reducible refine (CA.out _).mono ?_); rintro e w7 ⟨rfl, hb7⟩)
          | (go_at_call 17; (with_reducible refine (CN.out _).mono ?_); rintro e w4 ⟨S, M, D, rfl, hs4, hS4, hM4, hb4⟩; have HS4 := Lib.hid hs4; have HM4 := Lib.hid hM4; have HB4 := Lib.hid hb4; clear hs4 hS4 hM4 hb4))
        go_ret
        exact ⟨rfl, chain HB4.out hb7⟩
      | true =>
        rw [hf] at CF
        obtain ⟨hn100, hfs⟩ := few13 hf
        obtain ⟨nl, hnl⟩ : ∃ nl, l.length = nl := ⟨_, rfl⟩
        rw [hnl] at hl1 hl2 hn100 hc CF hl0 ⊢
        have hfn : ∀ v ∈ l, ∀ f ∈ v.fs, f.n.size ≤ maxLen := fun v hv f hf => by have := hw v hv f hf; unfold maxLen; omega
        obtain ⟨P, hP⟩ : ∃ P, n.tmod (nl : Int) = P := ⟨_, rfl⟩
        have hP1 : P < nl := by rw [← hP]; exact Int.tmod_lt_of_pos n (by omega)
        have hP2 : -(nl : Int) < P := by rw [← hP]; exact Int.lt_tmod_of_pos n (by omega)
        obtain ⟨kk, hkk, hkl⟩ : ∃ kk : Nat, (P + (nl : Int)).tmod (nl : Int) = (kk : Int) ∧ kk < nl := by
          have h1 := Int.tmod_lt_of_pos (P + (nl : Int)) (show (0 : Int) < nl by omega)
          have h2 := Int.tmod_nonneg (nl : Int) (show (0 : Int) ≤ P + (nl : Int) by omega)
          exact ⟨((P + (nl : Int)).tmod (nl : Int)).toNat, by omega, by omega⟩
        have q1 : wrap64 P = P := IntWalk.wrap64_in _ (by omega)
        have vP : Value.int .i64 (n.tmod (nl : Int)) = .int .i64 P := by rw [hP]
        have vP2 : Value.int .i64 (wrap64 (n.tmod (nl : Int))) = .int .i64 P := by rw [hP, q1]
        clear hP
        have q2 : wrap64 (P + (nl : Int)) = P + (nl : Int) := IntWalk.wrap64_in _ (by omega)
        have q3 : wrap64 (kk : Int) = (kk : Int) := IntWalk.wrap64_in _ (by omega)
        have vK : Value.int .i64 ((P + (nl : Int)).tmod (nl : Int)) = .int .i64 (kk : Int) := by rw [hkk]
        have vK2 : Value.int .i64 (wrap64 ((P + (nl : Int)).tmod (nl : Int))) = .int .i64 (kk : Int) := by rw [hkk, q3]
        clear hkk
        have hl1' : (nl : Int) ≠ 0 := hl1
        have hkl' : kk ≤ nl := Nat.le_of_lt hkl
        obtain ⟨B, hrun1, hrow1, hB0⟩ := slice_from (E := EV) (A := A) (n := nl) (c := c) (k := kk) hkl' hc h0
        have hrun1 : ∀ w, (Instr.slice 43 (.slice A nl c) (some (.int .i64 (kk : Int))) none none).run Try.prog w = .ok (.slice B (nl - kk) (c - kk)) w := hrun1
        have hrun2 : ∀ w, (Instr.slice 43 (.slice A nl c) none (some (.int .i64 (kk : Int))) none).run Try.prog w = .ok (.slice A kk c) w := slice_ahead (E := EV) (A := A) (n := nl) (c := c) (k := kk) hkl' hc
        have hd13 : (l.drop kk).length = nl - kk := by rw [List.length_drop, hnl]
        have ht13 : (l.take kk).length = kk := by rw [List.length_take, hnl]; exact Nat.min_eq_left hkl'
        have HV1 := Lib.hid (show ∀ w', Below W.heap.size W w' → VersL w' (.slice B (nl - kk) (c - kk)) (l.drop kk) from fun w' h =>
          ⟨⟨B, c - kk, by rw [hd13], hrow1 w' l (RowE.below hA h) hnl, by rw [hd13]; exact Nat.sub_le_sub_right hc kk, hB0⟩, fun v hvv => (hv v (List.mem_of_mem_drop hvv)).below h⟩)
        have HV2 := Lib.hid (show ∀ w', Below W.heap.size W w' → VersL w' (.slice A kk c) (l.take kk) from fun w' h =>
          ⟨⟨A, c, by rw [ht13], (RowE.below hA h).take kk, by rw [ht13]; exact Nat.le_trans hkl' hc, h0⟩, fun v hvv => (hv v (List.mem_of_mem_take hvv)).below h⟩)
        have HV0 := Lib.hid (show ∀ w', Below W.heap.size W w' → VersL w' (.slice A nl c) l from fun w' h => by
          have := HL.out.below h
          rwa [hnl] at this)
        have b0 : l.length ≤ 1000 := by omega
        have b1 : (l.drop kk).length ≤ 1000 := by omega
        have b2 : (l.take kk).length ≤ 1000 := by omega
        have CP := Lib.hid (fun w' S M D (hs : St13 w' S M x 0 D []) (h : Below W.heap.size W w') => pput13_any hs hx _ l (HV0.out w' h) hfn hfs b0 (Nat.zero_le _))
        have CD1 := Lib.hid (fun w' S M m D L (hs : St13 w' S M x m D L) (hm : m ≤ 2000) (h : Below W.heap.size W w') => pdrop13_any hs hx _ (l.drop kk) (HV1.out w' h) (fun v hvv => hfn v (List.mem_of_mem_drop hvv)) (fun v hvv => hfs v (List.mem_of_mem_drop hvv)) b1 (Nat.le_trans hm (by decide)))
        have CD2 := Lib.hid (fun w' S M m D L (hs : St13 w' S M x m D L) (hm : m ≤ 4000) (h : Below W.heap.size W w') => pdrop13_any hs hx _ (l.take kk) (HV2.out w' h) (fun v hvv => hfn v (List.mem_of_mem_take hvv)) (fun v hvv => hfs v (List.mem_of_mem_take hvv)) b2 (Nat.le_trans hm (by decide)))
        have CAL := Lib.hid (fun w' S M m D L (hs : St13 w' S M x m D L) (hm : m ≤ 6000) => pall13_any hs hx.1 (Nat.le_trans hm (by decide)))
        have HNL := Lib.hid (And.intro hnl hn100)
        have HBN := Lib.hid (back_none l x kk)
        clear hv hA hw hf hfs hfn hrow1 hB0 hP1 hP2 hl0 hnl hn100
        go_enter Try.func7, Try.ntmps7
        go_wp2_with (first
          | (go_at_call 26; (with_reducible refine (CAN.out _).mono ?_); rintro e w1 ⟨rfl, rfl⟩)
          | (go_at_call 21; (with_reducible refine (CPN.out _ _ _ _).mono ?_); rintro e w2 ⟨rfl, rfl⟩)
          | (go_at_call 20; (with_reducible refine (CDN.out _ _ _ _).mono ?_); rintro e w3 ⟨rfl, rfl⟩)
          | (go_at_call 19; (with_reducible refine (CF.out _ HB4.out).mono ?_); rintro e w6 ⟨rfl, rfl⟩)
          | (go_at_call 17; (with_reducible refine (CN.out _).mono ?_); rintro e w4 ⟨S, M, D, rfl, hs4, hS4, hM4, hb4⟩; have HS4 := Lib.hid hs4; have HM4 := Lib.hid hM4; have HB4 := Lib.hid hb4; clear hs4 hS4 hM4 hb4)
          | (go_at_call 21; (with_reducible refine (CP.out _ _ _ _ HS4.out HB4.out).mono ?_); rintro e w5 ⟨rfl, ⟨m5, D5, hm5, hs5⟩, hg5⟩; have HS5 := Lib.hid hs5; have HM5 := Lib.hid (show m5 ≤ 2000 by have := HNL.out; omega); have HB5 := Lib.hid (below_turn13 HB4.out hg5 HM4.out HB4.out.size); clear hs5 hm5 hg5)
          | (go_at_call 20; (with_reducible refine (CD1.out _ _ _ _ _ _ HS5.out HM5.out HB5.out).mono ?_); rintro e w8 ⟨rfl, ⟨m8, D8, hm8, hs8⟩, hg8⟩; have HS8 := Lib.hid hs8; have HM8 := Lib.hid (show m8 ≤ 4000 by have := HNL.out; have := HM5.out; rw [List.length_drop] at hm8; omega); have HB8 := Lib.hid (below_turn13 HB5.out hg8 HM4.out HB5.out.size); clear hs8 hm8 hg8)
          | (go_at_call 20; (with_reducible refine (CD2.out _ _ _ _ _ _ HS8.out HM8.out HB8.out).mono ?_); rintro e w9 ⟨rfl, ⟨m9, D9, hm9, hs9⟩, hg9⟩; have HM9 := Lib.hid (show m9 ≤ 6000 by have := HNL.out; have := HM8.out; rw [List.length_take] at hm9; omega); have HB9 := Lib.hid (below_turn13 HB8.out hg9 HM4.out HB8.out.size); rw [HBN.out] at hs9; have HS9 := Lib.hid hs9; clear hs9 hm9 hg9)
          | (go_at_call 26; (with_reducible refine (CAL.out _ _ _ _ _ _ HS9.out HM9.out).mono ?_); rintro e wa ⟨ua, rfl, ⟨Aa, ca, rfl, _⟩, hba⟩; have HBA := Lib.hid (chain HB9.out hba); clear hba)
          | (go_at_call 12; (with_reducible refine (CA.out _).mono ?_); rintro e w7 ⟨rfl, hb7⟩))
        go_ret
        exact ⟨rfl, chain HBA.out hb7⟩
end Go.Proofs.Ytmhddpgeiijhgaa
