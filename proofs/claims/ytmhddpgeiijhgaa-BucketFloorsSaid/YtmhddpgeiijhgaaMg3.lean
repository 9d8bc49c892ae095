/-
  Texts joined into one: what the program's and the document's calls give back, piece by piece.
-/
import Derived.Test.YtmhddpgeiijhgaaMg1
import Derived.Test.YtmhddpgeiijhgaaMg2
import Derived.Test.YtmhddpgeiijhgaaRows
import Derived.BigQuiet
import Derived.ChangeAlike
import Derived.ChangeKeysEq
import Derived.Deep.AppendLies
import Derived.Deep.CutBlock
import Derived.Deep.CutRange
import Derived.Deep.Light
import Derived.Deep.QuietTactic
import Derived.Deep.RegionHeld3
import Derived.Deep.RegionLaw
import Derived.Handy
import Derived.Laws.BytesArg
import Derived.Laws.OwnMore
import Derived.Laws.Strings
import Derived.Laws.StructEq
import Derived.Lib.Hide
import Derived.Maps.AppendAt
import Derived.OneCell
import Derived.OwnWalk
import Derived.RegionTactic
import Derived.StillTailTactics
import Derived.WalkArith
import Derived.WalkKit
import Derived.WalkLawsBesides
import Derived.WalkSpells
import Derived.Test.YtmhddpgeiijhgaaChecked
import Derived.ChangeMaps5
import Derived.Deep.SlicePairs
import Derived.Lib.SmallJoins
import Derived.OpenShut
import Derived.ProofKit
import Derived.SizedLaws
import Derived.DeepKeys4
import Derived.Maps.OwnSet
import Derived.Maps.RangeWalk
import Derived.Lib.Bytealg
import Derived.RangeFuncOwn

/-
  What a call may turn: some cells, and nothing else; a version that is read into a block, cell by cell.
-/
namespace Go.Proofs.Ytmhddpgeiijhgaa
open Go.RowKit

/-- Whatever lay, lies, but for the cells M. -/
structure But (M : Nat → Nat → Prop) (w w' : World) : Prop where
  os : w'.os = w.os
  tape : w'.tape = w.tape
  output : w'.output = w.output
  size : w.heap.size ≤ w'.heap.size
  block : ∀ c, c < w.heap.size → (∀ o, ¬ M c o) → w'.heap[c]? = w.heap[c]?
  cell : ∀ c o, c < w.heap.size → ¬ M c o → w'.cell? ⟨c, o, none⟩ = w.cell? ⟨c, o, none⟩
  frz : ∀ c o, c < w.heap.size → w'.frozen? ⟨c, o, none⟩ = w.frozen? ⟨c, o, none⟩
theorem But.refl (M : Nat → Nat → Prop) (w : World) : But M w w := ⟨rfl, rfl, rfl, Nat.le_refl _, fun _ _ _ => rfl, fun _ _ _ _ => rfl, fun _ _ _ => rfl⟩
theorem But.trans {M : Nat → Nat → Prop} {a b c : World} (h : But M a b) (k : But M b c) : But M a c :=
  ⟨k.os.trans h.os, k.tape.trans h.tape, k.output.trans h.output, Nat.le_trans h.size k.size,
   fun i hi hm => (k.block i (Nat.lt_of_lt_of_le hi h.size) hm).trans (h.block i hi hm),
   fun i o hi hm => (k.cell i o (Nat.lt_of_lt_of_le hi h.size) hm).trans (h.cell i o hi hm),
   fun i o hi => (k.frz i o (Nat.lt_of_lt_of_le hi h.size)).trans (h.frz i o hi)⟩
theorem But.of_below {M : Nat → Nat → Prop} {w w' : World} (h : Below w.heap.size w w') : But M w w' :=
  ⟨h.os, h.tape, h.output, h.size, fun c hc _ => h.block c hc, fun c o hc _ => h.cell (p := ⟨c, o, none⟩) hc, fun c o hc => h.frozen (p := ⟨c, o, none⟩) hc⟩
theorem But.set {M : Nat → Nat → Prop} {a w : World} (h : But M a w) {b o : Nat} (hm : M b o) (u : Value) : But M a (w.setCell ⟨b, o, none⟩ u) :=
  ⟨h.os, h.tape, h.output, by have := h.size; simpa [World.setCell] using this,
   fun c hc hn => (Below.heap_setCell w ⟨b, o, none⟩ u c (fun e => hn o (by simp at e; rw [e]; exact hm))).trans (h.block c hc hn),
   fun c i hc hn => (World.cell?_setCell_other w ⟨b, o, none⟩ ⟨c, i, none⟩ u (fun e => hn (by injection e with e1 e2; subst e1 e2; exact hm))).trans (h.cell c i hc hn),
   fun c i hc => (World.frozen?_setCell _ _ _ _).trans (h.frz c i hc)⟩
theorem But.below {M : Nat → Nat → Prop} {w w' : World} (h : But M w w') {n : Nat} (hn : n ≤ w.heap.size) (hM : ∀ c o, M c o → n ≤ c) : Below n w w' :=
  ⟨h.os, h.tape, h.output, h.size, fun c hc => h.block c (by omega) (fun o hm => by have := hM c o hm; omega)⟩
theorem But.mono {M M' : Nat → Nat → Prop} {w w' : World} (h : But M w w') (hM : ∀ c o, c < w.heap.size → M c o → M' c o) : But M' w w' :=
  ⟨h.os, h.tape, h.output, h.size, fun c hc hn => h.block c hc (fun o hm => hn o (hM c o hc hm)), fun c o hc hn => h.cell c o hc (fun hm => hn (hM c o hc hm)), h.frz⟩
theorem But.keep {M : Nat → Nat → Prop} {w w' : World} (h : But M w w') {c o : Nat} {v : Value} (hc : w.cell? ⟨c, o, none⟩ = some v) (hm : ¬ M c o) : w'.cell? ⟨c, o, none⟩ = some v :=
  (h.cell c o (lt_of_cell hc) hm).trans hc
/-- From an earlier world on. -/
theorem But.ahead {M : Nat → Nat → Prop} {a w w' : World} (hb : Below a.heap.size a w) (h : But M w w') : But M a w' := (But.of_below hb).trans h
/-- The cells of a version in block b. -/
abbrev MV (b : Nat) : Nat → Nat → Prop := fun c o => c = b ∧ o < 7

/-- The fields of a version lie where it says, and from block n on. -/
def FarF (n : Nat) (w : World) (v : Vr) : Prop := VF w v ∧ ∀ a, v.fa = some a → n ≤ a.block
theorem FarF.but {M : Nat → Nat → Prop} {n : Nat} {w w' : World} {v : Vr} (h : FarF n w v) (hb : But M w w') (hM : ∀ c o, M c o → c < n) : FarF n w' v :=
  ⟨⟨fun i f hf => by
    obtain ⟨g, off, he, c0, c1⟩ := h.1.1 i f hf
    have hg : n ≤ g := h.2 _ he
    exact ⟨g, off, he, hb.keep c0 (fun hm => by have := hM _ _ hm; omega), hb.keep c1 (fun hm => by have := hM _ _ hm; omega)⟩, h.1.2⟩, h.2⟩
theorem FarF.below {n : Nat} {w w' : World} {v : Vr} (h : FarF n w v) (hb : Below w.heap.size w w') : FarF n w' v := ⟨h.1.below hb, h.2⟩
theorem FarF.nil {n : Nat} (w : World) (v : Vr) (h : v.fs = []) (h2 : v.fa = none) (h3 : v.fc = 0) : FarF n w v :=
  ⟨⟨by rw [h]; exact Fields.nil _ _, by rw [h]; exact Nat.zero_le _, fun _ => h3⟩, fun a ha => by rw [h2] at ha; cases ha⟩
theorem FarF.same {n : Nat} {w : World} {v v' : Vr} (h : FarF n w v) (h1 : v'.fa = v.fa) (h2 : v'.fc = v.fc) (h3 : v'.fs = v.fs) : FarF n w v' := by
  unfold FarF VF at h ⊢
  rw [h1, h2, h3]; exact h
theorem OF.far {W w : World} {l : List Fd} {u : Value} (h : OF W l u w) : ∃ A c, u = .slice A l.length c ∧ ∀ v : Vr, v.fa = A → v.fc = c → v.fs = l → FarF W.heap.size w v := by
  obtain ⟨A, c, rfl, hF, hc, hn⟩ := h.list
  refine ⟨A, c, rfl, fun v h1 h2 h3 => ?_⟩
  subst h1 h2 h3
  exact ⟨⟨hF, hc, hn⟩, fun a ha => (h.own.lt a.block (by rw [ha]; rfl)).1⟩

theorem HoldV.set0 {w : World} {b : Nat} {v : Vr} (h : HoldV w b v) (n : Int) : HoldV (w.setCell ⟨b, 0, none⟩ (.int .i64 n)) b {v with id := n} :=
  ⟨⟨World.cell?_setCell_same _ ⟨b, 0, none⟩ _ (h.c.1), (World.cell?_setCell_other _ ⟨b, 0, none⟩ ⟨b, 1, none⟩ _ (by simp)).trans (h.c.2.1), (World.cell?_setCell_other _ ⟨b, 0, none⟩ ⟨b, 2, none⟩ _ (by simp)).trans (h.c.2.2.1), (World.cell?_setCell_other _ ⟨b, 0, none⟩ ⟨b, 3, none⟩ _ (by simp)).trans (h.c.2.2.2.1), (World.cell?_setCell_other _ ⟨b, 0, none⟩ ⟨b, 4, none⟩ _ (by simp)).trans (h.c.2.2.2.2.1), (World.cell?_setCell_other _ ⟨b, 0, none⟩ ⟨b, 5, none⟩ _ (by simp)).trans (h.c.2.2.2.2.2.1), (World.cell?_setCell_other _ ⟨b, 0, none⟩ ⟨b, 6, none⟩ _ (by simp)).trans (h.c.2.2.2.2.2.2)⟩, (World.frozen?_setCell _ _ _ _).trans (h.f.1), (World.frozen?_setCell _ _ _ _).trans (h.f.2.1), (World.frozen?_setCell _ _ _ _).trans (h.f.2.2.1), (World.frozen?_setCell _ _ _ _).trans (h.f.2.2.2.1), (World.frozen?_setCell _ _ _ _).trans (h.f.2.2.2.2.1), (World.frozen?_setCell _ _ _ _).trans (h.f.2.2.2.2.2.1), (World.frozen?_setCell _ _ _ _).trans (h.f.2.2.2.2.2.2)⟩
theorem HoldV.set1 {w : World} {b : Nat} {v : Vr} (h : HoldV w b v) (n : Int) : HoldV (w.setCell ⟨b, 1, none⟩ (.int .i64 n)) b {v with st := n} :=
  ⟨⟨(World.cell?_setCell_other _ ⟨b, 1, none⟩ ⟨b, 0, none⟩ _ (by simp)).trans (h.c.1), World.cell?_setCell_same _ ⟨b, 1, none⟩ _ (h.c.2.1), (World.cell?_setCell_other _ ⟨b, 1, none⟩ ⟨b, 2, none⟩ _ (by simp)).trans (h.c.2.2.1), (World.cell?_setCell_other _ ⟨b, 1, none⟩ ⟨b, 3, none⟩ _ (by simp)).trans (h.c.2.2.2.1), (World.cell?_setCell_other _ ⟨b, 1, none⟩ ⟨b, 4, none⟩ _ (by simp)).trans (h.c.2.2.2.2.1), (World.cell?_setCell_other _ ⟨b, 1, none⟩ ⟨b, 5, none⟩ _ (by simp)).trans (h.c.2.2.2.2.2.1), (World.cell?_setCell_other _ ⟨b, 1, none⟩ ⟨b, 6, none⟩ _ (by simp)).trans (h.c.2.2.2.2.2.2)⟩, (World.frozen?_setCell _ _ _ _).trans (h.f.1), (World.frozen?_setCell _ _ _ _).trans (h.f.2.1), (World.frozen?_setCell _ _ _ _).trans (h.f.2.2.1), (World.frozen?_setCell _ _ _ _).trans (h.f.2.2.2.1), (World.frozen?_setCell _ _ _ _).trans (h.f.2.2.2.2.1), (World.frozen?_setCell _ _ _ _).trans (h.f.2.2.2.2.2.1), (World.frozen?_setCell _ _ _ _).trans (h.f.2.2.2.2.2.2)⟩
theorem HoldV.set2 {w : World} {b : Nat} {v : Vr} (h : HoldV w b v) (n : ByteArray) : HoldV (w.setCell ⟨b, 2, none⟩ (.string n)) b {v with ent := n} :=
  ⟨⟨(World.cell?_setCell_other _ ⟨b, 2, none⟩ ⟨b, 0, none⟩ _ (by simp)).trans (h.c.1), (World.cell?_setCell_other _ ⟨b, 2, none⟩ ⟨b, 1, none⟩ _ (by simp)).trans (h.c.2.1), World.cell?_setCell_same _ ⟨b, 2, none⟩ _ (h.c.2.2.1), (World.cell?_setCell_other _ ⟨b, 2, none⟩ ⟨b, 3, none⟩ _ (by simp)).trans (h.c.2.2.2.1), (World.cell?_setCell_other _ ⟨b, 2, none⟩ ⟨b, 4, none⟩ _ (by simp)).trans (h.c.2.2.2.2.1), (World.cell?_setCell_other _ ⟨b, 2, none⟩ ⟨b, 5, none⟩ _ (by simp)).trans (h.c.2.2.2.2.2.1), (World.cell?_setCell_other _ ⟨b, 2, none⟩ ⟨b, 6, none⟩ _ (by simp)).trans (h.c.2.2.2.2.2.2)⟩, (World.frozen?_setCell _ _ _ _).trans (h.f.1), (World.frozen?_setCell _ _ _ _).trans (h.f.2.1), (World.frozen?_setCell _ _ _ _).trans (h.f.2.2.1), (World.frozen?_setCell _ _ _ _).trans (h.f.2.2.2.1), (World.frozen?_setCell _ _ _ _).trans (h.f.2.2.2.2.1), (World.frozen?_setCell _ _ _ _).trans (h.f.2.2.2.2.2.1), (World.frozen?_setCell _ _ _ _).trans (h.f.2.2.2.2.2.2)⟩
theorem HoldV.set3 {w : World} {b : Nat} {v : Vr} (h : HoldV w b v) (n : Int) : HoldV (w.setCell ⟨b, 3, none⟩ (.int .i64 n)) b {v with sf := n} :=
  ⟨⟨(World.cell?_setCell_other _ ⟨b, 3, none⟩ ⟨b, 0, none⟩ _ (by simp)).trans (h.c.1), (World.cell?_setCell_other _ ⟨b, 3, none⟩ ⟨b, 1, none⟩ _ (by simp)).trans (h.c.2.1), (World.cell?_setCell_other _ ⟨b, 3, none⟩ ⟨b, 2, none⟩ _ (by simp)).trans (h.c.2.2.1), World.cell?_setCell_same _ ⟨b, 3, none⟩ _ (h.c.2.2.2.1), (World.cell?_setCell_other _ ⟨b, 3, none⟩ ⟨b, 4, none⟩ _ (by simp)).trans (h.c.2.2.2.2.1), (World.cell?_setCell_other _ ⟨b, 3, none⟩ ⟨b, 5, none⟩ _ (by simp)).trans (h.c.2.2.2.2.2.1), (World.cell?_setCell_other _ ⟨b, 3, none⟩ ⟨b, 6, none⟩ _ (by simp)).trans (h.c.2.2.2.2.2.2)⟩, (World.frozen?_setCell _ _ _ _).trans (h.f.1), (World.frozen?_setCell _ _ _ _).trans (h.f.2.1), (World.frozen?_setCell _ _ _ _).trans (h.f.2.2.1), (World.frozen?_setCell _ _ _ _).trans (h.f.2.2.2.1), (World.frozen?_setCell _ _ _ _).trans (h.f.2.2.2.2.1), (World.frozen?_setCell _ _ _ _).trans (h.f.2.2.2.2.2.1), (World.frozen?_setCell _ _ _ _).trans (h.f.2.2.2.2.2.2)⟩
theorem HoldV.set4 {w : World} {b : Nat} {v : Vr} (h : HoldV w b v) (n : Int) : HoldV (w.setCell ⟨b, 4, none⟩ (.int .i64 n)) b {v with se := n} :=
  ⟨⟨(World.cell?_setCell_other _ ⟨b, 4, none⟩ ⟨b, 0, none⟩ _ (by simp)).trans (h.c.1), (World.cell?_setCell_other _ ⟨b, 4, none⟩ ⟨b, 1, none⟩ _ (by simp)).trans (h.c.2.1), (World.cell?_setCell_other _ ⟨b, 4, none⟩ ⟨b, 2, none⟩ _ (by simp)).trans (h.c.2.2.1), (World.cell?_setCell_other _ ⟨b, 4, none⟩ ⟨b, 3, none⟩ _ (by simp)).trans (h.c.2.2.2.1), World.cell?_setCell_same _ ⟨b, 4, none⟩ _ (h.c.2.2.2.2.1), (World.cell?_setCell_other _ ⟨b, 4, none⟩ ⟨b, 5, none⟩ _ (by simp)).trans (h.c.2.2.2.2.2.1), (World.cell?_setCell_other _ ⟨b, 4, none⟩ ⟨b, 6, none⟩ _ (by simp)).trans (h.c.2.2.2.2.2.2)⟩, (World.frozen?_setCell _ _ _ _).trans (h.f.1), (World.frozen?_setCell _ _ _ _).trans (h.f.2.1), (World.frozen?_setCell _ _ _ _).trans (h.f.2.2.1), (World.frozen?_setCell _ _ _ _).trans (h.f.2.2.2.1), (World.frozen?_setCell _ _ _ _).trans (h.f.2.2.2.2.1), (World.frozen?_setCell _ _ _ _).trans (h.f.2.2.2.2.2.1), (World.frozen?_setCell _ _ _ _).trans (h.f.2.2.2.2.2.2)⟩
theorem HoldV.set6 {w : World} {b : Nat} {v : Vr} (h : HoldV w b v) (n : Bool) : HoldV (w.setCell ⟨b, 6, none⟩ (.bool n)) b {v with gone := n} :=
  ⟨⟨(World.cell?_setCell_other _ ⟨b, 6, none⟩ ⟨b, 0, none⟩ _ (by simp)).trans (h.c.1), (World.cell?_setCell_other _ ⟨b, 6, none⟩ ⟨b, 1, none⟩ _ (by simp)).trans (h.c.2.1), (World.cell?_setCell_other _ ⟨b, 6, none⟩ ⟨b, 2, none⟩ _ (by simp)).trans (h.c.2.2.1), (World.cell?_setCell_other _ ⟨b, 6, none⟩ ⟨b, 3, none⟩ _ (by simp)).trans (h.c.2.2.2.1), (World.cell?_setCell_other _ ⟨b, 6, none⟩ ⟨b, 4, none⟩ _ (by simp)).trans (h.c.2.2.2.2.1), (World.cell?_setCell_other _ ⟨b, 6, none⟩ ⟨b, 5, none⟩ _ (by simp)).trans (h.c.2.2.2.2.2.1), World.cell?_setCell_same _ ⟨b, 6, none⟩ _ (h.c.2.2.2.2.2.2)⟩, (World.frozen?_setCell _ _ _ _).trans (h.f.1), (World.frozen?_setCell _ _ _ _).trans (h.f.2.1), (World.frozen?_setCell _ _ _ _).trans (h.f.2.2.1), (World.frozen?_setCell _ _ _ _).trans (h.f.2.2.2.1), (World.frozen?_setCell _ _ _ _).trans (h.f.2.2.2.2.1), (World.frozen?_setCell _ _ _ _).trans (h.f.2.2.2.2.2.1), (World.frozen?_setCell _ _ _ _).trans (h.f.2.2.2.2.2.2)⟩
theorem HoldV.set5 {w : World} {b : Nat} {v : Vr} (h : HoldV w b v) (A : Option Addr) (c : Nat) (l : List Fd) : HoldV (w.setCell ⟨b, 5, none⟩ (.slice A l.length c)) b {v with fa := A, fc := c, fs := l} :=
  ⟨⟨(World.cell?_setCell_other _ ⟨b, 5, none⟩ ⟨b, 0, none⟩ _ (by simp)).trans (h.c.1), (World.cell?_setCell_other _ ⟨b, 5, none⟩ ⟨b, 1, none⟩ _ (by simp)).trans (h.c.2.1), (World.cell?_setCell_other _ ⟨b, 5, none⟩ ⟨b, 2, none⟩ _ (by simp)).trans (h.c.2.2.1), (World.cell?_setCell_other _ ⟨b, 5, none⟩ ⟨b, 3, none⟩ _ (by simp)).trans (h.c.2.2.2.1), (World.cell?_setCell_other _ ⟨b, 5, none⟩ ⟨b, 4, none⟩ _ (by simp)).trans (h.c.2.2.2.2.1), World.cell?_setCell_same _ ⟨b, 5, none⟩ _ (h.c.2.2.2.2.2.1), (World.cell?_setCell_other _ ⟨b, 5, none⟩ ⟨b, 6, none⟩ _ (by simp)).trans (h.c.2.2.2.2.2.2)⟩, (World.frozen?_setCell _ _ _ _).trans (h.f.1), (World.frozen?_setCell _ _ _ _).trans (h.f.2.1), (World.frozen?_setCell _ _ _ _).trans (h.f.2.2.1), (World.frozen?_setCell _ _ _ _).trans (h.f.2.2.2.1), (World.frozen?_setCell _ _ _ _).trans (h.f.2.2.2.2.1), (World.frozen?_setCell _ _ _ _).trans (h.f.2.2.2.2.2.1), (World.frozen?_setCell _ _ _ _).trans (h.f.2.2.2.2.2.2)⟩
theorem HoldV.other {w : World} {b : Nat} {v : Vr} (h : HoldV w b v) {c o : Nat} (hne : b ≠ c) (u : Value) : HoldV (w.setCell ⟨c, o, none⟩ u) b v :=
  ⟨⟨(World.cell?_setCell_other _ ⟨c, o, none⟩ ⟨b, 0, none⟩ _ (fun e => hne (by injection e with e1 e2; exact e1.symm))).trans (h.c.1), (World.cell?_setCell_other _ ⟨c, o, none⟩ ⟨b, 1, none⟩ _ (fun e => hne (by injection e with e1 e2; exact e1.symm))).trans (h.c.2.1), (World.cell?_setCell_other _ ⟨c, o, none⟩ ⟨b, 2, none⟩ _ (fun e => hne (by injection e with e1 e2; exact e1.symm))).trans (h.c.2.2.1), (World.cell?_setCell_other _ ⟨c, o, none⟩ ⟨b, 3, none⟩ _ (fun e => hne (by injection e with e1 e2; exact e1.symm))).trans (h.c.2.2.2.1), (World.cell?_setCell_other _ ⟨c, o, none⟩ ⟨b, 4, none⟩ _ (fun e => hne (by injection e with e1 e2; exact e1.symm))).trans (h.c.2.2.2.2.1), (World.cell?_setCell_other _ ⟨c, o, none⟩ ⟨b, 5, none⟩ _ (fun e => hne (by injection e with e1 e2; exact e1.symm))).trans (h.c.2.2.2.2.2.1), (World.cell?_setCell_other _ ⟨c, o, none⟩ ⟨b, 6, none⟩ _ (fun e => hne (by injection e with e1 e2; exact e1.symm))).trans (h.c.2.2.2.2.2.2)⟩, (World.frozen?_setCell _ _ _ _).trans (h.f.1), (World.frozen?_setCell _ _ _ _).trans (h.f.2.1), (World.frozen?_setCell _ _ _ _).trans (h.f.2.2.1), (World.frozen?_setCell _ _ _ _).trans (h.f.2.2.2.1), (World.frozen?_setCell _ _ _ _).trans (h.f.2.2.2.2.1), (World.frozen?_setCell _ _ _ _).trans (h.f.2.2.2.2.2.1), (World.frozen?_setCell _ _ _ _).trans (h.f.2.2.2.2.2.2)⟩

end Go.Proofs.Ytmhddpgeiijhgaa

/-
  Plain facts on lists of spans: which times a list has, what a cover is, that a set of times has one cover, how covers grow at their end.
-/
namespace Go.Proofs.Ytmhddpgeiijhgaa.Co

/-- May the span be? -/
def rightB (f t : Int) : Bool := decide (-1099511627776 ≤ f ∧ f < t ∧ t ≤ 1099511627776)
/-- Has it the time? -/
def hasB (f t x : Int) : Bool := decide (f ≤ x ∧ x < t)
theorem right_yes {f t : Int} (h : rightB f t = true) : -1099511627776 ≤ f ∧ f < t ∧ t ≤ 1099511627776 := by simpa [rightB] using h
theorem right_no {f t : Int} (h : rightB f t = false) : ¬ (-1099511627776 ≤ f ∧ f < t ∧ t ≤ 1099511627776) := by simpa [rightB] using h

abbrev Sp := Int × Int
/-- Has one of the list's right spans the time? -/
def Mem (l : List Sp) (x : Int) : Prop := ∃ p ∈ l, rightB p.1 p.2 = true ∧ p.1 ≤ x ∧ x < p.2
def memB (l : List Sp) (x : Int) : Bool := l.any fun p => rightB p.1 p.2 && hasB p.1 p.2 x
theorem memB_iff (l : List Sp) (x : Int) : memB l x = true ↔ Mem l x := by simp [memB, Mem, hasB]
theorem memB_eq {l m : List Sp} {x : Int} (h : Mem l x ↔ Mem m x) : memB l x = memB m x := by
  rw [Bool.eq_iff_iff, memB_iff, memB_iff]; exact h
instance (l : List Sp) (x : Int) : Decidable (Mem l x) := decidable_of_iff _ (memB_iff l x)

theorem mem_nil (x : Int) : ¬ Mem [] x := by simp [Mem]
theorem mem_cons (p : Sp) (l : List Sp) (x : Int) : Mem (p :: l) x ↔ (rightB p.1 p.2 = true ∧ p.1 ≤ x ∧ x < p.2) ∨ Mem l x := by simp [Mem]
theorem mem_append (l m : List Sp) (x : Int) : Mem (l ++ m) x ↔ Mem l x ∨ Mem m x := by
  simp only [Mem, List.mem_append]
  constructor
  · rintro ⟨p, h | h, r⟩
    · exact .inl ⟨p, h, r⟩
    · exact .inr ⟨p, h, r⟩
  · rintro (⟨p, h, r⟩ | ⟨p, h, r⟩)
    · exact ⟨p, .inl h, r⟩
    · exact ⟨p, .inr h, r⟩
theorem mem_one (p : Sp) (x : Int) : Mem [p] x ↔ (rightB p.1 p.2 = true ∧ p.1 ≤ x ∧ x < p.2) := by simp [Mem]
theorem mem_perm {l m : List Sp} (h : l.Perm m) (x : Int) : Mem l x ↔ Mem m x := by
  constructor
  · rintro ⟨p, hp, r⟩; exact ⟨p, h.mem_iff.1 hp, r⟩
  · rintro ⟨p, hp, r⟩; exact ⟨p, h.mem_iff.2 hp, r⟩
theorem mem_filter (l : List Sp) (x : Int) : Mem (l.filter fun p => rightB p.1 p.2) x ↔ Mem l x := by
  simp only [Mem, List.mem_filter]
  constructor
  · rintro ⟨p, ⟨hp, _⟩, r⟩; exact ⟨p, hp, r⟩
  · rintro ⟨p, hp, r⟩; exact ⟨p, ⟨hp, r.1⟩, r⟩
theorem mem_bounds {l : List Sp} {x : Int} (h : Mem l x) : -1099511627776 ≤ x ∧ x < 1099511627776 := by
  obtain ⟨p, _, hr, h1, h2⟩ := h
  have := right_yes hr
  omega

/-- A cover: right spans, each of which ends ahead of the next one. -/
def Cov (l : List Sp) : Prop := (∀ p ∈ l, rightB p.1 p.2 = true) ∧ l.Pairwise fun p q => p.2 < q.1
instance (l : List Sp) : Decidable (Cov l) := inferInstanceAs (Decidable (_ ∧ _))
theorem Cov.nil : Cov [] := ⟨by simp, List.Pairwise.nil⟩
theorem Cov.tail {p : Sp} {l : List Sp} (h : Cov (p :: l)) : Cov l := ⟨fun q hq => h.1 q (List.mem_cons_of_mem _ hq), (List.pairwise_cons.1 h.2).2⟩
theorem Cov.head {p : Sp} {l : List Sp} (h : Cov (p :: l)) : ∀ q ∈ l, p.2 < q.1 := (List.pairwise_cons.1 h.2).1
theorem Cov.snoc {l : List Sp} {p : Sp} (h : Cov l) (hp : rightB p.1 p.2 = true) (hl : ∀ q ∈ l, q.2 < p.1) : Cov (l ++ [p]) := by
  refine ⟨fun q hq => ?_, ?_⟩
  · rcases List.mem_append.1 hq with h1 | h1
    · exact h.1 q h1
    · obtain rfl := List.mem_singleton.1 h1; exact hp
  · refine List.pairwise_append.2 ⟨h.2, List.pairwise_singleton _ _, fun a ha b hb => ?_⟩
    obtain rfl := List.mem_singleton.1 hb
    exact hl a ha
theorem Cov.left {l m : List Sp} (h : Cov (l ++ m)) : Cov l := ⟨fun p hp => h.1 p (List.mem_append_left _ hp), (List.pairwise_append.1 h.2).1⟩
theorem Cov.last {l : List Sp} {p : Sp} (h : Cov (l ++ [p])) : rightB p.1 p.2 = true ∧ ∀ q ∈ l, q.2 < p.1 :=
  ⟨h.1 p (by simp), fun q hq => (List.pairwise_append.1 h.2).2.2 q hq p (by simp)⟩
/-- All that stand ahead end ahead, if the last one does. -/
theorem Cov.ends {l : List Sp} {q : Sp} (h : Cov (l ++ [q])) {x : Int} (hx : q.2 < x) : ∀ p ∈ l ++ [q], p.2 < x := fun p hp => by
  rcases List.mem_append.1 hp with h1 | h1
  · have := h.last.2 p h1
    have := right_yes h.last.1
    omega
  · obtain rfl := List.mem_singleton.1 h1; exact hx

theorem cov_first {p : Sp} {l : List Sp} (h : Cov (p :: l)) {x : Int} (hx : Mem (p :: l) x) : p.1 ≤ x := by
  obtain ⟨q, hq, hr, h1, h2⟩ := hx
  rcases List.mem_cons.1 hq with rfl | hq
  · exact h1
  · have := h.head q hq
    have := right_yes (h.1 p (by simp))
    omega
theorem cov_first_mem {p : Sp} {l : List Sp} (h : Cov (p :: l)) : Mem (p :: l) p.1 := by
  have := right_yes (h.1 p (by simp))
  exact ⟨p, by simp, h.1 p (by simp), by omega, by omega⟩
theorem cov_end {p : Sp} {l : List Sp} (h : Cov (p :: l)) : ¬ Mem (p :: l) p.2 := by
  rintro ⟨q, hq, hr, h1, h2⟩
  rcases List.mem_cons.1 hq with rfl | hq
  · omega
  · have := h.head q hq
    omega
theorem cov_tail {p : Sp} {l : List Sp} (h : Cov (p :: l)) (x : Int) : Mem l x ↔ Mem (p :: l) x ∧ p.2 ≤ x := by
  constructor
  · intro hm
    obtain ⟨q, hq, hr, h1, h2⟩ := hm
    have := h.head q hq
    exact ⟨⟨q, List.mem_cons_of_mem _ hq, hr, h1, h2⟩, by omega⟩
  · rintro ⟨⟨q, hq, hr, h1, h2⟩, h3⟩
    rcases List.mem_cons.1 hq with rfl | hq
    · omega
    · exact ⟨q, hq, hr, h1, h2⟩

/-- A set of times has one cover. -/
theorem cov_ext : ∀ l m : List Sp, Cov l → Cov m → (∀ x, Mem l x ↔ Mem m x) → l = m
  | [], [], _, _, _ => rfl
  | [], q :: m, _, hm, h => absurd ((h q.1).2 (cov_first_mem hm)) (mem_nil _)
  | p :: l, [], hl, _, h => absurd ((h p.1).1 (cov_first_mem hl)) (mem_nil _)
  | p :: l, q :: m, hl, hm, h => by
    have h1 := cov_first hm ((h p.1).1 (cov_first_mem hl))
    have h2 := cov_first hl ((h q.1).2 (cov_first_mem hm))
    have rp := right_yes (hl.1 p (by simp))
    have rq := right_yes (hm.1 q (by simp))
    have e1 : p.1 = q.1 := by omega
    have e2 : p.2 = q.2 := by
      rcases Int.lt_trichotomy p.2 q.2 with hlt | heq | hgt
      · exact absurd ((h p.2).2 ⟨q, by simp, hm.1 q (by simp), by omega, hlt⟩) (cov_end hl)
      · exact heq
      · exact absurd ((h q.2).1 ⟨p, by simp, hl.1 p (by simp), by omega, hgt⟩) (cov_end hm)
    have e : p = q := Prod.ext e1 e2
    subst e
    rw [cov_ext l m hl.tail hm.tail fun x => by rw [cov_tail hl, cov_tail hm, h x]]

/-- The cover of a set of times. -/
def CovOf (l : List Sp) (S : Int → Prop) : Prop := Cov l ∧ ∀ x, Mem l x ↔ S x
theorem CovOf.eq {l m : List Sp} {S T : Int → Prop} (hl : CovOf l S) (hm : CovOf m T) (h : ∀ x, S x ↔ T x) : l = m :=
  cov_ext l m hl.1 hm.1 fun x => ((hl.2 x).trans (h x)).trans (hm.2 x).symm
theorem CovOf.same {l m : List Sp} {S T : Int → Prop} (hl : CovOf l S) (hm : CovOf m T) (h : ∀ x, S x ↔ T x) : decide (l = m) = true := by
  simpa using hl.eq hm h

/- Is a list a cover, as far as k? -/
theorem cov_take_succ {l : List Sp} {k : Nat} {p : Sp} (hp : l[k]? = some p) (h : Cov (l.take k)) (hr : rightB p.1 p.2 = true) (hq : ∀ q, k ≠ 0 → l[k - 1]? = some q → q.2 < p.1) : Cov (l.take (k + 1)) := by
  rw [List.take_add_one, hp]
  simp only [Option.toList_some]
  rcases Nat.eq_zero_or_pos k with rfl | hk
  · simpa using Cov.snoc (l := []) Cov.nil hr (by simp)
  · obtain ⟨q, hq'⟩ : ∃ q, l[k - 1]? = some q := by
      have : k < l.length := by rcases Nat.lt_or_ge k l.length with h | h; exact h; simp [List.getElem?_eq_none h] at hp
      exact ⟨_, List.getElem?_eq_getElem (by omega)⟩
    have e : l.take k = l.take (k - 1) ++ [q] := by
      have e1 : l.take (k - 1 + 1) = l.take (k - 1) ++ [q] := by rw [List.take_add_one, hq']; rfl
      rwa [show k - 1 + 1 = k from by omega] at e1
    have h' := h
    rw [e] at h'
    refine Cov.snoc h hr ?_
    rw [e]
    exact h'.ends (hq q (by omega) hq')
theorem cov_not_right {l : List Sp} {k : Nat} {p : Sp} (hp : l[k]? = some p) (hr : rightB p.1 p.2 = false) : ¬ Cov l := fun h => by
  have := h.1 p (List.mem_of_getElem? hp)
  rw [hr] at this
  cases this
theorem cov_not_apart {l : List Sp} {k : Nat} {p q : Sp} (hq : l[k]? = some q) (hp : l[k + 1]? = some p) (h : p.1 ≤ q.2) : ¬ Cov l := fun hc => by
  have h1 := List.pairwise_iff_getElem.1 hc.2 k (k + 1)
  obtain ⟨l1, e1⟩ := List.getElem?_eq_some_iff.1 hq
  obtain ⟨l2, e2⟩ := List.getElem?_eq_some_iff.1 hp
  have := h1 l1 l2 (by omega)
  rw [e1, e2] at this
  omega

/- Making a cover of spans that rise. -/
/-- What has been made of the spans so far. -/
structure Made (m d : List Sp) : Prop where
  cov : Cov m
  mem : ∀ x, Mem m x ↔ Mem d x
  len : m.length ≤ d.length
  from_ : ∀ q ∈ m, ∃ p ∈ d, p.1 = q.1
theorem Made.nil : Made [] [] := ⟨Cov.nil, fun _ => Iff.rfl, Nat.le_refl _, by simp⟩
theorem Made.joins {m d : List Sp} {q a : Sp} (h : Made (m ++ [q]) d) (hr : rightB a.1 a.2 = true) (hs : ∀ p ∈ d, p.1 ≤ a.1) (hle : a.1 ≤ q.2) : Made (m ++ [(q.1, max q.2 a.2)]) (d ++ [a]) := by
  have hq := right_yes h.cov.last.1
  have ha := right_yes hr
  obtain ⟨p, hp, he⟩ := h.from_ q (by simp)
  have h1 := hs p hp
  have hr' : rightB q.1 (max q.2 a.2) = true := by simp [rightB]; omega
  refine ⟨Cov.snoc h.cov.left hr' h.cov.last.2, fun x => ?_, by have := h.len; simp at this ⊢; omega, ?_⟩
  · rw [mem_append, mem_append, ← h.mem x, mem_append, mem_one, mem_one, mem_one]
    simp only [hr', hr, h.cov.last.1, true_and]
    constructor
    · rintro (h2 | h2)
      · exact .inl (.inl h2)
      · rcases Int.lt_or_le x q.2 with h3 | h3
        · exact .inl (.inr ⟨h2.1, h3⟩)
        · exact .inr ⟨by omega, by omega⟩
    · rintro ((h2 | h2) | h2)
      · exact .inl h2
      · exact .inr ⟨h2.1, by omega⟩
      · exact .inr ⟨by omega, by omega⟩
  · intro r hr2
    rcases List.mem_append.1 hr2 with h2 | h2
    · obtain ⟨p', hp', e⟩ := h.from_ r (List.mem_append_left _ h2)
      exact ⟨p', List.mem_append_left _ hp', e⟩
    · obtain rfl := List.mem_singleton.1 h2
      exact ⟨p, List.mem_append_left _ hp, he⟩
theorem Made.adds {m d : List Sp} {a : Sp} (h : Made m d) (hr : rightB a.1 a.2 = true) (hl : ∀ q ∈ m, q.2 < a.1) : Made (m ++ [a]) (d ++ [a]) := by
  refine ⟨Cov.snoc h.cov hr hl, fun x => ?_, by have := h.len; simp; omega, ?_⟩
  · rw [mem_append, mem_append, h.mem x]
  · intro r hr2
    rcases List.mem_append.1 hr2 with h2 | h2
    · obtain ⟨p', hp', e⟩ := h.from_ r h2
      exact ⟨p', List.mem_append_left _ hp', e⟩
    · obtain rfl := List.mem_singleton.1 h2
      exact ⟨_, by simp, rfl⟩

/- The document's way: piece by piece between the ends. -/
/-- A piece behind a cover: it is joined to the last one where it touches it. -/
theorem put_joins {m : List Sp} {q : Sp} {t : Int} (h : Cov (m ++ [q])) (hq : q.2 < t) (ht : t ≤ 1099511627776) : Cov (m ++ [(q.1, t)]) ∧ ∀ x, Mem (m ++ [(q.1, t)]) x ↔ Mem (m ++ [q]) x ∨ (q.2 ≤ x ∧ x < t) := by
  have hr := right_yes h.last.1
  have hr' : rightB q.1 t = true := by simp [rightB]; omega
  refine ⟨Cov.snoc h.left hr' h.last.2, fun x => ?_⟩
  rw [mem_append, mem_append, mem_one, mem_one]
  simp only [hr', h.last.1, true_and]
  constructor
  · rintro (h2 | h2)
    · exact .inl (.inl h2)
    · rcases Int.lt_or_le x q.2 with h3 | h3
      · exact .inl (.inr ⟨h2.1, h3⟩)
      · exact .inr ⟨h3, h2.2⟩
  · rintro ((h2 | h2) | h2)
    · exact .inl h2
    · exact .inr ⟨h2.1, by omega⟩
    · exact .inr ⟨by omega, h2.2⟩
theorem put_adds {m : List Sp} {f t : Int} (h : Cov m) (hl : ∀ q ∈ m, q.2 < f) (hr : rightB f t = true) : Cov (m ++ [(f, t)]) ∧ ∀ x, Mem (m ++ [(f, t)]) x ↔ Mem m x ∨ (f ≤ x ∧ x < t) := by
  refine ⟨Cov.snoc h hr hl, fun x => ?_⟩
  rw [mem_append, mem_one]
  simp [hr]

/-- The ends of the right spans of a list. -/
def endsOf (l : List Sp) : List Int := (l.filter fun p => rightB p.1 p.2).flatMap fun p => [p.1, p.2]
theorem mem_ends {l : List Sp} {p : Sp} (hp : p ∈ l) (hr : rightB p.1 p.2 = true) : p.1 ∈ endsOf l ∧ p.2 ∈ endsOf l := by
  unfold endsOf
  simp only [List.mem_flatMap, List.mem_filter]
  exact ⟨⟨p, ⟨hp, hr⟩, by simp⟩, ⟨p, ⟨hp, hr⟩, by simp⟩⟩
theorem ends_bounds {l : List Sp} {x : Int} (h : x ∈ endsOf l) : -1099511627776 ≤ x ∧ x ≤ 1099511627776 := by
  unfold endsOf at h
  simp only [List.mem_flatMap, List.mem_filter] at h
  obtain ⟨p, ⟨_, hr⟩, hx⟩ := h
  have := right_yes hr
  simp at hx
  omega
theorem ends_append (l m : List Sp) : endsOf (l ++ m) = endsOf l ++ endsOf m := by simp [endsOf]
theorem ends_length (l : List Sp) : (endsOf l).length ≤ 2 * l.length := by
  have h : ∀ l : List Sp, (l.flatMap fun p => [p.1, p.2]).length = 2 * l.length := fun l => by
    induction l with
    | nil => rfl
    | cons p l ih => simp only [List.flatMap_cons, List.length_append, ih, List.length_cons, List.length_nil]; omega
  rw [endsOf, h]
  have := List.length_filter_le (fun p : Sp => rightB p.1 p.2) l
  omega
/-- Between two ends that follow on each other all times are alike. -/
theorem mem_between {l : List Sp} {ts : List Int} (hts : ∀ y ∈ endsOf l, y ∈ ts) (hp : ts.Pairwise (· < ·)) {i : Nat} {a b x : Int} (ha : ts[i]? = some a) (hb : ts[i + 1]? = some b) (h1 : a ≤ x) (h2 : x < b) : Mem l x ↔ Mem l a := by
  have key : ∀ y ∈ ts, y < b → y ≤ a := fun y hy hlt => by
    obtain ⟨j, hj⟩ := List.getElem?_of_mem hy
    obtain ⟨lj, ej⟩ := List.getElem?_eq_some_iff.1 hj
    obtain ⟨li, ei⟩ := List.getElem?_eq_some_iff.1 ha
    obtain ⟨lb, eb⟩ := List.getElem?_eq_some_iff.1 hb
    have H := List.pairwise_iff_getElem.1 hp
    rcases Nat.lt_trichotomy j i with h | rfl | h
    · have := H j i lj li h
      omega
    · omega
    · rcases Nat.lt_or_ge (i + 1) j with h3 | h3
      · have := H (i + 1) j lb lj h3
        omega
      · obtain rfl : j = i + 1 := by omega
        omega
  constructor
  · rintro ⟨p, hp', hr, h3, h4⟩
    obtain ⟨e1, e2⟩ := mem_ends hp' hr
    have := key p.1 (hts _ e1) (by omega)
    exact ⟨p, hp', hr, this, by omega⟩
  · rintro ⟨p, hp', hr, h3, h4⟩
    obtain ⟨e1, e2⟩ := mem_ends hp' hr
    refine ⟨p, hp', hr, by omega, ?_⟩
    rcases Int.lt_or_le p.2 b with h5 | h5
    · have := key p.2 (hts _ e2) h5
      omega
    · omega
theorem mem_ahead {l : List Sp} {ts : List Int} (hts : ∀ y ∈ endsOf l, y ∈ ts) (hp : ts.Pairwise (· < ·)) {x : Int} (h : ∀ q, ts[0]? = some q → x < q) : ¬ Mem l x := by
  rintro ⟨p, hp', hr, h3, h4⟩
  obtain ⟨j, hj⟩ := List.getElem?_of_mem (hts _ (mem_ends hp' hr).1)
  obtain ⟨lj, ej⟩ := List.getElem?_eq_some_iff.1 hj
  have h0 := h ts[0] (List.getElem?_eq_getElem (by omega))
  rcases Nat.eq_zero_or_pos j with rfl | h1
  · omega
  · have := List.pairwise_iff_getElem.1 hp 0 j (by omega) lj h1
    omega
theorem mem_behind {l : List Sp} {ts : List Int} (hts : ∀ y ∈ endsOf l, y ∈ ts) (hp : ts.Pairwise (· < ·)) {i : Nat} {a x : Int} (ha : ts[i]? = some a) (hi : ts.length ≤ i + 1) (h : a ≤ x) : ¬ Mem l x := by
  rintro ⟨p, hp', hr, h3, h4⟩
  obtain ⟨j, hj⟩ := List.getElem?_of_mem (hts _ (mem_ends hp' hr).2)
  obtain ⟨lj, ej⟩ := List.getElem?_eq_some_iff.1 hj
  obtain ⟨li, ei⟩ := List.getElem?_eq_some_iff.1 ha
  rcases Nat.lt_or_ge j i with h1 | h1
  · have := List.pairwise_iff_getElem.1 hp j i lj li h1
    omega
  · obtain rfl : j = i := by omega
    omega

/-- Which times of two lists count. -/
def kindB (kind : Int) (x y : Bool) : Bool := (kind == 0 && (x || y)) || (kind == 1 && x && y) || (kind == 2 && x && !y)
def KindP (kind : Int) (a b : List Sp) (x : Int) : Prop := kindB kind (memB a x) (memB b x) = true
/-- What is out when the pieces ahead of place i are through. -/
structure OutTo (a b : List Sp) (kind : Int) (ts : List Int) (i : Nat) (o : List Sp) : Prop where
  cov : Cov o
  mem : ∀ x, (∀ q, ts[i]? = some q → x < q) → i < ts.length → (Mem o x ↔ KindP kind a b x)
  ends : ∀ p ∈ o, ∀ q, ts[i]? = some q → p.2 ≤ q
  len : o.length ≤ i
theorem kind_none {kind : Int} : kindB kind false false = false := by simp [kindB]
theorem OutTo.start {a b : List Sp} {kind : Int} {ts : List Int} (ha : ∀ y ∈ endsOf a, y ∈ ts) (hb : ∀ y ∈ endsOf b, y ∈ ts) (hp : ts.Pairwise (· < ·)) : OutTo a b kind ts 0 [] := by
  refine ⟨Cov.nil, fun x hx _ => ?_, by simp, Nat.le_refl _⟩
  have h1 : memB a x = false := by have := mem_ahead ha hp hx; rw [← memB_iff] at this; simpa using this
  have h2 : memB b x = false := by have := mem_ahead hb hp hx; rw [← memB_iff] at this; simpa using this
  simp [KindP, h1, h2, kind_none, mem_nil]
theorem kind_between {a b : List Sp} {kind : Int} {ts : List Int} (ha : ∀ y ∈ endsOf a, y ∈ ts) (hb : ∀ y ∈ endsOf b, y ∈ ts) (hp : ts.Pairwise (· < ·)) {i : Nat} {f t x : Int} (hf : ts[i]? = some f) (ht : ts[i + 1]? = some t) (h1 : f ≤ x) (h2 : x < t) : KindP kind a b x ↔ KindP kind a b f := by
  unfold KindP
  rw [memB_eq (l := a) (m := a) (x := x), memB_eq (l := b) (m := b) (x := x)]
  · rw [show memB a x = memB a f from by rw [Bool.eq_iff_iff, memB_iff, memB_iff]; exact mem_between ha hp hf ht h1 h2, show memB b x = memB b f from by rw [Bool.eq_iff_iff, memB_iff, memB_iff]; exact mem_between hb hp hf ht h1 h2]
  · exact Iff.rfl
  · exact Iff.rfl
/-- A piece that doesn't count. -/
theorem OutTo.skip {a b : List Sp} {kind : Int} {ts : List Int} {i : Nat} {o : List Sp} (h : OutTo a b kind ts i o) (ha : ∀ y ∈ endsOf a, y ∈ ts) (hb : ∀ y ∈ endsOf b, y ∈ ts) (hp : ts.Pairwise (· < ·)) {f t : Int} (hf : ts[i]? = some f) (ht : ts[i + 1]? = some t) (hn : kindB kind (memB a f) (memB b f) = false) : OutTo a b kind ts (i + 1) o := by
  obtain ⟨li, ei⟩ := List.getElem?_eq_some_iff.1 hf
  obtain ⟨lj, ej⟩ := List.getElem?_eq_some_iff.1 ht
  have hft := List.pairwise_iff_getElem.1 hp i (i + 1) li lj (by omega)
  rw [ei, ej] at hft
  refine ⟨h.cov, fun x hx _ => ?_, fun p hp' q hq => ?_, by have := h.len; omega⟩
  · rcases Int.lt_or_le x f with h1 | h1
    · exact h.mem x (fun q hq => by rw [hf] at hq; injection hq with hq; omega) li
    · rw [kind_between ha hb hp hf ht h1 (hx t ht)]
      constructor
      · rintro ⟨p, hp', hr, h3, h4⟩
        have := h.ends p hp' f hf
        omega
      · intro hk
        rw [KindP, hn] at hk
        cases hk
  · have := h.ends p hp' f hf
    rw [ht] at hq
    injection hq with hq
    omega
theorem OutTo.next {a b : List Sp} {kind : Int} {ts : List Int} {i : Nat} {o o' : List Sp} (h : OutTo a b kind ts i o) (ha : ∀ y ∈ endsOf a, y ∈ ts) (hb : ∀ y ∈ endsOf b, y ∈ ts) (hp : ts.Pairwise (· < ·)) {f t : Int} (hf : ts[i]? = some f) (ht : ts[i + 1]? = some t) (hn : kindB kind (memB a f) (memB b f) = true)
    (hc : Cov o') (hm : ∀ x, Mem o' x ↔ Mem o x ∨ (f ≤ x ∧ x < t)) (he : ∀ p ∈ o', p ∈ o ∨ p.2 = t) (hl : o'.length ≤ o.length + 1) : OutTo a b kind ts (i + 1) o' := by
  obtain ⟨li, ei⟩ := List.getElem?_eq_some_iff.1 hf
  obtain ⟨lj, ej⟩ := List.getElem?_eq_some_iff.1 ht
  have hft := List.pairwise_iff_getElem.1 hp i (i + 1) li lj (by omega)
  rw [ei, ej] at hft
  refine ⟨hc, fun x hx _ => ?_, fun p hp' q hq => ?_, by have := h.len; omega⟩
  · rw [hm x]
    rcases Int.lt_or_le x f with h1 | h1
    · rw [h.mem x (fun q hq => by rw [hf] at hq; injection hq with hq; omega) li]
      constructor
      · rintro (h2 | h2)
        · exact h2
        · omega
      · exact .inl
    · rw [kind_between ha hb hp hf ht h1 (hx t ht)]
      exact ⟨fun _ => hn, fun _ => .inr ⟨h1, hx t ht⟩⟩
  · rw [ht] at hq
    injection hq with hq
    rcases he p hp' with h1 | h1
    · have := h.ends p h1 f hf
      omega
    · omega
theorem OutTo.stop {a b : List Sp} {kind : Int} {ts : List Int} {i : Nat} {o : List Sp} (h : OutTo a b kind ts i o) (ha : ∀ y ∈ endsOf a, y ∈ ts) (hb : ∀ y ∈ endsOf b, y ∈ ts) (hp : ts.Pairwise (· < ·)) (hi : ts.length ≤ i + 1) (hi2 : i = 0 ∨ i < ts.length) : CovOf o (KindP kind a b) := by
  refine ⟨h.cov, fun x => ?_⟩
  rcases Nat.lt_or_ge i ts.length with hl | hl
  · rcases Int.lt_or_le x ts[i] with h1 | h1
    · exact h.mem x (fun q hq => by rw [List.getElem?_eq_getElem hl] at hq; injection hq with hq; omega) hl
    · have e1 : memB a x = false := by have := mem_behind ha hp (List.getElem?_eq_getElem hl) hi h1; rw [← memB_iff] at this; simpa using this
      have e2 : memB b x = false := by have := mem_behind hb hp (List.getElem?_eq_getElem hl) hi h1; rw [← memB_iff] at this; simpa using this
      constructor
      · rintro ⟨p, hp', hr, h3, h4⟩
        have := h.ends p hp' _ (List.getElem?_eq_getElem hl)
        omega
      · intro hk
        rw [KindP, e1, e2, kind_none] at hk
        cases hk
  · obtain rfl : i = 0 := by omega
    have ht : ts = [] := List.eq_nil_of_length_eq_zero (by omega)
    have e0 : o = [] := List.eq_nil_of_length_eq_zero (by have := h.len; omega)
    have e1 : memB a x = false := by have := mem_ahead ha hp (x := x) (by simp [ht]); rw [← memB_iff] at this; simpa using this
    have e2 : memB b x = false := by have := mem_ahead hb hp (x := x) (by simp [ht]); rw [← memB_iff] at this; simpa using this
    rw [e0]
    simp [KindP, e1, e2, kind_none, mem_nil]

end Go.Proofs.Ytmhddpgeiijhgaa.Co

/-
  Plain facts on timelines: lists of pieces, what they have at a time, pieces put behind each other.
-/
namespace Go.Proofs.Ytmhddpgeiijhgaa

/-- A piece; where its fields lie (fa, fc) is no part of what it says. -/
structure Pc where
  f : Int
  t : Int
  fa : Option Addr
  fc : Nat
  fs : List Fd
abbrev sayP (p : Pc) : Int × Int × List Fd := (p.f, p.t, p.fs)
/-- Do two pieces, two lists of them, say the same? -/
def sameP1 (p q : Pc) : Bool := (decide (p.f = q.f) && decide (p.t = q.t)) && sameF p.fs q.fs
def sameP : List Pc → List Pc → Bool
  | [], [] => true
  | p :: l, q :: m => sameP1 p q && sameP l m
  | _, _ => false
theorem sameP_say : ∀ {l m : List Pc}, l.map sayP = m.map sayP → sameP l m = true
  | [], [], _ => rfl
  | [], _ :: _, h => by simp at h
  | _ :: _, [], h => by simp at h
  | p :: l, q :: m, h => by
    rw [List.map_cons, List.map_cons] at h
    injection h with h1 h2
    obtain ⟨f, t, fa, fc, fs⟩ := p
    obtain ⟨f', t', fa', fc', fs'⟩ := q
    simp only [sayP, Prod.mk.injEq] at h1
    obtain ⟨rfl, rfl, rfl⟩ := h1
    rw [sameP, sameP_say h2]
    simp [sameP1, sameF_self]
theorem sameP_len : ∀ (a b : List Pc), a.length ≠ b.length → sameP a b = false
  | [], [], h => absurd rfl h
  | [], _ :: _, _ => rfl
  | _ :: _, [], _ => rfl
  | x :: a, y :: b, h => by
    rw [sameP, sameP_len a b (fun e => h (by simp [e])), Bool.and_false]

abbrev rightP (f t : Int) : Bool := decide (-1099511627776 ≤ f) && decide (t ≤ 1099511627776) && decide (f < t)
abbrev inP (f t x : Int) : Bool := decide (f ≤ x) && decide (x < t)
def hasP (p : Pc) (x : Int) : Bool := rightP p.f p.t && inP p.f p.t x
theorem hasP_iff (p : Pc) (x : Int) : hasP p x = true ↔ (-1099511627776 ≤ p.f ∧ p.t ≤ 1099511627776 ∧ p.f < p.t) ∧ p.f ≤ x ∧ x < p.t := by
  simp [hasP, rightP, inP, and_assoc]
/-- The first piece that has a time. -/
def valP : List Pc → Int → Option Pc
  | [], _ => none
  | p :: l, x => if hasP p x = true then some p else valP l x
def fsP (l : List Pc) (x : Int) : Option (List Fd) := (valP l x).map Pc.fs
theorem valP_append : ∀ (l m : List Pc) (x : Int), valP (l ++ m) x = match valP l x with | some p => some p | none => valP m x
  | [], m, x => rfl
  | p :: l, m, x => by
    rw [List.cons_append, valP, valP]
    split
    · rfl
    · exact valP_append l m x
theorem fsP_append (l m : List Pc) (x : Int) : fsP (l ++ m) x = match fsP l x with | some s => some s | none => fsP m x := by
  unfold fsP
  rw [valP_append]
  cases valP l x <;> rfl
theorem valP_none {l : List Pc} {x : Int} (h : ∀ p ∈ l, ¬ hasP p x = true) : valP l x = none := by
  induction l with
  | nil => rfl
  | cons p l ih =>
    rw [valP, if_neg (h p (by simp))]
    exact ih fun q hq => h q (List.mem_cons_of_mem _ hq)
theorem valP_mem {l : List Pc} {x : Int} {p : Pc} (h : valP l x = some p) : p ∈ l ∧ hasP p x = true := by
  induction l with
  | nil => cases h
  | cons q l ih =>
    rw [valP] at h
    split at h
    · rename_i hq
      injection h with h
      subst h
      exact ⟨by simp, hq⟩
    · exact ⟨List.mem_cons_of_mem _ (ih h).1, (ih h).2⟩
theorem fsP_none {l : List Pc} {x : Int} (h : ∀ p ∈ l, ¬ hasP p x = true) : fsP l x = none := by rw [fsP, valP_none h]; rfl
theorem fsP_one (p : Pc) (x : Int) : fsP [p] x = if hasP p x = true then some p.fs else none := by
  rw [fsP, valP]
  split <;> rfl

/-- A timeline. -/
def linkP (p q : Pc) : Prop := p.t ≤ q.f ∧ (p.t = q.f → p.fs ≠ q.fs)
def TL : List Pc → Prop
  | [] => True
  | [p] => rightP p.f p.t = true
  | p :: q :: l => rightP p.f p.t = true ∧ linkP p q ∧ TL (q :: l)
theorem TL.tail {p : Pc} : ∀ {l : List Pc}, TL (p :: l) → TL l
  | [], _ => trivial
  | _ :: _, h => h.2.2
theorem TL.head {p : Pc} : ∀ {l : List Pc}, TL (p :: l) → rightP p.f p.t = true
  | [], h => h
  | _ :: _, h => h.1
theorem right_lt {f t : Int} (h : rightP f t = true) : -1099511627776 ≤ f ∧ f < t ∧ t ≤ 1099511627776 := by
  simp only [rightP, Bool.and_eq_true, decide_eq_true_eq] at h
  omega
theorem TL.behind : ∀ {l : List Pc} {p : Pc}, TL (p :: l) → ∀ q ∈ l, p.t ≤ q.f
  | [], _, _, q, hq => by simp at hq
  | r :: l, p, h, q, hq => by
    have h1 := h.2.1.1
    rcases List.mem_cons.1 hq with rfl | hq
    · exact h1
    · have := TL.behind h.2.2 q hq
      have := right_lt h.2.2.head
      omega
theorem TL.rights : ∀ {l : List Pc}, TL l → ∀ p ∈ l, rightP p.f p.t = true
  | [], _, p, hp => by simp at hp
  | q :: l, h, p, hp => by
    rcases List.mem_cons.1 hp with rfl | hp
    · exact h.head
    · exact TL.rights h.tail p hp
theorem has_at {p : Pc} (h : rightP p.f p.t = true) {x : Int} (h1 : p.f ≤ x) (h2 : x < p.t) : hasP p x = true := by
  have := right_lt h
  rw [hasP_iff]; omega
theorem fs_head {p : Pc} {l : List Pc} (h : TL (p :: l)) {x : Int} (h1 : p.f ≤ x) (h2 : x < p.t) : fsP (p :: l) x = some p.fs := by
  rw [fsP, valP, if_pos (has_at h.head h1 h2)]; rfl
theorem fs_below {p : Pc} {l : List Pc} (h : TL (p :: l)) {x : Int} (h1 : x < p.f) : fsP (p :: l) x = none := fsP_none fun q hq hh => by
  rw [hasP_iff] at hh
  have := right_lt h.head
  rcases List.mem_cons.1 hq with rfl | hq
  · omega
  · have := h.behind q hq
    omega
theorem fs_tail {p : Pc} {l : List Pc} (h : TL (p :: l)) (x : Int) : fsP l x = if x < p.t then none else fsP (p :: l) x := by
  split
  · exact fsP_none fun q hq hh => by
      rw [hasP_iff] at hh
      have := h.behind q hq
      omega
  · have : ¬ hasP p x = true := fun hh => by rw [hasP_iff] at hh; omega
    rw [fsP, fsP, valP, if_neg this]
/-- At its end the first piece's fields are not told. -/
theorem fs_end {p : Pc} {l : List Pc} (h : TL (p :: l)) : fsP (p :: l) p.t ≠ some p.fs := by
  have hn : ¬ hasP p p.t = true := fun hh => by rw [hasP_iff] at hh; omega
  have e : fsP (p :: l) p.t = fsP l p.t := by rw [fsP, fsP, valP, if_neg hn]
  rw [e]
  cases l with
  | nil => simp [fsP, valP]
  | cons q l =>
    obtain ⟨h1, h2, h3⟩ := h
    have hq := right_lt h3.head
    by_cases he : p.t = q.f
    · rw [fs_head h3 (by omega) (by omega)]
      intro e2
      injection e2 with e2
      exact h2.2 he e2.symm
    · rw [fs_below h3 (by have := h2.1; omega)]
      simp
/-- A timeline is told by what it has at each time. -/
theorem tl_ext : ∀ {a b : List Pc}, TL a → TL b → (∀ x, fsP a x = fsP b x) → a.map sayP = b.map sayP
  | [], [], _, _, _ => rfl
  | [], q :: m, _, hb, h => by
    have := h q.f
    have hq := right_lt hb.head
    rw [fs_head hb (by omega) (by omega)] at this
    simp [fsP, valP] at this
  | p :: l, [], ha, _, h => by
    have := h p.f
    have hp := right_lt ha.head
    rw [fs_head ha (by omega) (by omega)] at this
    simp [fsP, valP] at this
  | p :: l, q :: m, ha, hb, h => by
    have hp := right_lt ha.head
    have hq := right_lt hb.head
    have ep := fs_head ha (x := p.f) (by omega) (by omega)
    have eq := fs_head hb (x := q.f) (by omega) (by omega)
    have hf : p.f = q.f := by
      rcases Int.lt_trichotomy p.f q.f with hlt | he | hgt
      · rw [h, fs_below hb hlt] at ep; cases ep
      · exact he
      · rw [← h, fs_below ha hgt] at eq; cases eq
    have hs : p.fs = q.fs := by
      have := h p.f
      rw [ep, hf, eq] at this
      injection this
    have ht : p.t = q.t := by
      rcases Int.lt_trichotomy p.t q.t with hlt | he | hgt
      · have := fs_end ha
        rw [h, fs_head hb (by omega) hlt, hs] at this
        exact absurd rfl this
      · exact he
      · have := fs_end hb
        rw [← h, fs_head ha (by omega) hgt, hs] at this
        exact absurd rfl this
    rw [List.map_cons, List.map_cons, tl_ext ha.tail hb.tail (fun x => by rw [fs_tail ha, fs_tail hb, ht, h])]
    simp only [sayP, hf, ht, hs]
theorem tl_same {a b : List Pc} (ha : TL a) (hb : TL b) (h : ∀ x, fsP a x = fsP b x) : sameP a b = true := sameP_say (tl_ext ha hb h)
/-- What each piece has is told at its beginning. -/
theorem fs_mem : ∀ {l : List Pc}, TL l → ∀ p ∈ l, fsP l p.f = some p.fs
  | [], _, p, hp => by simp at hp
  | q :: l, h, p, hp => by
    rcases List.mem_cons.1 hp with rfl | hp
    · have := right_lt h.head
      exact fs_head h (by omega) (by omega)
    · have h1 := fs_mem h.tail p hp
      have h2 := h.behind p hp
      rw [fs_tail h, if_neg (by omega)] at h1
      exact h1

/-- Is a list a timeline? -/
def linkB (p q : Pc) : Bool := decide (p.t ≤ q.f) && (decide (p.t ≠ q.f) || !sameF p.fs q.fs)
def rightT : List Pc → Bool
  | [] => true
  | [p] => rightP p.f p.t
  | p :: q :: l => rightP p.f p.t && linkB p q && rightT (q :: l)
theorem linkB_iff (p q : Pc) : linkB p q = true ↔ linkP p q := by
  unfold linkB linkP
  simp only [Bool.and_eq_true, decide_eq_true_eq, Bool.or_eq_true, Bool.not_eq_true']
  constructor
  · rintro ⟨h1, h2⟩
    refine ⟨h1, fun he hs => ?_⟩
    rcases h2 with h2 | h2
    · exact h2 he
    · rw [hs, sameF_self] at h2; cases h2
  · rintro ⟨h1, h2⟩
    refine ⟨h1, ?_⟩
    by_cases he : p.t = q.f
    · right
      cases hs : sameF p.fs q.fs with
      | false => rfl
      | true => exact absurd (sameF_eq _ _ hs) (h2 he)
    · exact .inl he
theorem rightT_iff : ∀ l : List Pc, rightT l = true ↔ TL l
  | [] => by simp [rightT, TL]
  | [p] => Iff.rfl
  | p :: q :: l => by
    rw [rightT, Bool.and_eq_true, Bool.and_eq_true, linkB_iff, rightT_iff (q :: l), TL, and_assoc]

/-- A piece behind a timeline. -/
def putP (l : List Pc) (p : Pc) : List Pc := match l.getLast? with
  | none => [p]
  | some q => if q.t = p.f ∧ sameF q.fs p.fs = true then l.dropLast ++ [{ q with t := p.t }] else l ++ [p]
theorem TL.snoc : ∀ {l : List Pc} {p : Pc}, TL l → rightP p.f p.t = true → (∀ q, l.getLast? = some q → linkP q p) → TL (l ++ [p])
  | [], _, _, hp, _ => hp
  | [q], p, h, hp, hl => ⟨h, hl q rfl, hp⟩
  | q :: r :: l, p, h, hp, hl => ⟨h.1, h.2.1, TL.snoc (l := r :: l) h.2.2 hp (fun s hs => hl s (by simpa using hs))⟩
theorem TL.init : ∀ {l m : List Pc}, TL (l ++ m) → TL l
  | [], _, _ => trivial
  | [_], _, h => h.head
  | _ :: q :: l, _, h => ⟨h.1, h.2.1, TL.init (l := q :: l) h.2.2⟩
theorem TL.last : ∀ {l : List Pc} {p : Pc}, TL (l ++ [p]) → rightP p.f p.t = true ∧ (∀ q ∈ l, q.t ≤ p.f) ∧ ∀ q, l.getLast? = some q → linkP q p
  | [], _, h => ⟨h, by simp, by simp⟩
  | [q], _, h => ⟨h.2.2, by simpa using h.2.1.1, by simpa using h.2.1⟩
  | q :: r :: l, p, h => by
    obtain ⟨h1, h2, h3⟩ := TL.last (l := r :: l) (p := p) h.2.2
    refine ⟨h1, fun s hs => ?_, fun s hs => h3 s (by simpa using hs)⟩
    rcases List.mem_cons.1 hs with rfl | hs
    · exact TL.behind h p (by simp)
    · exact h2 s hs
theorem link_fs {q q' p : Pc} (h : linkP q p) (h1 : q'.t = q.t) (h2 : q'.fs = q.fs) : linkP q' p := by
  unfold linkP at *
  rw [h1, h2]; exact h
/-- What is put behind a timeline. -/
structure PutTo (l : List Pc) (p : Pc) (m : List Pc) : Prop where
  tl : TL m
  fs : ∀ x, fsP m x = if p.f ≤ x ∧ x < p.t then some p.fs else fsP l x
  le : ∀ q ∈ m, q.t ≤ p.t
  len : m.length ≤ l.length + 1
  mem : ∀ q ∈ m, q.fs = p.fs ∨ ∃ r ∈ l, q.fs = r.fs
theorem fs_past {l : List Pc} {x : Int} (h : ∀ q ∈ l, q.t ≤ x) : fsP l x = none := fsP_none fun q hq hh => by
  rw [hasP_iff] at hh
  have := h q hq
  omega
theorem put_to {l : List Pc} {p : Pc} (hl : TL l) (hp : rightP p.f p.t = true) (hle : ∀ q ∈ l, q.t ≤ p.f) : PutTo l p (putP l p) := by
  have hr := right_lt hp
  rcases List.eq_nil_or_concat l with rfl | ⟨m, q, rfl⟩
  · refine ⟨hp, fun x => ?_, by simp [putP], by simp [putP], by simp [putP]⟩
    show fsP [p] x = _
    rw [fsP_one]
    by_cases hx : p.f ≤ x ∧ x < p.t
    · rw [if_pos hx, if_pos (has_at hp hx.1 hx.2)]
    · rw [if_neg hx, if_neg (fun hh => by rw [hasP_iff] at hh; exact hx hh.2)]; rfl
  · rw [List.concat_eq_append] at hl hle ⊢
    obtain ⟨h1, h2, h3⟩ := hl.last
    have hq := hle q (by simp)
    have hqr := right_lt h1
    unfold putP
    rw [show (m ++ [q]).getLast? = some q by simp, List.dropLast_concat]
    simp only
    by_cases hj : q.t = p.f ∧ sameF q.fs p.fs = true
    · rw [if_pos hj]
      have hj : q.t = p.f ∧ q.fs = p.fs := ⟨hj.1, sameF_eq _ _ hj.2⟩
      refine ⟨hl.init.snoc ?_ (fun s hs => ⟨(h3 s hs).1, fun e => (h3 s hs).2 e⟩), fun x => ?_, ?_, by simp, ?_⟩
      · show rightP q.f p.t = true
        simp only [rightP, Bool.and_eq_true, decide_eq_true_eq]; omega
      · rw [fsP_append, fsP_append, fsP_one, fsP_one]
        by_cases hx : p.f ≤ x ∧ x < p.t
        · rw [if_pos hx, fs_past (fun s hs => by have := h2 s hs; omega)]
          simp only
          rw [if_pos, hj.2]
          rw [hasP_iff]
          show (-1099511627776 ≤ q.f ∧ p.t ≤ 1099511627776 ∧ q.f < p.t) ∧ q.f ≤ x ∧ x < p.t
          omega
        · rw [if_neg hx]
          have : (hasP { q with t := p.t } x = true) ↔ (hasP q x = true) := by
            rw [hasP_iff, hasP_iff]
            show ((-1099511627776 ≤ q.f ∧ p.t ≤ 1099511627776 ∧ q.f < p.t) ∧ q.f ≤ x ∧ x < p.t) ↔ _
            omega
          simp only [this]
      · intro s hs
        rcases List.mem_append.1 hs with hs | hs
        · have := h2 s hs; omega
        · obtain rfl := List.mem_singleton.1 hs
          exact Int.le_refl _
      · intro s hs
        rcases List.mem_append.1 hs with hs | hs
        · exact .inr ⟨s, by simp [hs], rfl⟩
        · obtain rfl := List.mem_singleton.1 hs
          exact .inl hj.2
    · rw [if_neg hj]
      refine ⟨hl.snoc hp (fun s hs => ?_), fun x => ?_, ?_, by simp, ?_⟩
      · rw [show (m ++ [q]).getLast? = some q by simp] at hs
        injection hs with hs
        subst hs
        exact ⟨hq, fun e e2 => hj ⟨e, by rw [e2]; exact sameF_self _⟩⟩
      · rw [fsP_append, fsP_one]
        by_cases hx : p.f ≤ x ∧ x < p.t
        · rw [if_pos hx, fs_past (fun s hs => by have := hle s hs; omega), if_pos (has_at hp hx.1 hx.2)]
        · rw [if_neg hx, if_neg (fun hh => by rw [hasP_iff] at hh; exact hx hh.2)]
          cases fsP (m ++ [q]) x <;> rfl
      · intro s hs
        rcases List.mem_append.1 hs with hs | hs
        · have := hle s hs; omega
        · obtain rfl := List.mem_singleton.1 hs
          exact Int.le_refl _
      · intro s hs
        rcases List.mem_append.1 hs with hs | hs
        · exact .inr ⟨s, hs, rfl⟩
        · obtain rfl := List.mem_singleton.1 hs
          exact .inl rfl

/-- A timeline that is made from end to end. -/
structure MadeT (ts : List Int) (g : Int → Option (List Fd)) (i : Nat) (o : List Pc) : Prop where
  tl : TL o
  le : ∀ e, ts[i]? = some e → ∀ q ∈ o, q.t ≤ e
  fs : ∀ e, ts[i]? = some e → ∀ x, fsP o x = if x < e then g x else none
  len : o.length ≤ i
/-- What is to be made is the same from one end to the next one, and nothing outside of them. -/
structure Steps (ts : List Int) (g : Int → Option (List Fd)) : Prop where
  up : ts.Pairwise (· < ·)
  lim : ∀ e ∈ ts, -1099511627776 ≤ e ∧ e ≤ 1099511627776
  const : ∀ (i : Nat) (a b x : Int), ts[i]? = some a → ts[i + 1]? = some b → a ≤ x → x < b → g x = g a
  ahead : ∀ x, (∀ e, ts[0]? = some e → x < e) → g x = none
  behind : ∀ x, (∀ e ∈ ts, e ≤ x) → g x = none
theorem MadeT.start {ts : List Int} {g : Int → Option (List Fd)} (h : Steps ts g) : MadeT ts g 0 [] :=
  ⟨trivial, fun e _ q hq => by simp at hq, fun e he x => by
    by_cases hx : x < e
    · rw [if_pos hx, h.ahead x (fun e' he' => by rw [he] at he'; injection he' with he'; omega)]; rfl
    · rw [if_neg hx]; rfl, Nat.le_refl _⟩
theorem steps_lt {ts : List Int} {g : Int → Option (List Fd)} (h : Steps ts g) {i : Nat} {f t : Int} (hf : ts[i]? = some f) (ht : ts[i + 1]? = some t) : f < t ∧ -1099511627776 ≤ f ∧ t ≤ 1099511627776 := by
  obtain ⟨h1, rfl⟩ := List.getElem?_eq_some_iff.1 hf
  obtain ⟨h2, rfl⟩ := List.getElem?_eq_some_iff.1 ht
  exact ⟨List.pairwise_iff_getElem.1 h.up i (i + 1) h1 h2 (by omega), (h.lim _ (List.getElem_mem h1)).1, (h.lim _ (List.getElem_mem h2)).2⟩
theorem MadeT.skip {ts : List Int} {g : Int → Option (List Fd)} (h : Steps ts g) {i : Nat} {o : List Pc} (k : MadeT ts g i o) {f t : Int} (hf : ts[i]? = some f) (ht : ts[i + 1]? = some t) (hg : g f = none) : MadeT ts g (i + 1) o := by
  have hlt := steps_lt h hf ht
  refine ⟨k.tl, fun e he q hq => ?_, fun e he x => ?_, by have := k.len; omega⟩
  · rw [ht] at he; injection he with he; subst he
    have := k.le f hf q hq; omega
  · rw [ht] at he; injection he with he; subst he
    rw [k.fs f hf]
    by_cases h1 : x < f
    · rw [if_pos h1, if_pos (by omega)]
    · rw [if_neg h1]
      by_cases h2 : x < t
      · rw [if_pos h2, h.const i f t x hf ht (by omega) h2, hg]
      · rw [if_neg h2]
theorem MadeT.next {ts : List Int} {g : Int → Option (List Fd)} (h : Steps ts g) {i : Nat} {o : List Pc} (k : MadeT ts g i o) {p : Pc} (hf : ts[i]? = some p.f) (ht : ts[i + 1]? = some p.t) (hg : g p.f = some p.fs) : MadeT ts g (i + 1) (putP o p) := by
  have hlt := steps_lt h hf ht
  have hp : rightP p.f p.t = true := by simp only [rightP, Bool.and_eq_true, decide_eq_true_eq]; omega
  have hpt := put_to k.tl hp (k.le p.f hf)
  refine ⟨hpt.tl, fun e he q hq => ?_, fun e he x => ?_, by have := k.len; have := hpt.len; omega⟩
  · rw [ht] at he; injection he with he; subst he
    exact hpt.le q hq
  · rw [ht] at he; injection he with he; subst he
    rw [hpt.fs, k.fs p.f hf]
    by_cases h1 : p.f ≤ x ∧ x < p.t
    · rw [if_pos h1, if_pos h1.2, h.const i p.f p.t x hf ht h1.1 h1.2, hg]
    · rw [if_neg h1]
      by_cases h2 : x < p.f
      · rw [if_pos h2, if_pos (by omega)]
      · rw [if_neg h2, if_neg (by omega)]
theorem MadeT.stop {ts : List Int} {g : Int → Option (List Fd)} (h : Steps ts g) {i : Nat} {o : List Pc} (k : MadeT ts g i o) (hi : ts.length = i + 1) : TL o ∧ ∀ x, fsP o x = g x := by
  refine ⟨k.tl, fun x => ?_⟩
  obtain ⟨e, he⟩ : ∃ e, ts[i]? = some e := ⟨_, List.getElem?_eq_getElem (by omega)⟩
  rw [k.fs e he]
  split
  · rfl
  · rw [h.behind x (fun a ha => by
      obtain ⟨j, hj⟩ := List.mem_iff_getElem?.1 ha
      have hjl := (List.getElem?_eq_some_iff.1 hj).1
      rcases Nat.lt_or_ge j i with hji | hji
      · obtain ⟨h1, rfl⟩ := List.getElem?_eq_some_iff.1 hj
        obtain ⟨h2, rfl⟩ := List.getElem?_eq_some_iff.1 he
        have := List.pairwise_iff_getElem.1 h.up j i h1 h2 hji
        omega
      · obtain rfl : j = i := by omega
        rw [he] at hj; injection hj with hj; omega)]

end Go.Proofs.Ytmhddpgeiijhgaa

/-
  What span.Make and span.Meet give back, and the document's Meet, for any spans.
-/
namespace Go.Proofs.Ytmhddpgeiijhgaa.Co
open Go.RowKit

def madeF (f t : Int) : Int := if rightB f t then f else 0
def madeT (f t : Int) : Int := if rightB f t then t else 0
def madeE (f t : Int) : Int := if rightB f t then 0 else 3
/-- Have both a time in common? -/
def meetB (a b c d : Int) : Bool := rightB a b && rightB c d && decide (max a c < min b d)
def meetF (a b c d : Int) : Int := if meetB a b c d then max a c else 0
def meetT (a b c d : Int) : Int := if meetB a b c d then min b d else 0

/-- Three blocks of the call's own are there still. -/
theorem size3 {w w1 : World} {o0 o1 o2 : Obj} (hb : Below (((w.alloc o0).alloc o1).alloc o2).heap.size (((w.alloc o0).alloc o1).alloc o2) w1) :
    w.heap.size < w1.heap.size ∧ w.heap.size + 1 < w1.heap.size ∧ w.heap.size + 1 + 1 < w1.heap.size := by
  have := hb.size
  simp at this
  omega

def meetE (a b c d : Int) : Int := if meetB a b c d then 0 else 3
end Go.Proofs.Ytmhddpgeiijhgaa.Co

/-
  What Make, Clip and Splice are to tell at each time; from end to end it is the same: plain facts.
-/
namespace Go.Proofs.Ytmhddpgeiijhgaa

theorem rightB_P (f t : Int) : Co.rightB f t = rightP f t := by
  rw [Bool.eq_iff_iff]
  simp only [Co.rightB, rightP, Bool.and_eq_true, decide_eq_true_eq]
  omega
theorem rightP_iff (f t : Int) : rightP f t = true ↔ -1099511627776 ≤ f ∧ f < t ∧ t ≤ 1099511627776 := by
  simp only [rightP, Bool.and_eq_true, decide_eq_true_eq]
  omega
theorem inP_iff (f t x : Int) : inP f t x = true ↔ f ≤ x ∧ x < t := by
  simp only [inP, Bool.and_eq_true, decide_eq_true_eq]
theorem meetB_iff (a b c d : Int) : Co.meetB a b c d = true ↔ (rightP a b = true ∧ rightP c d = true) ∧ max a c < min b d := by
  unfold Co.meetB
  rw [rightB_P, rightB_P, Bool.and_eq_true, Bool.and_eq_true, decide_eq_true_eq]
theorem covers_iff (v : Vr) (x : Int) : coversB v x = true ↔ v.gone = false ∧ rightP v.sf v.se = true ∧ v.sf ≤ x ∧ x < v.se := by
  rw [rightP_iff]
  simp only [coversB, Bool.and_eq_true, Bool.not_eq_true', decide_eq_true_eq]
  constructor
  · rintro ⟨⟨h1, ⟨h2, h3⟩, h4⟩, h5, h6⟩; exact ⟨h1, ⟨h2, h4, h3⟩, h5, h6⟩
  · rintro ⟨h1, ⟨h2, h4, h3⟩, h5, h6⟩; exact ⟨⟨h1, ⟨h2, h3⟩, h4⟩, h5, h6⟩

/-- What the timeline of versions over a span has at a time. -/
def makeV (a : Int × Int) (l : List Vr) (x : Int) : Option (List Fd) := if (rightP a.1 a.2 && inP a.1 a.2 x && l.any fun v => coversB v x) = true then some (atL x l) else none
theorem makeV_out {a : Int × Int} {l : List Vr} {x : Int} (h : ¬ (rightP a.1 a.2 = true ∧ a.1 ≤ x ∧ x < a.2)) : makeV a l x = none := by
  rw [makeV, if_neg]
  intro hh
  rw [Bool.and_eq_true, Bool.and_eq_true, inP_iff] at hh
  exact h ⟨hh.1.1, hh.1.2.1, hh.1.2.2⟩
theorem makeV_in {a : Int × Int} {l : List Vr} {x : Int} (h1 : rightP a.1 a.2 = true) (h2 : a.1 ≤ x) (h3 : x < a.2) : makeV a l x = if (l.any fun v => coversB v x) = true then some (atL x l) else none := by
  rw [makeV, h1, (inP_iff _ _ _).2 ⟨h2, h3⟩]; rfl
theorem at_congr {l : List Vr} {x y : Int} (h : ∀ v ∈ l, coversB v x = coversB v y) : atL x l = atL y l ∧ (l.any fun v => coversB v x) = l.any fun v => coversB v y := by
  refine ⟨by rw [atL, atL, List.filter_congr h], ?_⟩
  rw [Bool.eq_iff_iff, List.any_eq_true, List.any_eq_true]
  constructor
  · rintro ⟨v, hv, hc⟩; exact ⟨v, hv, by rw [← h v hv]; exact hc⟩
  · rintro ⟨v, hv, hc⟩; exact ⟨v, hv, by rw [h v hv]; exact hc⟩

/-- Between two ends no other one lies. -/
theorem end_le {ts : List Int} (hp : ts.Pairwise (· < ·)) {i : Nat} {a b x e : Int} (ha : ts[i]? = some a) (hb : ts[i + 1]? = some b) (h1 : a ≤ x) (h2 : x < b) (he : e ∈ ts) : e ≤ x ↔ e ≤ a := by
  obtain ⟨j, hj⟩ := List.mem_iff_getElem?.1 he
  obtain ⟨i1, rfl⟩ := List.getElem?_eq_some_iff.1 ha
  obtain ⟨i2, rfl⟩ := List.getElem?_eq_some_iff.1 hb
  obtain ⟨i3, rfl⟩ := List.getElem?_eq_some_iff.1 hj
  have lt := fun (m n : Nat) (hm : m < ts.length) (hn : n < ts.length) (h : m < n) => List.pairwise_iff_getElem.1 hp m n hm hn h
  rcases Nat.lt_trichotomy j i with h | rfl | h
  · have := lt j i i3 i1 h
    omega
  · omega
  · rcases Nat.lt_or_ge (i + 1) j with h3 | h3
    · have := lt (i + 1) j i2 i3 h3
      have := lt i j i1 i3 h
      omega
    · obtain rfl : j = i + 1 := by omega
      omega
theorem end_first {ts : List Int} (hp : ts.Pairwise (· < ·)) {x : Int} (h : ∀ e, ts[0]? = some e → x < e) {e : Int} (he : e ∈ ts) : x < e := by
  cases ts with
  | nil => simp at he
  | cons y ts =>
    have h0 := h y rfl
    rcases List.mem_cons.1 he with rfl | he
    · exact h0
    · have := (List.pairwise_cons.1 hp).1 e he
      omega

/-- The ends of which Make goes. -/
def endsV (a : Int × Int) (v : Vr) : List Int := if (Co.meetB a.1 a.2 v.sf v.se && !v.gone) = true then [Co.meetF a.1 a.2 v.sf v.se, Co.meetT a.1 a.2 v.sf v.se] else []
def endsM (a : Int × Int) (l : List Vr) : List Int := [a.1, a.2] ++ l.flatMap (endsV a)
theorem endsV_length (a : Int × Int) (v : Vr) : (endsV a v).length ≤ 2 := by unfold endsV; split <;> simp
theorem flat2_length {α : Type} (f : α → List Int) (h : ∀ x, (f x).length ≤ 2) : ∀ l : List α, (l.flatMap f).length ≤ 2 * l.length
  | [] => by simp
  | x :: l => by
    have := h x
    have := flat2_length f h l
    rw [List.flatMap_cons, List.length_append, List.length_cons]; omega
theorem endsM_length (a : Int × Int) (l : List Vr) : (endsM a l).length ≤ 2 * l.length + 2 := by
  have := flat2_length (endsV a) (endsV_length a) l
  unfold endsM
  rw [List.length_append]
  simp only [List.length_cons, List.length_nil]
  omega
theorem steps_make {a : Int × Int} {l : List Vr} {ts : List Int} (ha : rightP a.1 a.2 = true) (hp : ts.Pairwise (· < ·)) (hm : ∀ y, y ∈ ts ↔ y ∈ endsM a l) : Steps ts (makeV a l) := by
  have hr := (rightP_iff _ _).1 ha
  have h1 : a.1 ∈ ts := (hm _).2 (by simp [endsM])
  have h2 : a.2 ∈ ts := (hm _).2 (by simp [endsM])
  refine ⟨hp, fun e he => ?_, fun i b c x hb hc hx1 hx2 => ?_, fun x hx => ?_, fun x hx => ?_⟩
  · have he := (hm e).1 he
    unfold endsM at he
    rcases List.mem_append.1 he with he | he
    · simp at he
      rcases he with rfl | rfl <;> omega
    · obtain ⟨v, hv, he⟩ := List.mem_flatMap.1 he
      unfold endsV at he
      split at he
      · rename_i hh
        rw [Bool.and_eq_true] at hh
        have hh2 := (meetB_iff _ _ _ _).1 hh.1
        have := (rightP_iff _ _).1 hh2.1.2
        have := hh2.2
        simp only [Co.meetF, Co.meetT, hh.1, if_true, List.mem_cons, List.not_mem_nil, or_false] at he
        omega
      · simp at he
  · have e1 := end_le hp hb hc hx1 hx2 h1
    have e2 := end_le hp hb hc hx1 hx2 h2
    by_cases hin : a.1 ≤ x ∧ x < a.2
    · have hin2 : a.1 ≤ b ∧ b < a.2 := by omega
      have hcv : ∀ v ∈ l, coversB v x = coversB v b := fun v hv => by
        rw [Bool.eq_iff_iff, covers_iff, covers_iff]
        by_cases hg : v.gone = false
        · by_cases hvr : rightP v.sf v.se = true
          · have hvr2 := (rightP_iff _ _).1 hvr
            by_cases hmt : max a.1 v.sf < min a.2 v.se
            · have hmb : Co.meetB a.1 a.2 v.sf v.se = true := (meetB_iff _ _ _ _).2 ⟨⟨ha, hvr⟩, hmt⟩
              have hev : endsV a v = [max a.1 v.sf, min a.2 v.se] := by
                unfold endsV Co.meetF Co.meetT
                rw [hmb, hg]; rfl
              have m1 : max a.1 v.sf ∈ ts := (hm _).2 (List.mem_append.2 (.inr (List.mem_flatMap.2 ⟨v, hv, by rw [hev]; simp⟩)))
              have m2 : min a.2 v.se ∈ ts := (hm _).2 (List.mem_append.2 (.inr (List.mem_flatMap.2 ⟨v, hv, by rw [hev]; simp⟩)))
              have k1 := end_le hp hb hc hx1 hx2 m1
              have k2 := end_le hp hb hc hx1 hx2 m2
              constructor
              · rintro ⟨_, _, q1, q2⟩; exact ⟨hg, hvr, by omega, by omega⟩
              · rintro ⟨_, _, q1, q2⟩; exact ⟨hg, hvr, by omega, by omega⟩
            · constructor
              · rintro ⟨_, _, q1, q2⟩; omega
              · rintro ⟨_, _, q1, q2⟩; omega
          · constructor
            · rintro ⟨_, q, _⟩; exact absurd q hvr
            · rintro ⟨_, q, _⟩; exact absurd q hvr
        · constructor
          · rintro ⟨q, _⟩; exact absurd q hg
          · rintro ⟨q, _⟩; exact absurd q hg
      obtain ⟨c1, c2⟩ := at_congr hcv
      rw [makeV_in ha hin.1 hin.2, makeV_in ha hin2.1 hin2.2, c1, c2]
    · rw [makeV_out (fun h => hin h.2), makeV_out (fun h => hin (by omega))]
  · have := end_first hp hx h1
    exact makeV_out fun h => by omega
  · have := hx a.2 h2
    exact makeV_out fun h => by omega

/-- What l has, but at the times of a what m has. -/
def spliceV (a : Int × Int) (l m : List Pc) (x : Int) : Option (List Fd) := if inP a.1 a.2 x = true then fsP m x else fsP l x
def endsP (p : Pc) : List Int := [p.f, p.t]
def endsS (a : Int × Int) (l m : List Pc) : List Int := [a.1, a.2] ++ l.flatMap endsP ++ m.flatMap endsP
theorem endsS_length (a : Int × Int) (l m : List Pc) : (endsS a l m).length ≤ 2 * l.length + 2 * m.length + 2 := by
  have h1 := flat2_length endsP (fun _ => Nat.le_refl 2) l
  have h2 := flat2_length endsP (fun _ => Nat.le_refl 2) m
  unfold endsS
  rw [List.length_append, List.length_append]
  simp only [List.length_cons, List.length_nil]
  omega
theorem fs_congr {l : List Pc} {x y : Int} (h : ∀ p ∈ l, hasP p x = hasP p y) : fsP l x = fsP l y := by
  induction l with
  | nil => rfl
  | cons p l ih =>
    rw [fsP, fsP, valP, valP, h p (by simp)]
    split
    · rfl
    · exact ih fun q hq => h q (List.mem_cons_of_mem _ hq)
theorem steps_splice {a : Int × Int} {l m : List Pc} {ts : List Int} (ha : rightP a.1 a.2 = true) (hl : TL l) (hm : TL m) (hp : ts.Pairwise (· < ·)) (ht : ∀ y, y ∈ ts ↔ y ∈ endsS a l m) : Steps ts (spliceV a l m) := by
  have hr := (rightP_iff _ _).1 ha
  have h1 : a.1 ∈ ts := (ht _).2 (by simp [endsS])
  have h2 : a.2 ∈ ts := (ht _).2 (by simp [endsS])
  have l1 : ∀ p ∈ l, p.f ∈ ts ∧ p.t ∈ ts := fun p hpl => ⟨(ht _).2 (List.mem_append.2 (.inl (List.mem_append.2 (.inr (List.mem_flatMap.2 ⟨p, hpl, by simp [endsP]⟩))))), (ht _).2 (List.mem_append.2 (.inl (List.mem_append.2 (.inr (List.mem_flatMap.2 ⟨p, hpl, by simp [endsP]⟩)))))⟩
  have m1 : ∀ p ∈ m, p.f ∈ ts ∧ p.t ∈ ts := fun p hpm => ⟨(ht _).2 (List.mem_append.2 (.inr (List.mem_flatMap.2 ⟨p, hpm, by simp [endsP]⟩))), (ht _).2 (List.mem_append.2 (.inr (List.mem_flatMap.2 ⟨p, hpm, by simp [endsP]⟩)))⟩
  refine ⟨hp, fun e he => ?_, fun i b c x hb hc hx1 hx2 => ?_, fun x hx => ?_, fun x hx => ?_⟩
  · have he := (ht e).1 he
    unfold endsS at he
    rcases List.mem_append.1 he with he | he
    · rcases List.mem_append.1 he with he | he
      · simp at he
        rcases he with rfl | rfl <;> omega
      · obtain ⟨p, hpl, he⟩ := List.mem_flatMap.1 he
        have := (rightP_iff _ _).1 (hl.rights p hpl)
        simp [endsP] at he
        omega
    · obtain ⟨p, hpm, he⟩ := List.mem_flatMap.1 he
      have := (rightP_iff _ _).1 (hm.rights p hpm)
      simp [endsP] at he
      omega
  · have e1 := end_le hp hb hc hx1 hx2 h1
    have e2 := end_le hp hb hc hx1 hx2 h2
    have hcong : ∀ (k : List Pc), (∀ p ∈ k, p.f ∈ ts ∧ p.t ∈ ts) → fsP k x = fsP k b := fun k hk => fs_congr fun p hpk => by
      have k1 := end_le hp hb hc hx1 hx2 (hk p hpk).1
      have k2 := end_le hp hb hc hx1 hx2 (hk p hpk).2
      rw [Bool.eq_iff_iff, hasP_iff, hasP_iff]
      omega
    have hin : inP a.1 a.2 x = inP a.1 a.2 b := by
      rw [Bool.eq_iff_iff, inP_iff, inP_iff]; omega
    rw [spliceV, spliceV, hin, hcong l l1, hcong m m1]
  · have := end_first hp hx h1
    rw [spliceV, if_neg (fun h => by rw [inP_iff] at h; omega)]
    exact fsP_none fun p hpl h => by
      rw [hasP_iff] at h
      have := end_first hp hx (l1 p hpl).1
      omega
  · have := hx a.2 h2
    rw [spliceV, if_neg (fun h => by rw [inP_iff] at h; omega)]
    exact fsP_none fun p hpl h => by
      rw [hasP_iff] at h
      have := hx p.t (l1 p hpl).2
      omega

/-- A timeline within a span. -/
def clipP (a : Int × Int) (p : Pc) : Option Pc := if Co.meetB a.1 a.2 p.f p.t = true then some ⟨Co.meetF a.1 a.2 p.f p.t, Co.meetT a.1 a.2 p.f p.t, p.fa, p.fc, p.fs⟩ else none
def clipL (a : Int × Int) (l : List Pc) : List Pc := l.filterMap (clipP a)
theorem tl_pair : ∀ {l : List Pc}, TL l → l.Pairwise linkP
  | [], _ => List.Pairwise.nil
  | [p], _ => List.pairwise_singleton _ _
  | p :: q :: l, h => by
    refine List.pairwise_cons.2 ⟨fun r hr => ?_, tl_pair h.2.2⟩
    rcases List.mem_cons.1 hr with rfl | hr
    · exact h.2.1
    · have h1 := TL.behind h.2.2 r hr
      have h2 := right_lt h.2.2.head
      have h3 := h.2.1.1
      exact ⟨by omega, fun e => by omega⟩
theorem tl_of : ∀ {l : List Pc}, (∀ p ∈ l, rightP p.f p.t = true) → l.Pairwise linkP → TL l
  | [], _, _ => trivial
  | [p], h, _ => h p (by simp)
  | p :: q :: l, h, k => ⟨h p (by simp), (List.pairwise_cons.1 k).1 q (by simp), tl_of (fun r hr => h r (List.mem_cons_of_mem _ hr)) (List.pairwise_cons.1 k).2⟩
theorem clip_some {a : Int × Int} {p q : Pc} (h : clipP a p = some q) : rightP q.f q.t = true ∧ q.f = max a.1 p.f ∧ q.t = min a.2 p.t ∧ q.fs = p.fs ∧ rightP a.1 a.2 = true ∧ rightP p.f p.t = true := by
  unfold clipP at h
  split at h
  · rename_i hm
    injection h with h
    subst h
    have h2 := (meetB_iff _ _ _ _).1 hm
    have r1 := (rightP_iff _ _).1 h2.1.1
    have r2 := (rightP_iff _ _).1 h2.1.2
    have e1 : Co.meetF a.1 a.2 p.f p.t = max a.1 p.f := by rw [Co.meetF, hm]; rfl
    have e2 : Co.meetT a.1 a.2 p.f p.t = min a.2 p.t := by rw [Co.meetT, hm]; rfl
    refine ⟨?_, e1, e2, rfl, h2.1.1, h2.1.2⟩
    show rightP (Co.meetF a.1 a.2 p.f p.t) (Co.meetT a.1 a.2 p.f p.t) = true
    rw [e1, e2, rightP_iff]
    have := h2.2
    omega
  · cases h
theorem clip_tl {a : Int × Int} {l : List Pc} (h : TL l) : TL (clipL a l) := by
  refine tl_of (fun q hq => ?_) ?_
  · obtain ⟨p, _, hpq⟩ := List.mem_filterMap.1 hq
    exact (clip_some hpq).1
  · refine (tl_pair h).filterMap _ ?_
    intro p p' hl q hq q' hq'
    have c1 := clip_some hq
    have c2 := clip_some hq'
    refine ⟨by have := hl.1; omega, fun e => ?_⟩
    rw [c1.2.2.2.1, c2.2.2.2.1]
    exact hl.2 (by have := hl.1; omega)
theorem clip_fs (a : Int × Int) : ∀ (l : List Pc) (x : Int), fsP (clipL a l) x = if (rightP a.1 a.2 && inP a.1 a.2 x) = true then fsP l x else none
  | [], x => by simp [clipL, fsP, valP]
  | p :: l, x => by
    have ih := clip_fs a l x
    unfold clipL at ih ⊢
    rw [List.filterMap_cons]
    cases hc : clipP a p with
    | none =>
      simp only
      rw [ih]
      split
      · rename_i hh
        rw [Bool.and_eq_true, inP_iff] at hh
        rw [fsP, fsP, valP, if_neg]
        intro hp
        rw [hasP_iff] at hp
        unfold clipP at hc
        rw [if_pos] at hc
        · cases hc
        · rw [meetB_iff, rightP_iff, rightP_iff]
          have := (rightP_iff _ _).1 hh.1
          omega
      · rfl
    | some q =>
      have c := clip_some hc
      simp only
      rw [fsP, valP]
      by_cases hq : hasP q x = true
      · rw [if_pos hq]
        rw [hasP_iff] at hq
        have ra := (rightP_iff _ _).1 c.2.2.2.2.1
        have rp := (rightP_iff _ _).1 c.2.2.2.2.2
        rw [if_pos, fsP, valP, if_pos]
        · show some q.fs = some p.fs
          rw [c.2.2.2.1]
        · rw [hasP_iff]; omega
        · rw [c.2.2.2.2.1, Bool.true_and, inP_iff]; omega
      · rw [if_neg hq]
        show fsP (List.filterMap (clipP a) l) x = _
        rw [ih]
        split
        · rename_i hh
          rw [Bool.and_eq_true, inP_iff] at hh
          rw [fsP, fsP, valP, if_neg]
          intro hp
          apply hq
          rw [hasP_iff] at hp ⊢
          have := (rightP_iff _ _).1 c.1
          omega
        · rfl
theorem clip_length (a : Int × Int) (l : List Pc) : (clipL a l).length ≤ l.length := List.length_filterMap_le _ _

/-! What the laws say of these. -/
theorem covers_out {a : Int × Int} {v : Vr} {x : Int} (ha : rightP a.1 a.2 = true) (h1 : a.1 ≤ x) (h2 : x < a.2) (h : ¬ (Co.meetB a.1 a.2 v.sf v.se = true ∧ max a.1 v.sf ≤ x ∧ x < min a.2 v.se)) : coversB v x = false := by
  cases hc : coversB v x with
  | false => rfl
  | true =>
    rw [covers_iff] at hc
    exact absurd ⟨(meetB_iff _ _ _ _).2 ⟨⟨ha, hc.2.1⟩, by omega⟩, by omega, by omega⟩ h
theorem make_less {a : Int × Int} {l : List Vr} {v : Vr} {x : Int} (h : coversB v x = false) : makeV a (l ++ [v]) x = makeV a l x := by
  unfold makeV atL
  rw [List.filter_append, List.any_append]
  simp [h]
theorem more_not {a : Int × Int} {l : List Vr} {v : Vr} (h : Co.meetB a.1 a.2 v.sf v.se = false) (x : Int) : makeV a (l ++ [v]) x = makeV a l x := by
  by_cases hin : rightP a.1 a.2 = true ∧ a.1 ≤ x ∧ x < a.2
  · exact make_less (covers_out hin.1 hin.2.1 hin.2.2 (fun hh => by rw [h] at hh; exact absurd hh.1 (by simp)))
  · rw [makeV_out hin, makeV_out hin]
theorem more_is {a : Int × Int} {l : List Vr} {v : Vr} (h : Co.meetB a.1 a.2 v.sf v.se = true) {was new : List Pc} (h1 : ∀ x, fsP was x = makeV a l x) (h2 : ∀ x, fsP new x = makeV (Co.meetF a.1 a.2 v.sf v.se, Co.meetT a.1 a.2 v.sf v.se) (l ++ [v]) x) (x : Int) : spliceV (Co.meetF a.1 a.2 v.sf v.se, Co.meetT a.1 a.2 v.sf v.se) was new x = makeV a (l ++ [v]) x := by
  have e1 : Co.meetF a.1 a.2 v.sf v.se = max a.1 v.sf := by rw [Co.meetF, h]; rfl
  have e2 : Co.meetT a.1 a.2 v.sf v.se = min a.2 v.se := by rw [Co.meetT, h]; rfl
  have hh := (meetB_iff _ _ _ _).1 h
  have ra := (rightP_iff _ _).1 hh.1.1
  have rv := (rightP_iff _ _).1 hh.1.2
  have hx : rightP (max a.1 v.sf) (min a.2 v.se) = true := by rw [rightP_iff]; have := hh.2; omega
  rw [spliceV, h1, h2]
  simp only [e1, e2]
  by_cases hin : inP (max a.1 v.sf) (min a.2 v.se) x = true
  · rw [if_pos hin]
    rw [inP_iff] at hin
    rw [makeV_in (a := (max a.1 v.sf, min a.2 v.se)) hx hin.1 hin.2, makeV_in hh.1.1 (by omega) (by omega)]
  · rw [if_neg hin]
    by_cases hia : a.1 ≤ x ∧ x < a.2
    · exact (make_less (covers_out hh.1.1 hia.1 hia.2 (fun k => hin ((inP_iff _ _ _).2 k.2)))).symm
    · rw [makeV_out (fun k => hia k.2), makeV_out (fun k => hia k.2)]
theorem clip_make (a b : Int × Int) (l : List Vr) {m : List Pc} (h : ∀ x, fsP m x = makeV a l x) (x : Int) : fsP (clipL b m) x = makeV (Co.meetF a.1 a.2 b.1 b.2, Co.meetT a.1 a.2 b.1 b.2) l x := by
  rw [clip_fs, h]
  cases hm : Co.meetB a.1 a.2 b.1 b.2 with
  | true =>
    have e1 : Co.meetF a.1 a.2 b.1 b.2 = max a.1 b.1 := by rw [Co.meetF, hm]; rfl
    have e2 : Co.meetT a.1 a.2 b.1 b.2 = min a.2 b.2 := by rw [Co.meetT, hm]; rfl
    have hh := (meetB_iff _ _ _ _).1 hm
    have ra := (rightP_iff _ _).1 hh.1.1
    have rb := (rightP_iff _ _).1 hh.1.2
    have hx : rightP (max a.1 b.1) (min a.2 b.2) = true := by rw [rightP_iff]; have := hh.2; omega
    rw [e1, e2, hh.1.2, Bool.true_and]
    by_cases hin : max a.1 b.1 ≤ x ∧ x < min a.2 b.2
    · rw [makeV_in (a := (max a.1 b.1, min a.2 b.2)) hx hin.1 hin.2, if_pos ((inP_iff _ _ _).2 (by omega)), makeV_in hh.1.1 (by omega) (by omega)]
    · rw [makeV_out (a := (max a.1 b.1, min a.2 b.2)) (fun k => hin k.2)]
      split
      · rename_i hb
        rw [inP_iff] at hb
        exact makeV_out fun k => hin (by omega)
      · rfl
  | false =>
    have e1 : Co.meetF a.1 a.2 b.1 b.2 = 0 := by rw [Co.meetF, hm]; rfl
    have e2 : Co.meetT a.1 a.2 b.1 b.2 = 0 := by rw [Co.meetT, hm]; rfl
    rw [e1, e2, makeV_out (a := ((0 : Int), (0 : Int))) (fun k => by have h1 := k.2.1; have h2 := k.2.2; have h1 : (0 : Int) ≤ x := h1; have h2 : x < (0 : Int) := h2; omega)]
    split
    · rename_i hb
      rw [Bool.and_eq_true, inP_iff] at hb
      refine makeV_out fun k => ?_
      have : Co.meetB a.1 a.2 b.1 b.2 = true := (meetB_iff _ _ _ _).2 ⟨⟨k.1, hb.1⟩, by omega⟩
      rw [hm] at this; cases this
    · rfl
theorem splice_back {b : Int × Int} {m : List Pc} (hb : rightP b.1 b.2 = true) (x : Int) : spliceV b m (clipL b m) x = fsP m x := by
  rw [spliceV, clip_fs, hb, Bool.true_and]
  split
  · rfl
  · rfl

end Go.Proofs.Ytmhddpgeiijhgaa

/-
  Pieces in memory: lists of pieces, lists of them that a call makes.
-/
namespace Go.Proofs.Ytmhddpgeiijhgaa
open Go.RowKit

abbrev cellsPc (p : Pc) : List Value := [.int .i64 p.f, .int .i64 p.t, .slice p.fa p.fs.length p.fc]
/-- A piece as a value. -/
abbrev pv (p : Pc) : Value := .agg #[.int .i64 p.f, .int .i64 p.t, .slice p.fa p.fs.length p.fc]
/-- The fields of a piece lie where it says. -/
def PF (w : World) (p : Pc) : Prop := Fields w p.fa p.fs ∧ p.fs.length ≤ p.fc ∧ (p.fa = none → p.fc = 0)
theorem PF.below {w w' : World} {p : Pc} (h : PF w p) (hb : Below w.heap.size w w') : PF w' p := ⟨h.1.below hb, h.2⟩
theorem PF.list {w : World} {p : Pc} (h : PF w p) : ListF w (.slice p.fa p.fs.length p.fc) p.fs := ⟨p.fa, p.fc, rfl, h.1, h.2.1, h.2.2⟩
abbrev Cells3 (w : World) (g o : Nat) (p : Pc) : Prop := w.cell? ⟨g, o, none⟩ = some (.int .i64 p.f) ∧ w.cell? ⟨g, o + 1, none⟩ = some (.int .i64 p.t) ∧ w.cell? ⟨g, o + 2, none⟩ = some (.slice p.fa p.fs.length p.fc)
theorem Cells3.below {w w' : World} {g o : Nat} {p : Pc} (h : Cells3 w g o p) (hb : Below w.heap.size w w') : Cells3 w' g o p :=
  ⟨keepc hb h.1, keepc hb h.2.1, keepc hb h.2.2⟩
theorem Cells3.more {w : World} {g o : Nat} {p : Pc} (h : Cells3 w g o p) (x : Obj) : Cells3 (w.alloc x) g o p := h.below ((bl w).alloc (Nat.le_refl _) x)
abbrev BoxP (w : World) (g : Nat) (p : Pc) : Prop := w.cell? ⟨g, 0, none⟩ = some (.int .i64 p.f) ∧ w.cell? ⟨g, 1, none⟩ = some (.int .i64 p.t) ∧ w.cell? ⟨g, 2, none⟩ = some (.slice p.fa p.fs.length p.fc)
theorem BoxP.below {w w' : World} {g : Nat} {p : Pc} (h : BoxP w g p) (hb : Below w.heap.size w w') : BoxP w' g p := ⟨keepc hb h.1, keepc hb h.2.1, keepc hb h.2.2⟩
/-- The fields of a piece lie where it says, and not in block o. -/
def KP (w : World) (o : Option Nat) (p : Pc) : Prop := PF w p ∧ (p.fs ≠ [] → ∀ a, p.fa = some a → o ≠ some a.block)
theorem PF.lt {w : World} {p : Pc} (h : PF w p) (hn : p.fs ≠ []) {a : Addr} (ha : p.fa = some a) : a.block < w.heap.size := by
  cases hfs : p.fs with
  | nil => exact absurd hfs hn
  | cons f l =>
    obtain ⟨g, off, he, c0, _⟩ := h.1 0 f (by rw [hfs]; rfl)
    rw [ha] at he
    injection he with he
    subst he
    exact lt_of_cell c0
/-- Whatever lay, lies, but for one block. -/
def Kb (o : Option Nat) (w w' : World) : Prop := w.heap.size ≤ w'.heap.size ∧ ∀ c, c < w.heap.size → o ≠ some c → w'.heap[c]? = w.heap[c]?
theorem Kb.refl (o : Option Nat) (w : World) : Kb o w w := ⟨Nat.le_refl _, fun _ _ _ => rfl⟩
theorem Kb.trans {o : Option Nat} {a b c : World} (h : Kb o a b) (k : Kb o b c) : Kb o a c := ⟨Nat.le_trans h.1 k.1, fun i hi hn => (k.2 i (Nat.lt_of_lt_of_le hi h.1) hn).trans (h.2 i hi hn)⟩
theorem Kb.of_below {o : Option Nat} {w w' : World} (h : Below w.heap.size w w') : Kb o w w' := ⟨h.size, fun c hc _ => h.block c hc⟩
theorem Kb.set {a w : World} {b i : Nat} (h : Kb (some b) a w) (u : Value) : Kb (some b) a (w.setCell ⟨b, i, none⟩ u) :=
  ⟨by have := h.1; simpa [World.setCell] using this, fun c hc hn => (Below.heap_setCell w ⟨b, i, none⟩ u c (fun e => hn (by simp at e; rw [e]))).trans (h.2 c hc hn)⟩
theorem Kb.grown {a w w' : World} {o : Option Nat} (h : Kb o a w) (hg : w.grownBy w' o) : Kb o a w' := h.trans ⟨hg.size, fun c hc hn => hg.block c hc (fun e => hn e.symm)⟩
theorem Kb.cell {o : Option Nat} {w w' : World} (h : Kb o w w') {g i : Nat} {u : Value} (hc : w.cell? ⟨g, i, none⟩ = some u) (hn : o ≠ some g) : w'.cell? ⟨g, i, none⟩ = some u :=
  (World.cell?_of_block (w := w) (h.2 g (lt_of_cell hc) hn)).trans hc
theorem KP.below {w w' : World} {o : Option Nat} {p : Pc} (h : KP w o p) (hb : Below w.heap.size w w') : KP w' o p := ⟨h.1.below hb, h.2⟩
theorem KP.but {w w' : World} {o : Option Nat} {p : Pc} (h : KP w o p) (hb : Kb o w w') : PF w' p := by
  refine ⟨fun k f hf => ?_, h.1.2⟩
  obtain ⟨g, off, he, c0, c1⟩ := h.1.1 k f hf
  have hne : o ≠ some g := h.2 (fun e => by rw [e] at hf; simp at hf) _ he
  exact ⟨g, off, he, hb.cell c0 hne, hb.cell c1 hne⟩
theorem KP.move {w w' : World} {o o' : Option Nat} {p : Pc} (h : KP w o p) (hb : Kb o w w') (ho : o' = o ∨ ∃ g, o' = some g ∧ w.heap.size ≤ g) : KP w' o' p := by
  refine ⟨h.but hb, fun hn a ha => ?_⟩
  rcases ho with rfl | ⟨g, rfl, hg⟩
  · exact h.2 hn a ha
  · intro e
    injection e with e
    have := h.1.lt hn ha
    omega
theorem KP.same {w : World} {o : Option Nat} {p q : Pc} (h : KP w o p) (h1 : q.fa = p.fa) (h2 : q.fc = p.fc) (h3 : q.fs = p.fs) : KP w o q := by
  unfold KP PF at h ⊢
  rw [h1, h2, h3]; exact h
/-- What Clip tells of any list, and what Splice. -/
def clipG (a : Int × Int) (l : List Pc) (x : Int) : Option (List Fd) := if rightT l = true then fsP (clipL a l) x else none
def spliceG (a : Int × Int) (l m : List Pc) (x : Int) : Option (List Fd) := if (rightT l && rightT m) = true then (if rightP a.1 a.2 = true then spliceV a l m x else fsP l x) else none
def firstF (l : List Pc) (x : Int) : List Fd := (fsP l x).getD []
theorem fs_small {l : List Pc} {n : Nat} (h : ∀ p ∈ l, p.fs.length ≤ n) {x : Int} {s : List Fd} (hs : fsP l x = some s) : s.length ≤ n := by
  unfold fsP at hs
  cases hv : valP l x with
  | none => rw [hv] at hs; cases hs
  | some p =>
    rw [hv] at hs
    have : p.fs = s := by simpa using hs
    rw [← this]
    exact h p (valP_mem hv).1
theorem clipG_few {a : Int × Int} {l : List Pc} {n : Nat} (h : ∀ p ∈ l, p.fs.length ≤ n) : ∀ x s, clipG a l x = some s → s.length ≤ n := fun x s hs => by
  unfold clipG at hs
  split at hs
  · rw [clip_fs] at hs
    split at hs
    · exact fs_small h hs
    · cases hs
  · cases hs
theorem spliceG_few {a : Int × Int} {l m : List Pc} {n : Nat} (h : ∀ p ∈ l, p.fs.length ≤ n) (k : ∀ p ∈ m, p.fs.length ≤ n) : ∀ x s, spliceG a l m x = some s → s.length ≤ n := fun x s hs => by
  unfold spliceG at hs
  split at hs
  · split at hs
    · unfold spliceV at hs
      split at hs
      · exact fs_small k hs
      · exact fs_small h hs
    · exact fs_small h hs
  · cases hs
abbrev sp2 (a : Int × Int) : Value := .agg #[.int .i64 a.1, .int .i64 a.2]
abbrev spanP (p : Pc) : Int × Int := (p.f, p.t)

end Go.Proofs.Ytmhddpgeiijhgaa

/-
  An argument that is a list of versions.
-/
namespace Go.Proofs.Ytmhddpgeiijhgaa
open Go.ChangeShapes Go.WideShapes Go.ChangeAt Go.RowKit Go.Joins Go.ChangeMaps Go.Deep

theorem Try.cellsVersion : Try.prog.cellsOf 51 = 7 := by kernel_rfl
theorem Try.cellsSpan : Try.prog.cellsOf 26 = 2 := by kernel_rfl
theorem Try.cells3b : Try.prog.cellsOf 4 = 1 := by kernel_rfl
instance : Inhabited Vr := ⟨⟨0, 0, ⟨#[]⟩, 0, 0, none, 0, [], false⟩⟩

section
variable {H : Type} {enc : TypeId × Value → H} {W : World} {r : Reach} {base : Nat}

set_option maxRecDepth 100000 in
theorem arg_vers {v : Value} {d : DataW H} {p : List MemPlace} (hv : Value.okWide Try.prog W r base 43 v) (h : DataW.Trod enc Try.prog W 0 (fun _ => true) true 43 v d p) :
    ∃ l, VersL W v l ∧ (∀ x ∈ l, okF x.fs) ∧ l.length ≤ 9223372036854775807 := by
  obtain ⟨A, len, cap, rfl⟩ := okWide_slice Try.underlying43 hv
  obtain ⟨fuel, hf⟩ := h
  rcases open_slice Try.underlying43 hf with ⟨hcs, _⟩ | ⟨a, len', cap', m, n, D, Pl, hcs, _, hl, hmx, hm, _, hx⟩
  · simp [Value.cells] at hcs
    obtain ⟨rfl, rfl, rfl⟩ := hcs
    exact ⟨[], ⟨ListE.nil _, fun v hv => by simp at hv⟩, fun v hv => by simp at hv, by simp⟩
  · simp [Value.cells] at hcs
    obtain ⟨rfl, rfl, rfl⟩ := hcs
    simp only [if_true] at hm
    subst hm
    have each : ∀ i, i < len → ∃ q : Vr, (∀ j u, (cellsV q)[j]? = some u → W.cell? (a.add (i * 7 + j)) = some u) ∧ VF W q ∧ okF q.fs := by
      intro i hi
      obtain ⟨cs', h1, h2⟩ := hx i (by omega)
      rw [Try.cellsVersion] at h1
      obtain ⟨_, hlen, hcell⟩ := World.cells?_some h1
      obtain ⟨xs, k, hk, hxy, _, hxl, hf⟩ := DataW.trod_struct Try.underlying51 h2
      match xs, hxl, cs', hlen with
      | [y0, y1, y2, y3, y4, y5], _, [v0, v1, v2, v3, v4, v5, v6], _ =>
        have g0 := hf 0 _ rfl
        have g1 := hf 1 _ rfl
        have g2 := hf 2 _ rfl
        have g3 := hf 3 _ rfl
        have g4 := hf 4 _ rfl
        have g5 := hf 5 _ rfl
        simp [Try.cells3i, Try.cells3s, Try.cells3b, Try.cells3l, Try.cellsSpan] at g0 g1 g2 g3 g4 g5
        obtain ⟨x0, e0, _, _⟩ := DataW.trod_int Try.underlying3 g0
        obtain ⟨x1, e1, _, _⟩ := DataW.trod_int Try.underlying3 g1
        obtain ⟨x2, e2, _, _⟩ := DataW.trod_string Try.underlying9 g2
        obtain ⟨xs3, k3, hk3, hxy3, _, hxl3, hf3⟩ := DataW.trod_struct Try.underlying26 g3
        obtain ⟨l4, hl4, hw4, _⟩ := fields_of g4
        obtain ⟨x5, e5, _⟩ := DataW.trod_bool Try.underlying4 g5
        match xs3, hxl3 with
        | [z0, z1], _ =>
          have s0 := hf3 0 _ rfl
          have s1 := hf3 1 _ rfl
          simp [Try.cells3i] at s0 s1
          obtain ⟨x3, e3, _, _⟩ := DataW.trod_int Try.underlying3 s0
          obtain ⟨x4, e4, _, _⟩ := DataW.trod_int Try.underlying3 s1
          simp at e0 e1 e2 e3 e4 e5
          subst e0 e1 e2 e3 e4 e5
          obtain ⟨B, c, rfl, hB, hc, hnc⟩ := hl4
          refine ⟨⟨x0, x1, x2, x3, x4, B, c, l4, x5⟩, fun j u hu => ?_, ⟨hB, hc, hnc⟩, fun f hf => (hw4 f hf).2⟩
          have hj : j < 7 := by
            rcases Nat.lt_or_ge j 7 with h' | h'
            · exact h'
            · rw [List.getElem?_eq_none (by simpa using h')] at hu; cases hu
          have f0 := hcell j hj
          rw [add_add] at f0
          have hh : ([Value.int .i64 x0, .int .i64 x1, .string x2, .int .i64 x3, .int .i64 x4, .slice B l4.length c, .bool x5] : List Value)[j]? = some u := hu
          rw [hh] at f0
          exact f0
    obtain ⟨q, hq⟩ := choose_lt each
    refine ⟨(List.range len).map q, ⟨⟨some a, m, by simp, fun i x hxx => ?_, by simpa using hl, by simp⟩, fun x hxx => ?_⟩, fun x hxx => ?_, by simp; unfold maxLen at hmx; omega⟩
    · have hi : i < len := by
        rcases Nat.lt_or_ge i len with hlt | hge
        · exact hlt
        · rw [List.getElem?_eq_none (by simpa using hge)] at hxx
          cases hxx
      obtain rfl : q i = x := by
        rw [List.getElem?_map, List.getElem?_range hi] at hxx
        simpa using hxx
      have z0 := (hq 0 (by omega)).1 0 _ rfl
      have ha := plain_of_cell (by simpa using z0)
      refine ⟨a.block, a.off, by rw [← ha], fun j u hu => ?_⟩
      have c0 := (hq i hi).1 j u hu
      rw [ha, Go.WideShapes.add_plain] at c0
      have e7 : EV.sz = 7 := rfl
      rw [e7, Nat.add_assoc]
      exact c0
    · obtain ⟨i, hi, rfl⟩ := List.mem_map.1 hxx
      exact (hq i (List.mem_range.1 hi)).2.1
    · obtain ⟨i, hi, rfl⟩ := List.mem_map.1 hxx
      exact (hq i (List.mem_range.1 hi)).2.2
end

end Go.Proofs.Ytmhddpgeiijhgaa

/-
  Acts: whether versions are dropped, which, a name, a bucket; an argument that is a list of them.
-/
namespace Go.Proofs.Ytmhddpgeiijhgaa
open Go.ChangeShapes Go.WideShapes Go.ChangeAt Go.RowKit Go.Joins Go.ChangeMaps Go.Deep

structure Ac13 where
  d : Bool
  la : Option Addr
  lc : Nat
  l : List Vr
  n : ByteArray
  k : Int
abbrev cellsA13 (q : Ac13) : List Value := [.bool q.d, .slice q.la q.l.length q.lc, .string q.n, .int .i64 q.k]
def EA13 : El Ac13 where
  s := 37
  e := 45
  sz := 4
  bys := 56
  z := .agg #[.bool false, .slice none 0 0, .string ⟨#[]⟩, .int .i64 0]
  cells := cellsA13
  pos := by decide
  few := by decide
  len := fun _ => rfl
  one := fun x u hu => by
    simp only [cellsA13, List.mem_cons, List.not_mem_nil, or_false] at hu
    rcases hu with rfl | rfl | rfl | rfl <;> rfl
  und := Try.underlying37
  info := by kernel_rfl
  zs := rfl
/-- The versions of an act lie where it says. -/
abbrev AF13 (w : World) (q : Ac13) : Prop := VersL w (.slice q.la q.l.length q.lc) q.l
def ActsL13 (w : World) (u : Value) (l : List Ac13) : Prop := ListE EA13 w u l ∧ ∀ q ∈ l, AF13 w q
instance inhabitedAc13 : Inhabited Ac13 := ⟨⟨false, none, 0, [], ⟨#[]⟩, 0⟩⟩
theorem Try.cellsAct13 : Try.prog.cellsOf 45 = 4 := by kernel_rfl
theorem Try.cells3v13 : Try.prog.cellsOf 43 = 1 := by kernel_rfl

section
variable {H : Type} {enc : TypeId × Value → H} {W : World} {r : Reach} {base : Nat}

set_option maxRecDepth 100000 in
theorem vers_of13 {fuel : Nat} {v : Value} {x : DataW H × List MemPlace} (hf : DataW.trod enc Try.prog W 0 (fun _ => true) true fuel 43 [v] = some x) :
    ∃ l, VersL W v l ∧ (∀ x ∈ l, okF x.fs) ∧ l.length ≤ 9223372036854775807 := by
  rcases open_slice Try.underlying43 hf with ⟨hcs, _⟩ | ⟨a, len', cap', m, n, D, Pl, hcs, _, hl, hmx, hm, _, hx⟩
  · obtain rfl : v = .slice none 0 0 := by simpa using hcs
    exact ⟨[], ⟨ListE.nil _, fun v hv => by simp at hv⟩, fun v hv => by simp at hv, by simp⟩
  · obtain rfl : v = .slice (some a) len' cap' := by simpa using hcs
    simp only [if_true] at hm
    subst hm
    have each : ∀ i, i < len' → ∃ q : Vr, (∀ j u, (cellsV q)[j]? = some u → W.cell? (a.add (i * 7 + j)) = some u) ∧ VF W q ∧ okF q.fs := by
      intro i hi
      obtain ⟨cs', h1, h2⟩ := hx i (by omega)
      rw [Try.cellsVersion] at h1
      obtain ⟨_, hlen, hcell⟩ := World.cells?_some h1
      obtain ⟨xs, k, hk, hxy, _, hxl, hf⟩ := DataW.trod_struct Try.underlying51 h2
      match xs, hxl, cs', hlen with
      | [y0, y1, y2, y3, y4, y5], _, [v0, v1, v2, v3, v4, v5, v6], _ =>
        have g0 := hf 0 _ rfl
        have g1 := hf 1 _ rfl
        have g2 := hf 2 _ rfl
        have g3 := hf 3 _ rfl
        have g4 := hf 4 _ rfl
        have g5 := hf 5 _ rfl
        simp [Try.cells3i, Try.cells3s, Try.cells3b, Try.cells3l, Try.cellsSpan] at g0 g1 g2 g3 g4 g5
        obtain ⟨x0, e0, _, _⟩ := DataW.trod_int Try.underlying3 g0
        obtain ⟨x1, e1, _, _⟩ := DataW.trod_int Try.underlying3 g1
        obtain ⟨x2, e2, _, _⟩ := DataW.trod_string Try.underlying9 g2
        obtain ⟨xs3, k3, hk3, hxy3, _, hxl3, hf3⟩ := DataW.trod_struct Try.underlying26 g3
        obtain ⟨l4, hl4, hw4, _⟩ := fields_of g4
        obtain ⟨x5, e5, _⟩ := DataW.trod_bool Try.underlying4 g5
        match xs3, hxl3 with
        | [z0, z1], _ =>
          have s0 := hf3 0 _ rfl
          have s1 := hf3 1 _ rfl
          simp [Try.cells3i] at s0 s1
          obtain ⟨x3, e3, _, _⟩ := DataW.trod_int Try.underlying3 s0
          obtain ⟨x4, e4, _, _⟩ := DataW.trod_int Try.underlying3 s1
          simp at e0 e1 e2 e3 e4 e5
          subst e0 e1 e2 e3 e4 e5
          obtain ⟨B, c, rfl, hB, hc, hnc⟩ := hl4
          refine ⟨⟨x0, x1, x2, x3, x4, B, c, l4, x5⟩, fun j u hu => ?_, ⟨hB, hc, hnc⟩, fun f hf => (hw4 f hf).2⟩
          have hj : j < 7 := by
            rcases Nat.lt_or_ge j 7 with h' | h'
            · exact h'
            · rw [List.getElem?_eq_none (by simpa using h')] at hu; cases hu
          have f0 := hcell j hj
          rw [add_add] at f0
          have hh : ([Value.int .i64 x0, .int .i64 x1, .string x2, .int .i64 x3, .int .i64 x4, .slice B l4.length c, .bool x5] : List Value)[j]? = some u := hu
          rw [hh] at f0
          exact f0
    obtain ⟨q, hq⟩ := choose_lt each
    refine ⟨(List.range len').map q, ⟨⟨some a, m, by simp, fun i x hxx => ?_, by simpa using hl, by simp⟩, fun x hxx => ?_⟩, fun x hxx => ?_, by simp; unfold maxLen at hmx; omega⟩
    · have hi : i < len' := by
        rcases Nat.lt_or_ge i len' with hlt | hge
        · exact hlt
        · rw [List.getElem?_eq_none (by simpa using hge)] at hxx
          cases hxx
      obtain rfl : q i = x := by
        rw [List.getElem?_map, List.getElem?_range hi] at hxx
        simpa using hxx
      have z0 := (hq 0 (by omega)).1 0 _ rfl
      have ha := plain_of_cell (by simpa using z0)
      refine ⟨a.block, a.off, by rw [← ha], fun j u hu => ?_⟩
      have c0 := (hq i hi).1 j u hu
      rw [ha, Go.WideShapes.add_plain] at c0
      have e7 : EV.sz = 7 := rfl
      rw [e7, Nat.add_assoc]
      exact c0
    · obtain ⟨i, hi, rfl⟩ := List.mem_map.1 hxx
      exact (hq i (List.mem_range.1 hi)).2.1
    · obtain ⟨i, hi, rfl⟩ := List.mem_map.1 hxx
      exact (hq i (List.mem_range.1 hi)).2.2

/-- What is said of an act that comes in. -/
def okA13 (q : Ac13) : Prop := q.n.size ≤ maxLen ∧ okI13 q.k ∧ (∀ v ∈ q.l, okF v.fs) ∧ q.l.length ≤ 9223372036854775807
set_option maxRecDepth 100000 in
theorem arg_acts {v : Value} {d : DataW H} {p : List MemPlace} (hv : Value.okWide Try.prog W r base 37 v) (h : DataW.Trod enc Try.prog W 0 (fun _ => true) true 37 v d p) :
    ∃ l, ActsL13 W v l ∧ (∀ q ∈ l, okA13 q) ∧ l.length ≤ 9223372036854775807 := by
  obtain ⟨A, len, cap, rfl⟩ := okWide_slice Try.underlying37 hv
  obtain ⟨fuel, hf⟩ := h
  rcases open_slice Try.underlying37 hf with ⟨hcs, _⟩ | ⟨a, len', cap', m, n, D, Pl, hcs, _, hl, hmx, hm, _, hx⟩
  · simp [Value.cells] at hcs
    obtain ⟨rfl, rfl, rfl⟩ := hcs
    exact ⟨[], ⟨ListE.nil _, fun c hc => by simp at hc⟩, fun c hc => by simp at hc, by simp⟩
  · simp [Value.cells] at hcs
    obtain ⟨rfl, rfl, rfl⟩ := hcs
    simp only [if_true] at hm
    subst hm
    have each : ∀ i, i < len → ∃ q : Ac13, (∀ j u, (cellsA13 q)[j]? = some u → W.cell? (a.add (i * 4 + j)) = some u) ∧ AF13 W q ∧ okA13 q := by
      intro i hi
      obtain ⟨cs', h1, h2⟩ := hx i (by omega)
      rw [Try.cellsAct13] at h1
      obtain ⟨_, hlen, hcell⟩ := World.cells?_some h1
      obtain ⟨xs, k, hk, hxy, _, hxl, hf⟩ := DataW.trod_struct Try.underlying45 h2
      match xs, hxl, cs', hlen with
      | [y0, y1, y2, y3], _, [v0, v1, v2, v3], _ =>
        have g0 := hf 0 _ rfl
        have g1 := hf 1 _ rfl
        have g2 := hf 2 _ rfl
        have g3 := hf 3 _ rfl
        simp [Try.cells3b, Try.cells3i, Try.cells3s, Try.cells3v13] at g0 g1 g2 g3
        obtain ⟨x0, e0, _⟩ := DataW.trod_bool Try.underlying4 g0
        obtain ⟨l1, hl1, hw1, hn1⟩ := vers_of13 g1
        obtain ⟨x2, e2, _, hz2⟩ := DataW.trod_string Try.underlying9 g2
        obtain ⟨x3, e3, _, hw3⟩ := DataW.trod_int Try.underlying3 g3
        simp at e0 e2 e3
        subst e0 e2 e3
        obtain ⟨⟨B, c, rfl, hB⟩, hV⟩ := hl1
        refine ⟨⟨x0, B, c, l1, x2, x3⟩, fun j u hu => ?_, ⟨⟨B, c, rfl, hB⟩, hV⟩, ⟨hz2, int_of_wf hw3, hw1, hn1⟩⟩
        have hj : j < 4 := by
          rcases Nat.lt_or_ge j 4 with h' | h'
          · exact h'
          · rw [List.getElem?_eq_none (by simpa using h')] at hu; cases hu
        have f0 := hcell j hj
        rw [add_add] at f0
        have hh : ([Value.bool x0, .slice B l1.length c, .string x2, .int .i64 x3] : List Value)[j]? = some u := hu
        rw [hh] at f0
        exact f0
    obtain ⟨q, hq⟩ := choose_lt each
    refine ⟨(List.range len).map q, ⟨⟨some a, m, by simp, fun i x hxx => ?_, by simpa using hl, by simp⟩, fun x hxx => ?_⟩, fun x hxx => ?_, by simp; unfold maxLen at hmx; omega⟩
    · have hi : i < len := by
        rcases Nat.lt_or_ge i len with hlt | hge
        · exact hlt
        · rw [List.getElem?_eq_none (by simpa using hge)] at hxx
          cases hxx
      obtain rfl : q i = x := by
        rw [List.getElem?_map, List.getElem?_range hi] at hxx
        simpa using hxx
      have z0 := (hq 0 (by omega)).1 0 _ rfl
      have ha := plain_of_cell (by simpa using z0)
      refine ⟨a.block, a.off, by rw [← ha], fun j u hu => ?_⟩
      have c0 := (hq i hi).1 j u hu
      rw [ha, Go.WideShapes.add_plain] at c0
      have e4 : EA13.sz = 4 := rfl
      rw [e4, Nat.add_assoc]
      exact c0
    · obtain ⟨i, hi, rfl⟩ := List.mem_map.1 hxx
      exact (hq i (List.mem_range.1 hi)).2.1
    · obtain ⟨i, hi, rfl⟩ := List.mem_map.1 hxx
      exact (hq i (List.mem_range.1 hi)).2.2
end

end Go.Proofs.Ytmhddpgeiijhgaa

/-
  The document's Get of totals.
-/
namespace Go.Proofs.Ytmhddpgeiijhgaa
open Go.RowKit

theorem ret_ii {a b c d : Int} (h : a = b) (k : c = d) : Ending.returned (.tuple #[.int .i64 a, .int .i64 c]) = .returned (.tuple #[.int .i64 b, .int .i64 d]) := by rw [h, k]
set_option maxHeartbeats 4000000 in
theorem dget13_any (w : World) (A : Option Addr) (c : Nat) (l : List Tt) (n : ByteArray) (k : Int) (hl : RowE ETr w A l) (hn : l.length ≤ 1000000) :
    Ret 24 #[.slice A l.length c, .string n, .int .i64 k] w (.tuple #[.int .i64 (getT l n k).1, .int .i64 (getT l n k).2]) := by
  have CP := Lib.hid (dplace13_any w A c l n k hl hn)
  have HL := Lib.hid hl
  obtain ⟨m, hm⟩ : ∃ m, l.length = m := ⟨_, rfl⟩
  have HPL := Lib.hid (show posT l n k ≤ m by rw [← hm]; exact posT_le l n k)
  rw [hm] at hn CP ⊢
  cases hb : isT l n k with
  | false =>
    rw [hb] at CP
    have HG := Lib.hid (getT_none hb)
    generalize posT l n k = p at *
    clear hl hm hb
    go_enter Try.func24, Try.ntmps24
    go_wp2_with (go_at_call 36; (with_reducible refine CP.out.mono ?_); rintro e w2 ⟨rfl, hb2⟩; have HB2 := Lib.hid hb2; clear hb2)
    go_ret2
    exact ⟨ret_ii (by rw [HG.out]) (by rw [HG.out]), HB2.out⟩
  | true =>
    rw [hb] at CP
    obtain ⟨t, ht⟩ := isT_some hb
    have HG := Lib.hid (getT_at ht hb)
    have hlt : posT l n k < m := by
      rcases Nat.lt_or_ge (posT l n k) l.length with h | h
      · rw [← hm]; exact h
      · rw [List.getElem?_eq_none h] at ht; cases ht
    obtain ⟨g, off, rfl, _, _, c2, c3⟩ := HL.out.cellsT ht
    generalize posT l n k = p at *
    clear hl hm hb ht HL
    go_enter Try.func24, Try.ntmps24
    go_wp2_with (go_at_call 36; (with_reducible refine CP.out.mono ?_); rintro e w2 ⟨rfl, hb2⟩; have HB2 := Lib.hid hb2; have d2 := keepc hb2 c2; have d3 := keepc hb2 c3; clear hb2)
    have hlt2 : (p : Int) < (m : Int) := by omega
    go_quiet (fail)
    go_wp2_with fail
    go_ret2
    exact ⟨ret_ii (by rw [HG.out]) (by rw [HG.out]), belowN HB2.out _⟩
end Go.Proofs.Ytmhddpgeiijhgaa

/-
  The program's totals in memory: what is added to a place.
-/
namespace Go.Proofs.Ytmhddpgeiijhgaa
open Go.RowKit
open Go.Maps (Keyed)

set_option maxRecDepth 100000 in
theorem run_eql_ta13 (a b : Int) (w : World) : (binOp .eql TTa (.agg #[.int .i64 a, .int .i64 b]) (.agg #[.int .i64 0, .int .i64 0])).run Try.prog w = .ok (.bool (decide (a = 0 ∧ b = 0))) w := by
  rw [run_eql_struct, run_equalIn_struct w 9999 TTa _ _ Try.underlying71 (by kernel_rfl)]
  have h3 := Try.underlying3
  have a3 : ∀ w, (isAgg 3).run Try.prog w = .ok false w := Try.isAgg3
  have c3 : Try.prog.cellsOf 3 = 1 := by kernel_rfl
  simp [Op.eqFields, Program.fieldsOf, Try.underlying71, part, a3, run_equalIn_int w 9998 _ .i64 .i64 _ _ h3]
  by_cases h1 : a = 0
  · by_cases h2 : b = 0 <;> simp [h1, h2]
  · simp [h1]
theorem kl13_lit (n : ByteArray) (k : Int) : Go.WideAt.IsKeyLit (kl13 n k) := by trivial
section
variable {w : World} {S M : Nat} {x : Int} {m : Nat} {D : DataW Value} {L : List Tt}
theorem getT_ok (h : WfT L) (hok : ∀ t ∈ L, t.n.size ≤ maxLen ∧ okI13 t.k) {n : ByteArray} {k : Int} (hn : n.size ≤ maxLen) (hk : okI13 k) (c s : Int) : ∀ t ∈ addT L n k c s, t.n.size ≤ maxLen ∧ okI13 t.k := fun t ht => by
  rcases (mem_addT h n k c s t).1 ht with ⟨h1, _⟩ | h1
  · exact hok t h1
  · obtain ⟨rfl, _⟩ := newT_mem.1 h1
    exact ⟨hn, hk⟩
/-- What is put at a place. -/
theorem St13.put (h : St13 w S M x m D L) {n : ByteArray} {k : Int} (hn : n.size ≤ maxLen) (hk : okI13 k) (c s : Int) {w1 w2 : World} (hg : w.grownBy w1 none) (hg2 : w1.grownBy w2 (some M)) {m' : Nat}
    (hm : w2.ownsMap Try.prog TPl heldV13 M m' (D.put (kl13 n k) (.held (tv13 (getT (addT L n k c s) n k))))) (h0 : getT (addT L n k c s) n k ≠ (0, 0)) :
    St13 w2 S M x m' (D.put (kl13 n k) (.held (tv13 (getT (addT L n k c s) n k)))) (addT L n k c s) := by
  have h1 := h.kept hg (by simp) (by simp)
  refine ⟨(hg2.block S h1.lt (fun e => h.ne (by injection e))).trans h1.box, hm, fun n' k' hn' hk' zd => ?_, wfT_addT h.wf _ _ _ _, getT_ok h.wf h.ok hn hk c s⟩
  by_cases he : n' = n ∧ k' = k
  · obtain ⟨rfl, rfl⟩ := he
    rw [Maps.atKey_put_same h.map.isMap (kl13_lit _ _), if_neg h0]
  · rw [Maps.atKey_put_other (fun e => he (kl13_inj hn' hk' hn hk e)), h.key n' k' hn' hk', getT_addT_other h.wf n k c s he]
theorem St13.del (h : St13 w S M x m D L) {n : ByteArray} {k : Int} (hn : n.size ≤ maxLen) (hk : okI13 k) (c s : Int) {w1 w2 : World} (hg : w.grownBy w1 none) (hg2 : w1.grownBy w2 (some M)) {m' : Nat}
    (hm : w2.ownsMap Try.prog TPl heldV13 M m' (D.del (kl13 n k))) (h0 : getT (addT L n k c s) n k = (0, 0)) :
    St13 w2 S M x m' (D.del (kl13 n k)) (addT L n k c s) := by
  have h1 := h.kept hg (by simp) (by simp)
  refine ⟨(hg2.block S h1.lt (fun e => h.ne (by injection e))).trans h1.box, hm, fun n' k' hn' hk' zd => ?_, wfT_addT h.wf _ _ _ _, getT_ok h.wf h.ok hn hk c s⟩
  by_cases he : n' = n ∧ k' = k
  · obtain ⟨rfl, rfl⟩ := he
    rw [Maps.atKey_del_same, if_pos h0]
  · rw [Maps.atKey_del_other (fun e => he (kl13_inj hn' hk' hn hk e)), h.key n' k' hn' hk', getT_addT_other h.wf n k c s he]
end
/-- What add leaves. -/
def AddP13 (S M : Nat) (x : Int) (m : Nat) (L : List Tt) (n : ByteArray) (k c s : Int) (w : World) (e : Ending) (w' : World) : Prop := e = .returned (.tuple #[]) ∧ (∃ D', St13 w' S M x (m + 1) D' (addT L n k c s)) ∧ w.grownBy w' (some M)
theorem grown_trans13 {a b c : World} {row : Option Nat} (h : a.grownBy b row) (k : b.grownBy c row) : a.grownBy c row :=
  ⟨k.os.trans h.os, k.tape.trans h.tape, k.output.trans h.output, Nat.le_trans h.size k.size, fun i h1 h2 => (k.block i (Nat.lt_of_lt_of_le h1 h.size) h2).trans (h.block i h1 h2)⟩
theorem grown_of13 {w w' : World} (h : Below w.heap.size w w') (row : Option Nat) : w.grownBy w' row := ⟨h.os, h.tape, h.output, h.size, fun k hk _ => h.block k hk⟩
set_option maxHeartbeats 4000000 in
set_option maxRecDepth 100000 in
theorem padd13_any {w : World} {S M : Nat} {x : Int} {m : Nat} {D : DataW Value} {L : List Tt} (h : St13 w S M x m D L) (n : ByteArray) (k c s : Int) (hn : n.size ≤ maxLen) (hk : okI13 k) (hm : m < 1000000) :
    Calls Try.prog 42 #[.pointer (some ⟨S, 0, none⟩), .agg #[.string n, .int .i64 k], .agg #[.int .i64 c, .int .i64 s]] w (AddP13 S M x m L n k c s w) := by
  obtain ⟨W, hW⟩ : ∃ W, (w.alloc (.cells #[.string n, .int .i64 k] 73)).alloc (.cells #[.int .i64 c, .int .i64 s] 71) = W := ⟨_, rfl⟩
  have hbW : Below w.heap.size w W := by rw [← hW]; exact ((bl w).alloc (Nat.le_refl _) _).alloc (by simp) _
  have HW := Lib.hid (h.below hbW)
  have x1 := HW.out.c1
  have hl := HW.out.look hn hk W HW.out.map
  have hl2 := fun o => HW.out.look hn hk (W.alloc o) (HW.out.map.alloc o)
  have hl3 := HW.out.look hn hk W.drew HW.out.map.drew
  have hl4 := fun o => HW.out.look hn hk (W.drew.alloc o) (HW.out.map.drew.alloc o)
  have hl5 := fun o => HW.out.look hn hk (W.alloc o).drew (HW.out.map.alloc o).drew
  have k0 : W.cell? ⟨w.heap.size, 0, none⟩ = some (.string n) := by rw [← hW]; simp [go_sem]
  have k1 : W.cell? ⟨w.heap.size, 1, none⟩ = some (.int .i64 k) := by rw [← hW]; simp [go_sem]
  have k2 : W.cell? ⟨w.heap.size + 1, 0, none⟩ = some (.int .i64 c) := by rw [← hW]; simp [go_sem]
  have k3 : W.cell? ⟨w.heap.size + 1, 1, none⟩ = some (.int .i64 s) := by rw [← hW]; simp [go_sem]
  have y0 := fun o => keepc ((bl W).alloc (Nat.le_refl _) o) k0
  have y1 := fun o => keepc ((bl W).alloc (Nat.le_refl _) o) k1
  have y2 := fun o => keepc ((bl W).alloc (Nat.le_refl _) o) k2
  have y3 := fun o => keepc ((bl W).alloc (Nat.le_refl _) o) k3
  have y4 := fun o => keepc ((bl W).alloc (Nat.le_refl _) o) x1
  have HBW := Lib.hid hbW
  have HH := Lib.hid h
  clear hbW h
  go_enter Try.func42, Try.ntmps42
  go_upto_region 1 with fail
  clear hW
  obtain ⟨p, hp⟩ : ∃ p, getT L n k = p := ⟨_, rfl⟩
  rw [hp] at hl hl2 hl3 hl4 hl5
  obtain ⟨c0, s0⟩ := p
  go_region
  obtain ⟨C, hC⟩ : ∃ C, wrap64 (c0 + c) = C := ⟨_, rfl⟩
  obtain ⟨T, hT⟩ : ∃ T, wrap64 (s0 + s) = T := ⟨_, rfl⟩
  have HG := Lib.hid (show getT (addT L n k c s) n k = (C, T) by rw [getT_addT_same HH.out.wf, hp, ← hC, ← hT, Int.add_comm c0, Int.add_comm s0])
  have HKEY := Lib.hid (keyP_mk hn hk)
  have HNK := Lib.hid (And.intro hn hk)
  have HM := Lib.hid (show m < maxLen by unfold maxLen; omega)
  clear hp hn hk hm
  by_cases hz : C = 0 ∧ T = 0
  · obtain ⟨h1, h2⟩ := hz
    subst h1
    subst h2
    go_wp2_with fail
    obtain ⟨V, hV⟩ : ∃ V, (W.alloc (.cells #[.int .i64 0, .int .i64 0] 71)).drew = V := ⟨_, rfl⟩
    have v0 : V.cell? ⟨w.heap.size, 0, none⟩ = some (.string n) := by rw [← hV]; exact y0 _
    have v1 : V.cell? ⟨w.heap.size, 1, none⟩ = some (.int .i64 k) := by rw [← hV]; exact y1 _
    have v4 : V.cell? ⟨S, 1, none⟩ = some (.map (some M)) := by rw [← hV]; exact y4 _
    have v5 : V.cell? ⟨W.heap.size, 0, none⟩ = some (.int .i64 0) := by rw [← hV]; exact (keepc (Below.refl _ _) (by simp [go_sem]))
    have v6 : V.cell? ⟨W.heap.size, 1, none⟩ = some (.int .i64 0) := by rw [← hV]; exact (keepc (Below.refl _ _) (by simp [go_sem]))
    have HVB := Lib.hid (show Below w.heap.size w V by rw [← hV]; exact (HBW.out.alloc HBW.out.size _).drew)
    have HVM := Lib.hid (show V.ownsMap Try.prog TPl heldV13 M m D by rw [← hV]; exact (HW.out.map.alloc _).drew)
    rw [hV]
    clear hV y0 y1 y2 y3 y4 hl hl2 hl3 hl4 hl5 x1 k0 k1 k2 k3
    go_still_tail 5, (by kernel_rfl)
    change wpList _ _ _ _ _ V.drew
    go_wp2_with (first
      | (at_delete; refine wpList_delete_own _ rfl _ _ TPm TPl rfl TTa keyP Try.underlying62 heldV13 M m D rfl HVM.out.drew _ _ rfl HKEY.out ?_; intro w6 hown6 hturn6; have HM6 := Lib.hid hown6; have HT6 := Lib.hid hturn6.grown; clear hown6 hturn6)
      | go_in)
    go_end0
    have hg1 : w.grownBy V none := grown_of13 HVB.out none
    have hg6 : V.grownBy w6 (some M) := grown_trans13 (grown_of13 ((bl V).drew) _) HT6.out
    exact ⟨rfl, ⟨_, HH.out.del HNK.out.1 HNK.out.2 c s (w1 := V) hg1 hg6 (HM6.out.mono (by omega)) HG.out⟩, grown_trans13 (grown_of13 HVB.out (some M)) hg6⟩
  · have HZ := Lib.hid hz
    by_cases h1 : C = 0
    · have h2 : ¬ T = 0 := fun h => hz ⟨h1, h⟩
      have h2' : (T == 0) = false := by simpa using h2
      clear hz
      subst h1
      go_wp2_with fail
      obtain ⟨V, hV⟩ : ∃ V, (W.alloc (.cells #[.int .i64 0, .int .i64 T] 71)).drew = V := ⟨_, rfl⟩
      have v0 : V.cell? ⟨w.heap.size, 0, none⟩ = some (.string n) := by rw [← hV]; exact y0 _
      have v1 : V.cell? ⟨w.heap.size, 1, none⟩ = some (.int .i64 k) := by rw [← hV]; exact y1 _
      have v4 : V.cell? ⟨S, 1, none⟩ = some (.map (some M)) := by rw [← hV]; exact y4 _
      have v5 : V.cell? ⟨W.heap.size, 0, none⟩ = some (.int .i64 0) := by rw [← hV]; exact (keepc (Below.refl _ _) (by simp [go_sem]))
      have v6 : V.cell? ⟨W.heap.size, 1, none⟩ = some (.int .i64 T) := by rw [← hV]; exact (keepc (Below.refl _ _) (by simp [go_sem]))
      have HVB := Lib.hid (show Below w.heap.size w V by rw [← hV]; exact (HBW.out.alloc HBW.out.size _).drew)
      have HVM := Lib.hid (show V.ownsMap Try.prog TPl heldV13 M m D by rw [← hV]; exact (HW.out.map.alloc _).drew)
      rw [hV]
      clear hV y0 y1 y2 y3 y4 hl hl2 hl3 hl4 hl5 x1 k0 k1 k2 k3
      go_still_tail 6, (by kernel_rfl)
      change wpList _ _ _ _ _ V.drew
      go_wp2_with (first
        | (at_mapUpdate; refine wpList_mapUpdate_own _ rfl _ _ _ TPm rfl TPl TTa keyP Try.underlying62 heldV13 M m D rfl HVM.out.drew HM.out _ _ _ rfl rfl HKEY.out (.held (tv13 (0, T))) [] rfl ?_; intro w6 hown6 hg6; have HM6 := Lib.hid hown6; have HT6 := Lib.hid hg6; clear hown6 hg6)
        | go_in)
      go_end0
      have hg1 : w.grownBy V none := grown_of13 HVB.out none
      have hg6 : V.grownBy w6 (some M) := grown_trans13 (grown_of13 ((bl V).drew) _) HT6.out
      have hm6 := HM6.out
      rw [← HG.out] at hm6
      exact ⟨rfl, ⟨_, HH.out.put HNK.out.1 HNK.out.2 c s (w1 := V) hg1 hg6 hm6 (by rw [HG.out]; intro h; have e1 := congrArg Prod.fst h; have e2 := congrArg Prod.snd h; exact HZ.out (by first | exact ⟨e1, e2⟩ | (simp only at e1 e2 ⊢; exact ⟨e1, e2⟩) | (simp only at e2; simp [e2])))⟩, grown_trans13 (grown_of13 HVB.out (some M)) hg6⟩
    · have h1' : (C == 0) = false := by simpa using h1
      clear hz
      go_wp2_with fail
      obtain ⟨V, hV⟩ : ∃ V, (W.alloc (.cells #[.int .i64 C, .int .i64 T] 71)).drew = V := ⟨_, rfl⟩
      have v0 : V.cell? ⟨w.heap.size, 0, none⟩ = some (.string n) := by rw [← hV]; exact y0 _
      have v1 : V.cell? ⟨w.heap.size, 1, none⟩ = some (.int .i64 k) := by rw [← hV]; exact y1 _
      have v4 : V.cell? ⟨S, 1, none⟩ = some (.map (some M)) := by rw [← hV]; exact y4 _
      have v5 : V.cell? ⟨W.heap.size, 0, none⟩ = some (.int .i64 C) := by rw [← hV]; exact (keepc (Below.refl _ _) (by simp [go_sem]))
      have v6 : V.cell? ⟨W.heap.size, 1, none⟩ = some (.int .i64 T) := by rw [← hV]; exact (keepc (Below.refl _ _) (by simp [go_sem]))
      have HVB := Lib.hid (show Below w.heap.size w V by rw [← hV]; exact (HBW.out.alloc HBW.out.size _).drew)
      have HVM := Lib.hid (show V.ownsMap Try.prog TPl heldV13 M m D by rw [← hV]; exact (HW.out.map.alloc _).drew)
      rw [hV]
      clear hV y0 y1 y2 y3 y4 hl hl2 hl3 hl4 hl5 x1 k0 k1 k2 k3
      go_still_tail 6, (by kernel_rfl)
      change wpList _ _ _ _ _ V.drew
      go_wp2_with (first
        | (at_mapUpdate; refine wpList_mapUpdate_own _ rfl _ _ _ TPm rfl TPl TTa keyP Try.underlying62 heldV13 M m D rfl HVM.out.drew HM.out _ _ _ rfl rfl HKEY.out (.held (tv13 (C, T))) [] rfl ?_; intro w6 hown6 hg6; have HM6 := Lib.hid hown6; have HT6 := Lib.hid hg6; clear hown6 hg6)
        | go_in)
      go_end0
      have hg1 : w.grownBy V none := grown_of13 HVB.out none
      have hg6 : V.grownBy w6 (some M) := grown_trans13 (grown_of13 ((bl V).drew) _) HT6.out
      have hm6 := HM6.out
      rw [← HG.out] at hm6
      exact ⟨rfl, ⟨_, HH.out.put HNK.out.1 HNK.out.2 c s (w1 := V) hg1 hg6 hm6 (by rw [HG.out]; intro h; have e1 := congrArg Prod.fst h; have e2 := congrArg Prod.snd h; exact HZ.out (by first | exact ⟨e1, e2⟩ | (simp only at e1 e2 ⊢; exact ⟨e1, e2⟩) | (simp only at e2; simp [e2])))⟩, grown_trans13 (grown_of13 HVB.out (some M)) hg6⟩
end Go.Proofs.Ytmhddpgeiijhgaa

/-
  The program's totals in memory: versions put and dropped.
-/
namespace Go.Proofs.Ytmhddpgeiijhgaa
open Go.RowKit

section
variable {w w' : World} {S M : Nat} {x : Int} {m : Nat} {D : DataW Value} {L : List Tt}
/-- What a turn of the map leaves of other blocks. -/
theorem cellM13 (h : St13 w S M x m D L) (hg : w.grownBy w' (some M)) {g o : Nat} {u : Value} (hc : w.cell? ⟨g, o, none⟩ = some u) : w'.cell? ⟨g, o, none⟩ = some u := by
  obtain ⟨es, clock, hm, _⟩ := h.map
  have hlt : g < w.heap.size := by
    rcases Nat.lt_or_ge g w.heap.size with h' | h'
    · exact h'
    · simp [World.cell?, Array.getElem?_eq_none h'] at hc
  have hne : some g ≠ some M := fun e => by
    injection e with e
    rw [e] at hc
    simp [World.cell?, hm] at hc
  exact (World.cell?_of_block (a := ⟨g, o, none⟩) (hg.block g hlt hne)).trans hc
theorem vfM13 {v : Vr} (hv : VF w v) (h : St13 w S M x m D L) (hg : w.grownBy w' (some M)) : VF w' v := by
  refine ⟨fun j f hf => ?_, hv.2⟩
  obtain ⟨g, off, e, c0, c1⟩ := hv.1 j f hf
  exact ⟨g, off, e, cellM13 h hg c0, cellM13 h hg c1⟩
theorem rowM13 {α : Type} {E : El α} {A : Option Addr} {l : List α} (hl : RowE E w A l) (h : St13 w S M x m D L) (hg : w.grownBy w' (some M)) : RowE E w' A l := fun i y hy => by
  obtain ⟨g, off, e, hc⟩ := hl i y hy
  exact ⟨g, off, e, fun j u hu => cellM13 h hg (hc j u hu)⟩
theorem versM13 {u : Value} {l : List Vr} (hl : VersL w u l) (h : St13 w S M x m D L) (hg : w.grownBy w' (some M)) : VersL w' u l := by
  obtain ⟨⟨A, c, e, hr, hc, hn⟩, hv⟩ := hl
  exact ⟨⟨A, c, e, rowM13 hr h hg, hc, hn⟩, fun v hv' => vfM13 (hv v hv') h hg⟩
end
theorem putVs_next {L : List Tt} {l : List Vr} {x sg : Int} {j : Nat} {v : Vr} (h : l[j]? = some v) : putVs L (l.take (j + 1)) x sg = putT (putVs L (l.take j) x sg) v x sg := by
  unfold putVs
  rw [List.take_add_one, h, Option.toList_some, List.foldl_append]; rfl
theorem putT_counts {L : List Tt} {v : Vr} {x sg : Int} (h : countsB v = true) : putT L v x sg = putsT L (floorV v.sf x) sg v.fs := by unfold putT; rw [if_pos h]; rfl
theorem putT_not {L : List Tt} {v : Vr} {x sg : Int} (h : countsB v = false) : putT L v x sg = L := by unfold putT; rw [if_neg (by rw [h]; simp)]
/-- What turn leaves. -/
def Turn13Post (S M : Nat) (x : Int) (m : Nat) (L : List Tt) (l : List Vr) (sg : Int) (w : World) (e : Ending) (w' : World) : Prop :=
  e = .returned (.int .i64 0) ∧ (∃ m' D', m' ≤ m + 20 * l.length ∧ St13 w' S M x m' D' (putVs L l x sg)) ∧ w.grownBy w' (some M)
theorem grown_refl13 (w : World) (row : Option Nat) : w.grownBy w row := ⟨rfl, rfl, rfl, Nat.le_refl _, fun _ _ _ => rfl⟩
set_option maxHeartbeats 8000000 in
set_option maxRecDepth 100000 in
theorem pturn13_any {w : World} {S M : Nat} {x : Int} {m : Nat} {D : DataW Value} {L : List Tt} (h : St13 w S M x m D L) (hx : 1 ≤ x ∧ x ≤ 1099511627776) (sg : Int) (u : Value) (l : List Vr) (hl : VersL w u l)
    (hfn : ∀ v ∈ l, ∀ f ∈ v.fs, f.n.size ≤ maxLen) (hfs : ∀ v ∈ l, v.fs.length ≤ 20) (hn : l.length ≤ 1000) (hm : m ≤ 100000) :
    Calls Try.prog 32 #[.pointer (some ⟨S, 0, none⟩), .int .i64 sg, u] w (Turn13Post S M x m L l sg w) := by
  have CM := Lib.hid (pmade13_any h.c0 hx.1)
  have HH := Lib.hid h
  have HL := Lib.hid hl
  have HFN := Lib.hid hfn
  have HFS := Lib.hid hfs
  obtain ⟨⟨A, c, rfl, _⟩, _⟩ := hl
  obtain ⟨n, hnl⟩ : ∃ n, l.length = n := ⟨_, rfl⟩
  rw [hnl] at hn ⊢
  have HNL := Lib.hid hnl
  clear h hfn hfs hnl
  go_enter Try.func32, Try.ntmps32
  go_wp2_with (go_at_call 35; (with_reducible refine CM.out.mono ?_); rintro e w2 ⟨rfl, rfl⟩)
  go_loopw [17] (fun i wr => ∃ (t m' : Nat) (D' : DataW Value), t ≤ n ∧ i = .int .i64 (t : Nat) ∧ m' ≤ m + 20 * t ∧ St13 wr S M x m' D' (putVs L (l.take t) x sg) ∧ w2.grownBy wr (some M)) (fun i _ => n - (intOf i).toNat)
  case atStart => exact ⟨0, m, D, Nat.zero_le _, rfl, Nat.le_refl _, HH.out, grown_refl13 _ _⟩
  case round =>
    obtain ⟨t, m', D', ht, rfl, hm', hst, hgw⟩ := hrel
    have HST := Lib.hid hst
    have HGW := Lib.hid hgw
    by_cases hlt : t < n
    · have hlt' : (t : Int) < (n : Int) := by omega
      obtain ⟨v, hv⟩ : ∃ v, l[t]? = some v := ⟨_, List.getElem?_eq_getElem (by have := HNL.out; omega)⟩
      have hvm := List.mem_of_getElem? hv
      have hvl := versM13 HL.out HH.out hgw
      have HVF := Lib.hid (hvl.2 v hvm)
      obtain ⟨⟨A', c', he, hr, _⟩, _⟩ := hvl
      injection he with he1 he2 he3
      rw [← he1] at hr
      obtain ⟨b, off, rfl, hX⟩ := RowE.cells7 hr hv
      obtain ⟨z0, z1, z2, z3, z4, z5, z6⟩ := hX
      have HNX := Lib.hid (putVs_next (L := L) (x := x) (sg := sg) hv)
      have HFV := Lib.hid (And.intro (HFN.out v hvm) (HFS.out v hvm))
      have x0 := hst.c0
      have CR := Lib.hid (fun w => pspan_right v.sf v.se w)
      have HB1 := Lib.hid (show Below wr.heap.size wr (wr.alloc (ocV v)) from (bl wr).alloc (Nat.le_refl _) _)
      clear hst hgw hr he1 he2 he3 hv hvm
      cases hg : v.gone with
      | true =>
        have HE := Lib.hid (putT_not (L := putVs L (l.take t) x sg) (x := x) (sg := sg) (show countsB v = false by unfold countsB; rw [hg]; rfl))
        go_wp2_with fail
        exact ⟨⟨t + 1, m', D', by omega, by go_num, by omega, by rw [HNX.out, HE.out]; exact HST.out.below ((bl wr).alloc (Nat.le_refl _) _), grown_trans13 HGW.out (grown_of13 ((bl wr).alloc (Nat.le_refl _) _) _)⟩, by simp [intOf]; omega⟩
      | false =>
        cases hrt : rightS v.sf v.se with
        | false =>
          have HE := Lib.hid (putT_not (L := putVs L (l.take t) x sg) (x := x) (sg := sg) (show countsB v = false by unfold countsB; rw [hrt, Bool.and_false]))
          rw [hrt] at CR
          go_wp2_with (go_at_call 30; (with_reducible refine (CR.out _).mono ?_); rintro e w3 ⟨rfl, hb3⟩; have HB3 := Lib.hid hb3; clear hb3)
          exact ⟨⟨t + 1, m', D', by omega, by go_num, by omega, by rw [HNX.out, HE.out]; exact HST.out.below (chain ((bl wr).alloc (Nat.le_refl _) _) HB3.out), grown_trans13 HGW.out (grown_of13 (chain ((bl wr).alloc (Nat.le_refl _) _) HB3.out) _)⟩, by simp [intOf]; omega⟩
        | true =>
          have hcb : countsB v = true := by unfold countsB; rw [hg, hrt]; rfl
          have HE := Lib.hid (putT_counts (L := putVs L (l.take t) x sg) (x := x) (sg := sg) hcb)
          have hsf : -1099511627776 ≤ v.sf ∧ v.sf < 1099511627776 := by
            simp only [rightS, Bool.and_eq_true, decide_eq_true_eq] at hrt
            omega
          have hfl : floorV v.sf x = v.sf / x := by
            rw [floorV, (widthB_iff x).2 hx, (timeB_iff v.sf).2 hsf]; rfl
          have hkb := ediv_small (t := v.sf) hx.1 hsf.1 (by omega)
          have HKI := Lib.hid (show okI13 (floorV v.sf x) by rw [hfl]; exact ⟨by omega, by omega⟩)
          have CF := Lib.hid (fun w => pfl13_any v.sf x w hx.1 hsf.1 (by omega))
          rw [← hfl] at CF
          generalize floorV v.sf x = kk at *
          rw [hrt] at CR
          obtain ⟨nf, hnf⟩ : ∃ nf, v.fs.length = nf := ⟨_, rfl⟩
          have HNF := Lib.hid hnf
          have HX3 := Lib.hid (show ∀ w', Below (wr.alloc (.cells #[.int .i64 v.id, .int .i64 v.st, .string v.ent, .int .i64 v.sf, .int .i64 v.se, .slice v.fa v.fs.length v.fc, .bool false] 51)).heap.size (wr.alloc (.cells #[.int .i64 v.id, .int .i64 v.st, .string v.ent, .int .i64 v.sf, .int .i64 v.se, .slice v.fa v.fs.length v.fc, .bool false] 51)) w' → w'.cell? ⟨wr.heap.size, 3, none⟩ = some (.int .i64 v.sf) ∧ w'.cell? ⟨wr.heap.size, 4, none⟩ = some (.int .i64 v.se) ∧ w'.cell? ⟨wr.heap.size, 5, none⟩ = some (.slice v.fa v.fs.length v.fc) ∧ w'.cell? ⟨S, 0, none⟩ = some (.int .i64 x) from fun w' h => ⟨keepc h (by simp [go_sem]), keepc h (by simp [go_sem]), keepc h (by simp [go_sem]), keepc (chain ((bl wr).alloc (Nat.le_refl _) _) h) x0⟩)
          have HB2 := Lib.hid (show Below wr.heap.size wr (wr.alloc (.cells #[.int .i64 v.id, .int .i64 v.st, .string v.ent, .int .i64 v.sf, .int .i64 v.se, .slice v.fa v.fs.length v.fc, .bool false] 51)) from (bl wr).alloc (Nat.le_refl _) _)
          clear hcb hsf hfl hkb hrt hnf
          go_wp2_with (first
            | (go_at_call 30; (with_reducible refine (CR.out _).mono ?_); rintro e w3 ⟨rfl, hb3⟩; obtain ⟨y3, y4, y5, y6⟩ := HX3.out _ hb3; have HB3 := Lib.hid (chain HB2.out hb3); clear hb3)
            | fail)
          go_quiet (first | (go_at_call 29; (with_reducible refine (CF.out _).mono ?_); exact fun e w' h => ⟨h.1, _, h.2⟩))
          have HB4 := Lib.hid (belowN HB3.out nq)
          have HS4 := Lib.hid (HST.out.below HB4.out)
          have HG4 := Lib.hid (grown_trans13 HGW.out (grown_of13 HB4.out (some M)))
          have HF4 := Lib.hid (HVF.out.below HB4.out)
          have y7 : (w3.drewN nq).cell? ⟨wr.heap.size, 5, none⟩ = some (.slice v.fa nf v.fc) := by rw [← HNF.out]; exact y5
          generalize w3.drewN nq = w4 at *
          clear y3 y4 y5 y6
          clear HVF HB2 HB3 HB4 HX3 HB1 CF CR x0 z0 z1 z2 z3 z4 z5 z6
          have HFA := Lib.hid HFV.out.1
          have HF20 := Lib.hid HFV.out.2
          have hf1 := HF4.out.1
          have hnf := HNF.out
          clear HFV HF4 HNF
          generalize v.fa = fa at *
          generalize v.fs = fs at *
          have HF1 := Lib.hid hf1
          have HNF := Lib.hid hnf
          have hnf20 : nf ≤ 20 := by have := HF20.out; omega
          clear hf1 hnf
          go_wp2_with fail
          go_loopw [40] (fun i wi => ∃ (q m2 : Nat) (D2 : DataW Value), q ≤ nf ∧ i = .int .i64 (q : Nat) ∧ m2 ≤ m' + q ∧ St13 wi S M x m2 D2 (putsT (putVs L (l.take t) x sg) kk sg (fs.take q)) ∧ w4.grownBy wi (some M)) (fun i _ => nf - (intOf i).toNat)
          case atStart => exact ⟨0, m', D', Nat.zero_le _, rfl, Nat.le_refl _, HS4.out, grown_refl13 _ _⟩
          case round =>
            obtain ⟨q, m2, D2, hq, rfl, hm2, hs2, hg2⟩ := hrel
            have HS2 := Lib.hid hs2
            have HG2 := Lib.hid hg2
            by_cases hlq : q < nf
            · have hlq' : (q : Int) < (nf : Int) := by omega
              obtain ⟨f, hf⟩ : ∃ f, fs[q]? = some f := ⟨_, List.getElem?_eq_getElem (by have := HNF.out; omega)⟩
              have HNX2 := Lib.hid (putsT_next (l := putVs L (l.take t) x sg) (k := kk) (sg := sg) hf)
              obtain ⟨g, o, hfa, c0, c1⟩ := HF1.out q f hf
              subst hfa
              have c0 := cellM13 HS4.out hg2 c0
              have c1 := cellM13 HS4.out hg2 c1
              have CA := Lib.hid (show ∀ w', Below wr.heap.size wr w' → Calls Try.prog 42 #[.pointer (some ⟨S, 0, none⟩), .agg #[.string f.n, .int .i64 kk], .agg #[.int .i64 sg, .int .i64 (wrap64 (sg * f.v))]] w' (AddP13 S M x m2 (putsT (putVs L (l.take t) x sg) kk sg (fs.take q)) f.n kk sg (wrap64 (sg * f.v)) w') from fun w' h => by
                exact padd13_any (hs2.below h) f.n kk sg (wrap64 (sg * f.v)) (HFA.out f (List.mem_of_getElem? hf)) HKI.out (by have := HF20.out; have := HNF.out; omega))
              clear hs2 hg2 hf
              go_wp2_with (go_at_call 42; (with_reducible refine (CA.out _ ((bl wr).alloc (Nat.le_refl _) _)).mono ?_); rintro e w5 ⟨rfl, ⟨D5, hs5⟩, hg5⟩; have HS5 := Lib.hid hs5; have HG5 := Lib.hid hg5; clear hs5 hg5)
              exact ⟨⟨q + 1, m2 + 1, D5, by omega, by go_num, by omega, by rw [HNX2.out]; exact HS5.out, grown_trans13 (grown_trans13 HG2.out (grown_of13 ((bl wr).alloc (Nat.le_refl _) _) _)) HG5.out⟩, by simp [intOf]; omega⟩
            · obtain rfl : q = nf := by omega
              have hlq' : ¬ (q : Int) < (q : Int) := by omega
              clear hs2 hg2
              go_wp2_with fail
              have h6 := HS2.out
              rw [List.take_of_length_le (l := fs) (by have := HNF.out; omega), ← HE.out, ← HNX.out] at h6
              exact ⟨⟨t + 1, m2, D2, by omega, by go_num, by have := HF20.out; have := HNF.out; omega, h6, grown_trans13 HG4.out HG2.out⟩, by simp [intOf]; omega⟩
    · obtain rfl : t = n := by omega
      have hlt' : ¬ (t : Int) < (t : Int) := by omega
      go_wp2_with fail
      go_ret
      have := HST.out
      rw [List.take_of_length_le (by have := HNL.out; omega)] at this
      exact ⟨rfl, ⟨m', D', by have := HNL.out; omega, this⟩, HGW.out⟩
end Go.Proofs.Ytmhddpgeiijhgaa

/-
  The document's Changed; texts compared; few versions.
-/
namespace Go.Proofs.Ytmhddpgeiijhgaa
open Go.RowKit

/-- Are two lists of texts one? -/
def textsB : List ByteArray → List ByteArray → Bool
  | [], [] => true
  | a :: l, b :: m => decide (a.toList = b.toList) && textsB l m
  | _, _ => false
theorem textsB_self : ∀ l : List ByteArray, textsB l l = true
  | [] => rfl
  | a :: l => by rw [textsB, textsB_self l]; simp
theorem textsB_len : ∀ a b : List ByteArray, a.length ≠ b.length → textsB a b = false
  | [], [], h => absurd rfl h
  | [], _ :: _, _ => rfl
  | _ :: _, [], _ => rfl
  | f :: a, g :: b, h => by rw [textsB, textsB_len a b (fun e => h (by rw [List.length_cons, List.length_cons, e])), Bool.and_false]
/-- Are there at most so many versions, of at most 20 fields? -/
def fewB (l : List Vr) (m : Int) : Bool := decide ((l.length : Int) ≤ m) && l.all fun v => decide (v.fs.length ≤ 20)
theorem few_of {l : List Vr} {m : Int} (h : fewB l m = true) (hm : m ≤ 200) : fewV l := by
  unfold fewB at h
  rw [Bool.and_eq_true, decide_eq_true_eq, List.all_eq_true] at h
  refine ⟨by omega, fun v hv => ?_⟩
  have := h.2 v hv
  rw [decide_eq_true_eq] at this
  omega

set_option maxHeartbeats 2000000 in
theorem dfew_any (w : World) (u : Value) (l : List Vr) (m : Int) (hl : ListE EV w u l) (hn : l.length ≤ 9223372036854775807) : Same 19 #[u, .int .i64 m] w (.bool (fewB l m)) := by
  obtain ⟨A, c, rfl, hA, hc, hnc⟩ := hl
  have HA := Lib.hid hA
  obtain ⟨n, hnm⟩ : ∃ n, l.length = n := ⟨_, rfl⟩
  have HFB := Lib.hid (show fewB l m = (decide ((n : Int) ≤ m) && l.all fun v => decide (v.fs.length ≤ 20)) by rw [← hnm]; rfl)
  rw [hnm] at hn ⊢
  have HN := Lib.hid hnm
  clear hA hc hnc hnm
  generalize fewB l m = R at *
  by_cases hm : m < (n : Int)
  · have HE := Lib.hid (show R = false by rw [HFB.out, decide_eq_false (by omega)]; rfl)
    go_enter Try.func19, Try.ntmps19
    go_wp2_with fail
    go_ret
    exact ⟨ret_bool HE.out.symm, rfl⟩
  · have HE := Lib.hid (show R = l.all fun v => decide (v.fs.length ≤ 20) by rw [HFB.out, decide_eq_true (by omega)]; rfl)
    go_enter Try.func19, Try.ntmps19
    go_wp2_with fail
    go_loopw [5] (fun i wr => ∃ k : Nat, k ≤ n ∧ i = .int .i64 k ∧ R = (l.drop k).all (fun v => decide (v.fs.length ≤ 20)) ∧ wr = w) (fun i _ => n - (intOf i).toNat)
    case atStart => exact ⟨0, Nat.zero_le _, rfl, HE.out, rfl⟩
    case round =>
      obtain ⟨k, hk, rfl, hg, hwr⟩ := hrel
      obtain rfl := hwr.symm
      by_cases hlt : k < n
      · have hlt' : (k : Int) < (n : Int) := by omega
        obtain ⟨v, hx⟩ : ∃ v, l[k]? = some v := ⟨_, List.getElem?_eq_getElem (by have := HN.out; omega)⟩
        obtain ⟨g, off, rfl, hX⟩ := HA.out.cells7 hx
        have z5 := hX.2.2.2.2.2.1
        rw [drop_consL hx, List.all_cons] at hg
        clear hX hx
        by_cases h20 : 20 < v.fs.length
        · have h20' : (20 : Int) < (v.fs.length : Int) := by omega
          have NX := Lib.hid (show R = false by rw [hg, decide_eq_false (by omega)]; rfl)
          clear hg
          generalize v.fs.length = q at *
          go_wp2_with fail
          go_ret
          exact ⟨ret_bool NX.out.symm, rfl⟩
        · have h20' : ¬ (20 : Int) < (v.fs.length : Int) := by omega
          have NX := Lib.hid (show R = (l.drop (k + 1)).all (fun v => decide (v.fs.length ≤ 20)) by rw [hg, decide_eq_true (by omega)]; rfl)
          clear hg
          generalize v.fs.length = q at *
          go_wp2_with fail
          exact ⟨⟨k + 1, by omega, by go_num, NX.out, trivial⟩, by simp [intOf] <;> omega⟩
      · obtain rfl : k = n := by omega
        have hlt' : ¬ (k : Int) < (k : Int) := by omega
        rw [List.drop_of_length_le (by have := HN.out; omega)] at hg
        have NX := Lib.hid (show R = true from hg)
        clear hg
        go_wp2_with fail
        go_ret
        exact ⟨ret_bool NX.out.symm, rfl⟩

end Go.Proofs.Ytmhddpgeiijhgaa

/-
  The document's Put of fields.
-/
namespace Go.Proofs.Ytmhddpgeiijhgaa
open Go.RowKit

theorem text_small {s : ByteArray} (h : s.size ≤ 12) : (textS s).size ≤ 30 := by
  rw [textS, ByteArray.size_append, encS_size]
  have := kN_le s.size
  omega
theorem int_small {v : Int} (h : valB v = true) : (intS v).size ≤ 10 := by
  rw [intS_enc h, encS_size]
  have := kN_le (zig v).toNat
  omega
theorem right_at : ∀ (l : List Fd) (o : Option ByteArray), rightG o l = 0 → ∀ f ∈ l, nameB f.n = true ∧ valB f.v = true
  | [], _, _, f, h => by simp at h
  | g :: l, o, h, f, hf => by
    obtain ⟨h1, h2, h3⟩ := behind_right.1 h
    rcases List.mem_cons.1 hf with rfl | hf
    · exact ⟨behind_name h1, h2⟩
    · exact right_at l _ h3 f hf
theorem right_in {l : List Fd} (h : rightE l = 0) : l.length ≤ 8 ∧ rightG none l = 0 := by
  unfold rightE at h
  by_cases h8 : 8 < l.length
  · rw [if_pos h8] at h; cases h
  · rw [if_neg h8] at h; exact ⟨by omega, h⟩
theorem ret_sie {s t : ByteArray} {a b : Int} (h : s = t) (k : a = b) : Ending.returned (.tuple #[.string s, .int .i64 a]) = .returned (.tuple #[.string t, .int .i64 b]) := by rw [h, k]

end Go.Proofs.Ytmhddpgeiijhgaa

/-
  The document's Live, Compare, Put, PutRow and OneRow.
-/
namespace Go.Proofs.Ytmhddpgeiijhgaa
open Go.RowKit

/-- A version in a block of its own. -/
abbrev BoxV (w : World) (g : Nat) (v : Vr) : Prop := w.cell? ⟨g, 0, none⟩ = some (.int .i64 v.id) ∧ w.cell? ⟨g, 1, none⟩ = some (.int .i64 v.st) ∧ w.cell? ⟨g, 2, none⟩ = some (.string v.ent) ∧ w.cell? ⟨g, 3, none⟩ = some (.int .i64 v.sf) ∧
  w.cell? ⟨g, 4, none⟩ = some (.int .i64 v.se) ∧ w.cell? ⟨g, 5, none⟩ = some (.slice v.fa v.fs.length v.fc) ∧ w.cell? ⟨g, 6, none⟩ = some (.bool v.gone)
theorem BoxV.below {w w' : World} {g : Nat} {v : Vr} (h : BoxV w g v) (hb : Below w.heap.size w w') : BoxV w' g v :=
  ⟨keepc hb h.1, keepc hb h.2.1, keepc hb h.2.2.1, keepc hb h.2.2.2.1, keepc hb h.2.2.2.2.1, keepc hb h.2.2.2.2.2.1, keepc hb h.2.2.2.2.2.2⟩
theorem boxV_new (w : World) (v : Vr) : BoxV (w.alloc (ocV v)) w.heap.size v := ⟨by simp [go_sem], by simp [go_sem], by simp [go_sem], by simp [go_sem], by simp [go_sem], by simp [go_sem], by simp [go_sem]⟩
theorem enc_small (n : Nat) : (encS n).size ≤ 10 := by rw [encS_size]; have := kN_le n; omega
theorem ent_small {v : Vr} (h : rightV v = 0) : v.ent.size ≤ 24 := by
  have := (right_stamps h).2.2.2.2
  unfold entE at this
  by_cases h1 : v.ent.size = 0
  · omega
  · rw [if_neg h1] at this
    by_cases h2 : 24 < v.ent.size
    · rw [if_pos h2] at this; cases this
    · omega
theorem text_small24 {s : ByteArray} (h : s.size ≤ 24) : (textS s).size ≤ 40 := by
  rw [textS, ByteArray.size_append, encS_size]
  have := kN_le s.size
  omega
theorem many_size : ∀ (l : List Fd) (o : Option ByteArray), rightG o l = 0 → (manyS l).size ≤ 40 * l.length
  | [], _, _ => Nat.le_refl _
  | f :: l, o, h => by
    obtain ⟨h1, h2, h3⟩ := behind_right.1 h
    have ih := many_size l _ h3
    have t1 := text_small (name_size (behind_name h1))
    have t2 := int_small h2
    rw [manyS, oneS, ByteArray.size_append, ByteArray.size_append, List.length_cons]
    omega
theorem putS_size (l : List Fd) : (putS l).size ≤ 1000 := by
  unfold putS
  by_cases h : rightE l = 0
  · rw [if_pos h, ByteArray.size_append, encS_size]
    obtain ⟨h8, hg⟩ := right_in h
    have := many_size l none hg
    have := kN_le l.length
    omega
  · rw [if_neg h]; exact Nat.zero_le _

end Go.Proofs.Ytmhddpgeiijhgaa

/-
  The document's PutRow and OneRow.
-/
namespace Go.Proofs.Ytmhddpgeiijhgaa
open Go.RowKit

/-- A row in a block of its own. -/
abbrev BoxR (w : World) (g : Nat) (r : Rw) : Prop := BoxV w g r.v ∧ w.cell? ⟨g, 7, none⟩ = some (.int .i64 r.un)
theorem BoxR.below {w w' : World} {g : Nat} {r : Rw} (h : BoxR w g r) (hb : Below w.heap.size w w') : BoxR w' g r := ⟨h.1.below hb, keepc hb h.2⟩
theorem bytesV_size {v : Vr} (h : rightV v = 0) : (putV v).size ≤ 2000 := by
  unfold putV bytesV bodyV
  rw [if_pos h]
  have h1 := enc_small v.id.toNat
  have h2 := enc_small v.st.toNat
  have h3 := text_small24 (ent_small h)
  have h4 := enc_small 0
  have h5 := enc_small 1
  have h6 := enc_small (v.se - v.sf).toNat
  have h7 := putS_size v.fs
  cases hg : v.gone with
  | true =>
    simp only [if_true, ByteArray.size_append]
    omega
  | false =>
    obtain ⟨g1, g2⟩ := right_here h hg
    obtain ⟨p1, p2, p3⟩ := span_bounds g1
    have hvb : valB v.sf = true := by unfold valB; simp only [Bool.and_eq_true, decide_eq_true_eq]; omega
    have h8 := int_small hvb
    simp only [Bool.false_eq_true, if_false, ByteArray.size_append]
    omega

/-- Are two rows one? -/
def sameR (a b : Rw) : Bool := sameV a.v b.v && decide (a.un = b.un)

end Go.Proofs.Ytmhddpgeiijhgaa

/-
  The program's All: its totals, sorted.
-/
namespace Go.Proofs.Ytmhddpgeiijhgaa
open Go.RowKit

abbrev mkPl13 (p : ByteArray × Int) : Value := .agg #[.string p.1, .int .i64 p.2]
theorem keyP_inv (key : Value) (kl : Lit) (h : keyOf Try.prog TPl key = some kl) : ∃ p, key = mkPl13 p := by
  obtain ⟨n, k, h1, _⟩ := keyP_inv2 key kl h
  exact ⟨(n, k), h1⟩
theorem heldV13_inv (v : Value) (y : DataW Value × List MemPlace) (_ : heldV13 v = some y) : ∃ c : Value, v = c := ⟨v, rfl⟩
/-- What has come of the totals. -/
def GotT13 (L : List Tt) (left : Lit → Bool) (acc : List Tt) : Prop := acc.Nodup ∧ ∀ t, t ∈ acc ↔ (t ∈ L ∧ left (kl13 t.n t.k) = false)
section
variable {w : World} {S M : Nat} {x : Int} {m : Nat} {D : DataW Value} {L : List Tt}
theorem GotT13.start (h : St13 w S M x m D L) : GotT13 L (Maps.has D) [] := by
  refine ⟨List.nodup_nil, fun t => ⟨fun ht => by simp at ht, fun ⟨ht, h1⟩ => ?_⟩⟩
  obtain ⟨o1, o2⟩ := h.ok t ht
  have hg := getT_mem h.wf ht
  have : Maps.has D (kl13 t.n t.k) = true := Maps.has_true_of_atKey (y := .held (tv13 (t.c, t.s))) fun zd => by
    rw [h.key _ _ o1 o2, hg, if_neg]
    intro e
    injection e with e1 e2
    exact h.wf.no0 t ht ⟨e1, e2⟩
  rw [this] at h1
  cases h1
/-- What the map holds at a place is a total. -/
theorem St13.at_key (h : St13 w S M x m D L) {n : ByteArray} {k : Int} (hn : n.size ≤ maxLen) (hk : okI13 k) {c : Value} (hat : ∀ zd, D.atKey (kl13 n k) zd = .held c) : ∃ t ∈ L, t.n = n ∧ t.k = k ∧ c = tv13 (t.c, t.s) := by
  have h1 := hat .nil
  rw [h.key n k hn hk] at h1
  by_cases h0 : getT L n k = (0, 0)
  · rw [if_pos h0] at h1; cases h1
  · rw [if_neg h0] at h1
    obtain ⟨t, ht, e1, e2, hg⟩ := getT_some h.wf h0
    injection h1 with h1
    exact ⟨t, ht, e1, e2, by rw [← h1, hg]⟩
theorem GotT13.step (h : St13 w S M x m D L) {left : Lit → Bool} {acc : List Tt} (hg : GotT13 L left acc) {t : Tt} (ht : t ∈ L) (hl : left (kl13 t.n t.k) = true) : GotT13 L (fun z => left z && !z.sameKey (kl13 t.n t.k)) (acc ++ [t]) := by
  obtain ⟨o1, o2⟩ := h.ok t ht
  have hne : t ∉ acc := fun hm => by
    have := ((hg.2 t).1 hm).2
    rw [hl] at this
    cases this
  refine ⟨List.nodup_append.2 ⟨hg.1, by simp, fun a ha b hb e => ?_⟩, fun y => ?_⟩
  · obtain rfl : b = t := by simpa using hb
    exact hne (e ▸ ha)
  · rw [List.mem_append, hg.2, List.mem_singleton]
    constructor
    · rintro (⟨h1, h2⟩ | rfl)
      · exact ⟨h1, by simp [h2]⟩
      · exact ⟨ht, by simp [Go.WideAt.sameKey_self (kl13_lit _ _)]⟩
    · rintro ⟨h1, h2⟩
      by_cases hs : (kl13 y.n y.k).sameKey (kl13 t.n t.k) = true
      · right
        obtain ⟨p1, p2⟩ := h.ok y h1
        obtain ⟨e1, e2⟩ := kl13_inj p1 p2 o1 o2 (Go.WideAt.sameKey_eq hs)
        have g1 := getT_mem h.wf h1
        have g2 := getT_mem h.wf ht
        rw [e1, e2, g2] at g1
        injection g1 with e3 e4
        obtain ⟨yn, yk, yc, ys⟩ := y
        obtain ⟨tn, tk, tc, ts⟩ := t
        simp only at e1 e2 e3 e4
        rw [e1, e2, e3, e4]
      · left
        have hs' : (kl13 y.n y.k).sameKey (kl13 t.n t.k) = false := by simpa using hs
        simp only [hs', Bool.not_false, Bool.and_true] at h2
        exact ⟨h1, h2⟩
theorem GotT13.done {left : Lit → Bool} {acc : List Tt} (hg : GotT13 L left acc) (hl : ∀ kl, left kl = false) : ∀ t, t ∈ acc ↔ t ∈ L := fun t => (hg.2 t).trans ⟨fun h => h.1, fun h => ⟨h, hl _⟩⟩
end
theorem ne_iterT13 {w : World} {base B r n cnt : Nat} {v : Value} {l : List Tt} {D : DataW Value} {left : Lit → Bool} (h : ownE ETp w base v l) (hr : w.ranges Try.prog TPl heldV13 B r n D left cnt) : v.ownBlock ≠ some r ∧ v.ownBlock ≠ some B := by
  obtain ⟨es, clock, since, seen, c0, hb, _, _, _, hr, _⟩ := hr
  rcases h.2 with ⟨rfl, _⟩ | ⟨g, cap, cur, rfl, _, hg, _⟩
  · exact ⟨fun e => (by cases e), fun e => (by cases e)⟩
  · refine ⟨fun e => ?_, fun e => ?_⟩
    · obtain rfl := Option.some.inj e
      rw [hg] at hr; cases hr
    · obtain rfl := Option.some.inj e
      rw [hg] at hb; cases hb
theorem other13 {W w w' : World} {l : List Tt} {v : Value} {row : Option Nat} (h : OE ETp W l v w) (hg : w.grownBy w' row) (hne : v.ownBlock ≠ row) (hr : ∀ j, row = some j → W.heap.size ≤ j) : OE ETp W l v w' :=
  ⟨h.own.kept hg (by cases hv : v.ownBlock with
    | none => exact Or.inl rfl
    | some b => exact Or.inr (hv ▸ hne)), h.bel.grown hg h.bel.size hr⟩
/-- What All leaves. -/
def All13Post (L : List Tt) (w : World) (e : Ending) (w' : World) : Prop := ∃ u, e = .returned u ∧ ListE ETp w' u L ∧ Below w.heap.size w w'
set_option maxHeartbeats 1000000 in
theorem pall13_nil (w : World) : Same 26 #[.pointer none] w (.slice none 0 0) := by
  have CM := Lib.hid (pmade13_nil w)
  go_enter Try.func26, Try.ntmps26
  go_wp2_with (go_at_call 35; (with_reducible refine CM.out.mono ?_); rintro e w2 ⟨rfl, rfl⟩)
  go_ret
  exact ⟨rfl, rfl⟩
set_option maxHeartbeats 8000000 in
set_option maxRecDepth 100000 in
theorem pall13_any {w : World} {S M : Nat} {x : Int} {m : Nat} {D : DataW Value} {L : List Tt} (h : St13 w S M x m D L) (hx : 1 ≤ x) (hm : m ≤ 1000000) : Calls Try.prog 26 #[.pointer (some ⟨S, 0, none⟩)] w (All13Post L w) := by
  have CM := Lib.hid (pmade13_any h.c0 hx)
  have HS := Lib.hid h
  have HN := Lib.hid hm
  have x1 := h.c1
  clear h hm
  go_enter Try.func26, Try.ntmps26
  go_wp2_with (first
    | (go_at_call 35; (with_reducible refine CM.out.mono ?_); rintro e w2 ⟨rfl, rfl⟩)
    | (at_range; refine wpList_range_own _ rfl _ TPm rfl TPl TTa keyP Try.underlying62 heldV13 M m D rfl HS.out.map ?_; intro w0 hrg0 hg0 hs0)
    | go_in)
  have HG0 := Lib.hid (show Below w2.heap.size w2 w0 from ⟨hg0.os, hg0.tape, hg0.output, hg0.size, fun k hk => hg0.block k hk (by simp)⟩)
  have HR0 := Lib.hid hrg0
  have HMS := Lib.hid (show Maps.size D ≤ m by
    obtain ⟨es, clock, _, _, hs, rfl⟩ := HS.out.map
    show (List.foldr DataW.insert [] _).length ≤ m
    rw [length_sorted, List.length_map, Array.length_toList]
    exact hs)
  obtain ⟨r, hr⟩ : ∃ r, w2.heap.size = r := ⟨_, rfl⟩
  have HRE := Lib.hid hr
  rw [hr] at HR0 ⊢
  clear hg0 hrg0 hs0 hr
  go_frame
  go_loopw [3] (fun o wr => ∃ (left : Lit → Bool) (cnt : Nat) (acc : List Tt), wr.ranges Try.prog TPl heldV13 M r m D left cnt ∧ acc.length + cnt ≤ m ∧ OE ETp w2 acc o wr ∧ GotT13 L left acc) (fun _ wr => wr.rangeLeft M r)
  case atStart => exact ⟨_, _, [], HR0.out, by have := HMS.out; simpa using this, (OE.nil w2).below HG0.out, GotT13.start HS.out⟩
  case round =>
    obtain ⟨left, cnt, acc, hrg, hcs, hO, hG⟩ := hrel
    have HO := Lib.hid hO
    have HLO := Lib.hid hG
    have HRG := Lib.hid hrg
    have HCS := Lib.hid hcs
    clear hO hG hrg hcs
    go_wp2_with (first
      | (at_next; refine wpList_next_ranges _ rfl _ rfl TPl keyP heldV13 mkPl13 (fun v : Value => v) keyP_inv heldV13_inv M r m D left cnt rfl HRG.out ?_ ?_)
      | go_in)
    · intro hc0 hl0
      have HL0 := Lib.hid hl0
      have CS := Lib.hid (sort_totals13 _ HO.out.own (by have := HCS.out; have := HN.out; omega))
      clear hl0 hc0
      go_wp2_with (first
        | (go_at_call 37; (with_reducible refine CS.out.mono ?_); rintro e w3 ⟨rfl, q, hp3, hs3, hl3, hb3⟩; have HP3 := Lib.hid hp3; have HS3 := Lib.hid hs3; have HL3 := Lib.hid hl3; have HB3 := Lib.hid hb3; clear hp3 hs3 hl3 hb3))
      go_ret
      have e := sorted_is HS.out.wf HLO.out.1 (HLO.out.done HL0.out) HP3.out HS3.out
      exact ⟨_, rfl, by rw [← e]; exact HL3.out, HO.out.bel.trans HB3.out⟩
    · intro n k c kl yd yp w1 cnt1 hkey hlk hv hat hrg1 hcl hg1 hs1 hen
      obtain ⟨n', k', e1, hn, hk, ekl⟩ := keyP_inv2 _ kl hkey
      have e2 : n = n' ∧ k = k' := by
        injection e1 with e1
        have e1 : ([.string n, .int .i64 k] : List Value) = [.string n', .int .i64 k'] := congrArg Array.toList e1
        injection e1 with e3 e4
        injection e4 with e4 _
        injection e3 with e3
        injection e4 with _ e4
        exact ⟨e3, e4⟩
      obtain ⟨rfl, rfl⟩ := e2
      subst ekl
      have ey : ((DataW.held c, []) : DataW Value × List MemPlace) = (yd, yp) := Option.some.inj hv
      injection ey with ey1 ey2
      subst ey1
      obtain ⟨y, hyL, ey3, ey4, rfl⟩ := HS.out.at_key hn hk hat
      obtain ⟨yn, yk, yc, ys⟩ := y
      simp only at ey3 ey4
      subst ey3
      subst ey4
      have HST := Lib.hid (HLO.out.step HS.out hyL hlk)
      have hr1 : ∀ j, (some r : Option Nat) = some j → w2.heap.size ≤ j := fun j hj => by cases hj; rw [HRE.out]; exact Nat.le_refl _
      have HO1 := Lib.hid (other13 HO.out hg1 (ne_iterT13 HO.out.own HRG.out).1 hr1)
      have HLT := Lib.hid hcl
      have HR1 := Lib.hid hrg1
      have HAC := Lib.hid (show acc.length < 1000000 by have := HCS.out; have := HN.out; omega)
      clear hrg1 hg1 hs1 hkey hlk hv hat hcl hyL hr1 hn hk
      go_wp2_with (first
        | (at_builtin; refine wpList_appE (E := ETp) (xs := [⟨yn, yk, yc, ys⟩]) rfl (.tmp 19) (.tmp 29) rfl rfl (base := w2.heap.size) rfl (World.ownsRow.alloc (World.ownsRow.alloc (World.ownsRow.alloc HO1.out.own _) _) _) rfl rfl (by have hrow := rowE_one (E := ETp) ((w1.alloc (.cells #[.string yn, .int .i64 yk] 73)).alloc (.cells #[.int .i64 yc, .int .i64 ys] 71)) (⟨yn, yk, yc, ys⟩ : Tt) #[.string yn, .int .i64 yk, .int .i64 yc, .int .i64 ys] rfl 78; first | exact hrow | (simp at hrow ⊢; exact hrow)) (fun h => by cases h) (by have := HAC.out; simp; omega) (by have := HO1.out.bel.size; simp; omega) ?_; intro v' w3 hown3 hg3; have HN3 := Lib.hid ((HO1.out.below ((((bl w1).alloc (Nat.le_refl _) _).alloc (by simp) _).alloc (by simp; omega) _)).grown hg3 hown3); have HR3 := Lib.hid ((((HR1.out.alloc _).alloc _).alloc _).kept hg3 (fun e => (ne_iterT13 HO1.out.own HR1.out).2 e.symm) (fun e => (ne_iterT13 HO1.out.own HR1.out).1 e.symm)); clear hown3 hg3)
        | go_in)
      go_roundw
      case rel => exact ⟨_, cnt1, acc ++ [⟨yn, yk, yc, ys⟩], HR3.out, by have := HCS.out; have := HLT.out; simp; omega, HN3.out, HST.out⟩
      case measure => rw [HR3.out.left_eq, HRG.out.left_eq]; exact HLT.out
end Go.Proofs.Ytmhddpgeiijhgaa

/-
  The program's totals in memory: Put, Drop; those that no call made.
-/
namespace Go.Proofs.Ytmhddpgeiijhgaa
open Go.RowKit

set_option maxHeartbeats 1000000 in
theorem pturn13_nil (w : World) (sg : Int) (A : Option Addr) (n c : Nat) : Same 32 #[.pointer none, .int .i64 sg, .slice A n c] w (.int .i64 1) := by
  have CM := Lib.hid (pmade13_nil w)
  go_enter Try.func32, Try.ntmps32
  go_wp2_with (go_at_call 35; (with_reducible refine CM.out.mono ?_); rintro e w2 ⟨rfl, rfl⟩)
  go_ret
  exact ⟨rfl, rfl⟩
set_option maxHeartbeats 1000000 in
theorem pput13_nil (w : World) (A : Option Addr) (n c : Nat) : Same 21 #[.pointer none, .slice A n c] w (.int .i64 1) := by
  have CM := Lib.hid (pturn13_nil w 1 A n c)
  go_enter Try.func21, Try.ntmps21
  go_wp2_with (go_at_call 32; (with_reducible refine CM.out.mono ?_); rintro e w2 ⟨rfl, rfl⟩)
  go_ret
  exact ⟨rfl, rfl⟩
set_option maxHeartbeats 1000000 in
theorem pdrop13_nil (w : World) (A : Option Addr) (n c : Nat) : Same 20 #[.pointer none, .slice A n c] w (.int .i64 1) := by
  have CM := Lib.hid (pturn13_nil w (-1) A n c)
  go_enter Try.func20, Try.ntmps20
  go_wp2_with (go_at_call 32; (with_reducible refine CM.out.mono ?_); rintro e w2 ⟨rfl, rfl⟩)
  go_ret
  exact ⟨rfl, rfl⟩
set_option maxHeartbeats 1000000 in
theorem pput13_any {w : World} {S M : Nat} {x : Int} {m : Nat} {D : DataW Value} {L : List Tt} (h : St13 w S M x m D L) (hx : 1 ≤ x ∧ x ≤ 1099511627776) (u : Value) (l : List Vr) (hl : VersL w u l)
    (hfn : ∀ v ∈ l, ∀ f ∈ v.fs, f.n.size ≤ maxLen) (hfs : ∀ v ∈ l, v.fs.length ≤ 20) (hn : l.length ≤ 1000) (hm : m ≤ 100000) :
    Calls Try.prog 21 #[.pointer (some ⟨S, 0, none⟩), u] w (Turn13Post S M x m L l 1 w) := by
  have CT := Lib.hid (pturn13_any h hx 1 u l hl hfn hfs hn hm)
  obtain ⟨⟨A, c, rfl, _⟩, _⟩ := hl
  clear h hfn hfs
  go_enter Try.func21, Try.ntmps21
  go_wp2_with (go_at_call 32; (with_reducible refine CT.out.mono ?_); rintro e w2 ⟨rfl, hs, hg⟩)
  go_ret
  exact ⟨rfl, hs, hg⟩
set_option maxHeartbeats 1000000 in
theorem pdrop13_any {w : World} {S M : Nat} {x : Int} {m : Nat} {D : DataW Value} {L : List Tt} (h : St13 w S M x m D L) (hx : 1 ≤ x ∧ x ≤ 1099511627776) (u : Value) (l : List Vr) (hl : VersL w u l)
    (hfn : ∀ v ∈ l, ∀ f ∈ v.fs, f.n.size ≤ maxLen) (hfs : ∀ v ∈ l, v.fs.length ≤ 20) (hn : l.length ≤ 1000) (hm : m ≤ 100000) :
    Calls Try.prog 20 #[.pointer (some ⟨S, 0, none⟩), u] w (Turn13Post S M x m L l (-1) w) := by
  have CT := Lib.hid (pturn13_any h hx (-1) u l hl hfn hfs hn hm)
  obtain ⟨⟨A, c, rfl, _⟩, _⟩ := hl
  clear h hfn hfs
  go_enter Try.func20, Try.ntmps20
  go_wp2_with (go_at_call 32; (with_reducible refine CT.out.mono ?_); rintro e w2 ⟨rfl, hs, hg⟩)
  go_ret
  exact ⟨rfl, hs, hg⟩
end Go.Proofs.Ytmhddpgeiijhgaa

/-
  Plain facts on turns: how many ends of a cover are not behind a time tells whether it has the time; going over the turns of two covers gives the cover of what counts; how long covers are.
-/
namespace Go.Proofs.Ytmhddpgeiijhgaa.Co

/-- All From and To of a cover. -/
def bord (l : List Sp) : List Int := l.flatMap fun p => [p.1, p.2]
theorem bord_cons (p : Sp) (l : List Sp) : bord (p :: l) = p.1 :: p.2 :: bord l := by simp [bord]
theorem bord_snoc (l : List Sp) (p : Sp) : bord (l ++ [p]) = bord l ++ [p.1, p.2] := by simp [bord]
theorem bord_length (l : List Sp) : (bord l).length = 2 * l.length := by
  induction l with
  | nil => rfl
  | cons p l ih => rw [bord_cons]; simp only [List.length_cons, ih]; omega
theorem bord_bounds {l : List Sp} (h : Cov l) {x : Int} (hx : x ∈ bord l) : -1099511627776 ≤ x ∧ x ≤ 1099511627776 := by
  unfold bord at hx
  simp only [List.mem_flatMap] at hx
  obtain ⟨p, hp, hx⟩ := hx
  have := right_yes (h.1 p hp)
  simp at hx
  omega
theorem bord_behind {p : Sp} {l : List Sp} (h : Cov (p :: l)) {x : Int} (hx : x ∈ bord l) : p.2 < x := by
  unfold bord at hx
  simp only [List.mem_flatMap] at hx
  obtain ⟨q, hq, hx⟩ := hx
  have := right_yes (h.1 q (List.mem_cons_of_mem _ hq))
  have := h.head q hq
  simp at hx
  omega
/-- How many are not behind x. -/
def upTo (l : List Int) (x : Int) : Nat := l.countP fun y => decide (y ≤ x)
theorem upTo_cons (y : Int) (l : List Int) (x : Int) : upTo (y :: l) x = upTo l x + if y ≤ x then 1 else 0 := by
  simp [upTo, List.countP_cons]
theorem cov_odd : ∀ (l : List Sp) (x : Int), Cov l → (Mem l x ↔ upTo (bord l) x % 2 = 1)
  | [], x, _ => by simp [mem_nil, upTo, bord]
  | p :: l, x, h => by
    have ih := cov_odd l x h.tail
    have hr := right_yes (h.1 p (by simp))
    rw [bord_cons, upTo_cons, upTo_cons, mem_cons]
    simp only [h.1 p (by simp), true_and]
    rcases Int.lt_or_le x p.2 with h1 | h1
    · have h0 : upTo (bord l) x = 0 := by
        unfold upTo
        rw [List.countP_eq_zero]
        intro y hy
        have := bord_behind h hy
        simp; omega
      have hn : ¬ Mem l x := by rw [ih, h0]; omega
      rw [h0]
      rcases Int.lt_or_le x p.1 with h2 | h2
      · rw [if_neg (by omega), if_neg (by omega)]
        constructor
        · rintro (h3 | h3)
          · omega
          · exact absurd h3 hn
        · omega
      · rw [if_neg (by omega), if_pos (by omega)]
        exact ⟨fun _ => rfl, fun _ => .inl ⟨h2, h1⟩⟩
    · rw [if_pos (by omega), if_pos (by omega)]
      constructor
      · rintro (h3 | h3)
        · omega
        · have := ih.1 h3
          omega
      · intro h3
        exact .inr (ih.2 (by omega))

/-- A turn: its time, and which list turns. -/
abbrev Tn := Int × Int
/-- The turns of two covers. -/
def tnOf (a b : List Sp) : List Tn := (bord a).map (fun t => (t, 0)) ++ (bord b).map fun t => (t, 1)
theorem tn_bounds {a b : List Sp} (ha : Cov a) (hb : Cov b) {q : Tn} (h : q ∈ tnOf a b) : (q.2 = 0 ∨ q.2 = 1) ∧ -1099511627776 ≤ q.1 ∧ q.1 ≤ 1099511627776 := by
  unfold tnOf at h
  simp only [List.mem_append, List.mem_map] at h
  rcases h with ⟨t, ht, rfl⟩ | ⟨t, ht, rfl⟩
  · exact ⟨.inl rfl, bord_bounds ha ht⟩
  · exact ⟨.inr rfl, bord_bounds hb ht⟩
/-- Has the list with this number turned an odd number of times? -/
def odd (s : List Tn) (n : Int) : Bool := decide ((s.countP fun q => decide (q.2 = n)) % 2 = 1)
theorem odd_nil (n : Int) : odd [] n = false := by simp [odd]
theorem odd_snoc_same (s : List Tn) (q : Tn) {n : Int} (h : q.2 = n) : odd (s ++ [q]) n = !odd s n := by
  unfold odd
  rw [List.countP_append]
  have e : List.countP (fun q : Tn => decide (q.2 = n)) [q] = 1 := by simp [h]
  rw [e]
  rcases Nat.mod_two_eq_zero_or_one (s.countP fun q => decide (q.2 = n)) with h1 | h1
  · rw [decide_eq_true (by omega), decide_eq_false (by omega)]; rfl
  · rw [decide_eq_false (by omega), decide_eq_true (by omega)]; rfl
theorem odd_snoc_other (s : List Tn) (q : Tn) {n : Int} (h : q.2 ≠ n) : odd (s ++ [q]) n = odd s n := by
  unfold odd
  rw [List.countP_append]
  have e : List.countP (fun q : Tn => decide (q.2 = n)) [q] = 0 := by simp [h]
  rw [e, Nat.add_zero]
theorem count_map (l : List Int) (m n : Int) (x : Int) : (l.map fun t => ((t, m) : Tn)).countP (fun q => decide (q.2 = n) && decide (q.1 ≤ x)) = if m = n then upTo l x else 0 := by
  induction l with
  | nil => simp [upTo]
  | cons y l ih =>
    rw [List.map_cons, List.countP_cons, ih, upTo_cons]
    by_cases h : m = n <;> simp [h]
theorem count_tn (a b : List Sp) (x : Int) : (tnOf a b).countP (fun q => decide (q.2 = 0) && decide (q.1 ≤ x)) = upTo (bord a) x ∧ (tnOf a b).countP (fun q => decide (q.2 = 1) && decide (q.1 ≤ x)) = upTo (bord b) x := by
  unfold tnOf
  rw [List.countP_append, List.countP_append, count_map, count_map, count_map, count_map]
  simp
/-- All ahead of place k not behind x, all others behind it: which lists have x. -/
theorem odd_mem {a b : List Sp} (ha : Cov a) (hb : Cov b) {s : List Tn} (hp : s.Perm (tnOf a b)) {k : Nat} {x : Int} (h1 : ∀ q ∈ s.take k, q.1 ≤ x) (h2 : ∀ q ∈ s.drop k, x < q.1) : odd (s.take k) 0 = memB a x ∧ odd (s.take k) 1 = memB b x := by
  have key : ∀ n : Int, (s.take k).countP (fun q => decide (q.2 = n)) = s.countP (fun q => decide (q.2 = n) && decide (q.1 ≤ x)) := fun n => by
    conv => rhs; rw [← List.take_append_drop k s, List.countP_append]
    have e0 : (s.drop k).countP (fun q => decide (q.2 = n) && decide (q.1 ≤ x)) = 0 := by
      rw [List.countP_eq_zero]
      intro q hq
      have := h2 q hq
      simp; omega
    rw [e0, Nat.add_zero]
    apply List.countP_congr
    intro q hq
    have := h1 q hq
    simp [this]
  obtain ⟨c0, c1⟩ := count_tn a b x
  rw [← hp.countP_eq] at c0 c1
  constructor
  · rw [Bool.eq_iff_iff, memB_iff, cov_odd a x ha, odd, key, c0]; simp
  · rw [Bool.eq_iff_iff, memB_iff, cov_odd b x hb, odd, key, c1]; simp

/-- Is the time ahead of the turn at place k? -/
def Ahead (s : List Tn) (k : Nat) (x : Int) : Prop := ∀ q, s[k]? = some q → x < q.1
def CountP (f : Bool → Bool → Bool) (a b : List Sp) (x : Int) : Prop := f (memB a x) (memB b x) = true
/-- What holds when the turns ahead of place k are through. -/
structure Picks (a b : List Sp) (f : Bool → Bool → Bool) (s : List Tn) (k : Nat) (o : List Sp) (fr : Int) (c : Bool) : Prop where
  cov : Cov o
  off : c = false → (∀ x, Ahead s k x → (Mem o x ↔ CountP f a b x)) ∧ ∀ p ∈ o, Ahead s k p.2
  on : c = true → (∀ x, Ahead s k x → ((Mem o x ∨ fr ≤ x) ↔ CountP f a b x)) ∧ (∀ p ∈ o, p.2 < fr) ∧ Ahead s k fr ∧ -1099511627776 ≤ fr ∧ fr ≤ 1099511627776
  len : o.length ≤ k
def Sorted (s : List Tn) : Prop := ∀ (i j : Nat) (p q : Tn), i ≤ j → s[i]? = some p → s[j]? = some q → p.1 ≤ q.1
theorem Sorted.take {s : List Tn} (h : Sorted s) {k : Nat} {t : Tn} (ht : s[k]? = some t) {x : Int} (hx : t.1 ≤ x) : ∀ q ∈ s.take (k + 1), q.1 ≤ x := fun q hq => by
  obtain ⟨i, hi⟩ := List.getElem?_of_mem hq
  rw [List.getElem?_take] at hi
  split at hi
  · have := h i k q t (by omega) hi ht
    omega
  · cases hi
theorem Sorted.drop {s : List Tn} (h : Sorted s) {k : Nat} {x : Int} (hx : Ahead s k x) : ∀ q ∈ s.drop k, x < q.1 := fun q hq => by
  obtain ⟨i, hi⟩ := List.getElem?_of_mem hq
  rw [List.getElem?_drop] at hi
  have hlt : k + i < s.length := by
    rcases Nat.lt_or_ge (k + i) s.length with h1 | h1
    · exact h1
    · simp [List.getElem?_eq_none h1] at hi
  have h0 := hx s[k] (List.getElem?_eq_getElem (by omega))
  have := h k (k + i) _ q (by omega) (List.getElem?_eq_getElem (by omega)) hi
  omega
theorem Picks.start {a b : List Sp} {f : Bool → Bool → Bool} {s : List Tn} (ha : Cov a) (hb : Cov b) (hf : f false false = false) (hp : s.Perm (tnOf a b)) (hs : Sorted s) : Picks a b f s 0 [] 0 false := by
  refine ⟨Cov.nil, fun _ => ⟨fun x hx => ?_, by simp⟩, (fun h => by cases h), Nat.le_refl _⟩
  obtain ⟨e0, e1⟩ := odd_mem ha hb hp (k := 0) (x := x) (by simp) (hs.drop hx)
  simp only [List.take_zero, odd_nil] at e0 e1
  simp [CountP, ← e0, ← e1, hf, mem_nil]
/-- Another turn comes at the same time. -/
theorem Picks.stays {a b : List Sp} {f : Bool → Bool → Bool} {s : List Tn} {k : Nat} {o : List Sp} {fr : Int} {c : Bool} (h : Picks a b f s k o fr c) {t u : Tn} (ht : s[k]? = some t) (hu : s[k + 1]? = some u) (he : u.1 = t.1) : Picks a b f s (k + 1) o fr c := by
  have e : ∀ x, Ahead s (k + 1) x ↔ Ahead s k x := fun x => by
    unfold Ahead
    rw [ht, hu]
    constructor
    · intro h q hq; injection hq with hq; have := h u rfl; subst hq; omega
    · intro h q hq; injection hq with hq; have := h t rfl; subst hq; omega
  refine ⟨h.cov, fun hc => ?_, fun hc => ?_, by have := h.len; omega⟩
  · have := h.off hc
    exact ⟨fun x hx => this.1 x ((e x).1 hx), fun p hp => (e _).2 (this.2 p hp)⟩
  · have := h.on hc
    exact ⟨fun x hx => this.1 x ((e x).1 hx), this.2.1, (e _).2 this.2.2.1, this.2.2.2⟩
theorem ahead_of {s : List Tn} {k : Nat} {t : Tn} (ht : s[k]? = some t) {x : Int} : Ahead s k x ↔ x < t.1 := by
  unfold Ahead
  rw [ht]
  exact ⟨fun h => h t rfl, fun h q hq => by injection hq with hq; subst hq; exact h⟩
/-- The times from a turn on, ahead of the next one, are alike. -/
theorem turn_alike {a b : List Sp} {f : Bool → Bool → Bool} {s : List Tn} (ha : Cov a) (hb : Cov b) (hp : s.Perm (tnOf a b)) (hs : Sorted s) {k : Nat} {t : Tn} (ht : s[k]? = some t) {x : Int} (h1 : t.1 ≤ x) (h2 : Ahead s (k + 1) x) : CountP f a b x ↔ f (odd (s.take (k + 1)) 0) (odd (s.take (k + 1)) 1) = true := by
  obtain ⟨e0, e1⟩ := odd_mem ha hb hp (k := k + 1) (x := x) (hs.take ht h1) (hs.drop h2)
  rw [CountP, e0, e1]
theorem Picks.turns {a b : List Sp} {f : Bool → Bool → Bool} {s : List Tn} {k : Nat} {o : List Sp} {fr : Int} {c : Bool} (h : Picks a b f s k o fr c) (ha : Cov a) (hb : Cov b) (hp : s.Perm (tnOf a b)) (hs : Sorted s) {t : Tn} (ht : s[k]? = some t) (hn : Ahead s (k + 1) t.1) {now : Bool} (hnow : f (odd (s.take (k + 1)) 0) (odd (s.take (k + 1)) 1) = now) :
    (now = true → c = false → Picks a b f s (k + 1) o t.1 true) ∧ (now = false → c = true → Picks a b f s (k + 1) (o ++ [(fr, t.1)]) fr false) ∧ (now = c → Picks a b f s (k + 1) o fr c) := by
  have hb1 := (tn_bounds ha hb (hp.mem_iff.1 (List.mem_of_getElem? ht))).2
  have hlen := h.len
  have low : ∀ x, x < t.1 → Ahead s k x := fun x hx => (ahead_of ht).2 hx
  have up : ∀ x, t.1 ≤ x → Ahead s (k + 1) x → (CountP f a b x ↔ now = true) := fun x h1 h2 => by rw [turn_alike ha hb hp hs ht h1 h2, hnow]
  have far : ∀ x, x < t.1 → Ahead s (k + 1) x := fun x hx q hq => by have := hn q hq; omega
  refine ⟨fun h1 h2 => ?_, fun h1 h2 => ?_, fun h1 => ?_⟩
  · obtain ⟨m1, m2⟩ := h.off h2
    refine ⟨h.cov, (fun h => by cases h), fun _ => ⟨fun x hx => ?_, fun p hp' => (ahead_of ht).1 (m2 p hp'), hn, hb1⟩, by omega⟩
    rcases Int.lt_or_le x t.1 with h3 | h3
    · rw [← m1 x (low x h3)]
      constructor
      · rintro (h4 | h4)
        · exact h4
        · omega
      · exact .inl
    · rw [up x h3 hx]
      exact ⟨fun _ => h1, fun _ => .inr h3⟩
  · obtain ⟨m1, m2, m3, m4⟩ := h.on h2
    have m3' := (ahead_of ht).1 m3
    have hr : rightB fr t.1 = true := by simp [rightB]; omega
    obtain ⟨c1, c2⟩ := put_adds h.cov m2 hr
    refine ⟨c1, fun _ => ⟨fun x hx => ?_, fun p hp' => ?_⟩, (fun h => by cases h), by simp; omega⟩
    · rw [c2 x]
      rcases Int.lt_or_le x t.1 with h3 | h3
      · rw [← m1 x (low x h3)]
        constructor
        · rintro (h4 | h4)
          · exact .inl h4
          · exact .inr h4.1
        · rintro (h4 | h4)
          · exact .inl h4
          · exact .inr ⟨h4, h3⟩
      · rw [up x h3 hx, h1]
        constructor
        · rintro (⟨p, hp', _, h4, h5⟩ | h4)
          · have := m2 p hp'
            omega
          · omega
        · intro h4; cases h4
    · rcases List.mem_append.1 hp' with h3 | h3
      · have := m2 p h3
        exact far _ (by omega)
      · obtain rfl := List.mem_singleton.1 h3
        exact hn
  · refine ⟨h.cov, fun hc => ?_, fun hc => ?_, by omega⟩
    · obtain ⟨m1, m2⟩ := h.off hc
      refine ⟨fun x hx => ?_, fun p hp' => far _ ((ahead_of ht).1 (m2 p hp'))⟩
      rcases Int.lt_or_le x t.1 with h3 | h3
      · exact m1 x (low x h3)
      · rw [up x h3 hx, h1, hc]
        constructor
        · rintro ⟨p, hp', _, h4, h5⟩
          have := (ahead_of ht).1 (m2 p hp')
          omega
        · intro h4; cases h4
    · obtain ⟨m1, m2, m3, m4⟩ := h.on hc
      refine ⟨fun x hx => ?_, m2, far _ ((ahead_of ht).1 m3), m4⟩
      rcases Int.lt_or_le x t.1 with h3 | h3
      · exact m1 x (low x h3)
      · rw [up x h3 hx, h1, hc]
        have := (ahead_of ht).1 m3
        exact ⟨fun _ => rfl, fun _ => .inr (by omega)⟩
theorem Picks.stop {a b : List Sp} {f : Bool → Bool → Bool} {s : List Tn} {k : Nat} {o : List Sp} {fr : Int} {c : Bool} (h : Picks a b f s k o fr c) (hf : f false false = false) (hk : s.length ≤ k) : CovOf o (CountP f a b) := by
  have hA : ∀ x, Ahead s k x := fun x q hq => by rw [List.getElem?_eq_none hk] at hq; cases hq
  cases c with
  | false => exact ⟨h.cov, fun x => (h.off rfl).1 x (hA x)⟩
  | true =>
    exfalso
    obtain ⟨m1, m2, m3, m4, m5⟩ := h.on rfl
    have := (m1 1099511627776 (hA _)).1 (.inr m5)
    have e1 : memB a 1099511627776 = false := by
      cases hm : memB a 1099511627776
      · rfl
      · have := mem_bounds ((memB_iff _ _).1 hm); omega
    have e2 : memB b 1099511627776 = false := by
      cases hm : memB b 1099511627776
      · rfl
      · have := mem_bounds ((memB_iff _ _).1 hm); omega
    rw [CountP, e1, e2, hf] at this
    cases this

/- How long covers are. -/
def lens (l : List Sp) : Int := (l.map fun p => p.2 - p.1).sum
theorem lens_cons (p : Sp) (l : List Sp) : lens (p :: l) = p.2 - p.1 + lens l := by simp [lens]
theorem lens_snoc (l : List Sp) (p : Sp) : lens (l ++ [p]) = lens l + (p.2 - p.1) := by simp [lens]
/-- How many of the n times from lo on are in a set. -/
def cnt (S : Int → Bool) (lo : Int) : Nat → Int
  | 0 => 0
  | n + 1 => cnt S lo n + if S (lo + n) then 1 else 0
theorem cnt_congr {S T : Int → Bool} (h : ∀ x, S x = T x) (lo : Int) : ∀ n, cnt S lo n = cnt T lo n
  | 0 => rfl
  | n + 1 => by rw [cnt, cnt, cnt_congr h lo n, h]
/-- How many times of a cover are ahead of x. -/
def lenTo (l : List Sp) (x : Int) : Int := (l.map fun p => max 0 (min p.2 x - p.1)).sum
theorem lenTo_cons (p : Sp) (l : List Sp) (x : Int) : lenTo (p :: l) x = max 0 (min p.2 x - p.1) + lenTo l x := by simp [lenTo]
theorem lenTo_step : ∀ (l : List Sp) (x : Int), Cov l → lenTo l (x + 1) = lenTo l x + if memB l x then 1 else 0
  | [], x, _ => by simp [lenTo, memB]
  | p :: l, x, h => by
    have ih := lenTo_step l x h.tail
    have hr := right_yes (h.1 p (by simp))
    have hm : memB (p :: l) x = ((decide (p.1 ≤ x) && decide (x < p.2)) || memB l x) := by
      simp [memB, hasB, h.1 p (by simp)]
    rw [lenTo_cons, lenTo_cons, ih, hm]
    have hn : p.1 ≤ x → x < p.2 → memB l x = false := fun _ h2 => by
      cases hq : memB l x
      · rfl
      · have := ((cov_tail h x).1 ((memB_iff _ _).1 hq)).2
        omega
    by_cases h1 : p.1 ≤ x
    · by_cases h2 : x < p.2
      · rw [hn h1 h2]
        simp only [h1, h2, decide_true, Bool.and_true, Bool.or_false, if_true]
        simp; omega
      · simp only [h1, h2, decide_true, decide_false, Bool.and_false, Bool.false_or]
        omega
    · simp only [h1, decide_false, Bool.false_and, Bool.false_or]
      omega
theorem lenTo_low : ∀ (l : List Sp) (x : Int), Cov l → x ≤ -1099511627776 → lenTo l x = 0
  | [], _, _, _ => rfl
  | p :: l, x, h, hx => by
    have hr := right_yes (h.1 p (by simp))
    rw [lenTo_cons, lenTo_low l x h.tail hx]
    omega
theorem lenTo_high : ∀ (l : List Sp) (x : Int), Cov l → 1099511627776 ≤ x → lenTo l x = lens l
  | [], _, _, _ => rfl
  | p :: l, x, h, hx => by
    have hr := right_yes (h.1 p (by simp))
    rw [lenTo_cons, lens_cons, lenTo_high l x h.tail hx]
    omega
theorem lenTo_cnt {l : List Sp} (h : Cov l) : ∀ n : Nat, lenTo l (-1099511627776 + n) = cnt (memB l) (-1099511627776) n
  | 0 => by simpa [cnt] using lenTo_low l _ h (Int.le_refl _)
  | n + 1 => by
    rw [cnt, ← lenTo_cnt h n, ← lenTo_step l _ h]
    congr 1
    omega
theorem lens_cnt {l : List Sp} (h : Cov l) : lens l = cnt (memB l) (-1099511627776) 2199023255552 := by
  rw [← lenTo_cnt h, ← lenTo_high l _ h (Int.le_refl _)]
  rfl
theorem cnt_add {S T U V : Int → Bool} (h : ∀ x, (if S x then 1 else 0) + (if T x then 1 else 0) + (if U x then 1 else 0) = (if V x then (1 : Int) else 0)) (lo : Int) : ∀ n, cnt S lo n + cnt T lo n + cnt U lo n = cnt V lo n
  | 0 => rfl
  | n + 1 => by
    have ih := cnt_add h lo n
    have := h (lo + n)
    simp only [cnt]
    omega
theorem lens_nonneg {l : List Sp} (h : Cov l) : 0 ≤ lens l ∧ lens l ≤ 2199023255552 := by
  have key : ∀ (S : Int → Bool) (lo : Int) (n : Nat), 0 ≤ cnt S lo n ∧ cnt S lo n ≤ n := fun S lo n => by
    induction n with
    | zero => simp [cnt]
    | succ n ih => rw [cnt]; split <;> omega
  rw [lens_cnt h]
  exact key _ _ _

end Go.Proofs.Ytmhddpgeiijhgaa.Co

/-
  Lists of rows in memory; are two lists of rows one, by the document?
-/
namespace Go.Proofs.Ytmhddpgeiijhgaa
open Go.RowKit

abbrev cellsR (r : Rw) : List Value := [.int .i64 r.v.id, .int .i64 r.v.st, .string r.v.ent, .int .i64 r.v.sf, .int .i64 r.v.se, .slice r.v.fa r.v.fs.length r.v.fc, .bool r.v.gone, .int .i64 r.un]
/-- The cells of a row. -/
abbrev Cells8 (w : World) (g o : Nat) (r : Rw) : Prop := w.cell? ⟨g, o, none⟩ = some (.int .i64 r.v.id) ∧ w.cell? ⟨g, o + 1, none⟩ = some (.int .i64 r.v.st) ∧ w.cell? ⟨g, o + 2, none⟩ = some (.string r.v.ent) ∧ w.cell? ⟨g, o + 3, none⟩ = some (.int .i64 r.v.sf) ∧
  w.cell? ⟨g, o + 4, none⟩ = some (.int .i64 r.v.se) ∧ w.cell? ⟨g, o + 5, none⟩ = some (.slice r.v.fa r.v.fs.length r.v.fc) ∧ w.cell? ⟨g, o + 6, none⟩ = some (.bool r.v.gone) ∧ w.cell? ⟨g, o + 7, none⟩ = some (.int .i64 r.un)
theorem Cells8.below {w w' : World} {g o : Nat} {v : Rw} (h : Cells8 w g o v) (hb : Below w.heap.size w w') : Cells8 w' g o v :=
  ⟨keepc hb h.1, keepc hb h.2.1, keepc hb h.2.2.1, keepc hb h.2.2.2.1, keepc hb h.2.2.2.2.1, keepc hb h.2.2.2.2.2.1, keepc hb h.2.2.2.2.2.2.1, keepc hb h.2.2.2.2.2.2.2⟩
def sameRs : List Rw → List Rw → Bool
  | [], [] => true
  | a :: l, b :: m => sameR a b && sameRs l m
  | _, _ => false
theorem sameRs_len : ∀ (a b : List Rw), a.length ≠ b.length → sameRs a b = false
  | [], [], h => absurd rfl h
  | [], _ :: _, _ => rfl
  | _ :: _, [], _ => rfl
  | x :: a, y :: b, h => by
    rw [sameRs, sameRs_len a b (fun e => h (by simp [e])), Bool.and_false]

end Go.Proofs.Ytmhddpgeiijhgaa

/-
  The document's Clip.
-/
namespace Go.Proofs.Ytmhddpgeiijhgaa
open Go.RowKit

/-- A span in a block of its own. -/
abbrev ocS (f t : Int) : Obj := .cells #[.int .i64 f, .int .i64 t] 26
abbrev BoxS (w : World) (g : Nat) (f t : Int) : Prop := w.cell? ⟨g, 0, none⟩ = some (.int .i64 f) ∧ w.cell? ⟨g, 1, none⟩ = some (.int .i64 t)
theorem BoxS.below {w w' : World} {g : Nat} {f t : Int} (h : BoxS w g f t) (hb : Below w.heap.size w w') : BoxS w' g f t := ⟨keepc hb h.1, keepc hb h.2⟩
theorem boxS_new (w : World) (f t : Int) : BoxS (w.alloc (ocS f t)) w.heap.size f t := ⟨by simp [go_sem], by simp [go_sem]⟩

theorem zboxSd {w w1 : World} (hb : Below (w.alloc (.cells #[.int .i64 0, .int .i64 0] 26)).drew.heap.size (w.alloc (.cells #[.int .i64 0, .int .i64 0] 26)).drew w1) : w1.cell? ⟨w.heap.size, 0, none⟩ = some (.int .i64 0) ∧ w1.cell? ⟨w.heap.size, 1, none⟩ = some (.int .i64 0) ∧ w1.frozen? ⟨w.heap.size, 0, none⟩ = false ∧ w1.frozen? ⟨w.heap.size, 1, none⟩ = false :=
  ⟨keepc hb (by simp [go_sem]), keepc hb (by simp [go_sem]), keepf hb (by simp) (by simp [go_sem]), keepf hb (by simp) (by simp [go_sem])⟩
theorem clip_next {a : Int × Int} {l : List Pc} {t : Nat} {p : Pc} (h : l[t]? = some p) : clipL a (l.take (t + 1)) = clipL a (l.take t) ++ (clipP a p).toList := by
  unfold clipL
  rw [List.take_add_one, h, Option.toList_some, List.filterMap_append]
  cases hc : clipP a p <;> simp [hc]
theorem Kb.alloc {o : Option Nat} {a w : World} (h : Kb o a w) (x : Obj) : Kb o a (w.alloc x) := h.trans (Kb.of_below ((bl w).alloc (Nat.le_refl _) x))
theorem Cells3.kb {o : Option Nat} {w w' : World} {g i : Nat} {p : Pc} (h : Cells3 w g i p) (k : Kb o w w') (hn : o ≠ some g) : Cells3 w' g i p := ⟨k.cell h.1 hn, k.cell h.2.1 hn, k.cell h.2.2 hn⟩
theorem two_storeS {w : World} {b : Nat} {u0 u1 : Value} (x y : Value) (h0 : w.cell? ⟨b, 0, none⟩ = some u0) (h1 : w.cell? ⟨b, 1, none⟩ = some u1) : ((w.setCell ⟨b, 0, none⟩ x).setCell ⟨b, 1, none⟩ y).cell? ⟨b, 0, none⟩ = some x ∧ ((w.setCell ⟨b, 0, none⟩ x).setCell ⟨b, 1, none⟩ y).cell? ⟨b, 1, none⟩ = some y :=
  ⟨(World.cell?_setCell_other _ ⟨b, 1, none⟩ ⟨b, 0, none⟩ _ (by simp)).trans (World.cell?_setCell_same _ ⟨b, 0, none⟩ _ h0), World.cell?_setCell_same _ ⟨b, 1, none⟩ _ ((World.cell?_setCell_other _ ⟨b, 0, none⟩ ⟨b, 1, none⟩ _ (by simp)).trans h1)⟩
theorem zboxS {w w1 : World} (hb : Below (w.alloc (.cells #[.int .i64 0, .int .i64 0] 26)).heap.size (w.alloc (.cells #[.int .i64 0, .int .i64 0] 26)) w1) : w1.cell? ⟨w.heap.size, 0, none⟩ = some (.int .i64 0) ∧ w1.cell? ⟨w.heap.size, 1, none⟩ = some (.int .i64 0) ∧ w1.frozen? ⟨w.heap.size, 0, none⟩ = false ∧ w1.frozen? ⟨w.heap.size, 1, none⟩ = false :=
  ⟨keepc hb (by simp [go_sem]), keepc hb (by simp [go_sem]), keepf hb (by simp) (by simp [go_sem]), keepf hb (by simp) (by simp [go_sem])⟩

end Go.Proofs.Ytmhddpgeiijhgaa

/-
  Lists of spans in memory; the document's Same tells of any two whether they are one.
-/
namespace Go.Proofs.Ytmhddpgeiijhgaa.Co
open Go.RowKit

/-- From A on the spans of l lie, one behind the other. -/
def Spans (w : World) (A : Option Addr) (l : List (Int × Int)) : Prop :=
  ∀ i p, l[i]? = some p → ∃ g off, A = some ⟨g, off, none⟩ ∧ w.cell? ⟨g, off + i * 2, none⟩ = some (.int .i64 p.1) ∧ w.cell? ⟨g, off + i * 2 + 1, none⟩ = some (.int .i64 p.2)

theorem ret_bool {a b : Bool} (h : a = b) : Ending.returned (.bool a) = .returned (.bool b) := by rw [h]
/-- As far as k both are one. -/
def SameTo (l m : List (Int × Int)) (k : Nat) : Prop := ∀ j, j < k → l[j]? = m[j]?

theorem SameTo.next {l m : List (Int × Int)} {k : Nat} (h : SameTo l m k) (he : l[k]? = m[k]?) : SameTo l m (k + 1) := fun j hj => by
  rcases Nat.lt_or_ge j k with hlt | hge
  · exact h j hlt
  · obtain rfl : j = k := by omega
    exact he
theorem SameTo.not {l m : List (Int × Int)} {k : Nat} {p q : Int × Int} (hp : l[k]? = some p) (hq : m[k]? = some q) (hne : p ≠ q) : decide (l = m) = false := by
  simp only [decide_eq_false_iff_not]
  rintro rfl
  rw [hp] at hq
  exact hne (by injection hq)
theorem SameTo.all {l m : List (Int × Int)} {k : Nat} (h : SameTo l m k) (hl : l.length ≤ k) (hm : m.length ≤ k) : decide (l = m) = true := by
  simp only [decide_eq_true_eq]
  apply List.ext_getElem?
  intro i
  rcases Nat.lt_or_ge i k with hlt | hge
  · exact h i hlt
  · rw [List.getElem?_eq_none (by omega), List.getElem?_eq_none (by omega)]

theorem Try.infoSpan : (Try.prog.info? 26).map (fun i => (i.zero, i.size, i.bytes)) = some (some (.agg #[.int .i64 0, .int .i64 0]), 2, 16) := by kernel_rfl

/-- The spans of a list as cells. -/
def flat (l : List (Int × Int)) : List Value := l.flatMap fun p => [.int .i64 p.1, .int .i64 p.2]
theorem flat_snoc (l : List (Int × Int)) (f t : Int) : flat (l ++ [(f, t)]) = flat l ++ [.int .i64 f, .int .i64 t] := by simp [flat]
theorem news_two (w : World) (f t : Int) (ty : TypeId) : ∀ j u, [Value.int .i64 f, Value.int .i64 t][j]? = some u → (w.alloc (.cells #[.int .i64 f, .int .i64 t] ty)).cell? ((⟨w.heap.size, 0, none⟩ : Addr).add j) = some u :=
  World.news_of_block (cs := #[.int .i64 f, .int .i64 t]) (heap_alloc_new w _)
theorem flat_get : ∀ (l : List (Int × Int)) (i : Nat) (p : Int × Int), l[i]? = some p → (flat l)[i * 2]? = some (.int .i64 p.1) ∧ (flat l)[i * 2 + 1]? = some (.int .i64 p.2)
  | [], i, p, h => by simp at h
  | q :: l, 0, p, h => by simp at h; subst h; simp [flat]
  | q :: l, i + 1, p, h => by
    have := flat_get l i p (by simpa using h)
    have e : flat (q :: l) = .int .i64 q.1 :: .int .i64 q.2 :: flat l := by simp [flat]
    rw [e, show (i + 1) * 2 = i * 2 + 1 + 1 from by omega]
    simpa using this
theorem Spans.nil (w : World) (A : Option Addr) : Spans w A [] := fun i p h => by simp at h
/-- A row of the call's own, read as spans. -/
theorem own_spans {w : World} {base : Nat} {v : Value} {l : List (Int × Int)} (h : w.ownsRow base 26 2 v l.length (flat l)) : ∃ A c, v = .slice A l.length c ∧ Spans w A l := by
  rcases Nat.eq_zero_or_pos l.length with h0 | h0
  · obtain rfl := List.eq_nil_of_length_eq_zero h0
    rcases h.2 with ⟨hv, _⟩ | ⟨g, cap, cur, hv, _⟩
    · exact ⟨_, _, hv, Spans.nil _ _⟩
    · exact ⟨_, _, hv, Spans.nil _ _⟩
  · obtain ⟨g, cap, rfl, _, _⟩ := h.form h0
    refine ⟨_, _, rfl, fun i p hp => ⟨g, 0, rfl, ?_⟩⟩
    obtain ⟨e0, e1⟩ := flat_get l i p hp
    have add : ∀ n, (⟨g, 0, none⟩ : Addr).add n = ⟨g, 0 + n, none⟩ := fun n => by unfold Addr.add; split <;> simp_all
    have c0 := h.cells (g := g) rfl _ _ e0
    have c1 := h.cells (g := g) rfl _ _ e1
    rw [add] at c0 c1
    exact ⟨c0, by rw [Nat.add_assoc]; exact c1⟩
/-- From the start of block g on the spans of l lie. -/
theorem own_spans2 {w : World} {base : Nat} {v : Value} {l : List (Int × Int)} (h : w.ownsRow base 26 2 v l.length (flat l)) : ∃ A c, v = .slice A l.length c ∧ Spans w A l ∧ l.length ≤ c ∧ (A = none → c = 0) := by
  obtain ⟨A, c, rfl, hs⟩ := own_spans h
  refine ⟨A, c, rfl, hs, ?_⟩
  rcases h.2 with ⟨hv, h0⟩ | ⟨g, cap, cur, hv, _, _, hn, _⟩
  · injection hv with e1 e2 e3
    exact ⟨by omega, fun _ => e3⟩
  · injection hv with e1 e2 e3
    exact ⟨by omega, fun hA => by rw [hA] at e1; cases e1⟩
def SpansAt (w : World) (g : Nat) (l : List (Int × Int)) : Prop := ∀ i p, l[i]? = some p → w.cell? ⟨g, i * 2, none⟩ = some (.int .i64 p.1) ∧ w.cell? ⟨g, i * 2 + 1, none⟩ = some (.int .i64 p.2)
theorem own_spansAt {w : World} {base : Nat} {v : Value} {l : List (Int × Int)} (h : w.ownsRow base 26 2 v l.length (flat l)) (h0 : 0 < l.length) : ∃ g c, v = .slice (some ⟨g, 0, none⟩) l.length c ∧ SpansAt w g l ∧ base ≤ g ∧ g < w.heap.size := by
  obtain ⟨g, cap, rfl, _, _⟩ := h.form h0
  have hl := h.lt g rfl
  refine ⟨g, _, rfl, fun i p hp => ?_, hl.1, hl.2⟩
  obtain ⟨e0, e1⟩ := flat_get l i p hp
  have add : ∀ n, (⟨g, 0, none⟩ : Addr).add n = ⟨g, 0 + n, none⟩ := fun n => by unfold Addr.add; split <;> simp_all
  have c0 := h.cells (g := g) rfl _ _ e0
  have c1 := h.cells (g := g) rfl _ _ e1
  rw [add] at c0 c1
  exact ⟨by rwa [Nat.zero_add] at c0, by rwa [Nat.zero_add] at c1⟩
theorem cell_lt {w : World} {g o : Nat} {v : Value} (h : w.cell? ⟨g, o, none⟩ = some v) : g < w.heap.size := by
  rcases Nat.lt_or_ge g w.heap.size with hlt | hge
  · exact hlt
  · simp [World.cell?, Array.getElem?_eq_none hge] at h
theorem Spans.below {w w' : World} {A : Option Addr} {l : List (Int × Int)} (h : Spans w A l) (hb : Below w.heap.size w w') : Spans w' A l := fun i p hp => by
  obtain ⟨g, off, rfl, c0, c1⟩ := h i p hp
  have hg := cell_lt c0
  exact ⟨g, off, rfl, (hb.cell (p := ⟨g, _, none⟩) hg).trans c0, (hb.cell (p := ⟨g, _, none⟩) hg).trans c1⟩
theorem below_app {B : Nat} {a w w1 : World} {o : Obj} {row : Option Nat} (h : Below B a w) (hg : (w.alloc o).grownBy w1 row) (hB : B ≤ w.heap.size) (hr : ∀ k, row = some k → B ≤ k) : Below B a w1 :=
  (h.alloc hB o).grown hg (by simp; omega) hr
theorem info_parts {P : Program} {t : TypeId} {z : Value} {s b : Nat} (h : (P.info? t).map (fun i => (i.zero, i.size, i.bytes)) = some (some z, s, b)) : ∃ i, P.info? t = some i ∧ i.zero = some z ∧ i.size = s ∧ i.bytes = b := by
  obtain ⟨i, hi, he⟩ := Option.map_eq_some_iff.1 h
  simp only [Prod.mk.injEq] at he
  exact ⟨i, hi, he⟩


end Go.Proofs.Ytmhddpgeiijhgaa.Co

/-
  Kept, of cover and of the document's answer: is the list a cover? The document's Has: has the list the time?
-/
namespace Go.Proofs.Ytmhddpgeiijhgaa.Co
open Go.RowKit

theorem chain {W w w1 : World} (h : Below W.heap.size W w) (hb : Below w.heap.size w w1) : Below W.heap.size W w1 := h.trans (hb.mono h.size)
theorem belowN {B : Nat} {a w : World} (h : Below B a w) (n : Nat) : Below B a (w.drewN n) := ⟨h.os, h.tape, h.output, h.size, h.block⟩
theorem bl (w : World) : Below w.heap.size w w := Below.refl _ _
theorem keepc {w w' : World} {g o : Nat} {u : Value} (hb : Below w.heap.size w w') (h : w.cell? ⟨g, o, none⟩ = some u) : w'.cell? ⟨g, o, none⟩ = some u := (hb.cell (p := ⟨g, o, none⟩) (cell_lt h)).trans h
/-- The cells of one span of a list, wherever it lies. -/
theorem Spans.at {w : World} {A : Option Addr} {l : List Sp} (h : Spans w A l) {i : Nat} {f t : Int} (hp : l[i]? = some (f, t)) : ∃ g off, A = some ⟨g, off, none⟩ ∧ w.cell? ⟨g, off + i * 2, none⟩ = some (.int .i64 f) ∧ w.cell? ⟨g, off + i * 2 + 1, none⟩ = some (.int .i64 t) := h i _ hp

end Go.Proofs.Ytmhddpgeiijhgaa.Co
