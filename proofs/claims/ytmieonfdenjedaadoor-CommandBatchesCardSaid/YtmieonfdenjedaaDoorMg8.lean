/-
  Texts joined into one: what the program's and the document's calls give back, piece by piece.
-/
import Derived.Test.YtmieonfdenjedaaDoorMg1
import Derived.Test.YtmieonfdenjedaaDoorMg2
import Derived.Test.YtmieonfdenjedaaDoorMg3
import Derived.Test.YtmieonfdenjedaaDoorMg4
import Derived.Test.YtmieonfdenjedaaDoorMg7
import Derived.Test.YtmieonfdenjedaaDoorRows
import Derived.BigQuiet
import Derived.ChangeAlike
import Derived.ChangeKeysEq
import Derived.Deep.AppendLies
import Derived.Deep.CutBlock
import Derived.Deep.CutRange
import Derived.Deep.Light
import Derived.Deep.QuietTactic
import Derived.Deep.RegionHeld3
import Derived.Deep.RegionLaw
import Derived.Handy
import Derived.Laws.BytesArg
import Derived.Laws.Externs
import Derived.Laws.IdiomCopy
import Derived.Laws.OwnMore
import Derived.Laws.Strings
import Derived.Laws.StructEq
import Derived.Lib.AppendStr
import Derived.Lib.Builder
import Derived.Lib.Hide
import Derived.Lib.UnsafeStr
import Derived.Maps.AppendAt
import Derived.OneCell
import Derived.OwnWalk
import Derived.RegionTactic
import Derived.StillTailTactics
import Derived.WalkArith
import Derived.WalkKit
import Derived.WalkLawsBesides
import Derived.WalkSpells

/-
  CommandBatches gives back true.
-/
namespace Go.Proofs.YtmieonfdenjedaaDoor
open Go.RowKit

theorem batchC_size (l : List Cm) : (batchC l).1.size ≤ 2000 * l.length + 10 := by
  unfold batchC
  have h1 := catC_size l
  have h2 := enc_small l.length
  have h0 : (⟨#[]⟩ : ByteArray).size = 0 := rfl
  (repeat' split) <;> simp only [ByteArray.size_append, h0] <;> omega
theorem fewC_is {l : List Cm} {m : Int} (h : fewC l m = true) : (l.length : Int) ≤ m ∧ ∀ c ∈ l, c.fs.length ≤ 20 := by
  unfold fewC at h
  rw [Bool.and_eq_true, decide_eq_true_eq, List.all_eq_true] at h
  exact ⟨h.1, fun c hc => by simpa using h.2 c hc⟩
theorem conts_fs {l m : List Cm} (h : l.map contC = m.map contC) (hm : ∀ c ∈ m, c.fs.length ≤ 20) : ∀ c ∈ l, c.fs.length ≤ 20 := fun c hc => by
  obtain ⟨i, hi⟩ := List.mem_iff_getElem?.1 hc
  have hlen : l.length = m.length := by have := congrArg List.length h; simpa using this
  obtain ⟨y, hy⟩ : ∃ y, m[i]? = some y := ⟨_, List.getElem?_eq_getElem (by have := (List.getElem?_eq_some_iff.1 hi).1; omega)⟩
  have hxy : contC c = contC y := by
    have := congrArg (fun l => l[i]?) h
    simpa [hi, hy] using this
  rw [(contC_eq hxy).2.2.2.2.2]
  exact hm y (List.mem_of_getElem? hy)
set_option maxHeartbeats 8000000 in
set_option maxRecDepth 10000 in
theorem batches14_walk (u : Value) (l : List Cm) (w : World) (hl : CmsL w u l) (hok : ∀ c ∈ l, okF c.fs ∧ c.fs.length ≤ 9223372036854775807 ∧ c.ent.size ≤ 9223372036854775807) (hn : l.length ≤ 9223372036854775807) (hT : TabK w) : Ret 7 #[u] w (.bool true) := by
  have CAL := Lib.hid (fun w' (h : Below w.heap.size w w') => alive14_any w' (hT.below h))
  have HL := Lib.hid hl
  have CF := Lib.hid (dfew14_any w u l 100 hl.1 hn)
  obtain ⟨⟨A, c, rfl, _⟩, _⟩ := hl
  cases hf : fewC l 100 with
  | false =>
    rw [hf] at CF
    clear hf hok hT
    generalize l.length = nl at *
    go_enter Tryd.func7, Tryd.ntmps7
    go_wp2_with (first
      | (go_at_call 24; (with_reducible refine CF.out.mono ?_); rintro e w1 ⟨rfl, rfl⟩)
      | (go_at_call 8; (with_reducible refine (CAL.out _ (bl _)).mono ?_); rintro e w2 ⟨rfl, hb⟩))
    go_ret
    exact ⟨rfl, hb⟩
  | true =>
    rw [hf] at CF
    obtain ⟨h100, hfs⟩ := fewC_is hf
    have C1 := Lib.hid (fun w' (h : Below w.heap.size w w') => pcbatch_any (.slice A l.length c) l w' (HL.out.below h) hok hn (hT.below h))
    have C2 := Lib.hid (fun w' (h : Below w.heap.size w w') => dbatch14_any (.slice A l.length c) l w' (HL.out.below h) hok hn)
    have hz := batchC_size l
    have C3 := Lib.hid (fun w' (h : Below w.heap.size w w') => pcunbatch_any (batchC l).1 (by omega) w' (hT.below h))
    have HU := Lib.hid (fun h => unbatch_put (l := l) h)
    have HFS := Lib.hid hfs
    have H100 := Lib.hid h100
    obtain ⟨⟨S, z⟩, hB⟩ : ∃ B, batchC l = B := ⟨_, rfl⟩
    rw [hB] at C1 C2 C3 HU
    obtain ⟨⟨M, y⟩, hM⟩ : ∃ M, unbatchC S = M := ⟨_, rfl⟩
    simp only at C1 C2 C3 HU
    rw [hM] at C3 HU
    simp only at C3
    clear hf hok hn hfs h100 hz hB hM hT
    have CS := Lib.hid (show ∀ w' x L, Below w.heap.size w w' → CmsL w' x L → L.map contC = l.map contC → Ret 22 #[x, .slice A l.length c] w' (.bool true) from fun w' x L h hx hc => dsame14_any w' x _ L l hx (HL.out.below h) hc (by have := congrArg List.length hc; have := H100.out; simp at *; omega) (fun q hq => by have := conts_fs hc HFS.out q hq; omega))
    generalize l.length = nl at *
    by_cases h0 : z = 0
    · have hu := HU.out h0
      injection hu with hu1 hu2
      subst h0
      subst hu2
      clear HU
      go_enter Tryd.func7, Tryd.ntmps7
      go_wp2_with (first
        | (go_at_call 24; (with_reducible refine CF.out.mono ?_); rintro e w1 ⟨rfl, rfl⟩)
        | (go_at_call 23; (with_reducible refine (C1.out _ (bl _)).mono ?_); rintro e w2 ⟨rfl, hb2⟩)
        | (go_at_call 25; (with_reducible refine (C2.out _ hb2).mono ?_); rintro e w3 ⟨rfl, hb3⟩; have hc3 := chain hb2 hb3)
        | (go_at_call 20; (with_reducible refine (C3.out _ hc3).mono ?_); rintro e w4 ⟨x4, L4, rfl, hx4, hc4, hb4⟩; have hd4 := chain hc3 hb4; have HX4 := Lib.hid hx4; have HC4 := Lib.hid (hc4.trans hu1); obtain ⟨⟨A4, c4, rfl, _⟩, _⟩ := hx4)
        | (go_at_call 22; (with_reducible refine (CS.out _ _ _ hd4 HX4.out HC4.out).mono ?_); rintro e w5 ⟨rfl, hb5⟩; have hc5 := chain hd4 hb5)
        | (go_at_call 8; (with_reducible refine (CAL.out _ (by first | exact hc5 | exact hd4)).mono ?_); rintro e w9 ⟨rfl, hb9⟩))
      go_ret
      exact ⟨rfl, chain hc5 hb9⟩
    · have h0' : ¬ (z : Int) = 0 := by omega
      clear HU h0
      go_enter Tryd.func7, Tryd.ntmps7
      go_wp2_with (first
        | (go_at_call 24; (with_reducible refine CF.out.mono ?_); rintro e w1 ⟨rfl, rfl⟩)
        | (go_at_call 23; (with_reducible refine (C1.out _ (bl _)).mono ?_); rintro e w2 ⟨rfl, hb2⟩)
        | (go_at_call 25; (with_reducible refine (C2.out _ hb2).mono ?_); rintro e w3 ⟨rfl, hb3⟩; have hc3 := chain hb2 hb3)
        | (go_at_call 20; (with_reducible refine (C3.out _ hc3).mono ?_); rintro e w4 ⟨x4, L4, rfl, hx4, hc4, hb4⟩; have hd4 := chain hc3 hb4)
        | (go_at_call 8; (with_reducible refine (CAL.out _ (by first | exact hc5 | exact hd4)).mono ?_); rintro e w9 ⟨rfl, hb9⟩))
      go_ret
      exact ⟨rfl, chain hd4 hb9⟩
end Go.Proofs.YtmieonfdenjedaaDoor
