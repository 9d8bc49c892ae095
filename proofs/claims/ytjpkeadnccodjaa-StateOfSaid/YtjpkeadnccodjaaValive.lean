/-
  The chapter's example holds; the document's calls on lists as values.
-/
import Derived.Test.YtjpkeadnccodjaaVprog
namespace Go.Proofs.Ytjpkeadnccodjaa
open Go.RowKit

theorem dsamef_any (w : World) (v u : Value) (a b : List Fd) (ha : ListF w v a) (hb : ListF w u b) (hn : a.length ≤ 9223372036854775807) (hm : b.length ≤ 9223372036854775807) : Ret 13 #[v, u] w (.bool (sameF a b)) := by
  obtain ⟨A, c, rfl, hA, _, _⟩ := ha
  obtain ⟨B, d, rfl, hB, _, _⟩ := hb
  exact dsame_any w A B c d a b hA hB hn hm
def nA : ByteArray := ⟨#[97]⟩
def nB : ByteArray := ⟨#[98]⟩
/-- The example's versions; their fields lie at these places. -/
abbrev exV (p q : Nat) : List Vr := [⟨0, 2, ⟨#[]⟩, 0, 0, some ⟨p, 0, none⟩, 1, [⟨nA, 5⟩], false⟩, ⟨0, 1, ⟨#[]⟩, 0, 0, some ⟨q, 0, none⟩, 2, [⟨nA, 3⟩, ⟨nB, 4⟩], false⟩]
theorem example_of (p q : Nat) : ofL (exV p q) = [⟨nA, 5⟩, ⟨nB, 4⟩] := by
  have h1 : aheadB nA nB = true := by decide +kernel
  have h2 : aheadB nA nA = false := by decide +kernel
  have h3 : aheadB nB nA = false := by decide +kernel
  simp [ofL, countsV, ordL, insV, overL, layL, h1, h2, h3]
theorem example_set (p q : Nat) : setL nA (exV p q) = some 2 := by
  simp [setL, ordL, insV, lastS, setsB, getL]
abbrev cA5 : Obj := .cells #[.string nA, .int .i64 5] FT
abbrev cA3 : Obj := .cells #[.string nA, .int .i64 3, .string nB, .int .i64 4] FT
abbrev cEx (p q : Nat) : Obj := .cells #[.int .i64 0, .int .i64 2, .string ⟨#[]⟩, .int .i64 0, .int .i64 0, .slice (some ⟨p, 0, none⟩) 1 1, .bool false, .int .i64 0, .int .i64 1, .string ⟨#[]⟩, .int .i64 0, .int .i64 0, .slice (some ⟨q, 0, none⟩) 2 2, .bool false] 45
theorem ex_vers (w : World) : VersL (((w.alloc cA5).alloc cA3).alloc (cEx w.heap.size (w.heap.size + 1))) (.slice (some ⟨w.heap.size + 1 + 1, 0, none⟩) 2 2) (exV w.heap.size (w.heap.size + 1)) := by
  have h0 := listE_new (E := EV) ((w.alloc cA5).alloc cA3) (exV w.heap.size (w.heap.size + 1)) 45
  rw [show ((w.alloc cA5).alloc cA3).heap.size = w.heap.size + 1 + 1 by simp] at h0
  have hb : Below (w.alloc cA5).heap.size (w.alloc cA5) (((w.alloc cA5).alloc cA3).alloc (cEx w.heap.size (w.heap.size + 1))) := ((bl _).alloc (Nat.le_refl _) _).alloc (by simp) _
  have hb2 : Below ((w.alloc cA5).alloc cA3).heap.size ((w.alloc cA5).alloc cA3) (((w.alloc cA5).alloc cA3).alloc (cEx w.heap.size (w.heap.size + 1))) := (bl _).alloc (Nat.le_refl _) _
  have f1 : Fields (w.alloc cA5) (some ⟨w.heap.size, 0, none⟩) [⟨nA, 5⟩] := fields_new w [⟨nA, 5⟩] FT
  have f2 : Fields ((w.alloc cA5).alloc cA3) (some ⟨(w.alloc cA5).heap.size, 0, none⟩) [⟨nA, 3⟩, ⟨nB, 4⟩] := fields_new (w.alloc cA5) [⟨nA, 3⟩, ⟨nB, 4⟩] FT
  rw [show (w.alloc cA5).heap.size = w.heap.size + 1 by simp] at f2
  refine ⟨h0, fun v hv => ?_⟩
  rcases List.mem_cons.1 hv with rfl | hv
  · exact ⟨f1.below hb, Nat.le_refl _, fun h => by cases h⟩
  · obtain rfl := List.mem_singleton.1 hv
    exact ⟨f2.below hb2, Nat.le_refl _, fun h => by cases h⟩
theorem ex_few (p q : Nat) : fewV (exV p q) := ⟨by simp, fun v hv => by
  rcases List.mem_cons.1 hv with rfl | hv
  · simp
  · obtain rfl := List.mem_singleton.1 hv
    simp⟩
theorem small_ok {l : List Fd} (h : l.all (fun f => decide (f.n.size ≤ 100)) = true) : okF l := fun f hf => by
  have := List.all_eq_true.1 h f hf
  rw [decide_eq_true_eq] at this
  omega
theorem ex_ok (p q : Nat) : ∀ v ∈ exV p q, okF v.fs := fun v hv => by
  rcases List.mem_cons.1 hv with rfl | hv
  · exact small_ok (l := [⟨nA, 5⟩]) (by decide +kernel)
  · obtain rfl := List.mem_singleton.1 hv
    exact small_ok (l := [⟨nA, 3⟩, ⟨nB, 4⟩]) (by decide +kernel)

set_option maxHeartbeats 4000000 in
set_option maxRecDepth 10000 in
theorem alive_any (w : World) : Ret 9 #[] w (.bool true) := by
  have HV := Lib.hid (ex_vers w)
  have CS := Lib.hid (fun w' (h : Below (((w.alloc cA5).alloc cA3).alloc (cEx w.heap.size (w.heap.size + 1))).heap.size (((w.alloc cA5).alloc cA3).alloc (cEx w.heap.size (w.heap.size + 1))) w') => psetter_any w' nA _ _ (HV.out.below h) (ex_few _ _))
  have CO := Lib.hid (fun w' (h : Below (((w.alloc cA5).alloc cA3).alloc (cEx w.heap.size (w.heap.size + 1))).heap.size (((w.alloc cA5).alloc cA3).alloc (cEx w.heap.size (w.heap.size + 1))) w') => pof_any w' _ _ (HV.out.below h) (ex_few _ _) (ex_ok _ _))
  rw [example_set] at CS
  rw [example_of] at CO
  have CM := Lib.hid (fun w' v (h : ListF w' v [⟨nA, 5⟩, ⟨nB, 4⟩]) => dsamef_any (w'.alloc (.cells #[.string nA, .int .i64 5, .string nB, .int .i64 4] FT)) v (.slice (some ⟨w'.heap.size, 0, none⟩) 2 2) _ _ (h.below ((bl w').alloc (Nat.le_refl _) _)) (list_new w' [⟨nA, 5⟩, ⟨nB, 4⟩] FT) (by simp) (by simp))
  rw [sameF_self] at CM
  have HBW := Lib.hid (show Below w.heap.size w (((w.alloc cA5).alloc cA3).alloc (cEx w.heap.size (w.heap.size + 1))) from (((bl w).alloc (Nat.le_refl _) _).alloc (by simp) _).alloc (by simp; omega) _)
  obtain ⟨W3, hW3⟩ : ∃ W3, (((w.alloc cA5).alloc cA3).alloc (cEx w.heap.size (w.heap.size + 1))) = W3 := ⟨_, rfl⟩
  rw [hW3] at CS CO HBW
  clear HV
  unfold cA5 cA3 cEx at hW3
  unfold nA at CS
  unfold nA nB at CO CM hW3
  go_enter Try.func9, Try.ntmps9
  go_wp2_with (first
    | (go_at_call 16; (refine (CS.out _ (bl _)).mono ?_); rintro e w4 ⟨rfl, hb4⟩)
    | (go_at_call 14; (refine (CO.out _ hb4).mono ?_); rintro e w5 ⟨x5, rfl, hl5, hb5⟩; have hc5 := chain hb4 hb5)
    | (go_at_call 13; (refine (CM.out _ _ hl5).mono ?_); rintro e w6 ⟨rfl, hb6⟩))
  go_ret
  exact ⟨rfl, chain (chain HBW.out hc5) (((bl w5).alloc (Nat.le_refl _) _).trans (hb6.mono (by simp)))⟩

end Go.Proofs.Ytjpkeadnccodjaa
