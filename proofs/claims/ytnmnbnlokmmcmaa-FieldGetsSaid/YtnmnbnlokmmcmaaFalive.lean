/-
  The chapter's examples hold.
-/
import Derived.Test.YtnmnbnlokmmcmaaFprog
namespace Go.Proofs.Ytnmnbnlokmmcmaa
open Go.RowKit

/-- Fields that are laid in a new block. -/
theorem fields_new (w : World) (l : List Fd) (T : TypeId) : Fields (w.alloc (.cells (flatF l).toArray T)) (some ⟨w.heap.size, 0, none⟩) l := fun i f hf => by
  obtain ⟨h0, h1⟩ := flatF_get l i f hf
  refine ⟨w.heap.size, 0, rfl, ?_, ?_⟩
  · rw [cell_of_row _ _ _ _ T (0, 0) (heap_alloc_new w _), Nat.zero_add]
    simpa using h0
  · rw [cell_of_row _ _ _ _ T (0, 0) (heap_alloc_new w _), Nat.zero_add]
    simpa using h1
theorem list_new (w : World) (l : List Fd) (T : TypeId) : ListF (w.alloc (.cells (flatF l).toArray T)) (.slice (some ⟨w.heap.size, 0, none⟩) l.length l.length) l := ⟨_, _, rfl, fields_new w l T, Nat.le_refl _, fun h => by cases h⟩
/-- Lists that are laid in a new block. -/
theorem rows_new (w : World) (T : TypeId) (vs : List Value) (L : List (List Fd)) (h : ∀ (i : Nat) (l : List Fd), L[i]? = some l → ∃ v, vs[i]? = some v ∧ ListF w v l) : RowsF (w.alloc (.cells vs.toArray T)) (some ⟨w.heap.size, 0, none⟩) L := fun i l hl => by
  obtain ⟨v, hv, hL⟩ := h i l hl
  refine ⟨w.heap.size, 0, v, rfl, ?_, hL.below ((bl w).alloc (Nat.le_refl _) _)⟩
  rw [cell_of_row _ _ _ _ T (0, 0) (heap_alloc_new w _), Nat.zero_add]
  simpa using hv
theorem rows_two {w : World} {T : TypeId} {u v : Value} {a b : List Fd} (ha : ListF w u a) (hb : ListF w v b) : RowsF (w.alloc (.cells #[u, v] T)) (some ⟨w.heap.size, 0, none⟩) [a, b] :=
  rows_new w T [u, v] [a, b] fun i l hl => by
    match i, hl with
    | 0, hl => obtain rfl : a = l := by simpa using hl
               exact ⟨u, rfl, ha⟩
    | 1, hl => obtain rfl : b = l := by simpa using hl
               exact ⟨v, rfl, hb⟩
theorem rows_three {w : World} {T : TypeId} {u v x : Value} {a b c : List Fd} (ha : ListF w u a) (hb : ListF w v b) (hc : ListF w x c) : RowsF (w.alloc (.cells #[u, v, x] T)) (some ⟨w.heap.size, 0, none⟩) [a, b, c] :=
  rows_new w T [u, v, x] [a, b, c] fun i l hl => by
    match i, hl with
    | 0, hl => obtain rfl : a = l := by simpa using hl
               exact ⟨u, rfl, ha⟩
    | 1, hl => obtain rfl : b = l := by simpa using hl
               exact ⟨v, rfl, hb⟩
    | 2, hl => obtain rfl : c = l := by simpa using hl
               exact ⟨x, rfl, hc⟩

theorem dsamel_any (w : World) (v u : Value) (a b : List Fd) (ha : ListF w v a) (hb : ListF w u b) (hn : a.length ≤ 9223372036854775807) (hm : b.length ≤ 9223372036854775807) : Ret 16 #[v, u] w (.bool (sameF a b)) := by
  obtain ⟨A, c, rfl, hA, _, _⟩ := ha
  obtain ⟨B, d, rfl, hB, _, _⟩ := hb
  exact dsame_any w A B c d a b hA hB hn hm
theorem drightl_any (w : World) (v : Value) (l : List Fd) (hl : ListF w v l) (hok : okF l) (hn : l.length ≤ 9223372036854775807) : Ret 15 #[v] w (.int .i64 ((rightE l : Nat) : Int)) := by
  obtain ⟨A, c, rfl, hA, _, _⟩ := hl
  exact dright_any w A c l hA hok hn
theorem dgetl_any (w : World) (v : Value) (l : List Fd) (s : ByteArray) (hl : ListF w v l) (hn : l.length ≤ 9223372036854775807) : Ret 18 #[v, .string s] w (.tuple #[.int .i64 ((getL l s).getD 0), .bool (getL l s).isSome]) := by
  obtain ⟨A, c, rfl, hA, _, _⟩ := hl
  exact (dget_any w A c l s hA hn).mono fun e w' h => ⟨h.1, by rw [h.2]; exact bl w⟩

abbrev c12 : Obj := .cells #[.string nA, .int .i64 1, .string nB, .int .i64 2] FT
abbrev c34 : Obj := .cells #[.string nB, .int .i64 3, .string nC, .int .i64 4] FT
theorem alive_rows (w : World) : RowsF (((w.alloc c12).alloc c34).alloc (.cells #[.slice (some ⟨w.heap.size, 0, none⟩) 2 2, .slice (some ⟨w.heap.size + 1, 0, none⟩) 2 2] 22)) (some ⟨w.heap.size + 1 + 1, 0, none⟩) [[⟨nA, 1⟩, ⟨nB, 2⟩], [⟨nB, 3⟩, ⟨nC, 4⟩]] := by
  have h1 : ListF (w.alloc c12) (.slice (some ⟨w.heap.size, 0, none⟩) 2 2) [⟨nA, 1⟩, ⟨nB, 2⟩] := list_new w [⟨nA, 1⟩, ⟨nB, 2⟩] FT
  have h2 : ListF ((w.alloc c12).alloc c34) (.slice (some ⟨(w.alloc c12).heap.size, 0, none⟩) 2 2) [⟨nB, 3⟩, ⟨nC, 4⟩] := list_new (w.alloc c12) [⟨nB, 3⟩, ⟨nC, 4⟩] FT
  have h3 := rows_two (T := 22) (h1.below ((bl _).alloc (Nat.le_refl _) c34)) h2
  rw [show ((w.alloc c12).alloc c34).heap.size = w.heap.size + 1 + 1 by simp, show (w.alloc c12).heap.size = w.heap.size + 1 by simp] at h3
  exact h3
theorem small_ok {l : List Fd} (h : l.all (fun f => decide (f.n.size ≤ 100)) = true) : okF l := fun f hf => by
  have := List.all_eq_true.1 h f hf
  rw [decide_eq_true_eq] at this
  omega
theorem alive_over (w : World) : Calls Try.prog 20 #[.slice (some ⟨w.heap.size + 1 + 1, 0, none⟩) 2 2] (((w.alloc c12).alloc c34).alloc (.cells #[.slice (some ⟨w.heap.size, 0, none⟩) 2 2, .slice (some ⟨w.heap.size + 1, 0, none⟩) 2 2] 22)) fun e w' => ∃ v, e = .returned v ∧ ListF w' v [⟨nA, 1⟩, ⟨nB, 3⟩, ⟨nC, 4⟩] ∧ Below w.heap.size w w' := by
  have h := pover_any _ (some ⟨w.heap.size + 1 + 1, 0, none⟩) 2 _ (alive_rows w) (by simp) (by simp) (fun l hl => small_ok (by
    rcases List.mem_cons.1 hl with rfl | hl
    · decide +kernel
    · rcases List.mem_cons.1 hl with rfl | hl
      · decide +kernel
      · simp at hl))
  rw [example_over] at h
  refine h.mono fun e w' ⟨v, he, hL, hb⟩ => ⟨v, he, hL, ?_⟩
  exact ((((bl w).alloc (Nat.le_refl _) _).alloc (by simp) _).alloc (by simp; omega) _).trans (hb.mono (by simp; omega))
theorem alive_put (w : World) : Calls Try.prog 22 #[.slice (some ⟨w.heap.size, 0, none⟩) 1 1] (w.alloc (.cells #[.string nA, .int .i64 1] FT)) fun e w' => e = .returned (.tuple #[.string ⟨#[1, 1, 97, 2]⟩, .int .i64 0]) ∧ Below w.heap.size w w' := by
  have h := pput_any (w.alloc (.cells #[.string nA, .int .i64 1] FT)) (.slice (some ⟨w.heap.size, 0, none⟩) 1 1) [⟨nA, 1⟩] (list_new w [⟨nA, 1⟩] FT) (small_ok (by decide +kernel)) (by simp)
  rw [example_put.1, example_put.2] at h
  exact h.mono fun e w' ⟨he, hb⟩ => ⟨he, ((bl w).alloc (Nat.le_refl _) _).trans (hb.mono (by simp))⟩
theorem alive_same (w : World) (v : Value) (hv : ListF w v [⟨nA, 1⟩, ⟨nB, 3⟩, ⟨nC, 4⟩]) : Calls Try.prog 16 #[v, .slice (some ⟨w.heap.size, 0, none⟩) 3 3] (w.alloc (.cells #[.string nA, .int .i64 1, .string nB, .int .i64 3, .string nC, .int .i64 4] FT)) fun e w' => e = .returned (.bool true) ∧ Below w.heap.size w w' := by
  have h := dsamel_any (w.alloc (.cells #[.string nA, .int .i64 1, .string nB, .int .i64 3, .string nC, .int .i64 4] FT)) v (.slice (some ⟨w.heap.size, 0, none⟩) 3 3) _ _ (hv.below ((bl w).alloc (Nat.le_refl _) _)) (list_new w [⟨nA, 1⟩, ⟨nB, 3⟩, ⟨nC, 4⟩] FT) (by simp) (by simp)
  rw [sameF_self] at h
  exact h.mono fun e w' ⟨he, hb⟩ => ⟨he, ((bl w).alloc (Nat.le_refl _) _).trans (hb.mono (by simp))⟩

set_option maxHeartbeats 4000000 in
set_option maxRecDepth 10000 in
theorem alive_any (w : World) : Ret 9 #[] w (.bool true) := by
  have CO := Lib.hid (alive_over w)
  have CP := Lib.hid alive_put
  have CS := Lib.hid alive_same
  unfold c12 c34 nA nB nC at CO
  unfold nA at CP
  go_enter Try.func9, Try.ntmps9
  go_wp2_with (first
    | (go_at_call 20; (with_reducible refine CO.out.mono ?_); rintro e w1 ⟨v1, rfl, hl1, hb1⟩)
    | (go_at_call 22; (with_reducible refine (CP.out _).mono ?_); rintro e w2 ⟨rfl, hb2⟩)
    | (go_at_call 16; (refine (CS.out _ _ (hl1.below hb2)).mono ?_); rintro e w3 ⟨rfl, hb3⟩))
  go_ret
  exact ⟨rfl, chain (chain hb1 hb2) hb3⟩

end Go.Proofs.Ytnmnbnlokmmcmaa
