/-
  The document's put: a span behind a list of the call's own; it is joined to the last one where that ends as it begins.
-/
import Derived.Test.YtmfkcbanjlmmhaaCends
import Derived.Test.YtmfkcbanjlmmhaaCmake
namespace Go.Proofs.Ytmfkcbanjlmmhaa
open Go.RowKit Go.Sort Go.Shelf

/-- What put leaves. -/
def PutPost (W : World) (l : List Sp) (e : Ending) (w' : World) : Prop := ∃ v, e = .returned v ∧ SpRel W l v w'

set_option maxHeartbeats 4000000 in
theorem put_nil (W w : World) (v : Value) (f t : Int) (h : SpRel W [] v w) :
    Calls Try.prog 34 #[v, sp f t] w (PutPost W [(f, t)]) := by
  obtain ⟨i0, hi, hz0, hz1, hz2⟩ := info_parts Try.infoSpan
  have HR := Lib.hid h
  have hsz := h.2.size
  obtain ⟨A3, c3, rfl, _⟩ := own_spans h.1
  clear h
  have HS := Lib.hid (HR.out.step ((bl w).alloc (Nat.le_refl _) (.cells #[.int .i64 f, .int .i64 t] 36)))
  have hown1 := HS.out.1
  simp only [List.length_nil] at hown1 ⊢
  go_enter Try.func34, Try.ntmps34
  go_wp2_with fail
  go_quiet (fail)
  have HQ := Lib.hid (SpRel.step HS.out (belowN (bl _) nq))
  have a0 : ((w.alloc (.cells #[.int .i64 f, .int .i64 t] 36)).drewN nq).cell? ⟨w.heap.size, 0, none⟩ = some (.int .i64 f) := by simp [go_sem]
  have a1 : ((w.alloc (.cells #[.int .i64 f, .int .i64 t] 36)).drewN nq).cell? ⟨w.heap.size, 1, none⟩ = some (.int .i64 t) := by simp [go_sem]
  obtain ⟨w2, hw2⟩ : ∃ W, (w.alloc (.cells #[.int .i64 f, .int .i64 t] 36)).drewN nq = W := ⟨_, rfl⟩
  rw [hw2] at a0 a1 HQ ⊢
  clear hw2
  have hown2 := HQ.out.1
  have hsz2 := HQ.out.2.size
  simp only [List.length_nil] at hown2
  go_wp2_with (at_builtin; refine wpList_append_lies _ rfl (.tmp 28) (.tmp 30) 22 rfl W.heap.size 36 i0 (.agg #[.int .i64 0, .int .i64 0]) 2 16 Try.underlying22 hi hz0 hz1 hz2 rfl (by decide) _ 0 (flat []) rfl (World.ownsRow.alloc hown2 _) ⟨w2.heap.size, 0, none⟩ 1 1 [.int .i64 f, .int .i64 t] rfl rfl (news_two w2 f t _) (by simp [Value.oneCell']) (by decide) (by unfold maxLen; omega) (by omega) (by simp; omega) _ rfl ?_; intro g3 cap3 w3 hown3 hg3 hat3 hlt3; have NX := Lib.hid (SpRel.app (l := []) HQ.out hg3 hown3))
  go_ret
  exact ⟨_, rfl, NX.out⟩

set_option maxHeartbeats 4000000 in
theorem put_more (W w : World) (v : Value) (m : List Sp) (q1 q2 f t : Int) (h : SpRel W (m ++ [(q1, q2)]) v w) (hn : m.length + 1 ≤ 1000000) :
    Calls Try.prog 34 #[v, sp f t] w (PutPost W (if q2 = f then m ++ [(q1, t)] else m ++ [(q1, q2)] ++ [(f, t)])) := by
  obtain ⟨L, hL⟩ : ∃ L, (if q2 = f then m ++ [(q1, t)] else m ++ [(q1, q2)] ++ [(f, t)]) = L := ⟨_, rfl⟩
  rw [hL]
  have HLL := Lib.hid hL
  clear hL
  obtain ⟨i0, hi, hz0, hz1, hz2⟩ := info_parts Try.infoSpan
  have HR := Lib.hid h
  have hsz := h.2.size
  clear h
  have HY := Lib.hid (show Below w.heap.size w (w.alloc (.cells #[.int .i64 f, .int .i64 t] 36)) from (bl _).alloc (Nat.le_refl _) _)
  obtain ⟨g3, c3, rfl, hat, hg1, hg2⟩ := own_spansAt HR.out.1 (by simp)
  obtain ⟨x0, x1⟩ := hat m.length (q1, q2) (by simp)
  have hfz := own_frozen HR.out.1 (m.length * 2 + 1)
  simp only [List.length_append, List.length_cons, List.length_nil, Nat.zero_add] at HR ⊢ x0 x1
  obtain ⟨z, hz⟩ : ∃ z, m.length = z := ⟨_, rfl⟩
  rw [hz] at x0 x1 hfz hn HR ⊢
  clear hat
  have HS := Lib.hid (HR.out.step HY.out)
  have y1 : (w.alloc (.cells #[.int .i64 f, .int .i64 t] 36)).cell? ⟨g3, z * 2 + 1, none⟩ = some (.int .i64 q2) := keepc HY.out x1
  have b0 : (w.alloc (.cells #[.int .i64 f, .int .i64 t] 36)).cell? ⟨w.heap.size, 0, none⟩ = some (.int .i64 f) := by simp [go_sem]
  have b1 : (w.alloc (.cells #[.int .i64 f, .int .i64 t] 36)).cell? ⟨w.heap.size, 1, none⟩ = some (.int .i64 t) := by simp [go_sem]
  have yf : (w.alloc (.cells #[.int .i64 f, .int .i64 t] 36)).frozen? ⟨g3, z * 2 + 1, none⟩ = false := (HY.out.frozen (p := ⟨g3, z * 2 + 1, none⟩) hg2).trans hfz
  have HZ := Lib.hid hz
  clear hz x0 x1 hfz
  by_cases hjoin : q2 = f
  · have e0 : (q2 == f) = true := by simpa using hjoin
    have HJ := Lib.hid hjoin
    clear hjoin
    go_enter Try.func34, Try.ntmps34
    go_wp2_with fail
    go_quiet (fail)
    have HQ := Lib.hid (SpRel.step HS.out (belowN (bl _) nq))
    obtain ⟨w2, hw2⟩ : ∃ W, (w.alloc (.cells #[.int .i64 f, .int .i64 t] 36)).drewN nq = W := ⟨_, rfl⟩
    have a1 : w2.cell? ⟨w.heap.size, 1, none⟩ = some (.int .i64 t) := by rw [← hw2]; exact b1
    have v1 : w2.cell? ⟨g3, z * 2 + 1, none⟩ = some (.int .i64 q2) := by rw [← hw2]; exact y1
    have vf : w2.frozen? ⟨g3, z * 2 + 1, none⟩ = false := by rw [← hw2]; exact yf
    rw [hw2] at HQ ⊢
    clear hw2 b0 b1 y1 yf
    have NX := Lib.hid (SpRel.set (y := t) (by rw [List.length_append, HZ.out]; exact HQ.out))
    rw [HZ.out] at NX
    go_wp2_with fail
    go_ret
    exact ⟨_, rfl, by rw [← HLL.out, if_pos HJ.out]; have h := NX.out; simp only [List.length_append, List.length_cons, List.length_nil, Nat.zero_add, HZ.out] at h; exact h⟩
  · have e0 : (q2 == f) = false := by simpa using hjoin
    have HJ := Lib.hid hjoin
    clear hjoin
    go_enter Try.func34, Try.ntmps34
    go_wp2_with fail
    go_quiet (fail)
    have HQ := Lib.hid (SpRel.step HS.out (belowN (bl _) nq))
    obtain ⟨w2, hw2⟩ : ∃ W, (w.alloc (.cells #[.int .i64 f, .int .i64 t] 36)).drewN nq = W := ⟨_, rfl⟩
    have a0 : w2.cell? ⟨w.heap.size, 0, none⟩ = some (.int .i64 f) := by rw [← hw2]; exact b0
    have a1 : w2.cell? ⟨w.heap.size, 1, none⟩ = some (.int .i64 t) := by rw [← hw2]; exact b1
    rw [hw2] at HQ ⊢
    clear hw2 b0 b1 y1 yf
    have hown2 := HQ.out.1
    have hsz2 := HQ.out.2.size
    simp only [List.length_append, List.length_cons, List.length_nil, Nat.zero_add, HZ.out] at hown2
    clear HS HY
    go_wp2_with (at_builtin; refine wpList_append_lies _ rfl (.tmp 28) (.tmp 30) 22 rfl W.heap.size 36 i0 (.agg #[.int .i64 0, .int .i64 0]) 2 16 Try.underlying22 hi hz0 hz1 hz2 rfl (by decide) _ (z + 1) (flat (m ++ [(q1, q2)])) rfl (World.ownsRow.alloc hown2 _) ⟨w2.heap.size, 0, none⟩ 1 1 [.int .i64 f, .int .i64 t] rfl rfl (news_two w2 f t _) (by simp [Value.oneCell']) (by decide) (by unfold maxLen; omega) (by omega) (by simp; omega) _ rfl ?_; intro g4 cap3 w3 hown3 hg3 hat3 hlt3; have NX := Lib.hid (SpRel.app (l := m ++ [(q1, q2)]) HQ.out hg3 (by simpa [HZ.out] using hown3)); clear hown3)
    go_ret
    exact ⟨_, rfl, by rw [← HLL.out, if_neg HJ.out]; exact NX.out⟩

end Go.Proofs.Ytmfkcbanjlmmhaa
