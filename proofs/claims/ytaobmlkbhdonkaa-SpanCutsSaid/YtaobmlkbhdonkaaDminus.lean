/-
  What the document's Minus gives back for any two spans: the same list as span.Minus.
-/
import Derived.Test.YtaobmlkbhdonkaaMinus
namespace Go.Proofs.Ytaobmlkbhdonkaa
open Go.RowKit

theorem news_at {w : World} {k : Nat} (hk : w.heap.size = k) (f t : Int) (ty : TypeId) : ∀ j u, [Value.int .i64 f, Value.int .i64 t][j]? = some u → (w.alloc (.cells #[.int .i64 f, .int .i64 t] ty)).cell? ((⟨k, 0, none⟩ : Addr).add j) = some u := by
  subst hk
  exact news_two w f t ty
/-- Behind an append to a row of the call's own what lies in other blocks is as it was. -/
theorem grown_cell2 {w w1 : World} {o o' : Obj} {row : Option Nat} (hg : ((w.alloc o).alloc o').grownBy w1 row) {k i : Nat} {u : Value} (h : w.cell? ⟨k, i, none⟩ = some u) (hk : k < w.heap.size) (hn : some k ≠ row) : w1.cell? ⟨k, i, none⟩ = some u :=
  hg.cell ((World.cell?_alloc_lt (w.alloc o) o' ⟨k, i, none⟩ (by simp; omega)).trans ((World.cell?_alloc_lt w o ⟨k, i, none⟩ hk).trans h)) hn
theorem grown_new {w w1 : World} {o' : Obj} {x y : Int} {ty : TypeId} {row : Option Nat} (hg : ((w.alloc (.cells #[.int .i64 x, .int .i64 y] ty)).alloc o').grownBy w1 row) (hn : some w.heap.size ≠ row) : w1.cell? ⟨w.heap.size, 1, none⟩ = some (.int .i64 y) :=
  hg.cell (by simp [go_sem]) hn
theorem below_app {B : Nat} {a w w1 : World} {o : Obj} {row : Option Nat} (h : Below B a w) (hg : (w.alloc o).grownBy w1 row) (hB : B ≤ w.heap.size) (hr : ∀ k, row = some k → B ≤ k) : Below B a w1 :=
  (h.alloc hB o).grown hg (by simp; omega) hr

set_option maxHeartbeats 1000000 in
theorem dminus_any (a b c d : Int) (w : World) : Calls Try.prog 22 #[sp a b, sp c d] w (ListPost (minusL a b c d) w) := by
  obtain ⟨i0, hi, hz0, hz1, hz2⟩ := info_parts Try.infoSpan
  cases hr : rightB a b
  · go_enter Try.func22, Try.ntmps22
    go_wp2_with fail
    (go_at_call 9; refine (dright_any _ _ _).mono ?_; rintro e w1 ⟨rfl, hb⟩; obtain ⟨hc, hf⟩ := bcell hb)
    go_wp2_with fail
    go_ret
    rw [minusL, hr]
    exact ⟨none, 0, rfl, Spans.nil _ _, (((Below.refl _ _).alloc (Nat.le_refl _) _).alloc (by simp) _).trans (hb.mono (by simp; omega))⟩
  · cases hm : meetB a b c d
    · go_enter Try.func22, Try.ntmps22
      go_wp2_with fail
      (go_at_call 9; refine (dright_any _ _ _).mono ?_; rintro e w1 ⟨rfl, hb⟩; obtain ⟨hc, hf⟩ := bcell hb)
      have hz0 : w.heap.size < w1.heap.size := by have := hb.size; simp at this; omega
      have hz1 : w.heap.size + 1 < w1.heap.size := by have := hb.size; simp at this; omega
      go_wp2_with fail
      (go_at_call 19; refine (dmeet_any _ _ _ _ _).mono ?_; rintro e w2 ⟨rfl, hb2⟩; obtain ⟨hc2, hf2⟩ := bcell hb2; have hz2 := hb2.size)
      have hz3 : w.heap.size < w2.heap.size := by omega
      go_wp2_with fail
      go_ret
      rw [minusL, hr, hm]
      exact ⟨_, _, rfl, by simpa using Spans.one (w2.alloc _) a b _, (((((Below.refl _ _).alloc (Nat.le_refl _) _).alloc (by simp) _).trans ((hb.mono (by simp; omega)).trans (hb2.mono (by omega)))).alloc (by omega) _).alloc (by simp; omega) _⟩
    · obtain ⟨x, hx⟩ : ∃ x, meetF a b c d = x := ⟨_, rfl⟩
      obtain ⟨y, hy⟩ : ∃ y, meetT a b c d = y := ⟨_, rfl⟩
      have hx' : x = max a c := by rw [← hx, meetF, hm]; rfl
      have hy' : y = min b d := by rw [← hy, meetT, hm]; rfl
      have HX := Lib.hid hx'
      have HY := Lib.hid hy'
      clear hx' hy'
      by_cases h1 : a < x
      · by_cases h2 : y < b
        · have k1 : kept (kept [] a x) y b = [(a, x), (y, b)] := by simp [kept, h1, h2]
          have K1 := Lib.hid k1
          clear k1
          go_enter Try.func22, Try.ntmps22
          go_wp2_with fail
          (go_at_call 9; refine (dright_any _ _ _).mono ?_; rintro e w1 ⟨rfl, hb⟩; obtain ⟨hc, hf⟩ := bcell hb)
          have hs0 : w.heap.size < w1.heap.size := by have := hb.size; simp at this; omega
          have hs1 : w.heap.size + 1 < w1.heap.size := by have := hb.size; simp at this; omega
          go_wp2_with fail
          (go_at_call 19; refine (dmeet_any _ _ _ _ _).mono ?_; rintro e w2 ⟨rfl, hb2⟩; obtain ⟨hc2, hf2⟩ := bcell hb2; have hs2 := hb2.size)
          have hs3 : w.heap.size < w2.heap.size := by omega
          have hB : Below (w.heap.size + 1 + 1) ((w.alloc (.cells #[.int .i64 a, .int .i64 b] 23)).alloc (.cells #[.int .i64 c, .int .i64 d] 23)) w2 := (hb.mono (by simp)).trans (hb2.mono (by omega))
          have ca1 : w2.cell? ⟨w.heap.size, 1, none⟩ = some (.int .i64 b) := (hB.cell (p := ⟨w.heap.size, 1, none⟩) (by simp; omega)).trans (by simp [go_sem])
          have hW : Below w.heap.size w (w2.alloc (.cells #[.int .i64 x, .int .i64 y] 23)) := ((((Below.refl _ _).alloc (Nat.le_refl _) _).alloc (by simp) _).trans (hB.mono (by omega))).alloc (by omega) _
          go_wp2_with (first | (at_builtin; refine wpList_append_lies _ rfl (.tmp 26) (.tmp 32) 36 rfl w2.heap.size 23 i0 (.agg #[.int .i64 0, .int .i64 0]) 2 16 Try.underlying36 hi hz0 hz1 hz2 rfl (by decide) (.slice none 0 0) 0 [] rfl (World.ownsRow_nil _ _ _ _) ⟨w2.heap.size + 1, 0, none⟩ 1 1 [.int .i64 a, .int .i64 x] rfl rfl (news_at (by simp) a x _) (by simp [Value.oneCell']) (by decide) (by unfold maxLen; omega) (by omega) (by simp; omega) _ rfl ?_; intro g cap w3 hown3 hg3 hat3 hlt3; have ca2 := grown_cell2 hg3 ca1 (by omega) (by simp [Value.ownBlock]); have cx2 := grown_new hg3 (by simp [Value.ownBlock]); have hs4 := hg3.size; simp only [World.size_alloc] at hs4; simp only [Nat.zero_add, List.nil_append] at hown3; have hW3 := below_app hW hg3 (by simp; omega) (by simp [Value.ownBlock])) | (at_builtin; refine wpList_append_lies _ rfl (.tmp 39) (.tmp 45) 36 rfl w2.heap.size 23 i0 (.agg #[.int .i64 0, .int .i64 0]) 2 16 Try.underlying36 hi hz0 hz1 hz2 rfl (by decide) (.slice (some ⟨g, 0, none⟩) 1 cap) 1 [.int .i64 a, .int .i64 x] rfl (World.ownsRow.alloc hown3 _) ⟨w3.heap.size, 0, none⟩ 1 1 [.int .i64 y, .int .i64 b] rfl rfl (news_two w3 y b _) (by simp [Value.oneCell']) (by decide) (by unfold maxLen; omega) (by omega) (by simp; omega) _ rfl ?_; intro g' cap' w4 hown4 hg4 hat4 hlt4; have hW4 := below_app hW3 hg4 (by omega) (fun k hk => by have := (hown3.lt k hk).1; omega)))
          go_ret
          rw [minusL, hr, hm, ← HX.out, ← HY.out, if_pos rfl, if_pos rfl, K1.out]
          obtain ⟨A, cc, hv, hsp⟩ := own_spans (l := [(a, x), (y, b)]) hown4
          exact ⟨A, cc, congrArg Ending.returned hv, hsp, hW4⟩
        · have k1 : kept (kept [] a x) y b = [(a, x)] := by simp [kept, h1, h2]
          have K1 := Lib.hid k1
          clear k1
          go_enter Try.func22, Try.ntmps22
          go_wp2_with fail
          (go_at_call 9; refine (dright_any _ _ _).mono ?_; rintro e w1 ⟨rfl, hb⟩; obtain ⟨hc, hf⟩ := bcell hb)
          have hs0 : w.heap.size < w1.heap.size := by have := hb.size; simp at this; omega
          have hs1 : w.heap.size + 1 < w1.heap.size := by have := hb.size; simp at this; omega
          go_wp2_with fail
          (go_at_call 19; refine (dmeet_any _ _ _ _ _).mono ?_; rintro e w2 ⟨rfl, hb2⟩; obtain ⟨hc2, hf2⟩ := bcell hb2; have hs2 := hb2.size)
          have hs3 : w.heap.size < w2.heap.size := by omega
          have hB : Below (w.heap.size + 1 + 1) ((w.alloc (.cells #[.int .i64 a, .int .i64 b] 23)).alloc (.cells #[.int .i64 c, .int .i64 d] 23)) w2 := (hb.mono (by simp)).trans (hb2.mono (by omega))
          have ca1 : w2.cell? ⟨w.heap.size, 1, none⟩ = some (.int .i64 b) := (hB.cell (p := ⟨w.heap.size, 1, none⟩) (by simp; omega)).trans (by simp [go_sem])
          have hW : Below w.heap.size w (w2.alloc (.cells #[.int .i64 x, .int .i64 y] 23)) := ((((Below.refl _ _).alloc (Nat.le_refl _) _).alloc (by simp) _).trans (hB.mono (by omega))).alloc (by omega) _
          go_wp2_with (at_builtin; refine wpList_append_lies _ rfl (.tmp 26) (.tmp 32) 36 rfl w2.heap.size 23 i0 (.agg #[.int .i64 0, .int .i64 0]) 2 16 Try.underlying36 hi hz0 hz1 hz2 rfl (by decide) (.slice none 0 0) 0 [] rfl (World.ownsRow_nil _ _ _ _) ⟨w2.heap.size + 1, 0, none⟩ 1 1 [.int .i64 a, .int .i64 x] rfl rfl (news_at (by simp) a x _) (by simp [Value.oneCell']) (by decide) (by unfold maxLen; omega) (by omega) (by simp; omega) _ rfl ?_; intro g cap w3 hown3 hg3 hat3 hlt3; have ca2 := grown_cell2 hg3 ca1 (by omega) (by simp [Value.ownBlock]); have cx2 := grown_new hg3 (by simp [Value.ownBlock]); have hs4 := hg3.size; simp only [World.size_alloc] at hs4; simp only [Nat.zero_add, List.nil_append] at hown3; have hW3 := below_app hW hg3 (by simp; omega) (by simp [Value.ownBlock]))
          go_ret
          rw [minusL, hr, hm, ← HX.out, ← HY.out, if_pos rfl, if_pos rfl, K1.out]
          obtain ⟨A, cc, hv, hsp⟩ := own_spans (l := [(a, x)]) hown3
          exact ⟨A, cc, congrArg Ending.returned hv, hsp, hW3⟩
      · by_cases h2 : y < b
        · have k1 : kept (kept [] a x) y b = [(y, b)] := by simp [kept, h1, h2]
          have K1 := Lib.hid k1
          clear k1
          go_enter Try.func22, Try.ntmps22
          go_wp2_with fail
          (go_at_call 9; refine (dright_any _ _ _).mono ?_; rintro e w1 ⟨rfl, hb⟩; obtain ⟨hc, hf⟩ := bcell hb)
          have hs0 : w.heap.size < w1.heap.size := by have := hb.size; simp at this; omega
          have hs1 : w.heap.size + 1 < w1.heap.size := by have := hb.size; simp at this; omega
          go_wp2_with fail
          (go_at_call 19; refine (dmeet_any _ _ _ _ _).mono ?_; rintro e w2 ⟨rfl, hb2⟩; obtain ⟨hc2, hf2⟩ := bcell hb2; have hs2 := hb2.size)
          have hs3 : w.heap.size < w2.heap.size := by omega
          have hB : Below (w.heap.size + 1 + 1) ((w.alloc (.cells #[.int .i64 a, .int .i64 b] 23)).alloc (.cells #[.int .i64 c, .int .i64 d] 23)) w2 := (hb.mono (by simp)).trans (hb2.mono (by omega))
          have ca1 : w2.cell? ⟨w.heap.size, 1, none⟩ = some (.int .i64 b) := (hB.cell (p := ⟨w.heap.size, 1, none⟩) (by simp; omega)).trans (by simp [go_sem])
          have hW : Below w.heap.size w (w2.alloc (.cells #[.int .i64 x, .int .i64 y] 23)) := ((((Below.refl _ _).alloc (Nat.le_refl _) _).alloc (by simp) _).trans (hB.mono (by omega))).alloc (by omega) _
          go_wp2_with (at_builtin; refine wpList_append_lies _ rfl (.tmp 39) (.tmp 45) 36 rfl w2.heap.size 23 i0 (.agg #[.int .i64 0, .int .i64 0]) 2 16 Try.underlying36 hi hz0 hz1 hz2 rfl (by decide) (.slice none 0 0) 0 [] rfl (World.ownsRow_nil _ _ _ _) ⟨w2.heap.size + 1, 0, none⟩ 1 1 [.int .i64 y, .int .i64 b] rfl rfl (news_at (by simp) y b _) (by simp [Value.oneCell']) (by decide) (by unfold maxLen; omega) (by omega) (by simp; omega) _ rfl ?_; intro g cap w3 hown3 hg3 hat3 hlt3; simp only [Nat.zero_add, List.nil_append] at hown3; have hW3 := below_app hW hg3 (by simp; omega) (by simp [Value.ownBlock]))
          go_ret
          rw [minusL, hr, hm, ← HX.out, ← HY.out, if_pos rfl, if_pos rfl, K1.out]
          obtain ⟨A, cc, hv, hsp⟩ := own_spans (l := [(y, b)]) hown3
          exact ⟨A, cc, congrArg Ending.returned hv, hsp, hW3⟩
        · have k1 : kept (kept [] a x) y b = [] := by simp [kept, h1, h2]
          have K1 := Lib.hid k1
          clear k1
          go_enter Try.func22, Try.ntmps22
          go_wp2_with fail
          (go_at_call 9; refine (dright_any _ _ _).mono ?_; rintro e w1 ⟨rfl, hb⟩; obtain ⟨hc, hf⟩ := bcell hb)
          have hs0 : w.heap.size < w1.heap.size := by have := hb.size; simp at this; omega
          have hs1 : w.heap.size + 1 < w1.heap.size := by have := hb.size; simp at this; omega
          go_wp2_with fail
          (go_at_call 19; refine (dmeet_any _ _ _ _ _).mono ?_; rintro e w2 ⟨rfl, hb2⟩; obtain ⟨hc2, hf2⟩ := bcell hb2; have hs2 := hb2.size)
          have hs3 : w.heap.size < w2.heap.size := by omega
          have hB : Below (w.heap.size + 1 + 1) ((w.alloc (.cells #[.int .i64 a, .int .i64 b] 23)).alloc (.cells #[.int .i64 c, .int .i64 d] 23)) w2 := (hb.mono (by simp)).trans (hb2.mono (by omega))
          have ca1 : w2.cell? ⟨w.heap.size, 1, none⟩ = some (.int .i64 b) := (hB.cell (p := ⟨w.heap.size, 1, none⟩) (by simp; omega)).trans (by simp [go_sem])
          have hW : Below w.heap.size w (w2.alloc (.cells #[.int .i64 x, .int .i64 y] 23)) := ((((Below.refl _ _).alloc (Nat.le_refl _) _).alloc (by simp) _).trans (hB.mono (by omega))).alloc (by omega) _
          go_wp2_with fail
          go_ret
          rw [minusL, hr, hm, ← HX.out, ← HY.out, if_pos rfl, if_pos rfl, K1.out]
          exact ⟨none, 0, rfl, Spans.nil _ _, hW⟩

end Go.Proofs.Ytaobmlkbhdonkaa
