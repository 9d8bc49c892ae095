/-
  Or, And, Less and Gaps of cover; the chapter's examples hold.
-/
import Derived.Test.YtmfkcbanjlmmhaaCpickw
import Derived.Test.YtmfkcbanjlmmhaaChas
namespace Go.Proofs.Ytmfkcbanjlmmhaa
open Go.RowKit Go.Sort Go.Shelf

theorem or_any (w : World) (A B : Option Addr) (c d : Nat) (a b : List Sp) (ha : Spans w A a) (hb : Spans w B b) (hn : a.length + b.length ≤ 100000) :
    Calls Try.prog 15 #[.slice A a.length c, .slice B b.length d] w (CovPost (PickP (fun x y => x || y) a b) (2 * a.length + 2 * b.length) w) := by
  go_enter Try.func15, Try.ntmps15
  go_wp2_with (go_at_call 31; refine (pick_any w A B c d a b _ _ (.inl ⟨rfl, rfl⟩) ha hb hn).mono ?_; rintro e w1 ⟨A1, c1, m, rfl, h⟩)
  go_ret
  exact ⟨A1, c1, m, rfl, h⟩
theorem and_any (w : World) (A B : Option Addr) (c d : Nat) (a b : List Sp) (ha : Spans w A a) (hb : Spans w B b) (hn : a.length + b.length ≤ 100000) :
    Calls Try.prog 17 #[.slice A a.length c, .slice B b.length d] w (CovPost (PickP (fun x y => x && y) a b) (2 * a.length + 2 * b.length) w) := by
  go_enter Try.func17, Try.ntmps17
  go_wp2_with (go_at_call 31; refine (pick_any w A B c d a b _ _ (.inr (.inl ⟨rfl, rfl⟩)) ha hb hn).mono ?_; rintro e w1 ⟨A1, c1, m, rfl, h⟩)
  go_ret
  exact ⟨A1, c1, m, rfl, h⟩
theorem less_any (w : World) (A B : Option Addr) (c d : Nat) (a b : List Sp) (ha : Spans w A a) (hb : Spans w B b) (hn : a.length + b.length ≤ 100000) :
    Calls Try.prog 18 #[.slice A a.length c, .slice B b.length d] w (CovPost (PickP (fun x y => x && !y) a b) (2 * a.length + 2 * b.length) w) := by
  go_enter Try.func18, Try.ntmps18
  go_wp2_with (go_at_call 31; refine (pick_any w A B c d a b _ _ (.inr (.inr ⟨rfl, rfl⟩)) ha hb hn).mono ?_; rintro e w1 ⟨A1, c1, m, rfl, h⟩)
  go_ret
  exact ⟨A1, c1, m, rfl, h⟩

set_option maxHeartbeats 1000000 in
theorem gaps_any (w : World) (f t : Int) (A : Option Addr) (c : Nat) (l : List Sp) (hl : Spans w A l) (hn : l.length ≤ 90000) :
    Calls Try.prog 23 #[sp f t, .slice A l.length c] w (CovPost (PickP (fun x y => x && !y) [(f, t)] l) (2 + 2 * l.length) w) := by
  have HB := Lib.hid (show Below w.heap.size w (w.alloc (.cells #[.int .i64 f, .int .i64 t] 36)) from (bl w).alloc (Nat.le_refl _) _)
  obtain ⟨w1, hw1⟩ : ∃ W, w.alloc (.cells #[.int .i64 f, .int .i64 t] 36) = W := ⟨_, rfl⟩
  have a0 : w1.cell? ⟨w.heap.size, 0, none⟩ = some (.int .i64 f) := by rw [← hw1]; simp [go_sem]
  have a1 : w1.cell? ⟨w.heap.size, 1, none⟩ = some (.int .i64 t) := by rw [← hw1]; simp [go_sem]
  have HW := Lib.hid hw1
  rw [hw1] at HB
  clear hw1
  have HL := Lib.hid (hl.below (HB.out))
  clear hl
  go_enter Try.func23, Try.ntmps23
  go_upto_region 1 with fail
  rw [HW.out]
  go_wp2_with fail
  have hb2 : Below w1.heap.size w1 (w1.alloc (.cells #[.int .i64 f, .int .i64 t] 36)) := (bl w1).alloc (Nat.le_refl _) _
  have C := less_any _ _ A 1 c [(f, t)] l (spans_one (w := w1) (f := f) (t := t) 36) (HL.out.below hb2) (by simp; omega)
  have HB2 := Lib.hid hb2
  clear hb2
  go_at_call 18
  refine C.mono ?_
  rintro e w2 ⟨A1, c1, m, rfl, hsp, hc, hl1, hb⟩
  clear C
  go_wp2_with fail
  go_ret
  exact ⟨A1, c1, m, rfl, hsp, hc, by simpa using hl1, chain HB.out (chain HB2.out hb)⟩

theorem ex_make {m : List Sp} (h : CovOf m (Mem [(3, 5), (0, 3), (9, 8)])) : m = [(0, 5)] :=
  h.eq (m := [(0, 5)]) (T := Mem [(0, 5)]) ⟨by decide, fun _ => Iff.rfl⟩ fun x => by simp [Mem, rightB]; omega
theorem ex_gaps {m : List Sp} (h : CovOf m (PickP (fun x y => x && !y) [(0, 9)] [(2, 3)])) : m = [(0, 2), (3, 9)] :=
  h.eq (m := [(0, 2), (3, 9)]) (T := Mem [(0, 2), (3, 9)]) ⟨by decide, fun _ => Iff.rfl⟩ fun x => by simp [PickP, memB, hasB, Mem, rightB]; omega
theorem spans_two {w : World} {a b c d : Int} (t : TypeId) : Spans (w.alloc (.cells #[.int .i64 a, .int .i64 b, .int .i64 c, .int .i64 d] t)) (some ⟨w.heap.size, 0, none⟩) [(a, b), (c, d)] := fun i p hp => by
  refine ⟨_, _, rfl, ?_⟩
  rcases i with _ | _ | i
  · obtain rfl : (a, b) = p := by simpa using hp
    exact ⟨by simp [go_sem], by simp [go_sem]⟩
  · obtain rfl : (c, d) = p := by simpa using hp
    exact ⟨by simp [go_sem], by simp [go_sem]⟩
  · simp at hp
theorem spans_three {w : World} {a b c d e f : Int} (t : TypeId) : Spans (w.alloc (.cells #[.int .i64 a, .int .i64 b, .int .i64 c, .int .i64 d, .int .i64 e, .int .i64 f] t)) (some ⟨w.heap.size, 0, none⟩) [(a, b), (c, d), (e, f)] := fun i p hp => by
  refine ⟨_, _, rfl, ?_⟩
  rcases i with _ | _ | _ | i
  · obtain rfl : (a, b) = p := by simpa using hp
    exact ⟨by simp [go_sem], by simp [go_sem]⟩
  · obtain rfl : (c, d) = p := by simpa using hp
    exact ⟨by simp [go_sem], by simp [go_sem]⟩
  · obtain rfl : (e, f) = p := by simpa using hp
    exact ⟨by simp [go_sem], by simp [go_sem]⟩
  · simp at hp

set_option maxHeartbeats 1000000 in
theorem alive_any (w : World) : Calls Try.prog 9 #[] w fun e w' => e = .returned (.bool true) ∧ Below w.heap.size w w' := by
  go_enter Try.func9, Try.ntmps9
  go_wp2_with fail
  (go_at_call 10; refine (make_any _ _ 3 [(3, 5), (0, 3), (9, 8)] (spans_three _) (by simp)).mono ?_; rintro e w1 ⟨A, c, m, rfl, hs, hc, _, hb⟩)
  obtain rfl := ex_make hc
  have HS := Lib.hid hs
  clear hs hc
  have hs1 := hb.size
  simp only [World.size_alloc] at hs1
  go_wp2_with fail
  refine (same_any _ A _ c 1 [(0, 5)] [(0, 5)] (HS.out.below ((Below.refl _ _).alloc (Nat.le_refl _) _)) (spans_one _) (by simp)).mono ?_
  rintro e w2 ⟨rfl, hb2⟩
  have hs2 := hb2.size
  simp only [World.size_alloc] at hs2
  go_wp2_with fail
  (go_at_call 23; refine (gaps_any _ 0 9 _ 1 [(2, 3)] (spans_one _) (by simp)).mono ?_; rintro e w3 ⟨A', c', m, rfl, hs', hc, _, hb3⟩)
  obtain rfl := ex_gaps hc
  have HS' := Lib.hid hs'
  clear hs' hc
  have hs3 := hb3.size
  simp only [World.size_alloc] at hs3
  go_wp2_with fail
  refine (same_any _ A' _ c' 2 [(0, 2), (3, 9)] [(0, 2), (3, 9)] (HS'.out.below ((Below.refl _ _).alloc (Nat.le_refl _) _)) (spans_two _) (by simp)).mono ?_
  rintro e w4 ⟨rfl, hb4⟩
  go_wp2_with fail
  go_ret
  have b0 : Below w.heap.size w (w.alloc (.cells #[.int .i64 3, .int .i64 5, .int .i64 0, .int .i64 3, .int .i64 9, .int .i64 8] 36)) := (bl _).alloc (Nat.le_refl _) _
  have b1 := b0.trans (hb.mono (by simp))
  have b2 := (b1.alloc b1.size _).trans (hb2.mono (by simp; omega))
  have b3 := (b2.alloc b2.size _).trans (hb3.mono (by simp; omega))
  exact ⟨rfl, (b3.alloc b3.size _).trans (hb4.mono (by simp; omega))⟩

end Go.Proofs.Ytmfkcbanjlmmhaa
