/-
  The document's Make, Gaps and Long.
-/
import Derived.Test.YtmfkcbanjlmmhaaCof
namespace Go.Proofs.Ytmfkcbanjlmmhaa
open Go.RowKit

theorem kind_make (l : List Sp) (x : Int) : KindP 0 l [] x ↔ Mem l x := by simp [KindP, kindB, memB_iff, show memB [] x = false from rfl]

theorem CovPost.weaken {S T : Int → Prop} {K : Nat} {w w0 : World} {e : Ending} {w' : World} (h : CovPost S K w e w') (hs : ∀ x, S x ↔ T x) (hb : Below w0.heap.size w0 w) : CovPost T K w0 e w' := by
  obtain ⟨A, c, m, he, hsp, hc, hl, hb'⟩ := h
  exact ⟨A, c, m, he, hsp, ⟨hc.1, fun x => (hc.2 x).trans (hs x)⟩, hl, chain hb hb'⟩

set_option maxHeartbeats 1000000 in
theorem dmake_any (w : World) (A : Option Addr) (c : Nat) (l : List Sp) (hl : Spans w A l) (hA : A = none → c = 0) (hn : l.length ≤ 400) :
    Calls Try.prog 12 #[.slice A l.length c] w (CovPost (Mem l) 1000 w) := by
  have C := of_any w A none c 0 l [] 0 (.inl rfl) hl (Spans.nil _ _) hA (fun _ => rfl) (by simpa using hn)
  simp only [List.length_nil] at C
  go_enter Try.func12, Try.ntmps12
  go_wp2_with (go_at_call 16; refine C.mono ?_; rintro e w1 hp; obtain ⟨A1, c1, m, rfl, hsp, hc, hl1, hb⟩ := hp)
  go_ret
  exact ⟨A1, c1, m, rfl, hsp, ⟨hc.1, fun x => (hc.2 x).trans (kind_make l x)⟩, hl1, hb⟩

theorem spans_one {w : World} {f t : Int} (ty : TypeId) : Spans (w.alloc (.cells #[.int .i64 f, .int .i64 t] ty)) (some ⟨w.heap.size, 0, none⟩) [(f, t)] := fun i p hp => by
  rcases i with _ | i
  · obtain rfl : (f, t) = p := by simpa using hp
    exact ⟨_, _, rfl, by simp [go_sem], by simp [go_sem]⟩
  · simp at hp

set_option maxHeartbeats 1000000 in
theorem dgaps_any (w : World) (f t : Int) (A : Option Addr) (c : Nat) (l : List Sp) (hl : Spans w A l) (hA : A = none → c = 0) (hn : l.length ≤ 300) :
    Calls Try.prog 24 #[sp f t, .slice A l.length c] w (CovPost (KindP 2 [(f, t)] l) 1000 w) := by
  have HB := Lib.hid (show Below w.heap.size w (w.alloc (.cells #[.int .i64 f, .int .i64 t] 36)) from (bl w).alloc (Nat.le_refl _) _)
  obtain ⟨w1, hw1⟩ : ∃ W, w.alloc (.cells #[.int .i64 f, .int .i64 t] 36) = W := ⟨_, rfl⟩
  have a0 : w1.cell? ⟨w.heap.size, 0, none⟩ = some (.int .i64 f) := by rw [← hw1]; simp [go_sem]
  have a1 : w1.cell? ⟨w.heap.size, 1, none⟩ = some (.int .i64 t) := by rw [← hw1]; simp [go_sem]
  have HW := Lib.hid hw1
  rw [hw1] at HB
  clear hw1
  have HL := Lib.hid (hl.below (HB.out))
  clear hl
  go_enter Try.func24, Try.ntmps24
  go_upto_region 1 with fail
  rw [HW.out]
  go_wp2_with fail
  have hb2 : Below w1.heap.size w1 (w1.alloc (.cells #[.int .i64 f, .int .i64 t] 36)) := (bl w1).alloc (Nat.le_refl _) _
  have C := of_any _ _ A 1 c [(f, t)] l 2 (.inr (.inr rfl)) (spans_one (w := w1) (f := f) (t := t) 36) (HL.out.below hb2) (fun h => by cases h) hA (by simp; omega)
  have HB2 := Lib.hid hb2
  clear hb2
  go_at_call 16
  refine C.mono ?_
  rintro e w2 ⟨A1, c1, m, rfl, hsp, hc, hl1, hb⟩
  clear C
  go_wp2_with fail
  go_ret
  exact ⟨A1, c1, m, rfl, hsp, hc, hl1, chain HB.out (chain HB2.out hb)⟩

theorem Cov.take {l : List Sp} (h : Cov l) (k : Nat) : Cov (l.take k) := ⟨fun p hp => h.1 p (List.mem_of_mem_take hp), h.2.sublist (List.take_sublist _ _)⟩
/-- What a loop has added up. -/
theorem lens_next {m : List Sp} (h : Cov m) {k : Nat} {f t : Int} (hp : m[k]? = some (f, t)) : lens (m.take (k + 1)) = lens (m.take k) + (t - f) ∧ rightB f t = true ∧ 0 ≤ lens (m.take (k + 1)) ∧ lens (m.take (k + 1)) ≤ 2199023255552 := by
  refine ⟨?_, h.1 _ (List.mem_of_getElem? hp), (lens_nonneg (h.take (k + 1))).1, (lens_nonneg (h.take (k + 1))).2⟩
  rw [take_snoc hp, lens_snoc]

/-- What Long leaves. -/
def LongPost (S : Int → Prop) (w : World) (e : Ending) (w' : World) : Prop := ∃ m, CovOf m S ∧ e = .returned (.int .i64 (lens m)) ∧ Below w.heap.size w w'

set_option maxHeartbeats 2000000 in
theorem dlongl_any (w : World) (A : Option Addr) (c : Nat) (l : List Sp) (hl : Spans w A l) (hA : A = none → c = 0) (hn : l.length ≤ 400) :
    Calls Try.prog 22 #[.slice A l.length c] w (LongPost (Mem l) w) := by
  go_enter Try.func22, Try.ntmps22
  go_wp2_with (go_at_call 12; refine (dmake_any _ _ _ _ hl hA hn).mono ?_; rintro e w1 ⟨A1, c1, m, rfl, hsp, hc, hl1, hb⟩)
  obtain ⟨n, hnm⟩ : ∃ n, n = m.length := ⟨_, rfl⟩
  rw [← hnm] at hl1 ⊢
  have HN := Lib.hid hnm
  have HS := Lib.hid hsp
  have HC := Lib.hid hc
  have HB := Lib.hid hb
  clear hnm hsp hc hb hl hA
  go_wp2_with fail
  go_loopw [3, 5] (fun s i wr => ∃ k : Nat, k ≤ n ∧ i = .int .i64 k ∧ s = .int .i64 (lens (m.take k)) ∧ Below w1.heap.size w1 wr) (fun _ i _ => n - (intOf i).toNat)
  case atStart => exact ⟨0, Nat.zero_le _, rfl, by simp [lens], bl _⟩
  case round =>
    obtain ⟨k, hk, rfl, rfl, hB⟩ := hrel
    have HBR := Lib.hid hB
    clear hB
    by_cases hlt : k < n
    · obtain ⟨⟨f, t⟩, hp⟩ : ∃ p, m[k]? = some p := ⟨_, List.getElem?_eq_getElem (by have := HN.out; omega)⟩
      obtain ⟨g, off, rfl, c0, c1⟩ := HS.out.at hp
      have d0 := keepc HBR.out c0
      have d1 := keepc HBR.out c1
      obtain ⟨h1, h2, h3, h4⟩ := lens_next HC.out.1 hp
      obtain ⟨s1, hs1⟩ : ∃ s, lens (m.take (k + 1)) = s := ⟨_, rfl⟩
      obtain ⟨s0, hs0⟩ : ∃ s, lens (m.take k) = s := ⟨_, rfl⟩
      rw [hs0] at h1 ⊢
      rw [hs1] at h1 h3 h4
      have HS1 := Lib.hid hs1
      have hlong : longI f t = t - f := by simp [longI, h2]
      have h5 : s0 + (t - f) = s1 := h1.symm
      have hw : IntKind.i64.wrap (s0 + (t - f)) = s1 := by rw [h5]; exact IntWalk.i64_in _ (by omega)
      have CL : ∀ W, Calls Try.prog 42 #[sp f t] W (fun e w' => e = .returned (.int .i64 (t - f)) ∧ Below W.heap.size W w') := fun W => by rw [← hlong]; exact dlong_any f t W
      obtain ⟨d, hd⟩ : ∃ d, t - f = d := ⟨_, rfl⟩
      rw [hd] at hw CL
      clear h1 h5 hlong hs1 hs0 hd h3 h4 c0 c1 hp h2
      go_wp2_with (go_at_call 42; refine (CL _).mono ?_; rintro e w2 ⟨rfl, hb2⟩)
      go_roundw
      case rel => exact ⟨k + 1, by omega, by go_num, by rw [HS1.out], chain HBR.out hb2⟩
      case measure => simp [intOf]; omega
    · go_wp2_with fail
      go_ret
      exact ⟨m, HC.out, by rw [List.take_of_length_le (by have := HN.out; omega)]; rfl, chain HB.out HBR.out⟩

end Go.Proofs.Ytmfkcbanjlmmhaa
