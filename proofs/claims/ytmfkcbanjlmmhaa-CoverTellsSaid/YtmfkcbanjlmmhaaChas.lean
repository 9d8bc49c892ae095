/-
  Has and Long of cover: has the list the time; how many times it has.
-/
import Derived.Test.YtmfkcbanjlmmhaaCdoc
namespace Go.Proofs.Ytmfkcbanjlmmhaa
open Go.RowKit Go.Sort Go.Shelf

set_option maxHeartbeats 2000000 in
theorem hasf_any (w : World) (b : Nat) (f t x : Int) (hb : w.cell? ⟨b, 0, none⟩ = some (.int .i64 x)) :
    Calls Try.prog 38 #[sp f t, .pointer (some ⟨b, 0, none⟩)] w fun e w' => e = .returned (.bool (rightB f t && hasB f t x)) ∧ Below w.heap.size w w' := by
  have hx0 := keepc ((bl w).alloc (Nat.le_refl _) (.cells #[.int .i64 f, .int .i64 t] 36)) hb
  have HY := Lib.hid (show Below w.heap.size w (w.alloc (.cells #[.int .i64 f, .int .i64 t] 36)) from (bl _).alloc (Nat.le_refl _) _)
  cases hr : rightB f t
  · go_enter Try.func38, Try.ntmps38
    go_wp2_with (go_at_call 29; refine (right_any _ _ _).mono ?_; rintro e w1 ⟨rfl, hb1⟩)
    go_ret
    exact ⟨rfl, chain HY.out hb1⟩
  · go_enter Try.func38, Try.ntmps38
    go_wp2_with fail
    (go_at_call 29; refine (right_any _ _ _).mono ?_; rintro e w1 ⟨rfl, hb1⟩)
    have a0 : w1.cell? ⟨w.heap.size, 0, none⟩ = some (.int .i64 f) := keepc hb1 (by simp [go_sem])
    have a1 : w1.cell? ⟨w.heap.size, 1, none⟩ = some (.int .i64 t) := keepc hb1 (by simp [go_sem])
    have a2 := keepc hb1 hx0
    go_wp2_with (go_at_call 39; refine (has_any _ _ _ _).mono ?_; rintro e w2 ⟨rfl, hb2⟩)
    go_ret
    exact ⟨rfl, chain HY.out (chain hb1 hb2)⟩

/-- What IndexFunc leaves. -/
def IdxPost (l : List Sp) (x : Int) (w : World) (e : Ending) (w' : World) : Prop := ∃ r : Int, e = .returned (.int .i64 r) ∧ decide (0 ≤ r) = memB l x ∧ Below w.heap.size w w'

set_option maxHeartbeats 4000000 in
theorem indexf_any (w : World) (A : Option Addr) (c b : Nat) (l : List Sp) (x : Int) (hb : w.cell? ⟨b, 0, none⟩ = some (.int .i64 x)) (hl : Spans w A l) (hn : l.length ≤ 9223372036854775806) :
    Calls Try.prog 48 #[.slice A l.length c, .func (.func 38) #[] #[.pointer (some ⟨b, 0, none⟩)]] w (IdxPost l x w) := by
  have HL := Lib.hid hl
  clear hl
  obtain ⟨n, hnm⟩ : ∃ n, n = l.length := ⟨_, rfl⟩
  rw [← hnm]
  have hn' : n ≤ 9223372036854775806 := by omega
  have HN := Lib.hid hnm
  clear hnm hn
  go_enter Try.func48, Try.ntmps48
  go_wp2_with fail
  go_loopw [8] (fun i wr => ∃ k : Nat, k ≤ n ∧ i = .int .i64 k ∧ memB (l.take k) x = false ∧ Below w.heap.size w wr) (fun i _ => n - (intOf i).toNat)
  case atStart => exact ⟨0, Nat.zero_le _, rfl, by simp [memB], bl _⟩
  case round =>
    obtain ⟨k, hk, rfl, hc, hB⟩ := hrel
    have HC := Lib.hid hc
    have HB := Lib.hid hB
    clear hc hB
    by_cases hlt : k < n
    · obtain ⟨⟨f, t⟩, hp⟩ : ∃ p, l[k]? = some p := ⟨_, List.getElem?_eq_getElem (by have := HN.out; omega)⟩
      obtain ⟨g, off, rfl, c0, c1⟩ := HL.out.at hp
      have d0 := keepc HB.out c0
      have d1 := keepc HB.out c1
      have d2 := keepc HB.out hb
      have NX := Lib.hid (mem_take_succ hp x)
      have HP := Lib.hid hp
      clear c0 c1 hp
      have CF := hasf_any wr b f t x d2
      cases hr : (rightB f t && hasB f t x)
      · rw [hr] at CF
        go_wp2_with (go_at_call 38; refine CF.mono ?_; rintro e w1 ⟨rfl, hb1⟩)
        go_roundw
        case rel => exact ⟨k + 1, by omega, by go_num, by rw [NX.out, HC.out]; simpa using hr, chain HB.out hb1⟩
        case measure => simp [intOf]; omega
      · rw [hr] at CF
        go_wp2_with (go_at_call 38; refine CF.mono ?_; rintro e w1 ⟨rfl, hb1⟩)
        go_ret
        have hr2 : rightB f t = true ∧ hasB f t x = true := by simpa using hr
        exact ⟨k, rfl, by rw [mem_found HP.out hr2.1 hr2.2]; simp, chain HB.out hb1⟩
    · go_wp2_with fail
      go_ret
      exact ⟨-1, rfl, by have := HC.out; rw [List.take_of_length_le (by have := HN.out; omega)] at this; rw [this]; rfl, HB.out⟩

set_option maxHeartbeats 1000000 in
theorem hasl_any (w : World) (A : Option Addr) (c : Nat) (l : List Sp) (x : Int) (hl : Spans w A l) (hn : l.length ≤ 9223372036854775806) :
    Calls Try.prog 19 #[.slice A l.length c, .int .i64 x] w fun e w' => e = .returned (.bool (memB l x)) ∧ Below w.heap.size w w' := by
  have hb0 : Below w.heap.size w (w.alloc (.cells #[.int .i64 x] 3)) := (bl _).alloc (Nat.le_refl _) _
  have hcl : (w.alloc (.cells #[.int .i64 x] 3)).cell? ⟨w.heap.size, 0, none⟩ = some (.int .i64 x) := by simp [go_sem]
  have CI : Calls Try.prog 37 #[.slice A l.length c, .func (.func 38) #[] #[.pointer (some ⟨w.heap.size, 0, none⟩)]] (w.alloc (.cells #[.int .i64 x] 3)) fun e w' => e = .returned (.bool (memB l x)) ∧ Below w.heap.size w w' := by
    go_enter Try.func37, Try.ntmps37
    go_wp2_with (go_at_call 48; refine (indexf_any _ _ _ _ l x hcl (hl.below hb0) hn).mono ?_; rintro e w1 ⟨r, rfl, hr, hb1⟩)
    go_ret
    exact ⟨rfl, chain hb0 hb1⟩
  clear hb0 hcl hl hn
  go_enter Try.func19, Try.ntmps19
  go_wp2_with (go_at_call 37; refine CI.mono ?_; rintro e w1 ⟨rfl, hb1⟩)
  go_ret
  exact ⟨rfl, hb1⟩

set_option maxHeartbeats 2000000 in
theorem longl_any (w : World) (A : Option Addr) (c : Nat) (l : List Sp) (hl : Spans w A l) (hn : l.length ≤ 1000000) :
    Calls Try.prog 21 #[.slice A l.length c] w (LongPost (Mem l) w) := by
  go_enter Try.func21, Try.ntmps21
  go_wp2_with (go_at_call 10; refine (make_any _ _ _ _ hl hn).mono ?_; rintro e w1 ⟨A1, c1, m, rfl, hsp, hc, hl1, hb⟩)
  obtain ⟨n, hnm⟩ : ∃ n, n = m.length := ⟨_, rfl⟩
  rw [← hnm] at hl1 ⊢
  have hn1 : n ≤ 1000000 := by omega
  have HN := Lib.hid hnm
  have HS := Lib.hid hsp
  have HC := Lib.hid hc
  have HB := Lib.hid hb
  clear hnm hsp hc hb hl hl1 hn
  go_wp2_with fail
  go_loopw [3, 9] (fun s i wr => ∃ k : Nat, k ≤ n ∧ i = .int .i64 k ∧ s = .int .i64 (lens (m.take k)) ∧ Below w1.heap.size w1 wr) (fun _ i _ => n - (intOf i).toNat)
  case atStart => exact ⟨0, Nat.zero_le _, rfl, by simp [lens], bl _⟩
  case round =>
    obtain ⟨k, hk, rfl, rfl, hB⟩ := hrel
    have HBR := Lib.hid hB
    clear hB
    by_cases hlt : k < n
    · obtain ⟨⟨f, t⟩, hp⟩ : ∃ p, m[k]? = some p := ⟨_, List.getElem?_eq_getElem (by have := HN.out; omega)⟩
      obtain ⟨g, off, rfl, c0, c1⟩ := HS.out.at hp
      have d0 := keepc HBR.out c0
      have d1 := keepc HBR.out c1
      obtain ⟨h1, h2, h3, h4⟩ := lens_next HC.out.1 hp
      obtain ⟨s1, hs1⟩ : ∃ s, lens (m.take (k + 1)) = s := ⟨_, rfl⟩
      obtain ⟨s0, hs0⟩ : ∃ s, lens (m.take k) = s := ⟨_, rfl⟩
      rw [hs0] at h1 ⊢
      rw [hs1] at h1 h3 h4
      have HS1 := Lib.hid hs1
      have hlong : longI f t = t - f := by simp [longI, h2]
      have h5 : s0 + (t - f) = s1 := h1.symm
      have hw : IntKind.i64.wrap (s0 + (t - f)) = s1 := by rw [h5]; exact IntWalk.i64_in _ (by omega)
      have CL : ∀ W, Calls Try.prog 41 #[sp f t] W (fun e w' => e = .returned (.int .i64 (t - f)) ∧ Below W.heap.size W w') := fun W => by rw [← hlong]; exact long_any f t W
      obtain ⟨d, hd⟩ : ∃ d, t - f = d := ⟨_, rfl⟩
      rw [hd] at hw CL
      have HY := Lib.hid (show Below wr.heap.size wr (wr.alloc (.cells #[.int .i64 f, .int .i64 t] 36)) from (bl _).alloc (Nat.le_refl _) _)
      clear h1 h5 hlong hs1 hs0 hd h3 h4 c0 c1 hp h2
      go_wp2_with (go_at_call 41; refine (CL _).mono ?_; rintro e w2 ⟨rfl, hb2⟩)
      go_roundw
      case rel => exact ⟨k + 1, by omega, by go_num, by rw [HS1.out], chain HBR.out (chain HY.out hb2)⟩
      case measure => simp [intOf]; omega
    · go_wp2_with fail
      go_ret
      exact ⟨m, HC.out, by rw [List.take_of_length_le (by have := HN.out; omega)]; rfl, chain HB.out HBR.out⟩

end Go.Proofs.Ytmfkcbanjlmmhaa
