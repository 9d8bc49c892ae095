/-
  The program's Of and At.
-/
import Derived.Test.YtjpkeadnccodjaaVpof
namespace Go.Proofs.Ytjpkeadnccodjaa
open Go.RowKit

theorem of1_any (v : Vr) (w : World) : Calls Try.prog 28 (#[vv v] ++ #[]) w fun e w' => e = .returned (.bool true) ∧ Below w.heap.size w w' := by
  show Calls Try.prog 28 #[vv v] w _
  obtain ⟨id, st, ent, sf, se, fa, fc, fs, gone⟩ := v
  go_enter Try.func28, Try.ntmps28
  go_wp2_with fail
  go_ret
  exact ⟨rfl, (bl w).alloc (Nat.le_refl _) _⟩

set_option maxHeartbeats 1000000 in
theorem pof_any (w : World) (u : Value) (l : List Vr) (hl : VersL w u l) (hf : fewV l) (hok : ∀ v ∈ l, okF v.fs) : Calls Try.prog 14 #[u] w fun e w' => ∃ x, e = .returned x ∧ ListF w' x (ofL l) ∧ Below w.heap.size w w' := by
  have CM := Lib.hid (pover_meant (g := 28) (cb := #[]) (p := fun _ => true) (enters_of Try.func28 (by kernel_rfl) rfl) w u l hl hf hok (fun v w' _ => of1_any v w'))
  rw [meant_all] at CM
  obtain ⟨⟨A, c, rfl, _⟩, _⟩ := hl
  go_enter Try.func14, Try.ntmps14
  go_wp2_with (go_at_call 27; (with_reducible refine CM.out.mono ?_); rintro e w1 ⟨x1, rfl, hl1, hb1⟩)
  go_ret
  exact ⟨_, rfl, hl1, hb1⟩

set_option maxHeartbeats 1000000 in
theorem pright_any (f t : Int) (w : World) : Ret 33 #[.agg #[.int .i64 f, .int .i64 t]] w (.bool (rightS f t)) := by
  by_cases h1 : -1099511627776 ≤ f
  · by_cases h3 : f < t
    · by_cases h2 : t ≤ 1099511627776
      · have HE := Lib.hid (show rightS f t = true by simp [rightS, h1, h2, h3])
        go_enter Try.func33, Try.ntmps33
        go_wp2_with fail
        go_ret
        exact ⟨ret_bool HE.out.symm, by (repeat (first | exact (bl w) | refine belowN ?_ _ | refine Below.alloc ?_ (by have hsz := Below.size (bl w); first | omega | (simp; done) | (simp; omega) | (simp at hsz ⊢; omega)) _))⟩
      · have HE := Lib.hid (show rightS f t = false by simp [rightS, h2])
        go_enter Try.func33, Try.ntmps33
        go_wp2_with fail
        go_ret
        exact ⟨ret_bool HE.out.symm, by (repeat (first | exact (bl w) | refine belowN ?_ _ | refine Below.alloc ?_ (by have hsz := Below.size (bl w); first | omega | (simp; done) | (simp; omega) | (simp at hsz ⊢; omega)) _))⟩
    · have HE := Lib.hid (show rightS f t = false by simp [rightS, h3])
      go_enter Try.func33, Try.ntmps33
      go_wp2_with fail
      go_ret
      exact ⟨ret_bool HE.out.symm, by (repeat (first | exact (bl w) | refine belowN ?_ _ | refine Below.alloc ?_ (by have hsz := Below.size (bl w); first | omega | (simp; done) | (simp; omega) | (simp at hsz ⊢; omega)) _))⟩
  · have HE := Lib.hid (show rightS f t = false by simp [rightS, h1])
    go_enter Try.func33, Try.ntmps33
    go_wp2_with fail
    go_ret
    exact ⟨ret_bool HE.out.symm, by (repeat (first | exact (bl w) | refine belowN ?_ _ | refine Below.alloc ?_ (by have hsz := Below.size (bl w); first | omega | (simp; done) | (simp; omega) | (simp at hsz ⊢; omega)) _))⟩
set_option maxHeartbeats 1000000 in
theorem phas_any (f t x : Int) (w : World) : Ret 34 #[.agg #[.int .i64 f, .int .i64 t], .int .i64 x] w (.bool (hasS f t x)) := by
  by_cases h1 : f ≤ x
  · by_cases h2 : x < t
    · have HE := Lib.hid (show hasS f t x = true by simp [hasS, h1, h2])
      go_enter Try.func34, Try.ntmps34
      go_wp2_with fail
      go_ret
      exact ⟨ret_bool HE.out.symm, by (repeat (first | exact (bl w) | refine belowN ?_ _ | refine Below.alloc ?_ (by have hsz := Below.size (bl w); first | omega | (simp; done) | (simp; omega) | (simp at hsz ⊢; omega)) _))⟩
    · have HE := Lib.hid (show hasS f t x = false by simp [hasS, h2])
      go_enter Try.func34, Try.ntmps34
      go_wp2_with fail
      go_ret
      exact ⟨ret_bool HE.out.symm, by (repeat (first | exact (bl w) | refine belowN ?_ _ | refine Below.alloc ?_ (by have hsz := Below.size (bl w); first | omega | (simp; done) | (simp; omega) | (simp at hsz ⊢; omega)) _))⟩
  · have HE := Lib.hid (show hasS f t x = false by simp [hasS, h1])
    go_enter Try.func34, Try.ntmps34
    go_wp2_with fail
    go_ret
    exact ⟨ret_bool HE.out.symm, by (repeat (first | exact (bl w) | refine belowN ?_ _ | refine Below.alloc ?_ (by have hsz := Below.size (bl w); first | omega | (simp; done) | (simp; omega) | (simp at hsz ⊢; omega)) _))⟩

set_option maxHeartbeats 4000000 in
theorem at1_any (v : Vr) (b : Nat) (x : Int) (w : World) (hx : w.cell? ⟨b, 0, none⟩ = some (.int .i64 x)) : Calls Try.prog 32 (#[vv v] ++ #[.pointer (some ⟨b, 0, none⟩)]) w fun e w' => e = .returned (.bool (rightS v.sf v.se && hasS v.sf v.se x)) ∧ Below w.heap.size w w' := by
  show Calls Try.prog 32 #[vv v, .pointer (some ⟨b, 0, none⟩)] w _
  obtain ⟨id, st, ent, sf, se, fa, fc, fs, gone⟩ := v
  have CR := Lib.hid (fun w => pright_any sf se w)
  have CH := Lib.hid (fun w => phas_any sf se x w)
  have HB := Lib.hid ((bl w).alloc (Nat.le_refl _) (ocV ⟨id, st, ent, sf, se, fa, fc, fs, gone⟩))
  have HX := Lib.hid (fun w' (h : Below w.heap.size w w') => keepc h hx)
  clear hx
  simp only
  cases hr : rightS sf se with
  | false =>
    rw [hr] at CR
    clear hr
    go_enter Try.func32, Try.ntmps32
    go_wp2_with (go_at_call 33; (with_reducible refine (CR.out _).mono ?_); rintro e w2 ⟨rfl, hb2⟩)
    go_ret
    exact ⟨rfl, chain HB.out hb2⟩
  | true =>
    rw [hr] at CR
    clear hr
    generalize hasS sf se x = hb at *
    go_enter Try.func32, Try.ntmps32
    go_wp2_with (first
      | (go_at_call 33; (with_reducible refine (CR.out _).mono ?_); rintro e w2 ⟨rfl, hb2⟩; have k3 : w2.cell? ⟨w.heap.size, 3, none⟩ = some (.int .i64 sf) := keepc hb2 (by simp [go_sem]); have k4 : w2.cell? ⟨w.heap.size, 4, none⟩ = some (.int .i64 se) := keepc hb2 (by simp [go_sem]); have kx := HX.out w2 (chain HB.out hb2))
      | (go_at_call 34; (with_reducible refine (CH.out _).mono ?_); rintro e w3 ⟨rfl, hb3⟩))
    go_ret
    exact ⟨by simp, chain HB.out (chain hb2 hb3)⟩

set_option maxHeartbeats 1000000 in
theorem pat_any (w : World) (t : Int) (u : Value) (l : List Vr) (hl : VersL w u l) (hf : fewV l) (hok : ∀ v ∈ l, okF v.fs) : Calls Try.prog 18 #[.int .i64 t, u] w fun e w' => ∃ x, e = .returned x ∧ ListF w' x (atL t l) ∧ Below w.heap.size w w' := by
  have hb0 : Below w.heap.size w (w.alloc (.cells #[.int .i64 t] 3)) := (bl w).alloc (Nat.le_refl _) _
  have CM := pover_meant (g := 32) (cb := #[.pointer (some ⟨w.heap.size, 0, none⟩)]) (p := fun v => rightS v.sf v.se && hasS v.sf v.se t) (enters_of Try.func32 (by kernel_rfl) rfl) (w.alloc (.cells #[.int .i64 t] 3)) u l (hl.below hb0) hf hok (fun v w' h => at1_any v w.heap.size t w' (keepc h (by simp [go_sem])))
  rw [meant_at] at CM
  have CM := Lib.hid CM
  have HB := Lib.hid hb0
  obtain ⟨⟨A, c, rfl, _⟩, _⟩ := hl
  clear hb0
  go_enter Try.func18, Try.ntmps18
  go_wp2_with (go_at_call 27; (with_reducible refine CM.out.mono ?_); rintro e w1 ⟨x1, rfl, hl1, hb1⟩)
  go_ret
  exact ⟨_, rfl, hl1, chain HB.out hb1⟩

end Go.Proofs.Ytjpkeadnccodjaa
