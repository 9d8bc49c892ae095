/-
  A set that is put in its place, and turned in the other one: put.
-/
import Derived.Test.YtegmegapkfbkeaaDoorNarrow
namespace Go.Proofs.YtegmegapkfbkeaaDoor
open Go.RowKit

theorem NetAt.put {w : World} {P G n N p v : Nat} {T : Nat → Nat} (h : NetAt w P G n N T) (hp : p < N) : NetAt (w.setCell ⟨G, p, none⟩ (.int .i64 v)) P G n N (upd T p v) := by
  have oth : ∀ o, (w.setCell ⟨G, p, none⟩ (.int .i64 v)).cell? ⟨P, o, none⟩ = w.cell? ⟨P, o, none⟩ := fun o => World.cell?_setCell_other w _ _ _ (by simp; intro e; exact absurd e.symm h.other)
  exact ⟨⟨(oth _).trans h.head.1, (oth _).trans h.head.2⟩, ⟨by simpa [World.setCell] using h.comp.1, fun r s hr hs => (oth _).trans (h.comp.2 r s hr hs)⟩, h.sets.put hp, h.other⟩
theorem NetAt.drew {w : World} {P G n N : Nat} {T : Nat → Nat} (h : NetAt w P G n N T) : NetAt w.drew P G n N T := h.step ((Below.refl _ _).drew)

def PutPost (w : World) (P G n N : Nat) (T : Nat → Nat) (e : Ending) (w' : World) : Prop := e = .returned (.tuple #[]) ∧ NetAt w' P G n N T ∧ ∀ B, B ≤ G → Below B w w'
abbrev Cells2 (w : World) (P G n N : Nat) : Prop := w.cell? ⟨P, 0, none⟩ = some (.int .i64 n) ∧ w.cell? ⟨P, 1, none⟩ = some (.slice (some ⟨G, 0, none⟩) N N)

set_option maxRecDepth 100000 in
set_option maxHeartbeats 4000000 in
theorem put_any (n i k s P G : Nat) (T : Nat → Nat) (hn : n ≤ 8) (hi : i < n) (hk : k < n) (w : World) (hN : NetAt w P G n (n * n) T) :
    Calls Tryd.prog 38 #[.pointer (some ⟨P, 0, none⟩), .int .i64 i, .int .i64 k, .int .i64 s] w (PutPost w P G n (n * n) (putN n T i k s)) := by
  have l1 := place_lt hi hk
  have l2 := place_lt hk hi
  have v1 := wrap_mul (show i ≤ 8 by omega) hn
  have v3 := wrap_mul (show k ≤ 8 by omega) hn
  have m1 := mul_le64 (show i ≤ 8 by omega) hn
  have m2 := mul_le64 (show k ≤ 8 by omega) hn
  have v2 := wrap_add (show i * n ≤ 1000 by omega) (show k ≤ 1000 by omega)
  have v4 := wrap_add (show k * n ≤ 1000 by omega) (show i ≤ 1000 by omega)
  have HP := hN.other
  have n1 := (hN.put (v := s) l1).drew
  have n2 := (n1.put (v := turnI s) l2).drew
  have H2 := Lib.hid n2
  have c1 := (hN.sets.2 _ l1).1
  have f1 := (hN.sets.2 _ l1).2
  have c2 := (n1.sets.2 _ l2).1
  have f2 := (n1.sets.2 _ l2).2
  have h0 := hN.head.1
  have h1 := hN.head.2
  have g0 := n1.head.1
  have g1 := n1.head.2
  have ln1 : ((i * n + k : Nat) : Int) < ((n * n : Nat) : Int) := by omega
  have ln2 : ((k * n + i : Nat) : Int) < ((n * n : Nat) : Int) := by omega
  have TA := Lib.hid (fun w' => turn_any s w')
  clear hN l1 l2 m1 m2 n1 n2
  have PN := Lib.hid (show putN n T i k s = upd (upd T (i * n + k) s) (k * n + i) (turnI s) from rfl)
  obtain ⟨N, eN⟩ : ∃ N, n * n = N := ⟨_, rfl⟩
  obtain ⟨p1, e1⟩ : ∃ p, i * n + k = p := ⟨_, rfl⟩
  obtain ⟨p2, e2⟩ : ∃ p, k * n + i = p := ⟨_, rfl⟩
  rw [eN] at h1 ln1 ln2 g1 H2 ⊢
  rw [e1] at v2 c1 f1 c2 f2 ln1 g0 g1 H2 PN
  rw [e2] at v4 c2 f2 ln2 H2 PN
  obtain ⟨a1, j1⟩ : ∃ a, i * n = a := ⟨_, rfl⟩
  obtain ⟨a2, j2⟩ : ∃ a, k * n = a := ⟨_, rfl⟩
  rw [j1] at v1 v2
  rw [j2] at v3 v4
  rw [PN.out]
  have E := Lib.hid (And.intro eN (And.intro e1 (And.intro e2 (And.intro j1 j2))))
  obtain ⟨x1, X1⟩ : ∃ x, T p1 = x := ⟨_, rfl⟩
  obtain ⟨x2, X2⟩ : ∃ x, upd T p1 s p2 = x := ⟨_, rfl⟩
  rw [X1] at c1
  rw [X2] at c2
  clear eN e1 e2 j1 j2 PN X1 X2
  obtain ⟨w1, hw1⟩ : ∃ w1, (w.setCell ⟨G, p1, none⟩ (.int .i64 s)).drew = w1 := ⟨_, rfl⟩
  rw [hw1] at c2 f2 g0 g1 H2
  have B1 : ∀ B, B ≤ G → Below B w w1 := fun B hB => by rw [← hw1]; exact ((Below.refl _ _).setCell hB _).drew
  have HB1 := Lib.hid B1
  have HW1 := Lib.hid hw1
  clear hw1 B1
  go_enter Tryd.func38, Tryd.ntmps38
  go_upto_region 0 with fail
  go_region_held3 (fun w' => Cells2 w' P G n N)
    (first | exact ⟨h0, h1⟩ | (rw [HW1.out]; exact ⟨g0, g1⟩) | fail)
    (fail)
  rw [HW1.out]
  go_upto_region 1 with fail
  go_region_held3 (fun w' => Cells2 w' P G n N)
    (first | exact ⟨g0, g1⟩ | exact ⟨H2.out.head.1, H2.out.head.2⟩ | fail)
    (first
      | (go_at_call 20; refine (TA.out _).mono ?_; rintro e w3 ⟨rfl, rfl⟩))
  go_wp2_with fail
  refine bodyPost_ret (v := .tuple #[]) (by simp [results, Tryd.results38, go_sem]) rfl ⟨rfl, H2.out, fun B hB => ?_⟩
  exact (HB1.out B hB).trans (((Below.refl _ _).setCell hB _).drew)

end Go.Proofs.YtegmegapkfbkeaaDoor
