/-
  The document's table of what follows of two relations, as the call makes it.
-/
import Derived.Test.YtegmegapkfbkeaaDoorTabP
import Derived.Test.YtegmegapkfbkeaaDoorWith
namespace Go.Proofs.YtegmegapkfbkeaaDoor
open Go.RowKit

/-- What lies while the table is made: the numbers in block g, the spans in block h. -/
def TbRel (w : World) (g h : Nat) (n : Nat) (wr : World) : Prop := ∃ T, TabTo n T ∧ Arr wr g T 169 ∧ SpansAt wr h spansL ∧ h < wr.heap.size ∧ Below w.heap.size w wr
theorem SpansAt.below {W w : World} {g B : Nat} {l : List (Int × Int)} (h : SpansAt W g l) (hg : g < B) (hb : Below B W w) : SpansAt w g l := fun i p hp =>
  ⟨(hb.cell (p := ⟨g, _, none⟩) hg).trans (h i p hp).1, (hb.cell (p := ⟨g, _, none⟩) hg).trans (h i p hp).2⟩
theorem TbRel.step {w wr w' : World} {g h n : Nat} (H : TbRel w g h n wr) (hb : Below wr.heap.size wr w') : TbRel w g h n w' := by
  obtain ⟨T, h1, h2, h3, h4, h5⟩ := H
  exact ⟨T, h1, h2.below h2.1 hb, h3.below h4 hb, Nat.lt_of_lt_of_le h4 hb.size, chain h5 hb⟩
/-- The two cells of the i-th span. -/
abbrev SpCell (w : World) (h i : Nat) : Prop := w.cell? ⟨h, i * 2, none⟩ = some (.int .i64 (spF i)) ∧ w.cell? ⟨h, i * 2 + 1, none⟩ = some (.int .i64 (spT i))
theorem TbRel.cell {w wr : World} {g h n i : Nat} (H : TbRel w g h n wr) (hi : i < 15) : SpCell wr h i := by
  obtain ⟨T, h1, h2, h3, h4, h5⟩ := H
  exact h3 i _ (spansL_get i hi)
theorem TbRel.put {w wr : World} {g h i j k : Nat} (hi : i < 15) (hj : j < 15) (hk : k < 15) (hgh : g ≠ h) (hg : w.heap.size ≤ g) (H : TbRel w g h (225 * i + 15 * j + k) wr) :
    ∃ x : Nat, x < 8192 ∧ wr.cell? ⟨g, 13 * relN i j + relN j k, none⟩ = some (.int .i64 x) ∧ wr.frozen? ⟨g, 13 * relN i j + relN j k, none⟩ = false ∧
      TbRel w g h (225 * i + 15 * j + (k + 1)) (wr.setCell ⟨g, 13 * relN i j + relN j k, none⟩ (.int .i64 ((x ||| 2 ^ relN i k : Nat) : Int))) := by
  obtain ⟨T, h1, h2, h3, h4, h5⟩ := H
  have e1 := (relN_eq hi hj).2
  have e2 := (relN_eq hj hk).2
  obtain ⟨c, f⟩ := h2.2 (13 * relN i j + relN j k) (by omega)
  refine ⟨_, h1.small _, c, f, _, h1.next hi hj hk, h2.put (by omega), fun i p hp => ?_, by simpa [World.setCell] using h4, h5.setCell hg _⟩
  obtain ⟨a, b⟩ := h3 i p hp
  exact ⟨(World.cell?_setCell_other wr _ _ _ (by simp [Ne.symm hgh])).trans a, (World.cell?_setCell_other wr _ _ _ (by simp [Ne.symm hgh])).trans b⟩

def TablePost (w : World) (e : Ending) (w' : World) : Prop := ∃ g T, e = .returned (.slice (some ⟨g, 0, none⟩) 169 169) ∧ Arr w' g T 169 ∧ (∀ r s, r < 13 → s < 13 → T (13 * r + s) = cmpN r s) ∧ w.heap.size ≤ g ∧ Below w.heap.size w w'

set_option maxRecDepth 100000 in
set_option maxHeartbeats 8000000 in
theorem table_any (w : World) : Calls Tryd.prog 16 #[] w (TablePost w) := by
  obtain ⟨w1, hmk, hA, hB⟩ := make_ints w 169 (by decide)
  have hmk' : (Instr.makeSlice 31 (.int .i64 169) (.int .i64 169)).run Tryd.prog w = .ok (.slice (some ⟨w.heap.size, 0, none⟩) 169 169) w1 := hmk
  have HA := Lib.hid hA
  have HB := Lib.hid hB
  clear hmk hA hB
  go_enter Tryd.func16, Tryd.ntmps16
  go_wp2_with fail
  (go_at_call 31; refine (spans_any _).mono ?_; rintro e w2 ⟨h, ch, rfl, hsp, hh1, hh2, hb2⟩)
  have hgh : w.heap.size ≠ h := by have := HA.out.1; omega
  have R0 : TbRel w w.heap.size h 0 w2 := ⟨_, TabTo.zero, HA.out.below HA.out.1 hb2, hsp, hh2, chain HB.out hb2⟩
  have R0 := Lib.hid R0
  rw [spansL_len]
  clear hsp hh1 hh2 hb2 hmk' HA HB
  go_wp2_with fail
  go_loopw [3] (fun i wr => ∃ x : Nat, x ≤ 15 ∧ i = .int .i64 x ∧ TbRel w w.heap.size h (225 * x) wr) (fun i _ => 15 - (intOf i).toNat)
  case atStart => exact ⟨0, Nat.zero_le _, rfl, R0.out⟩
  case round =>
    obtain ⟨x, hx, rfl, hR⟩ := hrel
    have HR := Lib.hid hR
    clear hR
    by_cases hlt : x < 15
    · have hltI : (x : Int) < 15 := by omega
      go_wp2_with fail
      go_loopw [4] (fun i wr => ∃ y : Nat, y ≤ 15 ∧ i = .int .i64 y ∧ TbRel w w.heap.size h (225 * x + 15 * y) wr) (fun i _ => 15 - (intOf i).toNat)
      case atStart => exact ⟨0, Nat.zero_le _, rfl, HR.out⟩
      case round =>
        obtain ⟨y, hy, rfl, hR⟩ := hrel
        have HR2 := Lib.hid hR
        clear hR
        by_cases hlt2 : y < 15
        · have hltJ : (y : Int) < 15 := by omega
          have mk : ∀ w', Below wr.heap.size wr w' → (Below wr.heap.size wr w' ∧ SpCell w' h x ∧ SpCell w' h y) := fun w' hb => ⟨hb, (HR2.out.step hb).cell hlt, (HR2.out.step hb).cell hlt2⟩
          have MK := Lib.hid mk
          have OF := Lib.hid (of_sp hlt hlt2)
          clear mk
          go_wp2_with fail
          go_region_held3 (fun w' => Below wr.heap.size wr w' ∧ SpCell w' h x ∧ SpCell w' h y)
            (first | exact MK.out _ ((Below.refl _ _).drew) | (go_split_ands; exact MK.out _ (chain (by assumption) hb3)) | fail)
            (first
              | (go_at_call 10; refine (dof_any _ _ _ _ _).mono ?_; rintro e w3 ⟨rfl, hb3⟩; rw [OF.out.1, OF.out.2]))
          have hfin : Below wr.heap.size wr w3 := by go_split_ands; assumption
          have HR3 := Lib.hid (HR2.out.step hfin)
          have E1 := relN_eq hlt hlt2
          have e1 := E1.2
          clear E1 hfin MK OF
          go_wp2_with fail
          go_loopw [7] (fun i wr => ∃ z : Nat, z ≤ 15 ∧ i = .int .i64 z ∧ TbRel w w.heap.size h (225 * x + 15 * y + z) wr) (fun i _ => 15 - (intOf i).toNat)
          case atStart => exact ⟨0, Nat.zero_le _, rfl, HR3.out⟩
          case round =>
            obtain ⟨z, hz, rfl, hR⟩ := hrel
            have HR4 := Lib.hid hR
            clear hR
            by_cases hlt3 : z < 15
            · have hltK : (z : Int) < 15 := by omega
              have mk : ∀ w', Below wr.heap.size wr w' → (Below wr.heap.size wr w' ∧ SpCell w' h x ∧ SpCell w' h y ∧ SpCell w' h z) := fun w' hb => ⟨hb, (HR4.out.step hb).cell hlt, (HR4.out.step hb).cell hlt2, (HR4.out.step hb).cell hlt3⟩
              have MK := Lib.hid mk
              have OF := Lib.hid (of_sp hlt2 hlt3)
              have OF2 := Lib.hid (of_sp hlt hlt3)
              have PUT := Lib.hid (fun w' (hb : Below wr.heap.size wr w') => (HR4.out.step hb).put hlt hlt2 hlt3 hgh (Nat.le_refl _))
              have e2 := (relN_eq hlt2 hlt3).2
              have e3 := (relN_eq hlt hlt3).2
              clear mk
              go_wp2_with fail
              go_region_held3 (fun w' => Below wr.heap.size wr w' ∧ SpCell w' h x ∧ SpCell w' h y ∧ SpCell w' h z)
                (first | exact MK.out _ ((Below.refl _ _).drew) | (go_split_ands; exact MK.out _ (chain (by assumption) hb3)) | fail)
                (first
                  | (go_at_call 10; refine (dof_any _ _ _ _ _).mono ?_; rintro e w4 ⟨rfl, hb3⟩; rw [OF.out.1, OF.out.2]))
              have hf4 : Below wr.heap.size wr w4 := by go_split_ands; assumption
              have MK2 := Lib.hid (fun w' (hb : Below w4.heap.size w4 w') => (⟨hb, (HR4.out.step (chain hf4 hb)).cell hlt, (HR4.out.step (chain hf4 hb)).cell hlt3⟩ : Below w4.heap.size w4 w' ∧ SpCell w' h x ∧ SpCell w' h z))
              have HF4 := Lib.hid hf4
              go_split_ands
              clear MK hf4 OF
              go_wp2_with fail
              go_region_held3 (fun w' => Below w4.heap.size w4 w' ∧ SpCell w' h x ∧ SpCell w' h z)
                (first | exact MK2.out _ ((Below.refl _ _).drew) | (go_split_ands; exact MK2.out _ (chain (by assumption) hb5)) | fail)
                (first
                  | (go_at_call 10; refine (dof_any _ _ _ _ _).mono ?_; rintro e w5 ⟨rfl, hb5⟩; rw [OF2.out.1, OF2.out.2]))
              have hf5 : Below w4.heap.size w4 w5 := by go_split_ands; assumption
              obtain ⟨v, hv, cv, fv, NX⟩ := PUT.out w5 (chain HF4.out hf5)
              have NX := Lib.hid NX
              have WI := Lib.hid (fun w' => with_nat v (relN x z) hv e3 w')
              have v1 : IntKind.i64.wrap (13 * (relN x y : Int)) = 13 * (relN x y : Int) := by rw [IntKind.wrap_i64]; omega
              have v2 : IntKind.i64.wrap (13 * (relN x y : Int) + (relN y z : Int)) = ((13 * relN x y + relN y z : Nat) : Int) := by rw [IntKind.wrap_i64]; omega
              have lp : ((13 * relN x y + relN y z : Nat) : Int) < 169 := by omega
              go_split_ands
              clear MK2 OF2 hf5 PUT
              generalize 13 * relN x y + relN y z = pp at *
              go_wp2_with fail
              (go_at_call 32; refine (WI.out _).mono ?_; rintro e w6 ⟨rfl, rfl⟩)
              go_wp2_with fail
              go_roundw
              case rel => exact ⟨z + 1, by omega, by go_num, NX.out⟩
              case measure => simp [intOf]; omega
            · obtain rfl : z = 15 := by omega
              go_wp2_with fail
              go_roundw
              case rel => exact ⟨y + 1, by omega, by go_num, HR4.out⟩
              case measure => simp [intOf]; omega
        · obtain rfl : y = 15 := by omega
          go_wp2_with fail
          go_roundw
          case rel => exact ⟨x + 1, by omega, by go_num, HR2.out⟩
          case measure => simp [intOf]; omega
    · obtain rfl : x = 15 := by omega
      have END := Lib.hid HR.out
      go_wp2_with fail
      go_ret
      obtain ⟨T, h1, h2, h3, h4, h5⟩ := END.out
      exact ⟨_, T, rfl, h2, fun r s hr hs => h1.all hr hs, Nat.le_refl _, h5⟩

end Go.Proofs.YtegmegapkfbkeaaDoor
