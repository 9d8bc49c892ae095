/-
  The document's lay: a field is laid into a list whose names rise. (Made by wip/gen/flay.py.)
-/
import Derived.Test.YtjpkeadnccodjaaGapp
import Derived.Deep.RegionHeld3
namespace Go.Proofs.Ytjpkeadnccodjaa
open Go.RowKit

theorem belowN' {B : Nat} {a w : World} (h : Below B a w) (n : Nat) : Below B a (w.drewN n) := ⟨h.os, h.tape, h.output, h.size, h.block⟩
theorem abstract_worldF {P : Program} {code : Code} {Q : Exit → Act → World → Prop} {a : Act} {w : World} (R : World → Prop) (h0 : R w) (h : ∀ W, R W → Code.wp P code Q a W) : Code.wp P code Q a w := h w h0
/-- All that stand ahead of place k have names that are less. -/
def LessF (l : List Fd) (x : Fd) (k : Nat) : Prop := ∀ j f, j < k → l[j]? = some f → aheadB f.n x.n = true
theorem LessF.next {l : List Fd} {x f : Fd} {k : Nat} (h : LessF l x k) (hf : l[k]? = some f) (ha : aheadB f.n x.n = true) : LessF l x (k + 1) := fun j g hj hg => by
  rcases Nat.lt_or_ge j k with h1 | h1
  · exact h j g h1 hg
  · obtain rfl : j = k := by omega
    rw [hf] at hg
    injection hg with hg
    rw [← hg]; exact ha
theorem layL_at : ∀ (l : List Fd) (x : Fd) (k : Nat), LessF l x k → k ≤ l.length → layL l x = l.take k ++ layL (l.drop k) x
  | l, x, 0, _, _ => rfl
  | [], x, k + 1, _, h => by simp at h
  | f :: l, x, k + 1, h, hk => by
    have ha := h 0 f (by omega) rfl
    have ih := layL_at l x k (fun j g hj hg => h (j + 1) g (by omega) (by simpa using hg)) (by simpa using hk)
    rw [layL, if_pos ha, ih]
    rfl
theorem layL_end {l : List Fd} {x : Fd} (h : LessF l x l.length) : layL l x = l.take l.length ++ x :: [] := by
  rw [layL_at l x l.length h (Nat.le_refl _), List.drop_length]
  rfl
theorem layL_mid {l : List Fd} {x f : Fd} {k : Nat} (h : LessF l x k) (hf : l[k]? = some f) (h1 : aheadB f.n x.n = false) (h2 : nats f.n ≠ nats x.n) : layL l x = l.take k ++ x :: l.drop k := by
  have hk : k < l.length := by
    rcases Nat.lt_or_ge k l.length with h' | h'
    · exact h'
    · rw [List.getElem?_eq_none h'] at hf; cases hf
  rw [layL_at l x k h (by omega), drop_consF hf, layL, if_neg (by rw [h1]; simp), if_neg h2]
theorem layL_same {l : List Fd} {x f : Fd} {k : Nat} (h : LessF l x k) (hf : l[k]? = some f) (h2 : nats f.n = nats x.n) : layL l x = l.take k ++ x :: l.drop (k + 1) := by
  have hk : k < l.length := by
    rcases Nat.lt_or_ge k l.length with h' | h'
    · exact h'
    · rw [List.getElem?_eq_none h'] at hf; cases hf
  rw [layL_at l x k h (by omega), drop_consF hf, layL, if_neg (fun h1 => ahead_ne h1 h2), if_pos h2]

set_option maxHeartbeats 4000000 in
set_option maxRecDepth 10000 in
theorem dlay_any (w : World) (A : Option Addr) (c : Nat) (l : List Fd) (x : Fd) (hl : Fields w A l) (hcap : l.length ≤ c) (hnc : A = none → c = 0) (hn : l.length ≤ 100000) :
    Calls Try.prog 42 #[.slice A l.length c, fv x] w fun e w' => ∃ v, e = .returned v ∧ ownF w' w.heap.size v (layL l x) ∧ Below w.heap.size w w' := by
  have HB0 := Lib.hid (show Below w.heap.size w (w.alloc (oc x)) from (bl w).alloc (Nat.le_refl _) _)
  have HL := Lib.hid hl
  have HCN := Lib.hid hnc
  obtain ⟨n, hnm⟩ : ∃ n, l.length = n := ⟨_, rfl⟩
  have hn' : n ≤ 100000 := by omega
  have hcap' : n ≤ c := by omega
  rw [hnm]
  have HN := Lib.hid hnm
  clear hl hnc hcap hn hnm
  go_enter Try.func42, Try.ntmps42
  go_wp2_with fail
  refine abstract_worldF (fun W0 => Below w.heap.size w W0 ∧ Fields W0 A l ∧ W0.cell? ⟨w.heap.size, 0, none⟩ = some (.string x.n) ∧ W0.cell? ⟨w.heap.size, 1, none⟩ = some (.int .i64 x.v)) ⟨HB0.out, HL.out.below HB0.out, by simp [go_sem], by simp [go_sem]⟩ ?_
  rintro W0 ⟨hB0, hL0, x0, x1⟩
  have HBW0 := Lib.hid hB0
  have HLW0 := Lib.hid hL0
  clear hB0 hL0 HL HB0
  go_loopw [5] (fun i wr => ∃ k : Nat, k ≤ n ∧ i = .int .i64 k ∧ LessF l x k ∧ ∃ q, wr = W0.drewN q) (fun i _ => n - (intOf i).toNat)
  case atStart => exact ⟨0, Nat.zero_le _, rfl, fun j y hj => absurd hj (by omega), 0, rfl⟩
  case round =>
    obtain ⟨k, hk, rfl, hless, q, rfl⟩ := hrel
    have HLS := Lib.hid hless
    have HKL := Lib.hid (show k ≤ l.length by have := HN.out; omega)
    clear hless
    have k0 : (0 : Int) ≤ (k : Int) := by omega
    have k3 : (k : Int) ≤ (c : Int) := by omega
    have k4 : (k : Int) ≤ (n : Int) := by omega
    have k2 : (n : Int) ≤ (c : Int) := by omega
    by_cases hlt : k < n
    · obtain ⟨f, hf⟩ : ∃ f, l[k]? = some f := ⟨_, List.getElem?_eq_getElem (by have := HN.out; omega)⟩
      obtain ⟨g, off, rfl, c0, c1⟩ := HLW0.out k f hf
      have e1 := less_nats f.n x.n
      have HF := Lib.hid hf
      clear hf
      cases ha : aheadB f.n x.n with
      | true =>
        rw [show lessN (nats f.n) (nats x.n) = true from ha] at e1
        have NX := Lib.hid (HLS.out.next HF.out ha)
        clear ha
        go_wp2_with fail
        go_quiet (fail)
        go_wp2_with fail
        exact ⟨⟨k + 1, by omega, by go_num, NX.out, _, rfl⟩, by simp [intOf] <;> omega⟩
      | false =>
        rw [show lessN (nats f.n) (nats x.n) = false from ha] at e1
        have hs1 : IntKind.i64.wrap ((k : Int) + 1) = (k : Int) + 1 := IntWalk.i64_in _ (by omega)
        by_cases hq : nats f.n = nats x.n
        · have HNX0 := Lib.hid (layL_same HLS.out HF.out hq)
          have he : (f.n.toList == x.n.toList) = true := by rw [beq_iff_eq]; exact bytes_is.2 hq
          obtain ⟨rest, hrest⟩ : ∃ rest, l.drop (k + 1) = rest := ⟨_, rfl⟩
          have HNX := Lib.hid (show layL l x = l.take k ++ x :: rest by rw [HNX0.out, hrest])
          have HRT := Lib.hid hrest
          have hrl : rest.length + (k + 1) = n := by rw [← hrest, List.length_drop]; have := HN.out; omega
          clear hq ha hrest
          by_cases hc1 : c = k + 1
          · have ck : ¬ c = k := by omega
            go_wp2_with fail
            go_quiet (fail)
            go_wp2_with fail
            go_quiet (fail)
            go_wp2_with fail
            refine abstract_worldF (fun W => Below w.heap.size w W ∧ Fields W (some ⟨g, off, none⟩) l ∧ W.cell? ⟨w.heap.size, 0, none⟩ = some (.string x.n) ∧ W.cell? ⟨w.heap.size, 1, none⟩ = some (.int .i64 x.v)) ⟨by first | exact belowN' (belowN' HBW0.out _) _ | exact belowN' HBW0.out _, HLW0.out.below (by first | exact belowN' (belowN' (bl W0) _) _ | exact belowN' (bl W0) _), x0, x1⟩ ?_
            rintro W ⟨hBW, hOW, y0, y1⟩
            have MK := Lib.hid (show ∀ w', Below W.heap.size W w' → (Below W.heap.size W w' ∧ w'.cell? ⟨w.heap.size, 0, none⟩ = some (.string x.n) ∧ w'.cell? ⟨w.heap.size, 1, none⟩ = some (.int .i64 x.v)) from fun w' h => ⟨h, keepc h y0, keepc h y1⟩)
            have HTL := Lib.hid (show Fields W (some ⟨g, off, none⟩) rest by rw [List.eq_nil_of_length_eq_zero (show rest.length = 0 by omega)]; exact Fields.nil _ _)
            have HRL := Lib.hid (show n - (k + 1) = rest.length by omega)
            have hcn' : some (⟨g, off, none⟩ : Addr) = none → 0 = 0 := fun _ => rfl
            have HC1 := Lib.hid hc1
            clear hc1
            have HHD := Lib.hid (hOW.take k)
            clear hOW
            go_region_held3 (fun w' => Below W.heap.size W w' ∧ w'.cell? ⟨w.heap.size, 0, none⟩ = some (.string x.n) ∧ w'.cell? ⟨w.heap.size, 1, none⟩ = some (.int .i64 x.v))
              (first | exact MK.out _ ((Below.refl _ _).drew) | exact MK.out _ hb3 | exact MK.out _ hb2 | exact MK.out _ (hb1.alloc hb1.size _) | exact MK.out _ hb1 | exact MK.out _ (by go_grown) | fail)
              (first
                | (refine step_appF rfl (.tmp 44) (.tmp 47) rfl (base := W.heap.size) rfl (own_f1 W) rfl (List.length_take_of_le HKL.out).symm (HHD.out.below (by go_split_ands; assumption)) HCN.out (by simp; omega) (by simp) ?_; intro v1 w1 hown1 hg1 hat1; have hb1 : Below W.heap.size W w1 := below_grownF (by go_split_ands; assumption) hg1 (fun r hr => ((own_f1 W).lt r hr).1))
                | (refine step_appF rfl (.tmp 44) (.tmp 47) rfl (base := W.heap.size) rfl (own_f2 W x) rfl (List.length_take_of_le HKL.out).symm (HHD.out.below (by go_split_ands; assumption)) HCN.out (by simp; omega) (by simp; omega) ?_; intro v1 w1 hown1 hg1 hat1; have hb1 : Below W.heap.size W w1 := below_grownF (by go_split_ands; assumption) hg1 (fun r hr => ((own_f2 W x).lt r hr).1); have HX1 := Lib.hid (x_f2 hg1))
                | (refine step_appF rfl (.tmp 44) (.tmp 47) rfl (base := W.heap.size) rfl (own_f3 W x) rfl (List.length_take_of_le HKL.out).symm (HHD.out.below (by go_split_ands; assumption)) HCN.out (by simp; omega) (by simp; omega) ?_; intro v1 w1 hown1 hg1 hat1; have hb1 : Below W.heap.size W w1 := below_grownF (by go_split_ands; assumption) hg1 (fun r hr => ((own_f3 W x).lt r hr).1); have HX1 := Lib.hid (x_f3 hg1))
                | (refine step_appF rfl (.tmp 48) (.tmp 50) rfl (base := W.heap.size) rfl (World.ownsRow.alloc hown1 _) rfl rfl (field_one w1 x _) (by simp) (by simp; omega) (by have := hb1.size; simp; omega) ?_; intro v2 w2 hown2 hg2 hat2; have hb2 : Below W.heap.size W w2 := below_grownF (hb1.alloc hb1.size _) hg2 (fun r hr => (hown1.lt r hr).1))
                | (refine step_appF rfl (.tmp 48) (.tmp 50) rfl (base := W.heap.size) rfl hown1 rfl rfl HX1.out (by simp) (by simp; omega) hb1.size ?_; intro v2 w2 hown2 hg2 hat2; have hb2 : Below W.heap.size W w2 := below_grownF hb1 hg2 (fun r hr => (hown1.lt r hr).1))
                | (refine step_appF rfl (.tmp 51) (.tmp 52) rfl (base := W.heap.size) rfl hown2 rfl HRL.out (HTL.out.below hb2) hcn' (by simp; omega) hb2.size ?_; intro v3 w3 hown3 hg3 hat3; have hb3 : Below W.heap.size W w3 := below_grownF hb2 hg3 (fun r hr => (hown2.lt r hr).1))
                | fail)
            all_goals
              go_wp2_with fail
              go_ret
              exact ⟨_, rfl, by rw [HNX.out]; exact own_lowerF hBW.size (by rw [show l.take k ++ x :: rest = [] ++ l.take k ++ [x] ++ rest from by simp]; exact hown3), hBW.trans (hb3.mono hBW.size)⟩
          · have ck2 : ¬ c - (k + 1) = 0 := by omega
            have ck : ¬ c = k := by omega
            go_wp2_with fail
            go_quiet (fail)
            go_wp2_with fail
            go_quiet (fail)
            go_wp2_with fail
            refine abstract_worldF (fun W => Below w.heap.size w W ∧ Fields W (some ⟨g, off, none⟩) l ∧ W.cell? ⟨w.heap.size, 0, none⟩ = some (.string x.n) ∧ W.cell? ⟨w.heap.size, 1, none⟩ = some (.int .i64 x.v)) ⟨by first | exact belowN' (belowN' HBW0.out _) _ | exact belowN' HBW0.out _, HLW0.out.below (by first | exact belowN' (belowN' (bl W0) _) _ | exact belowN' (bl W0) _), x0, x1⟩ ?_
            rintro W ⟨hBW, hOW, y0, y1⟩
            have MK := Lib.hid (show ∀ w', Below W.heap.size W w' → (Below W.heap.size W w' ∧ w'.cell? ⟨w.heap.size, 0, none⟩ = some (.string x.n) ∧ w'.cell? ⟨w.heap.size, 1, none⟩ = some (.int .i64 x.v)) from fun w' h => ⟨h, keepc h y0, keepc h y1⟩)
            have HTL := Lib.hid (show Fields W (some ⟨g, off + (k + 1) * 2, none⟩) rest by rw [← HRT.out]; exact hOW.drop (k + 1))
            have HRL := Lib.hid (show n - (k + 1) = rest.length by omega)
            have hcn' : some (⟨g, off + (k + 1) * 2, none⟩ : Addr) = none → c - (k + 1) = 0 := by simp
            have HHD := Lib.hid (hOW.take k)
            clear hOW
            go_region_held3 (fun w' => Below W.heap.size W w' ∧ w'.cell? ⟨w.heap.size, 0, none⟩ = some (.string x.n) ∧ w'.cell? ⟨w.heap.size, 1, none⟩ = some (.int .i64 x.v))
              (first | exact MK.out _ ((Below.refl _ _).drew) | exact MK.out _ hb3 | exact MK.out _ hb2 | exact MK.out _ (hb1.alloc hb1.size _) | exact MK.out _ hb1 | exact MK.out _ (by go_grown) | fail)
              (first
                | (refine step_appF rfl (.tmp 44) (.tmp 47) rfl (base := W.heap.size) rfl (own_f1 W) rfl (List.length_take_of_le HKL.out).symm (HHD.out.below (by go_split_ands; assumption)) HCN.out (by simp; omega) (by simp) ?_; intro v1 w1 hown1 hg1 hat1; have hb1 : Below W.heap.size W w1 := below_grownF (by go_split_ands; assumption) hg1 (fun r hr => ((own_f1 W).lt r hr).1))
                | (refine step_appF rfl (.tmp 44) (.tmp 47) rfl (base := W.heap.size) rfl (own_f2 W x) rfl (List.length_take_of_le HKL.out).symm (HHD.out.below (by go_split_ands; assumption)) HCN.out (by simp; omega) (by simp; omega) ?_; intro v1 w1 hown1 hg1 hat1; have hb1 : Below W.heap.size W w1 := below_grownF (by go_split_ands; assumption) hg1 (fun r hr => ((own_f2 W x).lt r hr).1); have HX1 := Lib.hid (x_f2 hg1))
                | (refine step_appF rfl (.tmp 44) (.tmp 47) rfl (base := W.heap.size) rfl (own_f3 W x) rfl (List.length_take_of_le HKL.out).symm (HHD.out.below (by go_split_ands; assumption)) HCN.out (by simp; omega) (by simp; omega) ?_; intro v1 w1 hown1 hg1 hat1; have hb1 : Below W.heap.size W w1 := below_grownF (by go_split_ands; assumption) hg1 (fun r hr => ((own_f3 W x).lt r hr).1); have HX1 := Lib.hid (x_f3 hg1))
                | (refine step_appF rfl (.tmp 48) (.tmp 50) rfl (base := W.heap.size) rfl (World.ownsRow.alloc hown1 _) rfl rfl (field_one w1 x _) (by simp) (by simp; omega) (by have := hb1.size; simp; omega) ?_; intro v2 w2 hown2 hg2 hat2; have hb2 : Below W.heap.size W w2 := below_grownF (hb1.alloc hb1.size _) hg2 (fun r hr => (hown1.lt r hr).1))
                | (refine step_appF rfl (.tmp 48) (.tmp 50) rfl (base := W.heap.size) rfl hown1 rfl rfl HX1.out (by simp) (by simp; omega) hb1.size ?_; intro v2 w2 hown2 hg2 hat2; have hb2 : Below W.heap.size W w2 := below_grownF hb1 hg2 (fun r hr => (hown1.lt r hr).1))
                | (refine step_appF rfl (.tmp 51) (.tmp 52) rfl (base := W.heap.size) rfl hown2 rfl HRL.out (HTL.out.below hb2) hcn' (by simp; omega) hb2.size ?_; intro v3 w3 hown3 hg3 hat3; have hb3 : Below W.heap.size W w3 := below_grownF hb2 hg3 (fun r hr => (hown2.lt r hr).1))
                | fail)
            all_goals
              go_wp2_with fail
              go_ret
              exact ⟨_, rfl, by rw [HNX.out]; exact own_lowerF hBW.size (by rw [show l.take k ++ x :: rest = [] ++ l.take k ++ [x] ++ rest from by simp]; exact hown3), hBW.trans (hb3.mono hBW.size)⟩
        · have HNX0 := Lib.hid (layL_mid HLS.out HF.out ha hq)
          have he : (f.n.toList == x.n.toList) = false := by rw [beq_eq_false_iff_ne]; exact fun e => hq (bytes_is.1 e)
          obtain ⟨rest, hrest⟩ : ∃ rest, l.drop k = rest := ⟨_, rfl⟩
          have HNX := Lib.hid (show layL l x = l.take k ++ x :: rest by rw [HNX0.out, hrest])
          have HRT := Lib.hid hrest
          have hrl : rest.length + k = n := by rw [← hrest, List.length_drop]; have := HN.out; omega
          clear hq ha hrest
          have ck : ¬ c = k := by omega
          go_wp2_with fail
          go_quiet (fail)
          go_wp2_with fail
          go_quiet (fail)
          go_wp2_with fail
          refine abstract_worldF (fun W => Below w.heap.size w W ∧ Fields W (some ⟨g, off, none⟩) l ∧ W.cell? ⟨w.heap.size, 0, none⟩ = some (.string x.n) ∧ W.cell? ⟨w.heap.size, 1, none⟩ = some (.int .i64 x.v)) ⟨by first | exact belowN' (belowN' HBW0.out _) _ | exact belowN' HBW0.out _, HLW0.out.below (by first | exact belowN' (belowN' (bl W0) _) _ | exact belowN' (bl W0) _), x0, x1⟩ ?_
          rintro W ⟨hBW, hOW, y0, y1⟩
          have MK := Lib.hid (show ∀ w', Below W.heap.size W w' → (Below W.heap.size W w' ∧ w'.cell? ⟨w.heap.size, 0, none⟩ = some (.string x.n) ∧ w'.cell? ⟨w.heap.size, 1, none⟩ = some (.int .i64 x.v)) from fun w' h => ⟨h, keepc h y0, keepc h y1⟩)
          have HTL := Lib.hid (show Fields W (some ⟨g, off + k * 2, none⟩) rest by rw [← HRT.out]; exact hOW.drop k)
          have HRL := Lib.hid (show n - k = rest.length by omega)
          have hcn' : some (⟨g, off + k * 2, none⟩ : Addr) = none → c - k = 0 := by simp
          have HHD := Lib.hid (hOW.take k)
          clear hOW
          go_region_held3 (fun w' => Below W.heap.size W w' ∧ w'.cell? ⟨w.heap.size, 0, none⟩ = some (.string x.n) ∧ w'.cell? ⟨w.heap.size, 1, none⟩ = some (.int .i64 x.v))
            (first | exact MK.out _ ((Below.refl _ _).drew) | exact MK.out _ hb3 | exact MK.out _ hb2 | exact MK.out _ (hb1.alloc hb1.size _) | exact MK.out _ hb1 | exact MK.out _ (by go_grown) | fail)
            (first
              | (refine step_appF rfl (.tmp 44) (.tmp 47) rfl (base := W.heap.size) rfl (own_f1 W) rfl (List.length_take_of_le HKL.out).symm (HHD.out.below (by go_split_ands; assumption)) HCN.out (by simp; omega) (by simp) ?_; intro v1 w1 hown1 hg1 hat1; have hb1 : Below W.heap.size W w1 := below_grownF (by go_split_ands; assumption) hg1 (fun r hr => ((own_f1 W).lt r hr).1))
              | (refine step_appF rfl (.tmp 44) (.tmp 47) rfl (base := W.heap.size) rfl (own_f2 W x) rfl (List.length_take_of_le HKL.out).symm (HHD.out.below (by go_split_ands; assumption)) HCN.out (by simp; omega) (by simp; omega) ?_; intro v1 w1 hown1 hg1 hat1; have hb1 : Below W.heap.size W w1 := below_grownF (by go_split_ands; assumption) hg1 (fun r hr => ((own_f2 W x).lt r hr).1); have HX1 := Lib.hid (x_f2 hg1))
              | (refine step_appF rfl (.tmp 44) (.tmp 47) rfl (base := W.heap.size) rfl (own_f3 W x) rfl (List.length_take_of_le HKL.out).symm (HHD.out.below (by go_split_ands; assumption)) HCN.out (by simp; omega) (by simp; omega) ?_; intro v1 w1 hown1 hg1 hat1; have hb1 : Below W.heap.size W w1 := below_grownF (by go_split_ands; assumption) hg1 (fun r hr => ((own_f3 W x).lt r hr).1); have HX1 := Lib.hid (x_f3 hg1))
              | (refine step_appF rfl (.tmp 48) (.tmp 50) rfl (base := W.heap.size) rfl (World.ownsRow.alloc hown1 _) rfl rfl (field_one w1 x _) (by simp) (by simp; omega) (by have := hb1.size; simp; omega) ?_; intro v2 w2 hown2 hg2 hat2; have hb2 : Below W.heap.size W w2 := below_grownF (hb1.alloc hb1.size _) hg2 (fun r hr => (hown1.lt r hr).1))
              | (refine step_appF rfl (.tmp 48) (.tmp 50) rfl (base := W.heap.size) rfl hown1 rfl rfl HX1.out (by simp) (by simp; omega) hb1.size ?_; intro v2 w2 hown2 hg2 hat2; have hb2 : Below W.heap.size W w2 := below_grownF hb1 hg2 (fun r hr => (hown1.lt r hr).1))
              | (refine step_appF rfl (.tmp 51) (.tmp 52) rfl (base := W.heap.size) rfl hown2 rfl HRL.out (HTL.out.below hb2) hcn' (by simp; omega) hb2.size ?_; intro v3 w3 hown3 hg3 hat3; have hb3 : Below W.heap.size W w3 := below_grownF hb2 hg3 (fun r hr => (hown2.lt r hr).1))
              | fail)
          all_goals
            go_wp2_with fail
            go_ret
            exact ⟨_, rfl, by rw [HNX.out]; exact own_lowerF hBW.size (by rw [show l.take k ++ x :: rest = [] ++ l.take k ++ [x] ++ rest from by simp]; exact hown3), hBW.trans (hb3.mono hBW.size)⟩
    · have ck : decide (k < n) = false := by rw [decide_eq_false_iff_not]; exact hlt
      obtain rfl : k = n := by omega
      obtain ⟨rest, hrest⟩ : ∃ rest : List Fd, rest = [] := ⟨_, rfl⟩
      have HNX := Lib.hid (show layL l x = l.take k ++ x :: rest by have := layL_end (l := l) (x := x) (by rw [HN.out]; exact HLS.out); rw [HN.out] at this; rw [hrest]; exact this)
      have HRT := Lib.hid hrest
      have hrl : rest.length = 0 := by rw [hrest]; rfl
      have hd : decide (k < k) = false := by simp
      clear hrest hlt
      by_cases hc0 : c = k
      · have hc1 := hc0.symm
        subst hc1
        go_wp2_with fail
        go_quiet (fail)
        go_wp2_with fail
        go_quiet (fail)
        go_wp2_with fail
        refine abstract_worldF (fun W => Below w.heap.size w W ∧ Fields W A l ∧ W.cell? ⟨w.heap.size, 0, none⟩ = some (.string x.n) ∧ W.cell? ⟨w.heap.size, 1, none⟩ = some (.int .i64 x.v)) ⟨by first | exact belowN' (belowN' HBW0.out _) _ | exact belowN' HBW0.out _, HLW0.out.below (by first | exact belowN' (belowN' (bl W0) _) _ | exact belowN' (bl W0) _), x0, x1⟩ ?_
        rintro W ⟨hBW, hOW, y0, y1⟩
        have MK := Lib.hid (show ∀ w', Below W.heap.size W w' → (Below W.heap.size W w' ∧ w'.cell? ⟨w.heap.size, 0, none⟩ = some (.string x.n) ∧ w'.cell? ⟨w.heap.size, 1, none⟩ = some (.int .i64 x.v)) from fun w' h => ⟨h, keepc h y0, keepc h y1⟩)
        have HTL := Lib.hid (show Fields W A rest by rw [HRT.out]; exact Fields.nil _ _)
        have HRL := Lib.hid (show 0 = rest.length by omega)
        have hcn' : A = none → 0 = 0 := fun _ => rfl
        have HHD := Lib.hid (hOW.take k)
        clear hOW
        go_region_held3 (fun w' => Below W.heap.size W w' ∧ w'.cell? ⟨w.heap.size, 0, none⟩ = some (.string x.n) ∧ w'.cell? ⟨w.heap.size, 1, none⟩ = some (.int .i64 x.v))
          (first | exact MK.out _ ((Below.refl _ _).drew) | exact MK.out _ hb3 | exact MK.out _ hb2 | exact MK.out _ (hb1.alloc hb1.size _) | exact MK.out _ hb1 | exact MK.out _ (by go_grown) | fail)
          (first
            | (refine step_appF rfl (.tmp 44) (.tmp 47) rfl (base := W.heap.size) rfl (own_f1 W) rfl (List.length_take_of_le HKL.out).symm (HHD.out.below (by go_split_ands; assumption)) HCN.out (by simp; omega) (by simp) ?_; intro v1 w1 hown1 hg1 hat1; have hb1 : Below W.heap.size W w1 := below_grownF (by go_split_ands; assumption) hg1 (fun r hr => ((own_f1 W).lt r hr).1))
            | (refine step_appF rfl (.tmp 44) (.tmp 47) rfl (base := W.heap.size) rfl (own_f2 W x) rfl (List.length_take_of_le HKL.out).symm (HHD.out.below (by go_split_ands; assumption)) HCN.out (by simp; omega) (by simp; omega) ?_; intro v1 w1 hown1 hg1 hat1; have hb1 : Below W.heap.size W w1 := below_grownF (by go_split_ands; assumption) hg1 (fun r hr => ((own_f2 W x).lt r hr).1); have HX1 := Lib.hid (x_f2 hg1))
            | (refine step_appF rfl (.tmp 44) (.tmp 47) rfl (base := W.heap.size) rfl (own_f3 W x) rfl (List.length_take_of_le HKL.out).symm (HHD.out.below (by go_split_ands; assumption)) HCN.out (by simp; omega) (by simp; omega) ?_; intro v1 w1 hown1 hg1 hat1; have hb1 : Below W.heap.size W w1 := below_grownF (by go_split_ands; assumption) hg1 (fun r hr => ((own_f3 W x).lt r hr).1); have HX1 := Lib.hid (x_f3 hg1))
            | (refine step_appF rfl (.tmp 48) (.tmp 50) rfl (base := W.heap.size) rfl (World.ownsRow.alloc hown1 _) rfl rfl (field_one w1 x _) (by simp) (by simp; omega) (by have := hb1.size; simp; omega) ?_; intro v2 w2 hown2 hg2 hat2; have hb2 : Below W.heap.size W w2 := below_grownF (hb1.alloc hb1.size _) hg2 (fun r hr => (hown1.lt r hr).1))
            | (refine step_appF rfl (.tmp 48) (.tmp 50) rfl (base := W.heap.size) rfl hown1 rfl rfl HX1.out (by simp) (by simp; omega) hb1.size ?_; intro v2 w2 hown2 hg2 hat2; have hb2 : Below W.heap.size W w2 := below_grownF hb1 hg2 (fun r hr => (hown1.lt r hr).1))
            | (refine step_appF rfl (.tmp 51) (.tmp 52) rfl (base := W.heap.size) rfl hown2 rfl HRL.out (HTL.out.below hb2) hcn' (by simp; omega) hb2.size ?_; intro v3 w3 hown3 hg3 hat3; have hb3 : Below W.heap.size W w3 := below_grownF hb2 hg3 (fun r hr => (hown2.lt r hr).1))
            | fail)
        all_goals
          go_wp2_with fail
          go_ret
          exact ⟨_, rfl, by rw [HNX.out]; exact own_lowerF hBW.size (by rw [show l.take k ++ x :: rest = [] ++ l.take k ++ [x] ++ rest from by simp]; exact hown3), hBW.trans (hb3.mono hBW.size)⟩
      · go_wp2_with fail
        go_quiet (fail)
        go_wp2_with fail
        go_quiet (fail)
        go_wp2_with fail
        refine abstract_worldF (fun W => Below w.heap.size w W ∧ Fields W A l ∧ W.cell? ⟨w.heap.size, 0, none⟩ = some (.string x.n) ∧ W.cell? ⟨w.heap.size, 1, none⟩ = some (.int .i64 x.v)) ⟨by first | exact belowN' (belowN' HBW0.out _) _ | exact belowN' HBW0.out _, HLW0.out.below (by first | exact belowN' (belowN' (bl W0) _) _ | exact belowN' (bl W0) _), x0, x1⟩ ?_
        rintro W ⟨hBW, hOW, y0, y1⟩
        have MK := Lib.hid (show ∀ w', Below W.heap.size W w' → (Below W.heap.size W w' ∧ w'.cell? ⟨w.heap.size, 0, none⟩ = some (.string x.n) ∧ w'.cell? ⟨w.heap.size, 1, none⟩ = some (.int .i64 x.v)) from fun w' h => ⟨h, keepc h y0, keepc h y1⟩)
        have HTL := Lib.hid (show Fields W (Option.map (fun x => x.add (k * 2)) A) rest by rw [HRT.out]; exact Fields.nil _ _)
        have HRL := Lib.hid (show 0 = rest.length by omega)
        have hcn' : Option.map (fun x => Addr.add x (k * 2)) A = none → c - k = 0 := fun h => by
          cases A with
          | none => rw [HCN.out rfl, Nat.zero_sub]
          | some a => cases h
        have HHD := Lib.hid (hOW.take k)
        clear hOW
        go_region_held3 (fun w' => Below W.heap.size W w' ∧ w'.cell? ⟨w.heap.size, 0, none⟩ = some (.string x.n) ∧ w'.cell? ⟨w.heap.size, 1, none⟩ = some (.int .i64 x.v))
          (first | exact MK.out _ ((Below.refl _ _).drew) | exact MK.out _ hb3 | exact MK.out _ hb2 | exact MK.out _ (hb1.alloc hb1.size _) | exact MK.out _ hb1 | exact MK.out _ (by go_grown) | fail)
          (first
            | (refine step_appF rfl (.tmp 44) (.tmp 47) rfl (base := W.heap.size) rfl (own_f1 W) rfl (List.length_take_of_le HKL.out).symm (HHD.out.below (by go_split_ands; assumption)) HCN.out (by simp; omega) (by simp) ?_; intro v1 w1 hown1 hg1 hat1; have hb1 : Below W.heap.size W w1 := below_grownF (by go_split_ands; assumption) hg1 (fun r hr => ((own_f1 W).lt r hr).1))
            | (refine step_appF rfl (.tmp 44) (.tmp 47) rfl (base := W.heap.size) rfl (own_f2 W x) rfl (List.length_take_of_le HKL.out).symm (HHD.out.below (by go_split_ands; assumption)) HCN.out (by simp; omega) (by simp; omega) ?_; intro v1 w1 hown1 hg1 hat1; have hb1 : Below W.heap.size W w1 := below_grownF (by go_split_ands; assumption) hg1 (fun r hr => ((own_f2 W x).lt r hr).1); have HX1 := Lib.hid (x_f2 hg1))
            | (refine step_appF rfl (.tmp 44) (.tmp 47) rfl (base := W.heap.size) rfl (own_f3 W x) rfl (List.length_take_of_le HKL.out).symm (HHD.out.below (by go_split_ands; assumption)) HCN.out (by simp; omega) (by simp; omega) ?_; intro v1 w1 hown1 hg1 hat1; have hb1 : Below W.heap.size W w1 := below_grownF (by go_split_ands; assumption) hg1 (fun r hr => ((own_f3 W x).lt r hr).1); have HX1 := Lib.hid (x_f3 hg1))
            | (refine step_appF rfl (.tmp 48) (.tmp 50) rfl (base := W.heap.size) rfl (World.ownsRow.alloc hown1 _) rfl rfl (field_one w1 x _) (by simp) (by simp; omega) (by have := hb1.size; simp; omega) ?_; intro v2 w2 hown2 hg2 hat2; have hb2 : Below W.heap.size W w2 := below_grownF (hb1.alloc hb1.size _) hg2 (fun r hr => (hown1.lt r hr).1))
            | (refine step_appF rfl (.tmp 48) (.tmp 50) rfl (base := W.heap.size) rfl hown1 rfl rfl HX1.out (by simp) (by simp; omega) hb1.size ?_; intro v2 w2 hown2 hg2 hat2; have hb2 : Below W.heap.size W w2 := below_grownF hb1 hg2 (fun r hr => (hown1.lt r hr).1))
            | (refine step_appF rfl (.tmp 51) (.tmp 52) rfl (base := W.heap.size) rfl hown2 rfl HRL.out (HTL.out.below hb2) hcn' (by simp; omega) hb2.size ?_; intro v3 w3 hown3 hg3 hat3; have hb3 : Below W.heap.size W w3 := below_grownF hb2 hg3 (fun r hr => (hown2.lt r hr).1))
            | fail)
        all_goals
          go_wp2_with fail
          go_ret
          exact ⟨_, rfl, by rw [HNX.out]; exact own_lowerF hBW.size (by rw [show l.take k ++ x :: rest = [] ++ l.take k ++ [x] ++ rest from by simp]; exact hown3), hBW.trans (hb3.mono hBW.size)⟩

end Go.Proofs.Ytjpkeadnccodjaa
