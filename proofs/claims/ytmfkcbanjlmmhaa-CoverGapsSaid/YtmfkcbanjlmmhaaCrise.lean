/-
  What the document's Rise gives back for any numbers: each once, rising.
-/
import Derived.Test.YtmfkcbanjlmmhaaCapp
import Derived.Deep.RegionHeld3
namespace Go.Proofs.Ytmfkcbanjlmmhaa
open Go.RowKit

/-- What holds at the head of each outer round. -/
def RiseRel (w : World) (o : List Int) (v : Value) (wr : World) : Prop := ownI wr w.heap.size v o ∧ Below w.heap.size w wr
/-- All that stand ahead of place k are less than x. -/
def Less (o : List Int) (x : Int) (k : Nat) : Prop := ∀ j y, j < k → o[j]? = some y → y < x
theorem Less.next {o : List Int} {x y : Int} {k : Nat} (h : Less o x k) (hy : o[k]? = some y) (hlt : y < x) : Less o x (k + 1) := fun j z hj hz => by
  rcases Nat.lt_or_ge j k with h1 | h1
  · exact h j z h1 hz
  · obtain rfl : j = k := by omega
    rw [hy] at hz
    injection hz with hz
    omega

theorem belowN' {B : Nat} {a w : World} (h : Below B a w) (n : Nat) : Below B a (w.drewN n) := ⟨h.os, h.tape, h.output, h.size, h.block⟩
theorem own_le {w : World} {base : Nat} {A : Option Addr} {c : Nat} {l : List Int} (h : ownI w base (.slice A l.length c) l) : l.length ≤ c := by
  rcases h.2 with ⟨hv, h0⟩ | ⟨g, cap, cur, hv, _, _, hn, _⟩
  · omega
  · injection hv with _ _ hc
    omega

theorem abstract_world {P : Program} {code : Code} {Q : Exit → Act → World → Prop} {a : Act} {w : World} (R : World → Prop) (h0 : R w) (h : ∀ W, R W → Code.wp P code Q a W) : Code.wp P code Q a w := h w h0
theorem Ints.take {w : World} {A : Option Addr} {l : List Int} (h : Ints w A l) (k : Nat) : Ints w A (l.take k) := fun i x hx => by
  rcases Nat.lt_or_ge i k with hi | hi
  · rw [List.getElem?_take_of_lt hi] at hx
    exact h i x hx
  · rw [List.getElem?_take_eq_none hi] at hx
    cases hx
theorem Ints.drop {w : World} {g off : Nat} {l : List Int} (h : Ints w (some ⟨g, off, none⟩) l) (k : Nat) : Ints w (some ⟨g, off + k, none⟩) (l.drop k) := fun i x hx => by
  rw [List.getElem?_drop] at hx
  obtain ⟨g', off', e, hc⟩ := h (k + i) x hx
  injection e with e
  injection e with e1 e2
  subst e1 e2
  exact ⟨g, off + k, rfl, by rw [Nat.add_assoc]; exact hc⟩
theorem below_grown {a w w1 : World} {row : Option Nat} (h : Below a.heap.size a w) (hg : w.grownBy w1 row) (hr : ∀ r, row = some r → a.heap.size ≤ r) : Below a.heap.size a w1 := h.grown hg h.size hr
theorem own_empty {w : World} {b base : Nat} (h : w.heap[b]? = some (.cells #[] 3 (0, 0))) (hb : base ≤ b) : ownI w base (.slice (some ⟨b, 0, none⟩) 0 0) [] :=
  ⟨by simp, .inr ⟨b, 0, #[], rfl, hb, h, by simp, by simp [maxLen], by simp, by simp⟩⟩
theorem own_e1 (W : World) : ownI (W.alloc (.cells #[] 3)).drew W.heap.size (.slice (some ⟨W.heap.size, 0, none⟩) 0 0) [] := own_empty (heap_alloc_new W _) (Nat.le_refl _)
theorem own_e2 (W : World) (x : Int) : ownI ((W.alloc (.cells #[] 3)).alloc (.cells #[.int .i64 x] 3)).drew W.heap.size (.slice (some ⟨W.heap.size, 0, none⟩) 0 0) [] :=
  own_empty ((Below.heap_alloc (W.alloc (.cells #[] 3)) _ W.heap.size (by simp)).trans (heap_alloc_new W _)) (Nat.le_refl _)
theorem own_e3 (W : World) (x : Int) : ownI ((W.alloc (.cells #[.int .i64 x] 3)).alloc (.cells #[] 3)).drew W.heap.size (.slice (some ⟨W.heap.size + 1, 0, none⟩) 0 0) [] :=
  own_empty (w := ((W.alloc (.cells #[.int .i64 x] 3)).alloc (.cells #[] 3))) (by have := heap_alloc_new (W.alloc (.cells #[.int .i64 x] 3)) (.cells #[] 3); simpa using this) (by omega)
theorem ints_one (w : World) (x : Int) (t : TypeId) : Ints (w.alloc (.cells #[.int .i64 x] t)) (some ⟨w.heap.size, 0, none⟩) [x] := fun i y hy => by
  rcases i with _ | i
  · obtain rfl : x = y := by simpa using hy
    exact ⟨_, _, rfl, by simp [go_sem]⟩
  · simp at hy
theorem ints_cell {w : World} {b : Nat} {x : Int} (h : w.cell? ⟨b, 0, none⟩ = some (.int .i64 x)) : Ints w (some ⟨b, 0, none⟩) [x] := fun i y hy => by
  rcases i with _ | i
  · obtain rfl : x = y := by simpa using hy
    exact ⟨_, _, rfl, h⟩
  · simp at hy
theorem x_e2 {W w1 : World} {x : Int} (hg : ((W.alloc (.cells #[] 3)).alloc (.cells #[.int .i64 x] 3)).drew.grownBy w1 (Value.slice (some ⟨W.heap.size, 0, none⟩) 0 0).ownBlock) : Ints w1 (some ⟨W.heap.size + 1, 0, none⟩) [x] :=
  ints_cell (hg.cell (by simp [go_sem]) (by simp [Value.ownBlock]))
theorem x_e3 {W w1 : World} {x : Int} (hg : ((W.alloc (.cells #[.int .i64 x] 3)).alloc (.cells #[] 3)).drew.grownBy w1 (Value.slice (some ⟨W.heap.size + 1, 0, none⟩) 0 0).ownBlock) : Ints w1 (some ⟨W.heap.size, 0, none⟩) [x] :=
  ints_cell (hg.cell (by simp [go_sem]) (by simp [Value.ownBlock]))
theorem rise_own {w : World} {b b' : Nat} {v : Value} {ts : List Int} (hb : b ≤ b') (h : ownI w b' v ts) : ownI w b v ts := by
  refine ⟨h.1, ?_⟩
  rcases h.2 with h2 | ⟨g, cap, cur, hv, hg, r⟩
  · exact .inl h2
  · exact .inr ⟨g, cap, cur, hv, by omega, r⟩
theorem own_nil_cap {w : World} {base : Nat} {A : Option Addr} {c : Nat} {l : List Int} (h : ownI w base (.slice A l.length c) l) : A = none → c = 0 := by
  rintro rfl
  rcases h.2 with ⟨hv, h0⟩ | ⟨g, cap, cur, hv, _⟩
  · injection hv
  · injection hv with h
    cases h

set_option maxHeartbeats 4000000 in
theorem rise_any (A : Option Addr) (c : Nat) (zs : List Int) (w : World) (hz : Ints w A zs) (hn : zs.length ≤ 1000) :
    Calls Try.prog 47 #[.slice A zs.length c] w fun e w' => ∃ v, e = .returned v ∧ ownI w' w.heap.size v (riseL zs) ∧ Below w.heap.size w w' := by
  have HZ := Lib.hid hz
  clear hz
  obtain ⟨n, hnm⟩ : ∃ n, n = zs.length := ⟨_, rfl⟩
  rw [← hnm]
  have hn' : n ≤ 1000 := by omega
  have HN := Lib.hid hnm
  clear hnm hn
  go_enter Try.func47, Try.ntmps47
  go_wp2_with fail
  go_loopw [3, 4] (fun v i wr => ∃ k : Nat, k ≤ n ∧ i = .int .i64 k ∧ RiseRel w (riseL (zs.take k)) v wr) (fun _ i _ => n - (intOf i).toNat)
  case atStart => exact ⟨0, Nat.zero_le _, rfl, World.ownsRow_nil _ _ _ _, Below.refl _ _⟩
  case round =>
    obtain ⟨i, hi, rfl, hown, hB⟩ := hrel
    obtain ⟨o, ho⟩ : ∃ o, riseL (zs.take i) = o := ⟨_, rfl⟩
    have hol : o.length ≤ 1000 := by rw [← ho]; have := riseL_length (zs.take i); have := List.length_take_le i zs; omega
    rw [ho] at hown
    have HO := Lib.hid ho
    clear ho
    obtain ⟨wo, hwo⟩ : ∃ wo : World, wo = wr := ⟨_, rfl⟩
    subst hwo
    by_cases hlt : i < n
    · obtain ⟨x, hx⟩ : ∃ x, zs[i]? = some x := ⟨_, List.getElem?_eq_getElem (by have := HN.out; omega)⟩
      obtain ⟨g, off, rfl, c0⟩ := HZ.out i x hx
      have hg := lt_of_cell c0
      have c1 : wo.cell? ⟨g, off + i, none⟩ = some (.int .i64 x) := (hB.cell (p := ⟨g, off + i, none⟩) hg).trans c0
      have hnx : riseL (zs.take (i + 1)) = insU x o := by rw [List.take_add_one, hx, Option.toList_some, riseL_snoc, HO.out]
      have HNX := Lib.hid hnx
      clear hnx hx c0
      obtain ⟨B, cb, rfl, hoi⟩ := own_ints hown
      have HOI := Lib.hid hoi
      have HOWN := Lib.hid hown
      clear hoi hown
      go_wp2_with fail
      go_loopw [5] (fun kk wr => ∃ k : Nat, k ≤ o.length ∧ kk = .int .i64 k ∧ Less o x k ∧ ∃ q, wr = wo.drewN q) (fun kk _ => o.length - (intOf kk).toNat)
      case atStart => exact ⟨0, Nat.zero_le _, rfl, fun j y hj => absurd hj (by omega), 0, rfl⟩
      case round =>
        obtain ⟨k, hk, rfl, hless, q, rfl⟩ := hrel
        have HLS := Lib.hid hless
        clear hless
        by_cases hko : k < o.length
        · obtain ⟨y, hy⟩ : ∃ y, o[k]? = some y := ⟨_, List.getElem?_eq_getElem hko⟩
          obtain ⟨g', off', rfl, d0⟩ := HOI.out k y hy
          have HY := Lib.hid hy
          clear hy
          by_cases hyx : y < x
          · go_wp2_with fail
            go_quiet (fail)
            go_wp2_with fail
            go_roundw
            case rel => exact ⟨k + 1, by omega, by go_num, HLS.out.next HY.out hyx, _, rfl⟩
            case measure => simp [intOf]; omega
          · have hd : decide (y < x) = false := by simpa using hyx
            by_cases hxy : y = x
            · have hq : (y == x) = true := by simpa using hxy
              go_wp2_with fail
              go_quiet (fail)
              go_wp2_with fail
              go_quiet (fail)
              go_wp2_with fail
              go_roundw
              case rel => exact ⟨i + 1, by omega, by go_num, by rw [HNX.out, insU_same HLS.out (by rw [HY.out, hxy])]; exact HOWN.out, belowN' hB _⟩
              case measure => simp [intOf]; omega
            · have hq : (y == x) = false := by simpa using hxy
              go_wp2_with fail
              go_quiet (fail)
              go_wp2_with fail
              go_quiet (fail)
              go_wp2_with fail
              have hge : ∀ z, o[k]? = some z → x < z := fun z hz => by rw [HY.out] at hz; injection hz with hz; omega
              have HGE := Lib.hid hge
              clear hge
              refine abstract_world (fun W => Below w.heap.size w W ∧ Ints W (some ⟨g', off', none⟩) o ∧ W.cell? ⟨g, off + i, none⟩ = some (.int .i64 x)) ⟨belowN' (belowN' (belowN' hB _) _) _, HOI.out, c1⟩ ?_
              rintro W ⟨hBW, hOW, cW⟩
              have hcap := own_le HOWN.out
              have k0 : (0 : Int) ≤ (k : Int) := by omega
              have k1 : (k : Int) ≤ (o.length : Int) := by omega
              have k2 : (o.length : Int) ≤ (cb : Int) := by omega
              have k3 : (k : Int) ≤ (cb : Int) := by omega
              have hkc : ¬ cb = k := by omega
              have hcn : some (⟨g', off', none⟩ : Addr) = none → cb = 0 := by simp
              have hcn' : some (⟨g', off' + k, none⟩ : Addr) = none → cb - k = 0 := by simp
              have hT : Ints W (some ⟨g', off' + k, none⟩) (o.drop k) := hOW.drop k
              have mk : ∀ w', Below W.heap.size W w' → (Below W.heap.size W w' ∧ w'.cell? ⟨g, off + i, none⟩ = some (.int .i64 x)) := fun w' h => ⟨h, (h.cell (p := ⟨g, off + i, none⟩) (lt_of_cell cW)).trans cW⟩
              have MK := Lib.hid mk
              clear mk
              have HHD := Lib.hid (hOW.take k)
              have HTL := Lib.hid hT
              clear hOW hT
              go_region_held3 (fun w' => Below W.heap.size W w' ∧ w'.cell? ⟨g, off + i, none⟩ = some (.int .i64 x))
                (first | exact MK.out _ ((Below.refl _ _).drew) | exact MK.out _ hb3 | exact MK.out _ hb2 | exact MK.out _ (hb1.alloc hb1.size _) | exact MK.out _ hb1 | exact MK.out _ (by go_grown))
                (first
                  | (refine step_app rfl (.tmp 44) (.tmp 47) rfl (base := W.heap.size) rfl (own_e1 W) rfl (List.length_take_of_le hk).symm (HHD.out.below (by go_split_ands; assumption)) hcn (by simp; omega) (by simp) ?_; intro v1 w1 hown1 hg1 hat1; have hb1 : Below W.heap.size W w1 := below_grown (by go_split_ands; assumption) hg1 (fun r hr => ((own_e1 W).lt r hr).1))
                  | (refine step_app rfl (.tmp 44) (.tmp 47) rfl (base := W.heap.size) rfl (own_e2 W x) rfl (List.length_take_of_le hk).symm (HHD.out.below (by go_split_ands; assumption)) hcn (by simp; omega) (by simp; omega) ?_; intro v1 w1 hown1 hg1 hat1; have hb1 : Below W.heap.size W w1 := below_grown (by go_split_ands; assumption) hg1 (fun r hr => ((own_e2 W x).lt r hr).1); have HX1 := Lib.hid (x_e2 hg1))
                  | (refine step_app rfl (.tmp 44) (.tmp 47) rfl (base := W.heap.size) rfl (own_e3 W x) rfl (List.length_take_of_le hk).symm (HHD.out.below (by go_split_ands; assumption)) hcn (by simp; omega) (by simp; omega) ?_; intro v1 w1 hown1 hg1 hat1; have hb1 : Below W.heap.size W w1 := below_grown (by go_split_ands; assumption) hg1 (fun r hr => ((own_e3 W x).lt r hr).1); have HX1 := Lib.hid (x_e3 hg1))
                  | (refine step_app rfl (.tmp 48) (.tmp 53) rfl (base := W.heap.size) rfl (World.ownsRow.alloc hown1 _) rfl rfl (ints_one w1 x _) (by simp) (by simp; omega) (by have := hb1.size; simp; omega) ?_; intro v2 w2 hown2 hg2 hat2; have hb2 : Below W.heap.size W w2 := below_grown (hb1.alloc hb1.size _) hg2 (fun r hr => (hown1.lt r hr).1))
                  | (refine step_app rfl (.tmp 48) (.tmp 53) rfl (base := W.heap.size) rfl hown1 rfl rfl HX1.out (by simp) (by simp; omega) hb1.size ?_; intro v2 w2 hown2 hg2 hat2; have hb2 : Below W.heap.size W w2 := below_grown hb1 hg2 (fun r hr => (hown1.lt r hr).1))
                  | (refine step_app rfl (.tmp 54) (.tmp 57) rfl (base := W.heap.size) rfl hown2 rfl (List.length_drop ..).symm (HTL.out.below hb2) hcn' (by simp; omega) hb2.size ?_; intro v3 w3 hown3 hg3 hat3; have hb3 : Below W.heap.size W w3 := below_grown hb2 hg3 (fun r hr => (hown2.lt r hr).1)))
              all_goals
                go_wp2_with fail
                go_roundw
                case rel => exact ⟨i + 1, by omega, by go_num, by rw [HNX.out, insU_at HLS.out hk HGE.out]; exact rise_own hBW.size (by rw [show o.take k ++ x :: o.drop k = [] ++ o.take k ++ [x] ++ o.drop k from by simp]; exact hown3), hBW.trans (hb3.mono hBW.size)⟩
                case measure => simp [intOf]; omega
        · obtain rfl : k = o.length := by omega
          have hge : ∀ z, o[o.length]? = some z → x < z := fun z hz => by simp at hz
          have HGE := Lib.hid hge
          clear hge
          have hd : decide (o.length < o.length) = false := by simp
          go_wp2_with fail
          go_quiet (fail)
          go_wp2_with fail
          go_quiet (fail)
          go_wp2_with fail
          refine abstract_world (fun W => Below w.heap.size w W ∧ Ints W B o ∧ W.cell? ⟨g, off + i, none⟩ = some (.int .i64 x)) ⟨belowN' (belowN' (belowN' hB _) _) _, HOI.out, c1⟩ ?_
          rintro W ⟨hBW, hOW, cW⟩
          have hcap := own_le HOWN.out
          have hcn := own_nil_cap HOWN.out
          have HCN := Lib.hid hcn
          clear hcn
          have k0 : (0 : Int) ≤ (o.length : Int) := by omega
          have k2 : (o.length : Int) ≤ (cb : Int) := by omega
          by_cases hkc : cb = o.length
          · subst hkc
            have hT : Ints W B ([] : List Int) := Ints.nil _ _
            have hcn' : B = none → o.length - o.length = 0 := fun _ => by omega
            have mk : ∀ w', Below W.heap.size W w' → (Below W.heap.size W w' ∧ w'.cell? ⟨g, off + i, none⟩ = some (.int .i64 x)) := fun w' h => ⟨h, (h.cell (p := ⟨g, off + i, none⟩) (lt_of_cell cW)).trans cW⟩
            have MK := Lib.hid mk
            clear mk
            have HHD := Lib.hid (hOW.take o.length)
            have HTL := Lib.hid hT
            clear hOW hT
            go_region_held3 (fun w' => Below W.heap.size W w' ∧ w'.cell? ⟨g, off + i, none⟩ = some (.int .i64 x))
              (first | exact MK.out _ ((Below.refl _ _).drew) | exact MK.out _ hb3 | exact MK.out _ hb2 | exact MK.out _ (hb1.alloc hb1.size _) | exact MK.out _ hb1 | exact MK.out _ (by go_grown))
              (first
                | (refine step_app rfl (.tmp 44) (.tmp 47) rfl (base := W.heap.size) rfl (own_e1 W) rfl (List.length_take_of_le hk).symm (HHD.out.below (by go_split_ands; assumption)) HCN.out (by simp; omega) (by simp) ?_; intro v1 w1 hown1 hg1 hat1; have hb1 : Below W.heap.size W w1 := below_grown (by go_split_ands; assumption) hg1 (fun r hr => ((own_e1 W).lt r hr).1))
                | (refine step_app rfl (.tmp 44) (.tmp 47) rfl (base := W.heap.size) rfl (own_e2 W x) rfl (List.length_take_of_le hk).symm (HHD.out.below (by go_split_ands; assumption)) HCN.out (by simp; omega) (by simp; omega) ?_; intro v1 w1 hown1 hg1 hat1; have hb1 : Below W.heap.size W w1 := below_grown (by go_split_ands; assumption) hg1 (fun r hr => ((own_e2 W x).lt r hr).1); have HX1 := Lib.hid (x_e2 hg1))
                | (refine step_app rfl (.tmp 44) (.tmp 47) rfl (base := W.heap.size) rfl (own_e3 W x) rfl (List.length_take_of_le hk).symm (HHD.out.below (by go_split_ands; assumption)) HCN.out (by simp; omega) (by simp; omega) ?_; intro v1 w1 hown1 hg1 hat1; have hb1 : Below W.heap.size W w1 := below_grown (by go_split_ands; assumption) hg1 (fun r hr => ((own_e3 W x).lt r hr).1); have HX1 := Lib.hid (x_e3 hg1))
                | (refine step_app rfl (.tmp 48) (.tmp 53) rfl (base := W.heap.size) rfl (World.ownsRow.alloc hown1 _) rfl rfl (ints_one w1 x _) (by simp) (by simp; omega) (by have := hb1.size; simp; omega) ?_; intro v2 w2 hown2 hg2 hat2; have hb2 : Below W.heap.size W w2 := below_grown (hb1.alloc hb1.size _) hg2 (fun r hr => (hown1.lt r hr).1))
                | (refine step_app rfl (.tmp 48) (.tmp 53) rfl (base := W.heap.size) rfl hown1 rfl rfl HX1.out (by simp) (by simp; omega) hb1.size ?_; intro v2 w2 hown2 hg2 hat2; have hb2 : Below W.heap.size W w2 := below_grown hb1 hg2 (fun r hr => (hown1.lt r hr).1))
                | (refine step_app rfl (.tmp 54) (.tmp 57) rfl (base := W.heap.size) rfl hown2 rfl rfl (Ints.nil _ _) (by simp) (by simp; omega) hb2.size ?_; intro v3 w3 hown3 hg3 hat3; have hb3 : Below W.heap.size W w3 := below_grown hb2 hg3 (fun r hr => (hown2.lt r hr).1)))
            all_goals
              go_wp2_with fail
              go_roundw
              case rel => exact ⟨i + 1, by omega, by go_num, by rw [HNX.out, insU_at HLS.out hk HGE.out]; exact rise_own hBW.size (by rw [show o.take o.length ++ x :: o.drop o.length = [] ++ o.take o.length ++ [x] ++ [] from by simp]; exact hown3), hBW.trans (hb3.mono hBW.size)⟩
              case measure => simp [intOf]; omega
          · have hT : Ints W (B.map (·.add o.length)) ([] : List Int) := Ints.nil _ _
            have hcn' : B.map (·.add o.length) = none → cb - o.length = 0 := fun e => by
              have := HCN.out (by simpa using e)
              omega
            have mk : ∀ w', Below W.heap.size W w' → (Below W.heap.size W w' ∧ w'.cell? ⟨g, off + i, none⟩ = some (.int .i64 x)) := fun w' h => ⟨h, (h.cell (p := ⟨g, off + i, none⟩) (lt_of_cell cW)).trans cW⟩
            have MK := Lib.hid mk
            clear mk
            have HHD := Lib.hid (hOW.take o.length)
            have HTL := Lib.hid hT
            clear hOW hT
            go_region_held3 (fun w' => Below W.heap.size W w' ∧ w'.cell? ⟨g, off + i, none⟩ = some (.int .i64 x))
              (first | exact MK.out _ ((Below.refl _ _).drew) | exact MK.out _ hb3 | exact MK.out _ hb2 | exact MK.out _ (hb1.alloc hb1.size _) | exact MK.out _ hb1 | exact MK.out _ (by go_grown))
              (first
                | (refine step_app rfl (.tmp 44) (.tmp 47) rfl (base := W.heap.size) rfl (own_e1 W) rfl (List.length_take_of_le hk).symm (HHD.out.below (by go_split_ands; assumption)) HCN.out (by simp; omega) (by simp) ?_; intro v1 w1 hown1 hg1 hat1; have hb1 : Below W.heap.size W w1 := below_grown (by go_split_ands; assumption) hg1 (fun r hr => ((own_e1 W).lt r hr).1))
                | (refine step_app rfl (.tmp 44) (.tmp 47) rfl (base := W.heap.size) rfl (own_e2 W x) rfl (List.length_take_of_le hk).symm (HHD.out.below (by go_split_ands; assumption)) HCN.out (by simp; omega) (by simp; omega) ?_; intro v1 w1 hown1 hg1 hat1; have hb1 : Below W.heap.size W w1 := below_grown (by go_split_ands; assumption) hg1 (fun r hr => ((own_e2 W x).lt r hr).1); have HX1 := Lib.hid (x_e2 hg1))
                | (refine step_app rfl (.tmp 44) (.tmp 47) rfl (base := W.heap.size) rfl (own_e3 W x) rfl (List.length_take_of_le hk).symm (HHD.out.below (by go_split_ands; assumption)) HCN.out (by simp; omega) (by simp; omega) ?_; intro v1 w1 hown1 hg1 hat1; have hb1 : Below W.heap.size W w1 := below_grown (by go_split_ands; assumption) hg1 (fun r hr => ((own_e3 W x).lt r hr).1); have HX1 := Lib.hid (x_e3 hg1))
                | (refine step_app rfl (.tmp 48) (.tmp 53) rfl (base := W.heap.size) rfl (World.ownsRow.alloc hown1 _) rfl rfl (ints_one w1 x _) (by simp) (by simp; omega) (by have := hb1.size; simp; omega) ?_; intro v2 w2 hown2 hg2 hat2; have hb2 : Below W.heap.size W w2 := below_grown (hb1.alloc hb1.size _) hg2 (fun r hr => (hown1.lt r hr).1))
                | (refine step_app rfl (.tmp 48) (.tmp 53) rfl (base := W.heap.size) rfl hown1 rfl rfl HX1.out (by simp) (by simp; omega) hb1.size ?_; intro v2 w2 hown2 hg2 hat2; have hb2 : Below W.heap.size W w2 := below_grown hb1 hg2 (fun r hr => (hown1.lt r hr).1))
                | (refine step_app rfl (.tmp 54) (.tmp 57) rfl (base := W.heap.size) rfl hown2 rfl rfl (Ints.nil _ _) hcn' (by simp; omega) hb2.size ?_; intro v3 w3 hown3 hg3 hat3; have hb3 : Below W.heap.size W w3 := below_grown hb2 hg3 (fun r hr => (hown2.lt r hr).1)))
            all_goals
              go_wp2_with fail
              go_roundw
              case rel => exact ⟨i + 1, by omega, by go_num, by rw [HNX.out, insU_at HLS.out hk HGE.out]; exact rise_own hBW.size (by rw [show o.take o.length ++ x :: o.drop o.length = [] ++ o.take o.length ++ [x] ++ [] from by simp]; exact hown3), hBW.trans (hb3.mono hBW.size)⟩
              case measure => simp [intOf]; omega
    · have hall : riseL zs = o := by rw [← HO.out, List.take_of_length_le (by have := HN.out; omega)]
      have HALL := Lib.hid hall
      clear hall
      go_wp2_with fail
      go_ret
      exact ⟨_, rfl, by rw [HALL.out]; exact hown, hB⟩

end Go.Proofs.Ytmfkcbanjlmmhaa
