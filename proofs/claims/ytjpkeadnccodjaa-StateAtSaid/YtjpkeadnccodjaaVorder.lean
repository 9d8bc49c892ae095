/-
  The document's Order of versions. (Made by wip/gen/vorder.py.)
-/
import Derived.Test.YtjpkeadnccodjaaVmem
import Derived.Deep.RegionHeld3
namespace Go.Proofs.Ytjpkeadnccodjaa
open Go.RowKit

theorem abstract_worldV {P : Program} {code : Code} {Q : Exit → Act → World → Prop} {a : Act} {w : World} (R : World → Prop) (h0 : R w) (h : ∀ W, R W → Code.wp P code Q a W) : Code.wp P code Q a w := h w h0
section
variable {α : Type} {E : El α}
theorem ownE_f1 (W : World) : ownE E (W.alloc (.cells #[] E.e)).drew W.heap.size (.slice (some ⟨W.heap.size, 0, none⟩) 0 0) ([] : List α) := ownE_empty (heap_alloc_new W _) (Nat.le_refl _)
theorem ownE_f2 (W : World) (o : Obj) : ownE E ((W.alloc (.cells #[] E.e)).alloc o).drew W.heap.size (.slice (some ⟨W.heap.size, 0, none⟩) 0 0) ([] : List α) :=
  ownE_empty ((Below.heap_alloc (W.alloc (.cells #[] E.e)) _ W.heap.size (by simp)).trans (heap_alloc_new W _)) (Nat.le_refl _)
theorem ownE_f3 (W : World) (o : Obj) : ownE E ((W.alloc o).alloc (.cells #[] E.e)).drew W.heap.size (.slice (some ⟨W.heap.size + 1, 0, none⟩) 0 0) ([] : List α) :=
  ownE_empty (w := ((W.alloc o).alloc (.cells #[] E.e))) (by have := heap_alloc_new (W.alloc o) (.cells #[] E.e); simpa using this) (by omega)
/-- One element in a block of its own. -/
theorem rowE_cells {w : World} {b : Nat} {x : α} (h : ∀ j u, (E.cells x)[j]? = some u → w.cell? ⟨b, j, none⟩ = some u) : RowE E w (some ⟨b, 0, none⟩) [x] := fun i y hy => by
  rcases i with _ | i
  · obtain rfl : x = y := by simpa using hy
    exact ⟨b, 0, rfl, fun j u hu => by simpa using h j u hu⟩
  · simp at hy
end
/-- The block of one version. -/
abbrev ocV (v : Vr) : Obj := .cells #[.int .i64 v.id, .int .i64 v.st, .string v.ent, .int .i64 v.sf, .int .i64 v.se, .slice v.fa v.fs.length v.fc, .bool v.gone] 45
theorem seven {p : Nat → Value → Prop} {a b c d e f g : Value} (h0 : p 0 a) (h1 : p 1 b) (h2 : p 2 c) (h3 : p 3 d) (h4 : p 4 e) (h5 : p 5 f) (h6 : p 6 g) : ∀ j u, [a, b, c, d, e, f, g][j]? = some u → p j u := fun j u hu => by
  match j, hu with
  | 0, hu => obtain rfl : a = u := by simpa using hu
             exact h0
  | 1, hu => obtain rfl : b = u := by simpa using hu
             exact h1
  | 2, hu => obtain rfl : c = u := by simpa using hu
             exact h2
  | 3, hu => obtain rfl : d = u := by simpa using hu
             exact h3
  | 4, hu => obtain rfl : e = u := by simpa using hu
             exact h4
  | 5, hu => obtain rfl : f = u := by simpa using hu
             exact h5
  | 6, hu => obtain rfl : g = u := by simpa using hu
             exact h6
  | j + 7, hu => simp at hu
theorem xV_f2 {W w1 : World} {x : Vr} {T : TypeId} (hg : ((W.alloc (.cells #[] T)).alloc (ocV x)).drew.grownBy w1 (Value.slice (some ⟨W.heap.size, 0, none⟩) 0 0).ownBlock) : RowE EV w1 (some ⟨W.heap.size + 1, 0, none⟩) [x] :=
  rowE_cells (seven (hg.cell (by simp [go_sem]) (by simp [Value.ownBlock])) (hg.cell (by simp [go_sem]) (by simp [Value.ownBlock])) (hg.cell (by simp [go_sem]) (by simp [Value.ownBlock])) (hg.cell (by simp [go_sem]) (by simp [Value.ownBlock]))
    (hg.cell (by simp [go_sem]) (by simp [Value.ownBlock])) (hg.cell (by simp [go_sem]) (by simp [Value.ownBlock])) (hg.cell (by simp [go_sem]) (by simp [Value.ownBlock])))
theorem xV_f3 {W w1 : World} {x : Vr} {T : TypeId} (hg : ((W.alloc (ocV x)).alloc (.cells #[] T)).drew.grownBy w1 (Value.slice (some ⟨W.heap.size + 1, 0, none⟩) 0 0).ownBlock) : RowE EV w1 (some ⟨W.heap.size, 0, none⟩) [x] :=
  rowE_cells (seven (hg.cell (by simp [go_sem]) (by simp [Value.ownBlock])) (hg.cell (by simp [go_sem]) (by simp [Value.ownBlock])) (hg.cell (by simp [go_sem]) (by simp [Value.ownBlock])) (hg.cell (by simp [go_sem]) (by simp [Value.ownBlock]))
    (hg.cell (by simp [go_sem]) (by simp [Value.ownBlock])) (hg.cell (by simp [go_sem]) (by simp [Value.ownBlock])) (hg.cell (by simp [go_sem]) (by simp [Value.ownBlock])))

set_option maxHeartbeats 4000000 in
set_option maxRecDepth 10000 in
theorem dorder_any (w : World) (u : Value) (l : List Vr) (hl : VersL w u l) (hn : l.length ≤ 100000) :
    Calls Try.prog 12 #[u] w fun e w' => ∃ x, e = .returned x ∧ VersL w' x (ordL l) ∧ Below w.heap.size w w' := by
  obtain ⟨⟨A, c, rfl, hA, hc, hnc⟩, hVF⟩ := hl
  have HA := Lib.hid hA
  have HVF := Lib.hid hVF
  obtain ⟨n, hnm⟩ : ∃ n, l.length = n := ⟨_, rfl⟩
  rw [hnm] at hn ⊢
  have HN := Lib.hid hnm
  clear hA hc hnc hVF hnm
  go_enter Try.func12, Try.ntmps12
  go_wp2_with fail
  go_loopw [3, 4] (fun o i wr => ∃ t acc, t ≤ n ∧ i = .int .i64 (t : Nat) ∧ acc = ordL (l.take t) ∧ OE EV w acc o wr) (fun _ i _ => n - (intOf i).toNat)
  case atStart => exact ⟨0, [], Nat.zero_le _, rfl, rfl, OE.nil w⟩
  case round =>
    obtain ⟨t, acc, ht, rfl, hacc, hO⟩ := hrel
    by_cases hlt : t < n
    · have hlt' : (t : Int) < (n : Int) := by omega
      obtain ⟨x, hx⟩ : ∃ x, l[t]? = some x := ⟨_, List.getElem?_eq_getElem (by have := HN.out; omega)⟩
      obtain ⟨g, off, rfl, hX⟩ := (HA.out.below hO.bel).cells7 hx
      have HNXT := Lib.hid (show insV acc x = ordL (l.take (t + 1)) by rw [List.take_add_one, hx, Option.toList_some, ordL_snoc, hacc])
      have hsort : SortedV acc := by rw [hacc]; exact ordL_sorted _
      have HS := Lib.hid hsort
      obtain ⟨m, hm⟩ : ∃ m, acc.length = m := ⟨_, rfl⟩
      have hm5 : m ≤ 100000 := by rw [← hm, hacc, ordL_length, List.length_take]; omega
      obtain ⟨B, d, hu, hB, hBd, hBn⟩ := hO.list
      rw [hm] at hu hBd
      subst hu
      have HAM := Lib.hid hm
      have HO := Lib.hid hO
      have HX := Lib.hid hX
      have HB := Lib.hid hB
      have HBD := Lib.hid hBd
      have HBN := Lib.hid hBn
      have HROW := Lib.hid (show ∀ W, OE EV w acc (.slice B m d) W → RowE EV W B acc from fun W h => by
        obtain ⟨B', d', e, h1, _⟩ := h.list
        injection e with e1 e2 e3
        rw [e1]; exact h1)
      clear hX hacc hsort hm hO hB hBd hBn hx
      go_wp2_with fail
      go_loopw [5] (fun j wr' => ∃ k q, k ≤ m ∧ j = .int .i64 (k : Nat) ∧ (∀ j' y, k ≤ j' → acc[j']? = some y → x.st < y.st) ∧ wr' = wr.drewN q) (fun j _ => (intOf j).toNat)
      case atStart =>
        trace_state
        refine ⟨m, 0, Nat.le_refl _, rfl, ?_, rfl⟩
        intro j y hj hy
        rw [List.getElem?_eq_none (by have := HAM.out; omega)] at hy
        cases hy
      case round =>
        obtain ⟨k, q, hk, rfl, hgt, rfl⟩ := hrel
        have HGT := Lib.hid hgt
        clear hgt
        by_cases hk0 : k = 0
        · subst hk0
          have HNX := Lib.hid (show acc.take 0 ++ x :: acc.drop 0 = ordL (l.take (t + 1)) by rw [← HNXT.out, insV_from HS.out x 0 (Nat.zero_le _) HGT.out (.inl rfl)])
          have HK := Lib.hid (show 0 ≤ m from Nat.zero_le _)
          obtain ⟨B2, hs20, hfr, hnb2⟩ := slice_from (E := EV) (A := B) (n := m) (c := d) (k := 0) HK.out HBD.out HBN.out
          have hs2 : ∀ w, (Instr.slice 22 (.slice B m d) (some (.int .i64 0)) none none).run Try.prog w = .ok (.slice B2 (m) (d)) w := hs20
          have hs1 : ∀ w, (Instr.slice 22 (.slice B m d) none (some (.int .i64 0)) none).run Try.prog w = .ok (.slice B (0) d) w := slice_ahead (E := EV) (A := B) (n := m) (c := d) (k := 0) HK.out HBD.out
          have HFR := Lib.hid hfr
          have HNB2 := Lib.hid hnb2
          have HNB := Lib.hid HBN.out
          have HTK := Lib.hid (show 0 = (acc.take 0).length by rw [List.length_take, HAM.out]; have := HK.out; omega)
          have HDR := Lib.hid (show m = (acc.drop 0).length by rw [List.length_drop, HAM.out]; try omega)
          have HS1 := Lib.hid (show (acc.take 0).length ≤ 100000 by rw [List.length_take]; have := HAM.out; omega)
          have HS2 := Lib.hid (show (acc.drop 0).length ≤ 100000 by rw [List.length_drop]; have := HAM.out; omega)
          clear hk hs20 hfr hnb2
          go_wp2_with fail
          go_quiet (fail)
          go_wp2_with fail
          refine abstract_worldV (fun W => OE EV w acc (.slice B m d) W ∧ Cells7 W g (off + t * 7) x) ⟨HO.out.below (belowN (belowN (bl wr) _) _), HX.out.below (belowN (belowN (bl wr) _) _)⟩ ?_
          rintro W ⟨hOW, hXW⟩
          have HOW := Lib.hid hOW
          have MK := Lib.hid (show ∀ w', Below W.heap.size W w' → (Below W.heap.size W w' ∧ Cells7 w' g (off + t * 7) x) from fun w' h => ⟨h, hXW.below h⟩)
          have HHD := Lib.hid ((HROW.out W hOW).take 0)
          have HTL := Lib.hid (HFR.out W acc (HROW.out W hOW) HAM.out)
          clear hOW hXW
          go_region_held3 (fun w' => Below W.heap.size W w' ∧ Cells7 w' g (off + t * 7) x)
            (first | exact MK.out _ ((Below.refl _ _).drew) | exact MK.out _ hb3 | exact MK.out _ hb2 | exact MK.out _ (hb1.alloc hb1.size _) | exact MK.out _ hb1 | exact MK.out _ (by go_grown) | fail)
            (first
              | (refine step_appE (E := EV) rfl (.tmp 32) (.tmp 35) rfl rfl (base := W.heap.size) rfl (ownE_f1 W) rfl HTK.out (HHD.out.below (by go_split_ands; assumption)) HNB.out (by have := HS1.out; have := HS2.out; simp only [List.length_append, List.length_nil, List.length_cons]; omega) (by simp) ?_; intro v1 w1 hown1 hg1 hat1; have hb1 : Below W.heap.size W w1 := below_grownE (by go_split_ands; assumption) hg1 (fun r hr => ((ownE_f1 (E := EV) W).lt r hr).1))
              | (refine step_appE (E := EV) rfl (.tmp 32) (.tmp 35) rfl rfl (base := W.heap.size) rfl (ownE_f2 W (ocV x)) rfl HTK.out (HHD.out.below (by go_split_ands; assumption)) HNB.out (by have := HS1.out; have := HS2.out; simp only [List.length_append, List.length_nil, List.length_cons]; omega) (by simp; omega) ?_; intro v1 w1 hown1 hg1 hat1; have hb1 : Below W.heap.size W w1 := below_grownE (by go_split_ands; assumption) hg1 (fun r hr => ((ownE_f2 (E := EV) W (ocV x)).lt r hr).1); have HX1 := Lib.hid (xV_f2 hg1))
              | (refine step_appE (E := EV) rfl (.tmp 32) (.tmp 35) rfl rfl (base := W.heap.size) rfl (ownE_f3 W (ocV x)) rfl HTK.out (HHD.out.below (by go_split_ands; assumption)) HNB.out (by have := HS1.out; have := HS2.out; simp only [List.length_append, List.length_nil, List.length_cons]; omega) (by simp; omega) ?_; intro v1 w1 hown1 hg1 hat1; have hb1 : Below W.heap.size W w1 := below_grownE (by go_split_ands; assumption) hg1 (fun r hr => ((ownE_f3 (E := EV) W (ocV x)).lt r hr).1); have HX1 := Lib.hid (xV_f3 hg1))
              | (refine step_appE (E := EV) rfl (.tmp 36) (.tmp 41) rfl rfl (base := W.heap.size) rfl (World.ownsRow.alloc hown1 _) rfl rfl (rowE_one w1 x _ rfl _) (by simp) (by have := HS1.out; have := HS2.out; simp only [List.length_append, List.length_nil, List.length_cons]; omega) (by have := hb1.size; simp; omega) ?_; intro v2 w2 hown2 hg2 hat2; have hb2 : Below W.heap.size W w2 := below_grownE (hb1.alloc hb1.size _) hg2 (fun r hr => (hown1.lt r hr).1))
              | (refine step_appE (E := EV) rfl (.tmp 36) (.tmp 41) rfl rfl (base := W.heap.size) rfl hown1 rfl rfl HX1.out (by simp) (by have := HS1.out; have := HS2.out; simp only [List.length_append, List.length_nil, List.length_cons]; omega) hb1.size ?_; intro v2 w2 hown2 hg2 hat2; have hb2 : Below W.heap.size W w2 := below_grownE hb1 hg2 (fun r hr => (hown1.lt r hr).1))
              | (refine step_appE (E := EV) rfl (.tmp 42) (.tmp 45) rfl rfl (base := W.heap.size) rfl hown2 rfl HDR.out (HTL.out.below hb2) HNB2.out (by have := HS1.out; have := HS2.out; simp only [List.length_append, List.length_nil, List.length_cons]; omega) hb2.size ?_; intro v3 w3 hown3 hg3 hat3; have hb3 : Below W.heap.size W w3 := below_grownE hb2 hg3 (fun r hr => (hown2.lt r hr).1))
              | fail)
          all_goals
            go_wp2_with fail
            exact ⟨⟨t + 1, _, by omega, by go_num, HNX.out, ⟨ownE_lower HOW.out.bel.size (by rw [show acc.take 0 ++ x :: acc.drop 0 = [] ++ acc.take 0 ++ [x] ++ acc.drop 0 from by simp]; exact hown3), HOW.out.bel.trans (hb3.mono HOW.out.bel.size)⟩⟩, by simp [intOf] <;> omega⟩
        · obtain ⟨i, hi⟩ : ∃ i, k = i + 1 := ⟨k - 1, by omega⟩
          obtain ⟨y, hy⟩ : ∃ y, acc[i]? = some y := ⟨_, List.getElem?_eq_getElem (by have := HAM.out; omega)⟩
          obtain ⟨g1, off1, rfl, hY⟩ := HB.out.cells7 hy
          have y1 := hY.2.1
          have x1 := HX.out.2.1
          have w1 : IntKind.i64.wrap ((k : Int) - 1) = (i : Int) := by rw [IntKind.wrap_i64]; omega
          have kp : (0 : Int) < (k : Int) := by omega
          have kq : decide (0 < k) = true := by rw [decide_eq_true_eq]; omega
          have im : (i : Int) < (m : Int) := by omega
          by_cases hst : x.st < y.st
          · have NX := Lib.hid (show ∀ j' z, i ≤ j' → acc[j']? = some z → x.st < z.st from fun j' z hj hz => by
              rcases Nat.lt_or_ge j' k with h1 | h1
              · obtain rfl : j' = i := by omega
                rw [hy] at hz
                rw [← Option.some.inj hz]; exact hst
              · exact HGT.out j' z h1 hz)
            have hik : i < k := by omega
            have him : i ≤ m := by omega
            clear hY hy hi
            go_wp2_with fail
            go_quiet (fail)
            go_wp2_with fail
            exact ⟨⟨i, _, him, by go_num, NX.out, rfl⟩, by simp [intOf] <;> omega⟩
          · have HNX := Lib.hid (show acc.take k ++ x :: acc.drop k = ordL (l.take (t + 1)) by rw [← HNXT.out, insV_from HS.out x k (by have := HAM.out; omega) HGT.out (.inr ⟨i, y, hi, hy, by omega⟩)])
            have HK := Lib.hid (show k ≤ m from hk)
            obtain ⟨B2, hs20, hfr, hnb2⟩ := slice_from (E := EV) (A := (some ⟨g1, off1, none⟩)) (n := m) (c := d) (k := k) HK.out HBD.out HBN.out
            have hs2 : ∀ w, (Instr.slice 22 (.slice (some ⟨g1, off1, none⟩) m d) (some (.int .i64 (k : Int))) none none).run Try.prog w = .ok (.slice B2 (m - k) (d - k)) w := hs20
            have hs1 : ∀ w, (Instr.slice 22 (.slice (some ⟨g1, off1, none⟩) m d) none (some (.int .i64 (k : Int))) none).run Try.prog w = .ok (.slice (some ⟨g1, off1, none⟩) (k) d) w := slice_ahead (E := EV) (A := (some ⟨g1, off1, none⟩)) (n := m) (c := d) (k := k) HK.out HBD.out
            have HFR := Lib.hid hfr
            have HNB2 := Lib.hid hnb2
            have HNB := Lib.hid HBN.out
            have HTK := Lib.hid (show k = (acc.take k).length by rw [List.length_take, HAM.out]; have := HK.out; omega)
            have HDR := Lib.hid (show m - k = (acc.drop k).length by rw [List.length_drop, HAM.out]; try omega)
            have HS1 := Lib.hid (show (acc.take k).length ≤ 100000 by rw [List.length_take]; have := HAM.out; omega)
            have HS2 := Lib.hid (show (acc.drop k).length ≤ 100000 by rw [List.length_drop]; have := HAM.out; omega)
            clear hk hs20 hfr hnb2 hY hy hi hk0
            go_wp2_with fail
            go_quiet (fail)
            go_wp2_with fail
            refine abstract_worldV (fun W => OE EV w acc (.slice (some ⟨g1, off1, none⟩) m d) W ∧ Cells7 W g (off + t * 7) x) ⟨HO.out.below (belowN (belowN (bl wr) _) _), HX.out.below (belowN (belowN (bl wr) _) _)⟩ ?_
            rintro W ⟨hOW, hXW⟩
            have HOW := Lib.hid hOW
            have MK := Lib.hid (show ∀ w', Below W.heap.size W w' → (Below W.heap.size W w' ∧ Cells7 w' g (off + t * 7) x) from fun w' h => ⟨h, hXW.below h⟩)
            have HHD := Lib.hid ((HROW.out W hOW).take k)
            have HTL := Lib.hid (HFR.out W acc (HROW.out W hOW) HAM.out)
            clear hOW hXW
            go_region_held3 (fun w' => Below W.heap.size W w' ∧ Cells7 w' g (off + t * 7) x)
              (first | exact MK.out _ ((Below.refl _ _).drew) | exact MK.out _ hb3 | exact MK.out _ hb2 | exact MK.out _ (hb1.alloc hb1.size _) | exact MK.out _ hb1 | exact MK.out _ (by go_grown) | fail)
              (first
                | (refine step_appE (E := EV) rfl (.tmp 32) (.tmp 35) rfl rfl (base := W.heap.size) rfl (ownE_f1 W) rfl HTK.out (HHD.out.below (by go_split_ands; assumption)) HNB.out (by have := HS1.out; have := HS2.out; simp only [List.length_append, List.length_nil, List.length_cons]; omega) (by simp) ?_; intro v1 w1 hown1 hg1 hat1; have hb1 : Below W.heap.size W w1 := below_grownE (by go_split_ands; assumption) hg1 (fun r hr => ((ownE_f1 (E := EV) W).lt r hr).1))
                | (refine step_appE (E := EV) rfl (.tmp 32) (.tmp 35) rfl rfl (base := W.heap.size) rfl (ownE_f2 W (ocV x)) rfl HTK.out (HHD.out.below (by go_split_ands; assumption)) HNB.out (by have := HS1.out; have := HS2.out; simp only [List.length_append, List.length_nil, List.length_cons]; omega) (by simp; omega) ?_; intro v1 w1 hown1 hg1 hat1; have hb1 : Below W.heap.size W w1 := below_grownE (by go_split_ands; assumption) hg1 (fun r hr => ((ownE_f2 (E := EV) W (ocV x)).lt r hr).1); have HX1 := Lib.hid (xV_f2 hg1))
                | (refine step_appE (E := EV) rfl (.tmp 32) (.tmp 35) rfl rfl (base := W.heap.size) rfl (ownE_f3 W (ocV x)) rfl HTK.out (HHD.out.below (by go_split_ands; assumption)) HNB.out (by have := HS1.out; have := HS2.out; simp only [List.length_append, List.length_nil, List.length_cons]; omega) (by simp; omega) ?_; intro v1 w1 hown1 hg1 hat1; have hb1 : Below W.heap.size W w1 := below_grownE (by go_split_ands; assumption) hg1 (fun r hr => ((ownE_f3 (E := EV) W (ocV x)).lt r hr).1); have HX1 := Lib.hid (xV_f3 hg1))
                | (refine step_appE (E := EV) rfl (.tmp 36) (.tmp 41) rfl rfl (base := W.heap.size) rfl (World.ownsRow.alloc hown1 _) rfl rfl (rowE_one w1 x _ rfl _) (by simp) (by have := HS1.out; have := HS2.out; simp only [List.length_append, List.length_nil, List.length_cons]; omega) (by have := hb1.size; simp; omega) ?_; intro v2 w2 hown2 hg2 hat2; have hb2 : Below W.heap.size W w2 := below_grownE (hb1.alloc hb1.size _) hg2 (fun r hr => (hown1.lt r hr).1))
                | (refine step_appE (E := EV) rfl (.tmp 36) (.tmp 41) rfl rfl (base := W.heap.size) rfl hown1 rfl rfl HX1.out (by simp) (by have := HS1.out; have := HS2.out; simp only [List.length_append, List.length_nil, List.length_cons]; omega) hb1.size ?_; intro v2 w2 hown2 hg2 hat2; have hb2 : Below W.heap.size W w2 := below_grownE hb1 hg2 (fun r hr => (hown1.lt r hr).1))
                | (refine step_appE (E := EV) rfl (.tmp 42) (.tmp 45) rfl rfl (base := W.heap.size) rfl hown2 rfl HDR.out (HTL.out.below hb2) HNB2.out (by have := HS1.out; have := HS2.out; simp only [List.length_append, List.length_nil, List.length_cons]; omega) hb2.size ?_; intro v3 w3 hown3 hg3 hat3; have hb3 : Below W.heap.size W w3 := below_grownE hb2 hg3 (fun r hr => (hown2.lt r hr).1))
                | fail)
            all_goals
              go_wp2_with fail
              exact ⟨⟨t + 1, _, by omega, by go_num, HNX.out, ⟨ownE_lower HOW.out.bel.size (by rw [show acc.take k ++ x :: acc.drop k = [] ++ acc.take k ++ [x] ++ acc.drop k from by simp]; exact hown3), HOW.out.bel.trans (hb3.mono HOW.out.bel.size)⟩⟩, by simp [intOf] <;> omega⟩
    · obtain rfl : t = n := by omega
      have hlt' : ¬ (t : Int) < (t : Int) := by omega
      have HE := Lib.hid (show acc = ordL l by rw [hacc, List.take_of_length_le (by have := HN.out; omega)])
      have HO := Lib.hid hO
      clear hacc hO
      go_wp2_with fail
      go_ret
      exact ⟨_, rfl, ⟨by rw [← HE.out]; exact HO.out.list, fun v hv => (HVF.out v ((ordL_perm l).mem_iff.1 hv)).below HO.out.bel⟩, HO.out.bel⟩

end Go.Proofs.Ytjpkeadnccodjaa
