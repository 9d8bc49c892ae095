/-
  A net that is being closed, in memory: begin makes one of its own out of what came in.
-/
import Derived.Test.YtegmegapkfbkeaaDoorFollow
import Derived.Test.YtegmegapkfbkeaaDoorNets
namespace Go.Proofs.YtegmegapkfbkeaaDoor
open Go.RowKit

/-- A slice of numbers that came in. -/
def Ints (w : World) (A : Option Addr) (zs : Nat → Int) (N : Nat) : Prop := ∀ i, i < N → ∃ g off, A = some ⟨g, off, none⟩ ∧ w.cell? ⟨g, off + i, none⟩ = some (.int .i64 (zs i))
theorem Ints.below {W w : World} {A : Option Addr} {zs : Nat → Int} {N : Nat} (h : Ints W A zs N) (hb : Below W.heap.size W w) : Ints w A zs N := fun i hi => by
  obtain ⟨g, off, rfl, c⟩ := h i hi
  exact ⟨g, off, rfl, (hb.cell (p := ⟨g, _, none⟩) (cell_lt c)).trans c⟩

/-- The numbers behind the first two cells of block P. -/
def Tail (w : World) (P : Nat) (C : Nat → Nat) : Prop := P < w.heap.size ∧ ∀ q, q < 169 → w.cell? ⟨P, 2 + q, none⟩ = some (.int .i64 (C q)) ∧ w.frozen? ⟨P, 2 + q, none⟩ = false
def Head (w : World) (P G n N : Nat) : Prop := w.cell? ⟨P, 0, none⟩ = some (.int .i64 n) ∧ w.cell? ⟨P, 1, none⟩ = some (.slice (some ⟨G, 0, none⟩) N N)
/-- A net of n things that is being closed: its head in block P, its sets in block G. -/
structure NetAt (w : World) (P G n N : Nat) (T : Nat → Nat) : Prop where
  head : Head w P G n N
  comp : Comp w P
  sets : Arr w G T N
  other : P ≠ G
theorem Head.below {W w : World} {P G n N B : Nat} (h : Head W P G n N) (hP : P < B) (hb : Below B W w) : Head w P G n N := ⟨(hb.cell (p := ⟨P, 0, none⟩) hP).trans h.1, (hb.cell (p := ⟨P, 1, none⟩) hP).trans h.2⟩
theorem Tail.below {W w : World} {P B : Nat} {C : Nat → Nat} (h : Tail W P C) (hP : P < B) (hb : Below B W w) : Tail w P C :=
  ⟨Nat.lt_of_lt_of_le h.1 hb.size, fun q hq => ⟨(hb.cell (p := ⟨P, _, none⟩) hP).trans (h.2 q hq).1, (hb.frozen (p := ⟨P, _, none⟩) hP).trans (h.2 q hq).2⟩⟩
theorem NetAt.step {W w : World} {P G n N : Nat} {T : Nat → Nat} (h : NetAt W P G n N T) (hb : Below W.heap.size W w) : NetAt w P G n N T :=
  ⟨h.head.below h.comp.1 hb, h.comp.below h.comp.1 hb, h.sets.below h.sets.1 hb, h.other⟩
theorem NetAt.congr {w : World} {P G n N : Nat} {T U : Nat → Nat} (h : NetAt w P G n N T) (e : ∀ p, p < N → T p = U p) : NetAt w P G n N U :=
  ⟨h.head, h.comp, ⟨h.sets.1, fun i hi => ⟨by rw [← e i hi]; exact (h.sets.2 i hi).1, (h.sets.2 i hi).2⟩⟩, h.other⟩

def zeroWork : Array Value := #[.int .i64 0, .slice none 0 0] ++ Array.replicate 169 (.int .i64 0)
theorem run_zeroWork (w : World) : (zeroValue 61).run Tryd.prog w = .ok (.agg zeroWork) w := by kernel_rfl
theorem zero_size : zeroWork.size = 171 := by decide +kernel
theorem zero_get {q : Nat} (hq : q < 169) : zeroWork[2 + q]? = some (.int .i64 0) := by
  unfold zeroWork
  rw [Array.getElem?_append_right (by simp), Array.getElem?_replicate]
  simp; omega

/-- The block that begin makes. -/
theorem begin_block (w : World) (Z : Array Value) (hZ : zeroWork = Z) (n N G : Nat) (t : Nat) :
    Head (w.alloc (.cells ((Z.setIfInBounds 0 (.int .i64 n)).setIfInBounds 1 (.slice (some ⟨G, 0, none⟩) N N)) t)) w.heap.size G n N ∧
    Tail (w.alloc (.cells ((Z.setIfInBounds 0 (.int .i64 n)).setIfInBounds 1 (.slice (some ⟨G, 0, none⟩) N N)) t)) w.heap.size (fun _ => 0) := by
  subst hZ
  have hb := heap_alloc_new w (.cells ((zeroWork.setIfInBounds 0 (.int .i64 n)).setIfInBounds 1 (.slice (some ⟨G, 0, none⟩) N N)) t)
  have hc : ∀ i, (w.alloc (.cells ((zeroWork.setIfInBounds 0 (.int .i64 n)).setIfInBounds 1 (.slice (some ⟨G, 0, none⟩) N N)) t)).cell? ⟨w.heap.size, i, none⟩ = ((zeroWork.setIfInBounds 0 (.int .i64 n)).setIfInBounds 1 (.slice (some ⟨G, 0, none⟩) N N))[i]? := fun i => by
    simp only [World.cell?, hb]; rfl
  have hf : ∀ i, (w.alloc (.cells ((zeroWork.setIfInBounds 0 (.int .i64 n)).setIfInBounds 1 (.slice (some ⟨G, 0, none⟩) N N)) t)).frozen? ⟨w.heap.size, i, none⟩ = false := fun i => by
    simp only [World.frozen?, hb]; simp
  refine ⟨⟨?_, ?_⟩, by simp, fun q hq => ⟨?_, hf _⟩⟩
  · rw [hc]; simp [Array.getElem?_setIfInBounds, zero_size]
  · rw [hc]; simp [Array.getElem?_setIfInBounds, zero_size]
  · rw [hc, Array.getElem?_setIfInBounds, if_neg (by omega), Array.getElem?_setIfInBounds, if_neg (by omega), zero_get hq]; rfl

/-- While the sets are laid. -/
def LayRel (w : World) (P G n N : Nat) (A : Option Addr) (zs : Nat → Int) (k : Nat) (wr : World) : Prop :=
  Head wr P G n N ∧ Tail wr P (fun _ => 0) ∧ (∃ T, Arr wr G T N ∧ ∀ p, p < k → T p = low (zs p)) ∧ Ints wr A zs N ∧ Below w.heap.size w wr
theorem LayRel.next {w wr : World} {P G n N k : Nat} {A : Option Addr} {zs : Nat → Int} (hk : k < N) (hP : P ≠ G) (hG : w.heap.size ≤ G) (hI : Ints w A zs N) (h : LayRel w P G n N A zs k wr) :
    ∃ v, wr.cell? ⟨G, k, none⟩ = some (.int .i64 v) ∧ wr.frozen? ⟨G, k, none⟩ = false ∧ LayRel w P G n N A zs (k + 1) (wr.setCell ⟨G, k, none⟩ (.int .i64 (low (zs k)))) := by
  obtain ⟨h1, h2, ⟨T, h3, h4⟩, h5, h6⟩ := h
  have oth : ∀ o (v : Value), (wr.setCell ⟨G, k, none⟩ (.int .i64 (low (zs k)))).cell? ⟨P, o, none⟩ = wr.cell? ⟨P, o, none⟩ := fun o v => World.cell?_setCell_other wr _ _ _ (by simp [hP])
  have hB : Below w.heap.size w (wr.setCell ⟨G, k, none⟩ (.int .i64 (low (zs k)))) := h6.setCell hG _
  refine ⟨_, (h3.2 k hk).1, (h3.2 k hk).2, ⟨(oth _ .nilIface).trans h1.1, (oth _ .nilIface).trans h1.2⟩, ⟨by simpa [World.setCell] using h2.1, fun q hq => ⟨(oth _ .nilIface).trans (h2.2 q hq).1, by simpa [go_sem] using (h2.2 q hq).2⟩⟩, ⟨_, h3.put hk, fun p hp => ?_⟩, hI.below hB, hB⟩
  unfold upd
  split
  · rename_i e; rw [e]
  · exact h4 p (by omega)

/-- While all that Compose tells is laid. -/
def FillRel (w : World) (P G n N : Nat) (T : Nat → Nat) (m : Nat) (wr : World) : Prop :=
  Head wr P G n N ∧ (∃ C, Tail wr P C ∧ ∀ r s, r < 13 → s < 13 → 13 * r + s < m → C (13 * r + s) = cmpN r s) ∧ Arr wr G T N ∧ Below w.heap.size w wr
theorem FillRel.step {w wr w' : World} {P G n N m : Nat} {T : Nat → Nat} (h : FillRel w P G n N T m wr) (hb : Below wr.heap.size wr w') : FillRel w P G n N T m w' := by
  obtain ⟨h1, ⟨C, h2, h3⟩, h4, h5⟩ := h
  exact ⟨h1.below h2.1 hb, ⟨C, h2.below h2.1 hb, h3⟩, h4.below h4.1 hb, chain h5 hb⟩
theorem FillRel.next {w wr : World} {P G n N r s : Nat} {T : Nat → Nat} (hr : r < 13) (hs : s < 13) (hP : P ≠ G) (hPw : w.heap.size ≤ P) (h : FillRel w P G n N T (13 * r + s) wr) :
    ∃ v : Nat, wr.cell? ⟨P, 2 + r * 13 + s, none⟩ = some (.int .i64 v) ∧ wr.frozen? ⟨P, 2 + r * 13 + s, none⟩ = false ∧ FillRel w P G n N T (13 * r + (s + 1)) (wr.setCell ⟨P, 2 + r * 13 + s, none⟩ (.int .i64 (cmpN r s))) := by
  obtain ⟨h1, ⟨C, h2, h3⟩, h4, h5⟩ := h
  have e : 2 + r * 13 + s = 2 + (13 * r + s) := by omega
  have oth : ∀ o, o < 2 → (wr.setCell ⟨P, 2 + (13 * r + s), none⟩ (.int .i64 (cmpN r s))).cell? ⟨P, o, none⟩ = wr.cell? ⟨P, o, none⟩ := fun o ho => World.cell?_setCell_other wr _ _ _ (by simp <;> omega)
  obtain ⟨c, f⟩ := h2.2 (13 * r + s) (by omega)
  rw [e]
  refine ⟨_, c, f, ⟨(oth 0 (by omega)).trans h1.1, (oth 1 (by omega)).trans h1.2⟩, ⟨upd C (13 * r + s) (cmpN r s), ⟨by simpa [World.setCell] using h2.1, fun q hq => ?_⟩, fun r' s' a b d => ?_⟩, ⟨by simpa [World.setCell] using h4.1, fun i hi => ⟨(World.cell?_setCell_other wr _ _ _ (by simp [Ne.symm hP])).trans (h4.2 i hi).1, by simpa [go_sem] using (h4.2 i hi).2⟩⟩, h5.setCell hPw _⟩
  · obtain ⟨c', f'⟩ := h2.2 q hq
    unfold upd
    by_cases eq : q = 13 * r + s
    · subst eq
      rw [if_pos rfl]
      exact ⟨World.cell?_setCell_same wr _ _ c', by simpa [go_sem] using f'⟩
    · rw [if_neg eq]
      exact ⟨(World.cell?_setCell_other wr _ _ _ (by simp <;> omega)).trans c', by simpa [go_sem] using f'⟩
  · unfold upd
    by_cases eq : 13 * r' + s' = 13 * r + s
    · obtain rfl : r' = r := by omega
      obtain rfl : s' = s := by omega
      rw [if_pos rfl]
    · rw [if_neg eq]; exact h3 r' s' a b (by omega)

def BeginPost (w : World) (n N : Nat) (zs : Nat → Int) (e : Ending) (w' : World) : Prop :=
  ∃ P G T, e = .returned (.pointer (some ⟨P, 0, none⟩)) ∧ NetAt w' P G n N T ∧ (∀ p, p < N → T p = low (zs p)) ∧ w.heap.size ≤ P ∧ w.heap.size ≤ G ∧ Below w.heap.size w w'

set_option maxHeartbeats 4000000 in
set_option maxRecDepth 100000 in
theorem begin_any (n N : Nat) (hN : N ≤ 64) (A : Option Addr) (c : Nat) (zs : Nat → Int) (w : World) (hT : Tab w) (hI : Ints w A zs N) : Calls Tryd.prog 36 #[.int .i64 n, .slice A N c] w (BeginPost w n N zs) := by
  obtain ⟨w1, hmk, hA, hB⟩ := make_ints w N (by omega)
  have HA := Lib.hid hA
  have HB := Lib.hid hB
  have HT := Lib.hid hT
  have HI := Lib.hid hI
  clear hA hB hT hI
  obtain ⟨Z, hZ⟩ : ∃ Z, zeroWork = Z := ⟨_, rfl⟩
  have hz := fun w => run_zeroWork w
  rw [hZ] at hz
  have z0 : Z ≠ #[] := by rw [← hZ]; decide +kernel
  have z1 : 2 ≤ Z.size := by rw [← hZ]; decide +kernel
  have HZ := Lib.hid hZ
  clear hZ
  go_enter Tryd.func36, Tryd.ntmps36
  go_wp2_with fail
  obtain ⟨hh, ht⟩ := begin_block w1 Z HZ.out n N w.heap.size 61
  have hB1 : Below w.heap.size w (w1.alloc (.cells ((Z.setIfInBounds 0 (.int .i64 n)).setIfInBounds 1 (.slice (some ⟨w.heap.size, 0, none⟩) N N)) 61)) := HB.out.alloc HB.out.size _
  have hA1 := HA.out.below HA.out.1 ((Below.refl w1.heap.size w1).alloc (Nat.le_refl _) (.cells ((Z.setIfInBounds 0 (.int .i64 n)).setIfInBounds 1 (.slice (some ⟨w.heap.size, 0, none⟩) N N)) 61))
  generalize (w1.alloc (.cells ((Z.setIfInBounds 0 (.int .i64 n)).setIfInBounds 1 (.slice (some ⟨w.heap.size, 0, none⟩) N N)) 61)) = W at *
  have hP : w1.heap.size ≠ w.heap.size := by have := HA.out.1; omega
  have hPw : w.heap.size ≤ w1.heap.size := HB.out.size
  have R0 : LayRel w w1.heap.size w.heap.size n N A zs 0 W := ⟨hh, ht, ⟨_, hA1, fun p hp => by omega⟩, HI.out.below hB1, hB1⟩
  have R0 := Lib.hid R0
  generalize w1.heap.size = P at *
  clear hh ht hB1 hA1 HZ HA HB hz z0 z1 hmk
  go_loopw [18] (fun i wr => ∃ k : Nat, k ≤ N ∧ i = .int .i64 k ∧ LayRel w P w.heap.size n N A zs k wr) (fun i _ => N - (intOf i).toNat)
  case atStart => exact ⟨0, Nat.zero_le _, rfl, R0.out⟩
  case round =>
    obtain ⟨k, hk, rfl, hR⟩ := hrel
    by_cases hlt : k < N
    · have hltI : (k : Int) < N := by omega
      obtain ⟨v, c0, f0, hn⟩ := hR.next hlt hP (Nat.le_refl _) HI.out
      have h0 := hR.1.1
      have h1 := hR.1.2
      obtain ⟨g, off, hAe, c1⟩ := hR.2.2.2.1 k hlt
      subst hAe
      have NX := Lib.hid hn
      have AE := and_every (zs k)
      clear hn hR
      go_wp2_with fail
      go_roundw
      case rel => exact ⟨k + 1, by omega, by go_num, NX.out⟩
      case measure => simp [intOf]; omega
    · obtain rfl : k = N := by omega
      obtain ⟨h1, h2, ⟨T, h3, h4⟩, h5, h6⟩ := hR
      have F0 := Lib.hid (show FillRel w P w.heap.size n k T 0 wr from ⟨h1, ⟨_, h2, fun r s _ _ h => by omega⟩, h3, h6⟩)
      have H4 := Lib.hid h4
      clear h1 h2 h3 h4 h5 h6
      go_wp2_with fail
      go_loopw [32] (fun i wr => ∃ r : Nat, r ≤ 13 ∧ i = .int .i64 r ∧ FillRel w P w.heap.size n k T (13 * r) wr) (fun i _ => 13 - (intOf i).toNat)
      case atStart => exact ⟨0, Nat.zero_le _, rfl, F0.out⟩
      case round =>
        obtain ⟨r, hr, rfl, hF⟩ := hrel
        have HF := Lib.hid hF
        clear hF
        by_cases hlt1 : r < 13
        · have hltI : (r : Int) < 13 := by omega
          go_wp2_with fail
          go_loopw [35] (fun i wr => ∃ s : Nat, s ≤ 13 ∧ i = .int .i64 s ∧ FillRel w P w.heap.size n k T (13 * r + s) wr) (fun i _ => 13 - (intOf i).toNat)
          case atStart => exact ⟨0, Nat.zero_le _, rfl, HF.out⟩
          case round =>
            obtain ⟨s, hs, rfl, hF⟩ := hrel
            have HF2 := Lib.hid hF
            clear hF
            by_cases hlt2 : s < 13
            · have hltJ : (s : Int) < 13 := by omega
              have HBr := Lib.hid HF2.out.2.2.2
              have CM := Lib.hid (compose_nat r s hlt1 hlt2 _ (HT.out.below HT.out.1 ((HF2.out.2.2.2).drew)))
              have NXT := Lib.hid (fun w' (hb : Below wr.heap.size wr w') => (HF2.out.step hb).next hlt1 hlt2 hP hPw)
              go_wp2_with fail
              go_region_held3 (fun w' => Below w.heap.size w w')
                (first | exact HBr.out.drew | exact chain HBr.out.drew hb3 | exact (chain HBr.out.drew hb3).setCell (by assumption) _ | fail)
                (first
                  | (go_at_call 17; refine CM.out.mono ?_; rintro e w3 ⟨rfl, hb3⟩; obtain ⟨v, c0, f0, hn⟩ := NXT.out w3 (((Below.refl _ _).drew).trans hb3); have NX := Lib.hid hn; clear hn))
              go_wp2_with fail
              go_roundw
              case rel => exact ⟨s + 1, by omega, by go_num, NX.out⟩
              case measure => simp [intOf]; omega
            · obtain rfl : s = 13 := by omega
              go_wp2_with fail
              go_roundw
              case rel => exact ⟨r + 1, by omega, by go_num, HF2.out⟩
              case measure => simp [intOf]; omega
        · obtain rfl : r = 13 := by omega
          go_wp2_with fail
          go_ret
          obtain ⟨h1, ⟨C, h2, h3⟩, h4, h5⟩ := HF.out
          refine ⟨P, w.heap.size, T, rfl, ⟨h1, ⟨h2.1, fun r s hr hs => ?_⟩, h4, hP⟩, H4.out, hPw, Nat.le_refl _, h5⟩
          have e : 2 + r * 13 + s = 2 + (13 * r + s) := by omega
          rw [e, (h2.2 (13 * r + s) (by omega)).1, h3 r s hr hs (by omega)]

end Go.Proofs.YtegmegapkfbkeaaDoor
