/-
  pick: the cover of the times that count.
-/
import Derived.Test.YtmfkcbanjlmmhaaCturns
import Derived.StillTailTactics
import Derived.Deep.CutRange
import Derived.IntWalk
namespace Go.Proofs.Ytmfkcbanjlmmhaa
open Go.RowKit Go.Sort Go.Shelf

theorem own_same {w w' : World} {b e size n : Nat} {v : Value} {xs : List Value} (h : w.ownsRow b e size v n xs) (hb : ∀ g, b ≤ g → g < w.heap.size → w'.heap[g]? = w.heap[g]?) : w'.ownsRow b e size v n xs := by
  refine ⟨h.1, ?_⟩
  rcases h.2 with h2 | ⟨g, cap, cur, rfl, hg, hh, r⟩
  · exact .inl h2
  · exact .inr ⟨g, cap, cur, rfl, hg, (hb g hg (Array.getElem?_eq_some_iff.1 hh).1).trans hh, r⟩
theorem cell_same {w w' : World} {g o : Nat} (h : w'.heap[g]? = w.heap[g]?) : w'.cell? ⟨g, o, none⟩ = w.cell? ⟨g, o, none⟩ := by simp [World.cell?, h]

/-- What lies in memory between two rounds of pick: its own list, which lists have turned, and all else as it was. -/
structure PkMem (w : World) (I : Nat) (W1 : World) (o : List Sp) (v : Value) (x y : Bool) (wr : World) : Prop where
  own : wr.ownsRow W1.heap.size 36 2 v o.length (flat o)
  box : wr.heap[I]? = some (.cells #[.bool x, .bool y] 57 (0, 0))
  size : W1.heap.size ≤ wr.heap.size
  keep : ∀ k, k < W1.heap.size → k ≠ I → wr.heap[k]? = W1.heap[k]?
  low : Below w.heap.size w wr
theorem PkMem.step {w W1 wr w1 : World} {I : Nat} {o : List Sp} {v : Value} {x y : Bool} (h : PkMem w I W1 o v x y wr) (hb : Below wr.heap.size wr w1) : PkMem w I W1 o v x y w1 :=
  ⟨own_below h.own hb, (hb.block _ (Array.getElem?_eq_some_iff.1 h.box).1).trans h.box, Nat.le_trans h.size hb.size, fun k hk hne => (hb.block k (Nat.lt_of_lt_of_le hk h.size)).trans (h.keep k hk hne), chain h.low hb⟩
theorem PkMem.set0 {w W1 wr : World} {I : Nat} {o : List Sp} {v : Value} {x y : Bool} (h : PkMem w I W1 o v x y wr) (hI : w.heap.size ≤ I) (hI1 : I < W1.heap.size) (z : Bool) : PkMem w I W1 o v z y (wr.setCell ⟨I, 0, none⟩ (.bool z)) := by
  refine ⟨own_same h.own fun g hg _ => Below.heap_setCell _ _ _ _ (by simp; omega), ?_, by simpa using h.size, fun k hk hne => (Below.heap_setCell _ _ _ _ (by simpa using hne)).trans (h.keep k hk hne), h.low.setCell (p := ⟨I, 0, none⟩) hI _⟩
  rw [heap_setCell_same _ _ _ _ _ _ h.box]
  rfl
theorem PkMem.set1 {w W1 wr : World} {I : Nat} {o : List Sp} {v : Value} {x y : Bool} (h : PkMem w I W1 o v x y wr) (hI : w.heap.size ≤ I) (hI1 : I < W1.heap.size) (z : Bool) : PkMem w I W1 o v x z (wr.setCell ⟨I, 1, none⟩ (.bool z)) := by
  refine ⟨own_same h.own fun g hg _ => Below.heap_setCell _ _ _ _ (by simp; omega), ?_, by simpa using h.size, fun k hk hne => (Below.heap_setCell _ _ _ _ (by simpa using hne)).trans (h.keep k hk hne), h.low.setCell (p := ⟨I, 1, none⟩) hI _⟩
  rw [heap_setCell_same _ _ _ _ _ _ h.box]
  rfl
theorem PkMem.app {w W1 wr w1 : World} {I : Nat} {o : List Sp} {v v1 : Value} {x y : Bool} {ob : Obj} {f t : Int} (h : PkMem w I W1 o v x y wr) (hI1 : I < W1.heap.size) (hw : w.heap.size ≤ W1.heap.size) (hg : (wr.alloc ob).grownBy w1 v.ownBlock) (hown : w1.ownsRow W1.heap.size 36 2 v1 (o.length + 1) (flat o ++ [.int .i64 f, .int .i64 t])) : PkMem w I W1 (o ++ [(f, t)]) v1 x y w1 := by
  have hr : ∀ k, v.ownBlock = some k → W1.heap.size ≤ k := fun k hk => (h.own.lt k hk).1
  have hblk : ∀ k, k < W1.heap.size → w1.heap[k]? = wr.heap[k]? := fun k hk => by
    have hk2 := Nat.lt_of_lt_of_le hk h.size
    refine (hg.block k (by simp; omega) (fun e => by have := hr k e.symm; omega)).trans (Below.heap_alloc wr ob k hk2)
  refine ⟨by rw [flat_snoc, List.length_append]; exact hown, (hblk I hI1).trans h.box, ?_, fun k hk hne => (hblk k hk).trans (h.keep k hk hne), below_app h.low hg (by have := h.size; omega) (fun k hk => by have := hr k hk; omega)⟩
  have := hg.size
  have := h.size
  simp at *
  omega
theorem PkMem.spans {w W1 wr : World} {I : Nat} {o : List Sp} {v : Value} {x y : Bool} (h : PkMem w I W1 o v x y wr) {A : Option Addr} {s : List Sp} (hs : Spans W1 A s) (hA : ∀ g off, A = some ⟨g, off, none⟩ → g ≠ I ∧ g < W1.heap.size) : Spans wr A s := fun i p hp => by
  obtain ⟨g, off, rfl, c0, c1⟩ := hs i p hp
  obtain ⟨h1, h2⟩ := hA g off rfl
  exact ⟨g, off, rfl, (cell_same (h.keep g h2 h1)).trans c0, (cell_same (h.keep g h2 h1)).trans c1⟩
theorem PkMem.cells {w W1 wr : World} {I : Nat} {o : List Sp} {v : Value} {x y : Bool} (h : PkMem w I W1 o v x y wr) : wr.cell? ⟨I, 0, none⟩ = some (.bool x) ∧ wr.cell? ⟨I, 1, none⟩ = some (.bool y) ∧ wr.frozen? ⟨I, 0, none⟩ = false ∧ wr.frozen? ⟨I, 1, none⟩ = false := by
  simp [World.cell?, World.frozen?, h.box]

/-- Which of the three closures tells what counts, and what it tells. -/
def Tells3 (g : Nat) (f : Bool → Bool → Bool) : Prop := (g = 32 ∧ f = fun x y => x || y) ∨ (g = 35 ∧ f = fun x y => x && y) ∨ (g = 36 ∧ f = fun x y => x && !y)
theorem tells_or (x y : Bool) (W : World) : Calls Try.prog 32 #[.bool x, .bool y] W fun e w' => e = .returned (.bool (x || y)) ∧ Below W.heap.size W w' := by
  cases x
  all_goals
    go_enter Try.func32, Try.ntmps32
    go_wp2
    go_ret
    exact ⟨rfl, bl _⟩
theorem tells_and (x y : Bool) (W : World) : Calls Try.prog 35 #[.bool x, .bool y] W fun e w' => e = .returned (.bool (x && y)) ∧ Below W.heap.size W w' := by
  cases x
  all_goals
    go_enter Try.func35, Try.ntmps35
    go_wp2
    go_ret
    exact ⟨rfl, bl _⟩
theorem tells_less (x y : Bool) (W : World) : Calls Try.prog 36 #[.bool x, .bool y] W fun e w' => e = .returned (.bool (x && !y)) ∧ Below W.heap.size W w' := by
  cases x
  all_goals
    go_enter Try.func36, Try.ntmps36
    go_wp2
    go_ret
    exact ⟨rfl, bl _⟩

theorem tells_any {g : Nat} {f : Bool → Bool → Bool} (hg : Tells3 g f) (x y : Bool) (W : World) : Calls Try.prog g #[.bool x, .bool y] W fun e w' => e = .returned (.bool (f x y)) ∧ Below W.heap.size W w' := by
  rcases hg with ⟨rfl, rfl⟩ | ⟨rfl, rfl⟩ | ⟨rfl, rfl⟩
  · exact tells_or x y W
  · exact tells_and x y W
  · exact tells_less x y W
theorem odd_take0 {s : List Tn} {k : Nat} {t : Int} (hp : s[k]? = some (t, 0)) : odd (s.take (k + 1)) 0 = (!odd (s.take k) 0) ∧ odd (s.take (k + 1)) 1 = odd (s.take k) 1 := by
  rw [take_snoc hp]
  exact ⟨odd_snoc_same _ _ rfl, odd_snoc_other _ _ (by simp)⟩
theorem odd_take1 {s : List Tn} {k : Nat} {t : Int} (hp : s[k]? = some (t, 1)) : odd (s.take (k + 1)) 1 = (!odd (s.take k) 1) ∧ odd (s.take (k + 1)) 0 = odd (s.take k) 0 := by
  rw [take_snoc hp]
  exact ⟨odd_snoc_same _ _ rfl, odd_snoc_other _ _ (by simp)⟩

/-- The times that count. -/
def PickP (f : Bool → Bool → Bool) (a b : List Sp) (x : Int) : Prop := f (memB a x) (memB b x) = true

set_option maxRecDepth 20000 in
set_option maxHeartbeats 16000000 in
theorem pick_any (w : World) (A B : Option Addr) (c d : Nat) (a b : List Sp) (g : Nat) (f : Bool → Bool → Bool) (hg : Tells3 g f) (ha : Spans w A a) (hb : Spans w B b) (hn : a.length + b.length ≤ 100000) :
    Calls Try.prog 31 #[.slice A a.length c, .slice B b.length d, .func (.func g) #[] #[]] w (CovPost (PickP f a b) (2 * a.length + 2 * b.length) w) := by
  obtain ⟨i0, hi, hz0, hz1, hz2⟩ := info_parts Try.infoSpan
  have hb0 : Below w.heap.size w (w.alloc (.cells #[.bool false, .bool false] 57)) := (bl w).alloc (Nat.le_refl _) _
  have TC := turns_any _ A B c d a b (ha.below hb0) (hb.below hb0) hn
  have hf0 : f false false = false := by
    rcases hg with ⟨_, rfl⟩ | ⟨_, rfl⟩ | ⟨_, rfl⟩ <;> rfl
  have HF := Lib.hid hf0
  have HG := Lib.hid hg
  clear ha hb hg hf0
  go_enter Try.func31, Try.ntmps31
  go_wp2_with (go_at_call 46; refine TC.mono ?_; rintro e W1 ⟨At, ct, s, ma, mb, rfl, hsp, hpm, hso, hca, hcb, hlen, hAt, hb1⟩)
  clear TC
  have hW1 := hb1.size
  simp only [World.size_alloc] at hW1 hAt hb1
  have hI0 : W1.heap[w.heap.size]? = some (.cells #[.bool false, .bool false] 57 (0, 0)) := (hb1.block _ (by simp)).trans (heap_alloc_new w _)
  have hlow : Below w.heap.size w W1 := hb0.trans (hb1.mono (by simp))
  obtain ⟨n, hnm⟩ : ∃ n, n = s.length := ⟨_, rfl⟩
  rw [← hnm] at hlen ⊢
  have hn2 : n ≤ 1000000 := by omega
  have HN := Lib.hid hnm
  have HSP := Lib.hid hsp
  have HSO := Lib.hid hso
  have HPM := Lib.hid hpm
  have HCA := Lib.hid hca
  have HCB := Lib.hid hcb
  have HAT := Lib.hid (show ∀ g off, At = some ⟨g, off, none⟩ → g ≠ w.heap.size ∧ g < W1.heap.size from fun g off h => ⟨by have := (hAt g off h).1; omega, (hAt g off h).2⟩)
  have hI1 : w.heap.size < W1.heap.size := by omega
  have HM0 : PkMem w w.heap.size W1 [] (.slice none 0 0) false false W1 := ⟨World.ownsRow_nil _ _ _ _, hI0, Nat.le_refl _, fun _ _ _ => rfl, hlow⟩
  have HS0 := Lib.hid (Picks.start hca.1 hcb.1 HF.out hpm hso)
  have HLEN := Lib.hid hlen
  clear hnm hsp hso hpm hca hcb hAt hI0 hlow hb0 hb1 hlen hn
  go_wp2_with fail
  go_loopw [7, 9, 10, 20] (fun v f9 c10 i wr => ∃ k : Nat, k ≤ n ∧ i = .int .i64 k ∧ ∃ o fr cc, f9 = .int .i64 fr ∧ c10 = .bool cc ∧ Picks ma mb f s k o fr cc ∧ PkMem w w.heap.size W1 o v (odd (s.take k) 0) (odd (s.take k) 1) wr) (fun _ _ _ i _ => n - (intOf i).toNat)
  case atStart => exact ⟨0, Nat.zero_le _, rfl, [], 0, false, rfl, rfl, HS0.out, by simpa [odd_nil] using HM0⟩
  case round =>
    clear HM0
    obtain ⟨k, hk, rfl, o, fr, cc, rfl, rfl, hP, hM⟩ := hrel
    have HP := Lib.hid hP
    have HM := Lib.hid hM
    have hol := hP.len
    clear hP hM
    by_cases hlt : k < n
    · obtain ⟨⟨t, li⟩, hp⟩ : ∃ p, s[k]? = some p := ⟨_, List.getElem?_eq_getElem (by have := HN.out; omega)⟩
      obtain ⟨gs, off, hAe, c0, c1⟩ := (HM.out.spans HSP.out HAT.out).at hp
      subst hAe
      have HT := Lib.hid hp
      have hli := (tn_bounds HCA.out.1 HCB.out.1 (HPM.out.mem_iff.1 (List.mem_of_getElem? hp))).1
      clear hp
      have HY := Lib.hid (show Below wr.heap.size wr (wr.alloc (.cells #[.int .i64 t, .int .i64 li] 61)) from (bl _).alloc (Nat.le_refl _) _)
      have HM1 := Lib.hid (HM.out.step HY.out)
      have b0 : (wr.alloc (.cells #[.int .i64 t, .int .i64 li] 61)).cell? ⟨wr.heap.size, 0, none⟩ = some (.int .i64 t) := by simp [go_sem]
      have b1 : (wr.alloc (.cells #[.int .i64 t, .int .i64 li] 61)).cell? ⟨wr.heap.size, 1, none⟩ = some (.int .i64 li) := by simp [go_sem]
      have hIw : w.heap.size ≠ wr.heap.size := by have := HM.out.size; omega
      have HK := Lib.hid hk
      have HOL := Lib.hid hol
      have HLT := Lib.hid hlt
      have hltI : (k : Int) < (n : Int) := by omega
      have SP3 := Lib.hid (fun (o' : List Sp) (v' : Value) (x y : Bool) (W : World) (h : PkMem w w.heap.size W1 o' v' x y W) => h.spans HSP.out HAT.out)
      go_upto_region 8 with fail
      obtain ⟨W2, hW2⟩ : ∃ W, wr.alloc (.cells #[.int .i64 t, .int .i64 li] 61) = W := ⟨_, rfl⟩
      rw [hW2] at b0 b1 HM1 ⊢
      clear hW2 c0 c1
      obtain ⟨x0, x1, f0, f1⟩ := HM1.out.cells
      have y0 : W2.drew.cell? ⟨w.heap.size, 0, none⟩ = some (.bool (odd (s.take k) 0)) := x0
      have y1 : W2.drew.cell? ⟨w.heap.size, 1, none⟩ = some (.bool (odd (s.take k) 1)) := x1
      have e0 : W2.drew.cell? ⟨wr.heap.size, 0, none⟩ = some (.int .i64 t) := b0
      have e1 : W2.drew.cell? ⟨wr.heap.size, 1, none⟩ = some (.int .i64 li) := b1
      have g0 : W2.drew.frozen? ⟨w.heap.size, 0, none⟩ = false := f0
      have g1 : W2.drew.frozen? ⟨w.heap.size, 1, none⟩ = false := f1
      have HD := Lib.hid (HM1.out.step (belowN (bl W2) 1))
      rcases hli with rfl | rfl
      · go_still_tail 8, (by kernel_rfl)
        change wpList _ _ _ _ _ W2.drew
        go_upto_region 9 with fail
        have HM3 := Lib.hid (show PkMem w w.heap.size W1 o u7 (odd (s.take (k + 1)) 0) (odd (s.take (k + 1)) 1) (W2.setCell ⟨w.heap.size, 0, none⟩ (.bool (!odd (s.take k) 0))).drew from by
          rw [(odd_take0 HT.out).1, (odd_take0 HT.out).2]; exact HD.out.set0 (Nat.le_refl _) hI1 _)
        have d0 : (W2.setCell ⟨w.heap.size, 0, none⟩ (.bool (!odd (s.take k) 0))).drew.cell? ⟨wr.heap.size, 0, none⟩ = some (.int .i64 t) := (World.cell?_setCell_other _ _ _ _ (by simp [hIw])).trans b0
        obtain ⟨W3, hW3⟩ : ∃ W, (W2.setCell ⟨w.heap.size, 0, none⟩ (.bool (!odd (s.take k) 0))).drew = W := ⟨_, rfl⟩
        rw [hW3] at HM3 d0 ⊢
        clear hW3 b0 b1 x0 x1 f0 f1 y0 y1 e0 e1 g0 g1 HD HM1 HM HY
        by_cases hk1 : k + 1 < n
        · obtain ⟨⟨t2, l2⟩, hp2⟩ : ∃ p, s[k + 1]? = some p := ⟨_, List.getElem?_eq_getElem (by have := HN.out; omega)⟩
          obtain ⟨gs2, off2, hAe, c0, c1⟩ := (SP3.out _ _ _ _ _ HM3.out).at hp2
          injection hAe with hAe
          injection hAe with q1 q2 _
          subst q1 q2
          have hP2 := Lib.hid hp2
          have hkI : (k : Int) + 1 < (n : Int) := by omega
          have hkS : (0 : Int) ≤ (k : Int) + 1 := by omega
          have hkT : ((k : Int) + 1).toNat = k + 1 := by omega
          have hkW : IntKind.i64.wrap ((k : Int) + 1) = (k : Int) + 1 := IntWalk.i64_in _ (by omega)
          have hle : t ≤ t2 := HSO.out k (k + 1) _ _ (by omega) HT.out hp2
          by_cases heq : t2 = t
          · have HE := Lib.hid heq
            have e0 : (t2 == t) = true := by simpa using heq
            have NX := Lib.hid (HP.out.stays HT.out hp2 heq)
            clear heq hp2 hle c1
            go_quiet (fail)
            have HM4 := Lib.hid (HM3.out.step (belowN (bl W3) nq))
            clear hkT hkW hkS
            go_wp2_with fail
            go_roundw
            case rel => exact ⟨k + 1, by omega, by go_num, o, fr, cc, rfl, rfl, NX.out, HM4.out⟩
            case measure => simp [intOf]; omega
          · have e0 : (t2 == t) = false := by simpa using heq
            have AH := Lib.hid (show Ahead s (k + 1) t from fun q hq => by rw [hp2] at hq; injection hq with hq; subst hq; simp only; omega)
            clear heq hp2 hle c1
            go_quiet (fail)
            clear hkT hkW hkS e0 c0 hkI
            have TU := Lib.hid (HP.out.turns HCA.out.1 HCB.out.1 HPM.out HSO.out HT.out AH.out (now := f (odd (s.take (k + 1)) 0) (odd (s.take (k + 1)) 1)) rfl)
            have HM4 := Lib.hid (HM3.out.step (belowN (bl W3) nq))
            have d4 : (W3.drewN nq).cell? ⟨wr.heap.size, 0, none⟩ = some (.int .i64 t) := d0
            obtain ⟨W4, hW4⟩ : ∃ W, W3.drewN nq = W := ⟨_, rfl⟩
            rw [hW4] at HM4 d4 ⊢
            clear hW4 d0 HM3
            obtain ⟨X, hX⟩ : ∃ X, odd (s.take (k + 1)) 0 = X := ⟨_, rfl⟩
            obtain ⟨Y, hY⟩ : ∃ Y, odd (s.take (k + 1)) 1 = Y := ⟨_, rfl⟩
            rw [hX, hY] at HM4 TU
            obtain ⟨x0, x1, _, _⟩ := HM4.out.cells
            obtain ⟨now, hnow⟩ : ∃ now, f X Y = now := ⟨_, rfl⟩
            rw [hnow] at TU
            have CT : ∀ W, Calls Try.prog g #[.bool X, .bool Y] W (fun e w' => e = .returned (.bool now) ∧ Below W.heap.size W w') := fun W => by rw [← hnow]; exact tells_any HG.out X Y W
            have HX := Lib.hid hX
            have HYY := Lib.hid hY
            clear hX hY hnow
            have hsz4 := HM4.out.size
            rcases HG.out with ⟨rfl, rfl⟩ | ⟨rfl, rfl⟩ | ⟨rfl, rfl⟩
            all_goals
              go_wp2_with fail
              (first | go_at_call 32 | go_at_call 35 | go_at_call 36)
              refine (CT _).mono ?_
              rintro e w5 ⟨rfl, hb5⟩
              have HM5 := Lib.hid (HM4.out.step hb5)
              have d5 := keepc hb5 d4
              have hown5 := HM5.out.own
              have hsz5 := HM5.out.size
              clear hb5 x0 x1 CT d4
              cases now
              · cases cc
                · go_wp2_with fail
                  go_roundw
                  case rel => exact ⟨k + 1, by omega, by go_num, o, fr, false, rfl, rfl, TU.out.2.2 (by simp), by rw [HX.out, HYY.out]; exact HM5.out⟩
                  case measure => simp [intOf]; omega
                · go_wp2_with (at_builtin; refine wpList_append_lies _ rfl (.tmp 69) (.tmp 74) 22 rfl W1.heap.size 36 i0 (.agg #[.int .i64 0, .int .i64 0]) 2 16 Try.underlying22 hi hz0 hz1 hz2 rfl (by decide) _ _ _ rfl (World.ownsRow.alloc hown5 _) ⟨w5.heap.size, 0, none⟩ 1 1 [.int .i64 fr, .int .i64 t] rfl rfl (news_two w5 fr t _) (by simp [Value.oneCell']) (by decide) (by unfold maxLen; omega) (by omega) (by simp; omega) _ rfl ?_; intro g6 cap6 w6 hown6 hg6 hat6 hlt6; have NX := Lib.hid (HM5.out.app hI1 (by omega) hg6 hown6))
                  go_roundw
                  case rel => exact ⟨k + 1, by omega, by go_num, o ++ [(fr, t)], fr, false, rfl, rfl, TU.out.2.1 (by simp) (by simp), by rw [HX.out, HYY.out]; exact NX.out⟩
                  case measure => simp [intOf]; omega
              · cases cc
                · go_wp2_with fail
                  go_roundw
                  case rel => exact ⟨k + 1, by omega, by go_num, o, t, true, rfl, rfl, TU.out.1 (by simp) (by simp), by rw [HX.out, HYY.out]; exact HM5.out⟩
                  case measure => simp [intOf]; omega
                · go_wp2_with fail
                  go_roundw
                  case rel => exact ⟨k + 1, by omega, by go_num, o, fr, true, rfl, rfl, TU.out.2.2 (by simp), by rw [HX.out, HYY.out]; exact HM5.out⟩
                  case measure => simp [intOf]; omega
        · have hkI : ¬ (k : Int) + 1 < (n : Int) := by omega
          have AH := Lib.hid (show Ahead s (k + 1) t from fun q hq => by rw [List.getElem?_eq_none (by have := HN.out; omega)] at hq; cases hq)
          go_quiet (fail)
          clear hkI
          have TU := Lib.hid (HP.out.turns HCA.out.1 HCB.out.1 HPM.out HSO.out HT.out AH.out (now := f (odd (s.take (k + 1)) 0) (odd (s.take (k + 1)) 1)) rfl)
          have HM4 := Lib.hid (HM3.out.step (belowN (bl W3) nq))
          have d4 : (W3.drewN nq).cell? ⟨wr.heap.size, 0, none⟩ = some (.int .i64 t) := d0
          obtain ⟨W4, hW4⟩ : ∃ W, W3.drewN nq = W := ⟨_, rfl⟩
          rw [hW4] at HM4 d4 ⊢
          clear hW4 d0 HM3
          obtain ⟨X, hX⟩ : ∃ X, odd (s.take (k + 1)) 0 = X := ⟨_, rfl⟩
          obtain ⟨Y, hY⟩ : ∃ Y, odd (s.take (k + 1)) 1 = Y := ⟨_, rfl⟩
          rw [hX, hY] at HM4 TU
          obtain ⟨x0, x1, _, _⟩ := HM4.out.cells
          obtain ⟨now, hnow⟩ : ∃ now, f X Y = now := ⟨_, rfl⟩
          rw [hnow] at TU
          have CT : ∀ W, Calls Try.prog g #[.bool X, .bool Y] W (fun e w' => e = .returned (.bool now) ∧ Below W.heap.size W w') := fun W => by rw [← hnow]; exact tells_any HG.out X Y W
          have HX := Lib.hid hX
          have HYY := Lib.hid hY
          clear hX hY hnow
          have hsz4 := HM4.out.size
          rcases HG.out with ⟨rfl, rfl⟩ | ⟨rfl, rfl⟩ | ⟨rfl, rfl⟩
          all_goals
            go_wp2_with fail
            (first | go_at_call 32 | go_at_call 35 | go_at_call 36)
            refine (CT _).mono ?_
            rintro e w5 ⟨rfl, hb5⟩
            have HM5 := Lib.hid (HM4.out.step hb5)
            have d5 := keepc hb5 d4
            have hown5 := HM5.out.own
            have hsz5 := HM5.out.size
            clear hb5 x0 x1 CT d4
            cases now
            · cases cc
              · go_wp2_with fail
                go_roundw
                case rel => exact ⟨k + 1, by omega, by go_num, o, fr, false, rfl, rfl, TU.out.2.2 (by simp), by rw [HX.out, HYY.out]; exact HM5.out⟩
                case measure => simp [intOf]; omega
              · go_wp2_with (at_builtin; refine wpList_append_lies _ rfl (.tmp 69) (.tmp 74) 22 rfl W1.heap.size 36 i0 (.agg #[.int .i64 0, .int .i64 0]) 2 16 Try.underlying22 hi hz0 hz1 hz2 rfl (by decide) _ _ _ rfl (World.ownsRow.alloc hown5 _) ⟨w5.heap.size, 0, none⟩ 1 1 [.int .i64 fr, .int .i64 t] rfl rfl (news_two w5 fr t _) (by simp [Value.oneCell']) (by decide) (by unfold maxLen; omega) (by omega) (by simp; omega) _ rfl ?_; intro g6 cap6 w6 hown6 hg6 hat6 hlt6; have NX := Lib.hid (HM5.out.app hI1 (by omega) hg6 hown6))
                go_roundw
                case rel => exact ⟨k + 1, by omega, by go_num, o ++ [(fr, t)], fr, false, rfl, rfl, TU.out.2.1 (by simp) (by simp), by rw [HX.out, HYY.out]; exact NX.out⟩
                case measure => simp [intOf]; omega
            · cases cc
              · go_wp2_with fail
                go_roundw
                case rel => exact ⟨k + 1, by omega, by go_num, o, t, true, rfl, rfl, TU.out.1 (by simp) (by simp), by rw [HX.out, HYY.out]; exact HM5.out⟩
                case measure => simp [intOf]; omega
              · go_wp2_with fail
                go_roundw
                case rel => exact ⟨k + 1, by omega, by go_num, o, fr, true, rfl, rfl, TU.out.2.2 (by simp), by rw [HX.out, HYY.out]; exact HM5.out⟩
                case measure => simp [intOf]; omega
      · go_still_tail 8, (by kernel_rfl)
        change wpList _ _ _ _ _ W2.drew
        go_upto_region 9 with fail
        have HM3 := Lib.hid (show PkMem w w.heap.size W1 o u7 (odd (s.take (k + 1)) 0) (odd (s.take (k + 1)) 1) (W2.setCell ⟨w.heap.size, 1, none⟩ (.bool (!odd (s.take k) 1))).drew from by
          rw [(odd_take1 HT.out).1, (odd_take1 HT.out).2]; exact HD.out.set1 (Nat.le_refl _) hI1 _)
        have d0 : (W2.setCell ⟨w.heap.size, 1, none⟩ (.bool (!odd (s.take k) 1))).drew.cell? ⟨wr.heap.size, 0, none⟩ = some (.int .i64 t) := (World.cell?_setCell_other _ _ _ _ (by simp [hIw])).trans b0
        obtain ⟨W3, hW3⟩ : ∃ W, (W2.setCell ⟨w.heap.size, 1, none⟩ (.bool (!odd (s.take k) 1))).drew = W := ⟨_, rfl⟩
        rw [hW3] at HM3 d0 ⊢
        clear hW3 b0 b1 x0 x1 f0 f1 y0 y1 e0 e1 g0 g1 HD HM1 HM HY
        by_cases hk1 : k + 1 < n
        · obtain ⟨⟨t2, l2⟩, hp2⟩ : ∃ p, s[k + 1]? = some p := ⟨_, List.getElem?_eq_getElem (by have := HN.out; omega)⟩
          obtain ⟨gs2, off2, hAe, c0, c1⟩ := (SP3.out _ _ _ _ _ HM3.out).at hp2
          injection hAe with hAe
          injection hAe with q1 q2 _
          subst q1 q2
          have hP2 := Lib.hid hp2
          have hkI : (k : Int) + 1 < (n : Int) := by omega
          have hkS : (0 : Int) ≤ (k : Int) + 1 := by omega
          have hkT : ((k : Int) + 1).toNat = k + 1 := by omega
          have hkW : IntKind.i64.wrap ((k : Int) + 1) = (k : Int) + 1 := IntWalk.i64_in _ (by omega)
          have hle : t ≤ t2 := HSO.out k (k + 1) _ _ (by omega) HT.out hp2
          by_cases heq : t2 = t
          · have HE := Lib.hid heq
            have e0 : (t2 == t) = true := by simpa using heq
            have NX := Lib.hid (HP.out.stays HT.out hp2 heq)
            clear heq hp2 hle c1
            go_quiet (fail)
            have HM4 := Lib.hid (HM3.out.step (belowN (bl W3) nq))
            clear hkT hkW hkS
            go_wp2_with fail
            go_roundw
            case rel => exact ⟨k + 1, by omega, by go_num, o, fr, cc, rfl, rfl, NX.out, HM4.out⟩
            case measure => simp [intOf]; omega
          · have e0 : (t2 == t) = false := by simpa using heq
            have AH := Lib.hid (show Ahead s (k + 1) t from fun q hq => by rw [hp2] at hq; injection hq with hq; subst hq; simp only; omega)
            clear heq hp2 hle c1
            go_quiet (fail)
            clear hkT hkW hkS e0 c0 hkI
            have TU := Lib.hid (HP.out.turns HCA.out.1 HCB.out.1 HPM.out HSO.out HT.out AH.out (now := f (odd (s.take (k + 1)) 0) (odd (s.take (k + 1)) 1)) rfl)
            have HM4 := Lib.hid (HM3.out.step (belowN (bl W3) nq))
            have d4 : (W3.drewN nq).cell? ⟨wr.heap.size, 0, none⟩ = some (.int .i64 t) := d0
            obtain ⟨W4, hW4⟩ : ∃ W, W3.drewN nq = W := ⟨_, rfl⟩
            rw [hW4] at HM4 d4 ⊢
            clear hW4 d0 HM3
            obtain ⟨X, hX⟩ : ∃ X, odd (s.take (k + 1)) 0 = X := ⟨_, rfl⟩
            obtain ⟨Y, hY⟩ : ∃ Y, odd (s.take (k + 1)) 1 = Y := ⟨_, rfl⟩
            rw [hX, hY] at HM4 TU
            obtain ⟨x0, x1, _, _⟩ := HM4.out.cells
            obtain ⟨now, hnow⟩ : ∃ now, f X Y = now := ⟨_, rfl⟩
            rw [hnow] at TU
            have CT : ∀ W, Calls Try.prog g #[.bool X, .bool Y] W (fun e w' => e = .returned (.bool now) ∧ Below W.heap.size W w') := fun W => by rw [← hnow]; exact tells_any HG.out X Y W
            have HX := Lib.hid hX
            have HYY := Lib.hid hY
            clear hX hY hnow
            have hsz4 := HM4.out.size
            rcases HG.out with ⟨rfl, rfl⟩ | ⟨rfl, rfl⟩ | ⟨rfl, rfl⟩
            all_goals
              go_wp2_with fail
              (first | go_at_call 32 | go_at_call 35 | go_at_call 36)
              refine (CT _).mono ?_
              rintro e w5 ⟨rfl, hb5⟩
              have HM5 := Lib.hid (HM4.out.step hb5)
              have d5 := keepc hb5 d4
              have hown5 := HM5.out.own
              have hsz5 := HM5.out.size
              clear hb5 x0 x1 CT d4
              cases now
              · cases cc
                · go_wp2_with fail
                  go_roundw
                  case rel => exact ⟨k + 1, by omega, by go_num, o, fr, false, rfl, rfl, TU.out.2.2 (by simp), by rw [HX.out, HYY.out]; exact HM5.out⟩
                  case measure => simp [intOf]; omega
                · go_wp2_with (at_builtin; refine wpList_append_lies _ rfl (.tmp 69) (.tmp 74) 22 rfl W1.heap.size 36 i0 (.agg #[.int .i64 0, .int .i64 0]) 2 16 Try.underlying22 hi hz0 hz1 hz2 rfl (by decide) _ _ _ rfl (World.ownsRow.alloc hown5 _) ⟨w5.heap.size, 0, none⟩ 1 1 [.int .i64 fr, .int .i64 t] rfl rfl (news_two w5 fr t _) (by simp [Value.oneCell']) (by decide) (by unfold maxLen; omega) (by omega) (by simp; omega) _ rfl ?_; intro g6 cap6 w6 hown6 hg6 hat6 hlt6; have NX := Lib.hid (HM5.out.app hI1 (by omega) hg6 hown6))
                  go_roundw
                  case rel => exact ⟨k + 1, by omega, by go_num, o ++ [(fr, t)], fr, false, rfl, rfl, TU.out.2.1 (by simp) (by simp), by rw [HX.out, HYY.out]; exact NX.out⟩
                  case measure => simp [intOf]; omega
              · cases cc
                · go_wp2_with fail
                  go_roundw
                  case rel => exact ⟨k + 1, by omega, by go_num, o, t, true, rfl, rfl, TU.out.1 (by simp) (by simp), by rw [HX.out, HYY.out]; exact HM5.out⟩
                  case measure => simp [intOf]; omega
                · go_wp2_with fail
                  go_roundw
                  case rel => exact ⟨k + 1, by omega, by go_num, o, fr, true, rfl, rfl, TU.out.2.2 (by simp), by rw [HX.out, HYY.out]; exact HM5.out⟩
                  case measure => simp [intOf]; omega
        · have hkI : ¬ (k : Int) + 1 < (n : Int) := by omega
          have AH := Lib.hid (show Ahead s (k + 1) t from fun q hq => by rw [List.getElem?_eq_none (by have := HN.out; omega)] at hq; cases hq)
          go_quiet (fail)
          clear hkI
          have TU := Lib.hid (HP.out.turns HCA.out.1 HCB.out.1 HPM.out HSO.out HT.out AH.out (now := f (odd (s.take (k + 1)) 0) (odd (s.take (k + 1)) 1)) rfl)
          have HM4 := Lib.hid (HM3.out.step (belowN (bl W3) nq))
          have d4 : (W3.drewN nq).cell? ⟨wr.heap.size, 0, none⟩ = some (.int .i64 t) := d0
          obtain ⟨W4, hW4⟩ : ∃ W, W3.drewN nq = W := ⟨_, rfl⟩
          rw [hW4] at HM4 d4 ⊢
          clear hW4 d0 HM3
          obtain ⟨X, hX⟩ : ∃ X, odd (s.take (k + 1)) 0 = X := ⟨_, rfl⟩
          obtain ⟨Y, hY⟩ : ∃ Y, odd (s.take (k + 1)) 1 = Y := ⟨_, rfl⟩
          rw [hX, hY] at HM4 TU
          obtain ⟨x0, x1, _, _⟩ := HM4.out.cells
          obtain ⟨now, hnow⟩ : ∃ now, f X Y = now := ⟨_, rfl⟩
          rw [hnow] at TU
          have CT : ∀ W, Calls Try.prog g #[.bool X, .bool Y] W (fun e w' => e = .returned (.bool now) ∧ Below W.heap.size W w') := fun W => by rw [← hnow]; exact tells_any HG.out X Y W
          have HX := Lib.hid hX
          have HYY := Lib.hid hY
          clear hX hY hnow
          have hsz4 := HM4.out.size
          rcases HG.out with ⟨rfl, rfl⟩ | ⟨rfl, rfl⟩ | ⟨rfl, rfl⟩
          all_goals
            go_wp2_with fail
            (first | go_at_call 32 | go_at_call 35 | go_at_call 36)
            refine (CT _).mono ?_
            rintro e w5 ⟨rfl, hb5⟩
            have HM5 := Lib.hid (HM4.out.step hb5)
            have d5 := keepc hb5 d4
            have hown5 := HM5.out.own
            have hsz5 := HM5.out.size
            clear hb5 x0 x1 CT d4
            cases now
            · cases cc
              · go_wp2_with fail
                go_roundw
                case rel => exact ⟨k + 1, by omega, by go_num, o, fr, false, rfl, rfl, TU.out.2.2 (by simp), by rw [HX.out, HYY.out]; exact HM5.out⟩
                case measure => simp [intOf]; omega
              · go_wp2_with (at_builtin; refine wpList_append_lies _ rfl (.tmp 69) (.tmp 74) 22 rfl W1.heap.size 36 i0 (.agg #[.int .i64 0, .int .i64 0]) 2 16 Try.underlying22 hi hz0 hz1 hz2 rfl (by decide) _ _ _ rfl (World.ownsRow.alloc hown5 _) ⟨w5.heap.size, 0, none⟩ 1 1 [.int .i64 fr, .int .i64 t] rfl rfl (news_two w5 fr t _) (by simp [Value.oneCell']) (by decide) (by unfold maxLen; omega) (by omega) (by simp; omega) _ rfl ?_; intro g6 cap6 w6 hown6 hg6 hat6 hlt6; have NX := Lib.hid (HM5.out.app hI1 (by omega) hg6 hown6))
                go_roundw
                case rel => exact ⟨k + 1, by omega, by go_num, o ++ [(fr, t)], fr, false, rfl, rfl, TU.out.2.1 (by simp) (by simp), by rw [HX.out, HYY.out]; exact NX.out⟩
                case measure => simp [intOf]; omega
            · cases cc
              · go_wp2_with fail
                go_roundw
                case rel => exact ⟨k + 1, by omega, by go_num, o, t, true, rfl, rfl, TU.out.1 (by simp) (by simp), by rw [HX.out, HYY.out]; exact HM5.out⟩
                case measure => simp [intOf]; omega
              · go_wp2_with fail
                go_roundw
                case rel => exact ⟨k + 1, by omega, by go_num, o, fr, true, rfl, rfl, TU.out.2.2 (by simp), by rw [HX.out, HYY.out]; exact HM5.out⟩
                case measure => simp [intOf]; omega
    · go_wp2_with fail
      obtain ⟨A3, c3, rfl, hsp3⟩ := own_spans HM.out.own
      have HSP3 := Lib.hid hsp3
      clear hsp3
      go_wp2_with fail
      go_ret
      have hfin := HP.out.stop HF.out (by have := HN.out; omega)
      exact ⟨A3, c3, o, rfl, HSP3.out, ⟨hfin.1, fun x => by
        rw [hfin.2 x, CountP, PickP, memB_eq (HCA.out.2 x), memB_eq (HCB.out.2 x)]⟩, by have := HLEN.out; omega, HM.out.low⟩

end Go.Proofs.Ytmfkcbanjlmmhaa
