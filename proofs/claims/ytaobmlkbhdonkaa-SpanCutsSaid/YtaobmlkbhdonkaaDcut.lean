/-
  What the document's Cut gives back for any span and any times.
-/
import Derived.Test.YtaobmlkbhdonkaaRise
namespace Go.Proofs.Ytaobmlkbhdonkaa
open Go.RowKit

/-- Is the time within the span, and not at its beginning? -/
def inB (a b t : Int) : Bool := decide (a < t) && decide (t < b)
def inner (a b : Int) (zs : List Int) (k : Nat) : List Int := (zs.take k).filter (inB a b)
theorem inner_le (a b : Int) (zs : List Int) (k : Nat) : (inner a b zs k).length ≤ k := Nat.le_trans (List.length_filter_le _ _) (List.length_take_le _ _)
theorem inner_yes {a b : Int} {zs : List Int} {k : Nat} {x : Int} (hx : zs[k]? = some x) (h : inB a b x = true) : inner a b zs (k + 1) = inner a b zs k ++ [x] := by
  simp [inner, List.take_add_one, hx, List.filter_append, h]
theorem inner_no {a b : Int} {zs : List Int} {k : Nat} {x : Int} (hx : zs[k]? = some x) (h : inB a b x = false) : inner a b zs (k + 1) = inner a b zs k := by
  simp [inner, List.take_add_one, hx, List.filter_append, h]
/-- The pieces, as the document says. -/
def docCut (a b : Int) (zs : List Int) : List (Int × Int) := if rightB a b then pieces a (riseL (zs.filter (inB a b)) ++ [b]) else []
/-- Where the next piece begins. -/
def lastOf (a : Int) (l : List Int) : Int := l.getLast?.getD a

/-- What holds at the head of each round of the first loop. -/
def DinRel (a b : Int) (zs : List Int) (w : World) (k : Nat) (v : Value) (wr : World) : Prop :=
  ownI wr (w.heap.size + 1) v (inner a b zs k) ∧ Below (w.heap.size + 1) (w.alloc (.cells #[.int .i64 a, .int .i64 b] 23)) wr
/-- What holds at the head of each round of the second one. -/
def DoutRel (a : Int) (L : List Int) (w : World) (k : Nat) (v f : Value) (wr : World) : Prop :=
  wr.ownsRow w.heap.size 23 2 v (pieces a (L.take k)).length (flat (pieces a (L.take k))) ∧ f = .int .i64 (lastOf a (L.take k)) ∧ Below w.heap.size w wr

theorem keepe {w w' : World} {g o : Nat} {u : Value} (hb : Below w.heap.size w w') (h : w.cell? ⟨g, o, none⟩ = some u) : w'.cell? ⟨g, o, none⟩ = some u := (hb.cell (p := ⟨g, o, none⟩) (lt_of_cell h)).trans h
theorem pieces_next {a : Int} {L : List Int} {m : Nat} {t f : Int} (ht : L[m]? = some t) (hf : lastOf a (L.take m) = f) : pieces a (L.take (m + 1)) = pieces a (L.take m) ++ [(f, t)] := by
  rw [List.take_add_one, ht, Option.toList_some, pieces_snoc, ← hf, lastOf]
theorem last_next {a : Int} {L : List Int} {m : Nat} {t : Int} (ht : L[m]? = some t) : lastOf a (L.take (m + 1)) = t := by
  rw [List.take_add_one, ht, Option.toList_some, lastOf]
  simp
theorem keepd {W w1 : World} {b : Int} (hb : Below (W.alloc (.cells #[.int .i64 b] 3)).drew.heap.size (W.alloc (.cells #[.int .i64 b] 3)).drew w1) : w1.cell? ⟨W.heap.size, 0, none⟩ = some (.int .i64 b) :=
  (hb.cell (p := ⟨W.heap.size, 0, none⟩) (by simp)).trans (by simp [go_sem])

set_option maxHeartbeats 4000000 in
theorem dcut_any (a b : Int) (A : Option Addr) (c : Nat) (zs : List Int) (w : World) (hz : Ints w A zs) (hn : zs.length ≤ 900) :
    Calls Try.prog 26 #[sp a b, .slice A zs.length c] w (ListPost (docCut a b zs) w) := by
  obtain ⟨i0, hi, hz0, hz1, hz2⟩ := info_parts Try.infoInt
  obtain ⟨j0, hj, hy0, hy1, hy2⟩ := info_parts Try.infoSpan
  have HZ := Lib.hid hz
  clear hz
  cases hr : rightB a b
  · go_enter Try.func26, Try.ntmps26
    go_wp2_with fail
    (go_at_call 9; refine (dright_any _ _ _).mono ?_; rintro e w1 ⟨rfl, hb⟩)
    go_wp2_with fail
    go_ret
    rw [docCut, hr]
    exact ⟨none, 0, rfl, Spans.nil _ _, ((Below.refl _ _).alloc (Nat.le_refl _) _).trans (hb.mono (by simp))⟩
  · obtain ⟨n, hnm⟩ : ∃ n, n = zs.length := ⟨_, rfl⟩
    rw [← hnm]
    have hn' : n ≤ 900 := by omega
    have HN := Lib.hid hnm
    clear hnm hn
    go_enter Try.func26, Try.ntmps26
    go_wp2_with fail
    (go_at_call 9; refine (dright_any _ _ _).mono ?_; rintro e w1 ⟨rfl, hb⟩)
    go_wp2_with fail
    go_loopw [5, 6] (fun v i wr => ∃ k : Nat, k ≤ n ∧ i = .int .i64 k ∧ DinRel a b zs w k v wr) (fun _ i _ => n - (intOf i).toNat)
    case atStart => exact ⟨0, Nat.zero_le _, rfl, World.ownsRow_nil _ _ _ _, hb.mono (by simp)⟩
    case round =>
      obtain ⟨k, hk, rfl, hown, hB⟩ := hrel
      have ca0 : wr.cell? ⟨w.heap.size, 0, none⟩ = some (.int .i64 a) := (hB.cell (p := ⟨w.heap.size, 0, none⟩) (by simp)).trans (by simp [go_sem])
      have ca1 : wr.cell? ⟨w.heap.size, 1, none⟩ = some (.int .i64 b) := (hB.cell (p := ⟨w.heap.size, 1, none⟩) (by simp)).trans (by simp [go_sem])
      have hs0 := lt_of_cell ca0
      have hle := inner_le a b zs k
      by_cases hlt : k < n
      · obtain ⟨x, hx⟩ : ∃ x, zs[k]? = some x := ⟨_, List.getElem?_eq_getElem (by have := HN.out; omega)⟩
        obtain ⟨g, off, rfl, c0⟩ := HZ.out k x hx
        have hg := lt_of_cell c0
        have c1 : wr.cell? ⟨g, off + k, none⟩ = some (.int .i64 x) := ((hB.cell (p := ⟨g, off + k, none⟩) (by simp; omega)).trans (World.cell?_alloc_lt _ _ _ hg)).trans c0
        have HX := Lib.hid hx
        clear hx c0
        by_cases h1 : a < x
        · by_cases h2 : x < b
          · have HH := Lib.hid (show inB a b x = true by simp [inB, h1, h2])
            go_wp2_with fail
            go_quiet (fail)
            rename_i nq
            go_wp2_with (at_builtin; refine wpList_append_own _ rfl (.tmp 35) (.tmp 40) 42 rfl (w.heap.size + 1) 3 i0 (.int .i64 0) 1 8 Try.underlying42 hi hz0 hz1 hz2 rfl (by decide) _ _ _ rfl (World.ownsRow.alloc (w := wr.drewN nq) hown _) ⟨wr.heap.size, 0, none⟩ 1 1 [.int .i64 x] rfl rfl (news_one (wr.drewN nq) x _) (by simp [Value.oneCell']) (by unfold maxLen; omega) (by omega) (by simp; omega) ?_; intro v' w2 hown2 hgrow2 _)
            go_roundw
            case rel => exact ⟨k + 1, by omega, by go_num, by rw [inner_yes HX.out HH.out]; simpa [ownI] using hown2, below_app (w := wr.drewN nq) (belowN' hB _) hgrow2 (by simp; omega) (fun j hj => (hown.lt j hj).1)⟩
            case measure => simp [intOf]; omega
          · have hd : decide (x < b) = false := by simpa using h2
            have HH := Lib.hid (show inB a b x = false by simp [inB, hd])
            go_wp2_with fail
            go_quiet (fail)
            go_wp2_with fail
            go_roundw
            case rel => exact ⟨k + 1, by omega, by go_num, by rw [inner_no HX.out HH.out]; exact hown, belowN' hB _⟩
            case measure => simp [intOf]; omega
        · have hd : decide (a < x) = false := by simpa using h1
          have HH := Lib.hid (show inB a b x = false by simp [inB, hd])
          go_wp2_with fail
          go_quiet (fail)
          go_wp2_with fail
          go_roundw
          case rel => exact ⟨k + 1, by omega, by go_num, by rw [inner_no HX.out HH.out]; exact hown, belowN' hB _⟩
          case measure => simp [intOf]; omega
      · have hall : inner a b zs k = zs.filter (inB a b) := by rw [inner, List.take_of_length_le (by have := HN.out; omega)]
        obtain ⟨ts, hts⟩ : ∃ ts, inner a b zs k = ts := ⟨_, rfl⟩
        rw [hts] at hown hall hle
        have HALL := Lib.hid hall
        clear hall hts
        obtain ⟨Ai, ci, rfl, hin⟩ := own_ints hown
        have HIN := Lib.hid hin
        have hw : Below w.heap.size w wr := ((Below.refl _ _).alloc (Nat.le_refl _) _).trans (hB.mono (by omega))
        clear hin hown
        obtain ⟨W, hWr⟩ : ∃ W : World, W = wr := ⟨_, rfl⟩
        subst hWr
        go_wp2_with fail
        have mk : ∀ w', Below W.heap.size W w' → (Below W.heap.size W w' ∧ w'.cell? ⟨w.heap.size, 1, none⟩ = some (.int .i64 b)) := fun w' h => ⟨h, (h.cell (p := ⟨w.heap.size, 1, none⟩) hs0).trans ca1⟩
        have MK := Lib.hid mk
        clear mk
        go_region_held3 (fun w' => Below W.heap.size W w' ∧ w'.cell? ⟨w.heap.size, 1, none⟩ = some (.int .i64 b))
          (first | exact MK.out _ ((Below.refl _ _).drew) | exact MK.out _ hb2 | exact MK.out _ (hb1.alloc hb1.size _) | exact MK.out _ hb1 | exact MK.out _ (by go_grown))
          (first
            | (go_at_call 30; refine (rise_any Ai ci ts W.drew (HIN.out.below (by go_split_ands; assumption)) (by omega)).mono ?_; rintro e w2 ⟨v1, rfl, hownA, hbA⟩; have hb1 : Below W.heap.size W w2 := chain (by go_split_ands; assumption) hbA; have hown1 := rise_own (b := W.heap.size) (by simp) hownA)
            | (go_at_call 30; refine (rise_any Ai ci ts (W.alloc (.cells #[.int .i64 b] 3)).drew (HIN.out.below (by go_split_ands; assumption)) (by omega)).mono ?_; rintro e w2 ⟨v1, rfl, hownA, hbA⟩; have hb1 : Below W.heap.size W w2 := chain (by go_split_ands; assumption) hbA; have hown1 := rise_own (b := W.heap.size) (by simp) hownA; have HX1 := Lib.hid (ints_cell (keepd hbA)))
            | (refine step_app rfl (.tmp 43) (.tmp 46) rfl (base := W.heap.size) rfl (World.ownsRow.alloc hown1 _) rfl rfl (ints_one w2 b _) (by simp) (by have := riseL_length ts; simp; omega) (by have := hb1.size; simp; omega) ?_; intro v2 w3 hown2 hg2 hat2; have hb2 : Below W.heap.size W w3 := below_grown (hb1.alloc hb1.size _) hg2 (fun r hr => (hown1.lt r hr).1))
            | (refine step_app rfl (.tmp 43) (.tmp 46) rfl (base := W.heap.size) rfl hown1 rfl rfl HX1.out (by simp) (by have := riseL_length ts; simp; omega) hb1.size ?_; intro v2 w3 hown2 hg2 hat2; have hb2 : Below W.heap.size W w3 := below_grown hb1 hg2 (fun r hr => (hown1.lt r hr).1)))
        all_goals
          obtain ⟨L, hL⟩ : ∃ L, riseL ts ++ [b] = L := ⟨_, rfl⟩
          rw [hL] at hown2
          have hLl : L.length ≤ 901 := by
            rw [← hL]
            have := riseL_length ts
            simp
            omega
          have HL := Lib.hid hL
          clear hL
          obtain ⟨A2, c2, rfl, hi2⟩ := own_ints hown2
          have HI2 := Lib.hid hi2
          clear hi2
          have ca3 := keepe hb2 ca0
          have hw3 := chain hw hb2
          go_wp2_with fail
          go_loopw [7, 8, 9] (fun v f i wr => ∃ k : Nat, k ≤ L.length ∧ i = .int .i64 k ∧ DoutRel a L w3 k v f wr) (fun _ _ i _ => L.length - (intOf i).toNat)
          case atStart => exact ⟨0, Nat.zero_le _, rfl, World.ownsRow_nil _ _ _ _, rfl, Below.refl _ _⟩
          case round =>
            obtain ⟨m, hm, rfl, hown4, rfl, hB4⟩ := hrel
            obtain ⟨f, hf⟩ : ∃ f, lastOf a (L.take m) = f := ⟨_, rfl⟩
            rw [hf]
            have HF := Lib.hid hf
            clear hf
            have hs4 := hB4.size
            have hpl : (pieces a (L.take m)).length ≤ 901 := by rw [pieces_length, List.length_take]; omega
            by_cases hlt2 : m < L.length
            · obtain ⟨t, ht⟩ : ∃ t, L[m]? = some t := ⟨_, List.getElem?_eq_getElem hlt2⟩
              obtain ⟨g, off, rfl, c0⟩ := HI2.out m t ht
              have hg := lt_of_cell c0
              have c1 := keepe hB4 c0
              have HT := Lib.hid ht
              clear ht c0
              go_wp2_with (at_builtin; refine wpList_append_own _ rfl (.tmp 56) (.tmp 63) 36 rfl w3.heap.size 23 j0 (.agg #[.int .i64 0, .int .i64 0]) 2 16 Try.underlying36 hj hy0 hy1 hy2 rfl (by decide) _ _ _ rfl (World.ownsRow.alloc hown4 _) ⟨wr.heap.size, 0, none⟩ 1 1 [.int .i64 f, .int .i64 t] rfl rfl (news_two wr f t _) (by simp [Value.oneCell']) (by unfold maxLen; omega) (by omega) (by simp; omega) ?_; intro v' w5 hown5 hg5 _; have c5 := hg5.cell ((World.cell?_alloc_lt _ _ _ (lt_of_cell c1)).trans c1) (fun e => by have := (hown4.lt g e.symm).1; omega))
              go_roundw
              case rel => exact ⟨m + 1, by omega, by go_num, by rw [pieces_next HT.out HF.out, flat_snoc, List.length_append]; exact hown5, by rw [last_next HT.out], below_app hB4 hg5 hs4 (fun j hj => (hown4.lt j hj).1)⟩
              case measure => simp [intOf]; omega
            · have hfin : docCut a b zs = pieces a (L.take m) := by rw [docCut, hr, if_pos rfl, ← HALL.out, HL.out, List.take_of_length_le (by omega)]
              have HFIN := Lib.hid hfin
              clear hfin
              obtain ⟨A4, c4, rfl, hsp⟩ := own_spans hown4
              have HSP := Lib.hid hsp
              clear hsp
              go_wp2_with fail
              go_ret
              rw [HFIN.out]
              exact ⟨A4, c4, rfl, HSP.out, chain hw3 hB4⟩

end Go.Proofs.Ytaobmlkbhdonkaa
