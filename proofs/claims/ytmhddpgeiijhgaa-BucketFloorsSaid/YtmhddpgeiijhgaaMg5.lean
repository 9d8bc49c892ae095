/-
  Texts joined into one: what the program's and the document's calls give back, piece by piece.
-/
import Derived.Test.YtmhddpgeiijhgaaMg1
import Derived.Test.YtmhddpgeiijhgaaMg2
import Derived.Test.YtmhddpgeiijhgaaMg3
import Derived.Test.YtmhddpgeiijhgaaMg4
import Derived.Test.YtmhddpgeiijhgaaRows
import Derived.BigQuiet
import Derived.ChangeAlike
import Derived.ChangeKeysEq
import Derived.Deep.AppendLies
import Derived.Deep.CutBlock
import Derived.Deep.CutRange
import Derived.Deep.Light
import Derived.Deep.QuietTactic
import Derived.Deep.RegionHeld3
import Derived.Deep.RegionLaw
import Derived.Handy
import Derived.Laws.BytesArg
import Derived.Laws.OwnMore
import Derived.Laws.Strings
import Derived.Laws.StructEq
import Derived.Lib.Hide
import Derived.Lib.SmallJoins
import Derived.Maps.AppendAt
import Derived.OneCell
import Derived.OwnWalk
import Derived.ProofKit
import Derived.RegionTactic
import Derived.StillTailTactics
import Derived.WalkArith
import Derived.WalkKit
import Derived.WalkLawsBesides
import Derived.WalkSpells
import Derived.Deep.OwnRows
import Derived.Test.YtmhddpgeiijhgaaChecked
import Derived.ChangeMaps5
import Derived.Deep.SlicePairs
import Derived.OpenShut
import Derived.SizedLaws

/-
  The document's Make.
-/
namespace Go.Proofs.Ytmhddpgeiijhgaa
open Go.RowKit

def EI : El Int where
  s := 32
  e := 3
  sz := 1
  bys := 8
  z := .int .i64 0
  cells := fun x => [.int .i64 x]
  pos := by decide
  few := by decide
  len := fun _ => rfl
  one := fun x u hu => by
    obtain rfl : u = .int .i64 x := by simpa using hu
    rfl
  und := Try.underlying32
  info := by kernel_rfl
  zs := rfl
theorem rowI_ints {w : World} {A : Option Addr} {l : List Int} (h : RowE EI w A l) : Co.Ints w A l := fun i x hx => by
  obtain ⟨g, off, rfl, hc⟩ := h i x hx
  refine ⟨g, off, rfl, ?_⟩
  have := hc 0 _ rfl
  rwa [Nat.add_zero, show off + i * EI.sz = off + i by rw [show EI.sz = 1 from rfl, Nat.mul_one]] at this
theorem rowI_two (w : World) (x y : Int) : RowE EI (w.alloc (.cells #[.int .i64 x, .int .i64 y] 3)) (some ⟨w.heap.size, 0, none⟩) [x, y] := rowE_new (E := EI) w [x, y] 3
theorem ownE_cells {α : Type} {E : El α} {w : World} {base g cap : Nat} {cur : Array Value} {L : List α} (hb : w.heap[g]? = some (.cells cur E.e (0, 0))) (hbase : base ≤ g) (hr : RowE E w (some ⟨g, 0, none⟩) L) (hn : L.length ≤ cap) (hm : cap ≤ maxLen) (hs : cur.size = cap * E.sz) : ownE E w base (.slice (some ⟨g, 0, none⟩) L.length cap) L := by
  refine ⟨flatE_length L, .inr ⟨g, cap, cur, rfl, hbase, hb, hn, hm, hs, ?_⟩⟩
  apply List.ext_getElem?
  intro j
  by_cases hj : j < L.length * E.sz
  · obtain ⟨u, hu⟩ : ∃ u, (flatE E L)[j]? = some u := ⟨_, List.getElem?_eq_getElem (by rw [flatE_length]; exact hj)⟩
    have c := flatE_cell hr hu
    rw [List.getElem?_take_of_lt hj, hu]
    simp only [Go.WideShapes.add_plain, Nat.zero_add] at c
    rw [cell_of_row w g j cur E.e (0, 0) hb] at c
    rw [Array.getElem?_toList]
    exact c
  · rw [List.getElem?_take_eq_none (by omega), List.getElem?_eq_none (by rw [flatE_length]; omega)]
theorem ends_new (w : World) (x y : Int) : OE EI w [x, y] (.slice (some ⟨w.heap.size, 0, none⟩) 2 2) (w.alloc (.cells #[.int .i64 x, .int .i64 y] 3)) :=
  ⟨ownE_cells (E := EI) (L := [x, y]) (cap := 2) (heap_alloc_new w _) (Nat.le_refl _) (rowI_two w x y) (by simp) (by simp [maxLen]) (by simp [EI]), (bl w).alloc (Nat.le_refl _) _⟩
theorem OE.apartI {α : Type} {E : El α} {W w : World} {l : List α} {v : Value} (h : OE E W l v w) {B : Nat} (hB : w.heap.size ≤ B) : v.ownBlock ≠ some B := fun e => by
  have := (h.own.lt B e).2
  omega
theorem ends_in {a : Int × Int} {l : List Vr} (ha : rightP a.1 a.2 = true) {y : Int} (hy : y ∈ endsM a l) : a.1 ≤ y ∧ y ≤ a.2 := by
  have hr := (rightP_iff _ _).1 ha
  unfold endsM at hy
  rcases List.mem_append.1 hy with he | he
  · simp at he
    rcases he with rfl | rfl <;> omega
  · obtain ⟨v, hv, he⟩ := List.mem_flatMap.1 he
    unfold endsV at he
    split at he
    · rename_i hh
      rw [Bool.and_eq_true] at hh
      have hh2 := (meetB_iff _ _ _ _).1 hh.1
      have := (rightP_iff _ _).1 hh2.1.2
      have := hh2.2
      simp only [Co.meetF, Co.meetT, hh.1, if_true, List.mem_cons, List.not_mem_nil, or_false] at he
      omega
    · simp at he
theorem makeV_few {a : Int × Int} {l : List Vr} (hf : fewV l) : ∀ x s, makeV a l x = some s → s.length ≤ 20000 := fun x s hs => by
  unfold makeV at hs
  split at hs
  · injection hs with hs
    rw [← hs, atL, ofL]
    have h1 := overL_length (countsV (l.filter fun v => coversB v x)).flatten
    have h2 := (counts_few (few_filter (fun v => coversB v x) hf)).2.1
    omega
  · cases hs
theorem made_few {ts : List Int} {g : Int → Option (List Fd)} {i : Nat} {o : List Pc} (h : MadeT ts g i o) {e : Int} (he : ts[i]? = some e) {n : Nat} (hg : ∀ x s, g x = some s → s.length ≤ n) : ∀ q ∈ o, q.fs.length ≤ n := fun q hq => by
  have h1 := fs_mem h.tl q hq
  rw [h.fs e he] at h1
  split at h1
  · exact hg _ _ h1
  · cases h1

/-- The ends, place by place. -/
theorem ends_next {a : Int × Int} {l : List Vr} {t : Nat} {v : Vr} (h : l[t]? = some v) : (l.take (t + 1)).flatMap (endsV a) = (l.take t).flatMap (endsV a) ++ endsV a v := by
  rw [List.take_add_one, h, Option.toList_some, List.flatMap_append]
  simp

end Go.Proofs.Ytmhddpgeiijhgaa

/-
  The document's Over: the buckets that have a time of a span; lists of ints held against each other.
-/
namespace Go.Proofs.Ytmhddpgeiijhgaa
open Go.RowKit

/-- What Over leaves. -/
def Over13Post (f t x m : Int) (w : World) (e : Ending) (w' : World) : Prop := ∃ u, e = .returned (.tuple #[u, .int .i64 ((overE f t x m : Nat) : Int)]) ∧ OE EI w (overBk f t x m) u w'
theorem overBk_none {f t x m : Int} {n : Nat} (h : overE f t x m = n) (hn : n ≠ 0) : overBk f t x m = [] := by unfold overBk; rw [if_neg (by omega)]
set_option maxHeartbeats 4000000 in
set_option maxRecDepth 10000 in
theorem dover13_any (f t x m : Int) (w : World) (hm : m ≤ 2000) (hm2 : -9223372036854775808 ≤ m) : Calls Try.prog 15 #[.agg #[.int .i64 f, .int .i64 t], .int .i64 x, .int .i64 m] w (Over13Post f t x m w) := by
  have CR := Lib.hid (fun w => dright01_any f t w)
  have HB1 := Lib.hid (show Below w.heap.size w (w.alloc (.cells #[.int .i64 f, .int .i64 t] 26)) from (bl w).alloc (Nat.le_refl _) _)
  by_cases hr : rightBk f t = true
  · have hr2 : rightS f t = true := hr
    rw [hr2] at CR
    have CF := Lib.hid (fun w => dfloor13_any f x w)
    by_cases hw : widthB x = true
    · have hx := (widthB_iff x).1 hw
      have hft : -1099511627776 ≤ f ∧ t ≤ 1099511627776 ∧ f < t := by
        have h := hr
        simp only [rightBk, Bool.and_eq_true, decide_eq_true_eq] at h
        omega
      have e1 : floorE f x = 0 ∧ floorV f x = f / x := by
        have ht : timeB f = true := (timeB_iff f).2 (by omega)
        exact ⟨by rw [floorE, hw, ht]; rfl, by rw [floorV, hw, ht]; rfl⟩
      have e2 : floorE (t - 1) x = 0 ∧ floorV (t - 1) x = (t - 1) / x := by
        have ht : timeB (t - 1) = true := (timeB_iff _).2 (by omega)
        exact ⟨by rw [floorE, hw, ht]; rfl, by rw [floorV, hw, ht]; rfl⟩
      rw [e1.1, e1.2] at CF
      have CG := Lib.hid (fun w => dfloor13_any (t - 1) x w)
      rw [e2.1, e2.2] at CG
      have hmono := ediv_mono (w := x) hx.1 (show f ≤ t - 1 by omega)
      have hs1 := ediv_small (t := f) hx.1 (by omega) (by omega)
      have hs2 := ediv_small (t := t - 1) hx.1 (by omega) (by omega)
      have HOE := Lib.hid (show overE f t x m = if m < (t - 1) / x - f / x + 1 then 4 else 0 by rw [overE, if_neg (by rw [hr]; simp), if_neg (by rw [hw]; simp)])
      have HOB := Lib.hid (show ∀ n : Nat, overE f t x m = 0 → ((t - 1) / x - f / x + 1).toNat = n → overBk f t x m = risingI (f / x) n from fun n h hn => by unfold overBk; rw [if_pos h, hn])
      have q0 : wrap64 (t - 1) = t - 1 := IntWalk.wrap64_in _ (by omega)
      generalize f / x = a at *
      generalize (t - 1) / x = b at *
      have q1 : wrap64 (b - a) = b - a := IntWalk.wrap64_in _ (by omega)
      clear hr hr2 hw hx hft e1 e2
      by_cases h1 : m < 1
      · have h1' : decide (m < 1) = true := by simpa using h1
        have HE := Lib.hid (show overE f t x m = 4 by rw [HOE.out, if_pos (by omega)])
        clear h1 hmono hs1 hs2
        go_enter Try.func15, Try.ntmps15
        go_wp2_with (first
          | (go_at_call 31; (with_reducible refine (CR.out _).mono ?_); rintro e w2 ⟨rfl, hb2⟩; have HB2 := Lib.hid (chain HB1.out hb2); have k0 := keepc hb2 (show (w.alloc (.cells #[.int .i64 f, .int .i64 t] 26)).cell? ⟨w.heap.size, 0, none⟩ = some (.int .i64 f) by simp [go_sem]); have k1 := keepc hb2 (show (w.alloc (.cells #[.int .i64 f, .int .i64 t] 26)).cell? ⟨w.heap.size, 1, none⟩ = some (.int .i64 t) by simp [go_sem]); clear hb2)
          | (go_at_call 9; (with_reducible refine (CF.out _).mono ?_); rintro e w3 ⟨rfl, rfl⟩)
          | (go_at_call 9; (refine (CG.out _).mono ?_); rintro e w3 ⟨rfl, rfl⟩))
        go_ret2
        exact ⟨_, by rw [HE.out]; rfl, by rw [overBk_none HE.out (by decide)]; exact (OE.nil (E := EI) w).below HB2.out⟩
      · have h1' : decide (m < 1) = false := by simpa using h1
        have q2 : wrap64 (m - 1) = m - 1 := IntWalk.wrap64_in _ (by omega)
        by_cases h2 : m - 1 < b - a
        · have h2' : decide (m - 1 < b - a) = true := by simpa using h2
          have HE := Lib.hid (show overE f t x m = 4 by rw [HOE.out, if_pos (by omega)])
          clear h1 h2 hmono hs1 hs2
          go_enter Try.func15, Try.ntmps15
          go_wp2_with (first
          | (go_at_call 31; (with_reducible refine (CR.out _).mono ?_); rintro e w2 ⟨rfl, hb2⟩; have HB2 := Lib.hid (chain HB1.out hb2); have k0 := keepc hb2 (show (w.alloc (.cells #[.int .i64 f, .int .i64 t] 26)).cell? ⟨w.heap.size, 0, none⟩ = some (.int .i64 f) by simp [go_sem]); have k1 := keepc hb2 (show (w.alloc (.cells #[.int .i64 f, .int .i64 t] 26)).cell? ⟨w.heap.size, 1, none⟩ = some (.int .i64 t) by simp [go_sem]); clear hb2)
          | (go_at_call 9; (with_reducible refine (CF.out _).mono ?_); rintro e w3 ⟨rfl, rfl⟩)
          | (go_at_call 9; (with_reducible refine (CG.out _).mono ?_); rintro e w3 ⟨rfl, rfl⟩))
          go_ret2
          exact ⟨_, by rw [HE.out]; rfl, by rw [overBk_none HE.out (by decide)]; exact (OE.nil (E := EI) w).below HB2.out⟩
        · have h2' : decide (m - 1 < b - a) = false := by simpa using h2
          have HE := Lib.hid (show overE f t x m = 0 by rw [HOE.out, if_neg (by omega)])
          obtain ⟨n, hn⟩ : ∃ n, (b - a + 1).toNat = n := ⟨_, rfl⟩
          have HL := Lib.hid (HOB.out n HE.out hn)
          have hnb : (n : Int) = b - a + 1 := by omega
          have hn2 : n ≤ 2000 := by omega
          have HNB := Lib.hid hnb
          clear h1 h2 hmono hn hnb HOB HOE
          go_enter Try.func15, Try.ntmps15
          go_wp2_with (first
          | (go_at_call 31; (with_reducible refine (CR.out _).mono ?_); rintro e w2 ⟨rfl, hb2⟩; have HB2 := Lib.hid (chain HB1.out hb2); have k0 := keepc hb2 (show (w.alloc (.cells #[.int .i64 f, .int .i64 t] 26)).cell? ⟨w.heap.size, 0, none⟩ = some (.int .i64 f) by simp [go_sem]); have k1 := keepc hb2 (show (w.alloc (.cells #[.int .i64 f, .int .i64 t] 26)).cell? ⟨w.heap.size, 1, none⟩ = some (.int .i64 t) by simp [go_sem]); clear hb2)
          | (go_at_call 9; (with_reducible refine (CF.out _).mono ?_); rintro e w3 ⟨rfl, rfl⟩)
          | (go_at_call 9; (with_reducible refine (CG.out _).mono ?_); rintro e w3 ⟨rfl, rfl⟩))
          clear q2
          go_loopw [12, 13] (fun v i wr => ∃ k : Nat, k ≤ n ∧ i = .int .i64 (a + (k : Int)) ∧ OE EI w (risingI a k) v wr) (fun _ i _ => (b + 1 - intOf i).toNat)
          case atStart => exact ⟨0, Nat.zero_le _, by simp, (OE.nil (E := EI) w).below HB2.out⟩
          case round =>
            obtain ⟨k, hk, rfl, hO⟩ := hrel
            have HO := Lib.hid hO
            clear hO
            by_cases hlt : k < n
            · have hlt' : decide (a + (k : Int) ≤ b) = true := by
                have := HNB.out
                rw [decide_eq_true_eq]; omega
              have q3 : wrap64 (a + (k : Int) + 1) = a + ((k + 1 : Nat) : Int) := by
                have := HNB.out
                rw [IntWalk.wrap64_in _ (by omega)]; omega
              have HLN := Lib.hid (risingI_len a k)
              have HNX := Lib.hid (risingI_next a k)
              go_wp2_with (first
                | (at_builtin; refine wpList_appE (E := EI) (xs := [a + (k : Int)]) rfl (.tmp 51) (.tmp 53) rfl rfl (base := w.heap.size) rfl (World.ownsRow.alloc HO.out.own _) rfl rfl (by have hrow := rowE_one (E := EI) wr (a + (k : Int)) #[.int .i64 (a + (k : Int))] rfl 3; first | exact hrow | (simp at hrow ⊢; exact hrow)) (fun h => by cases h) (by have := HLN.out; simp; omega) (by have := HO.out.bel.size; simp; omega) ?_; intro v' w5 hown5 hg5; have HN5 := Lib.hid ((HO.out.below ((bl wr).alloc (Nat.le_refl _) _)).grown hg5 hown5); clear hown5 hg5)
                | go_in)
              have h6 := HNB.out
              go_roundw
              case rel =>
                refine ⟨k + 1, by omega, ?_, ?_⟩
                · first | rfl | (rw [Int.add_assoc]; rfl) | (rw [q3]) | (simp; omega)
                · rw [HNX.out]; exact HN5.out
              case measure => simp [intOf]; omega
            · obtain rfl : k = n := by omega
              have hlt' : decide (a + (k : Int) ≤ b) = false := by
                have := HNB.out
                rw [decide_eq_false_iff_not]; omega
              go_wp2_with fail
              go_ret2
              exact ⟨_, by rw [HE.out]; rfl, by rw [HL.out]; exact HO.out⟩
    · have hw' : widthB x = false := by simpa using hw
      have e1 : floorE f x = 2 ∧ floorV f x = 0 := ⟨by rw [floorE, hw', Bool.false_and]; rfl, by rw [floorV, hw', Bool.false_and]; rfl⟩
      rw [e1.1, e1.2] at CF
      have CG := Lib.hid CF
      have HE := Lib.hid (show overE f t x m = 2 by rw [overE, if_neg (by rw [hr]; simp), if_pos hw'])
      clear hr hr2 hw hw' e1
      go_enter Try.func15, Try.ntmps15
      go_wp2_with (first
          | (go_at_call 31; (with_reducible refine (CR.out _).mono ?_); rintro e w2 ⟨rfl, hb2⟩; have HB2 := Lib.hid (chain HB1.out hb2); have k0 := keepc hb2 (show (w.alloc (.cells #[.int .i64 f, .int .i64 t] 26)).cell? ⟨w.heap.size, 0, none⟩ = some (.int .i64 f) by simp [go_sem]); have k1 := keepc hb2 (show (w.alloc (.cells #[.int .i64 f, .int .i64 t] 26)).cell? ⟨w.heap.size, 1, none⟩ = some (.int .i64 t) by simp [go_sem]); clear hb2)
          | (go_at_call 9; (with_reducible refine (CF.out _).mono ?_); rintro e w3 ⟨rfl, rfl⟩))
      go_ret2
      exact ⟨_, by rw [HE.out]; rfl, by rw [overBk_none HE.out (by decide)]; exact (OE.nil (E := EI) w).below HB2.out⟩
  · have hr' : rightBk f t = false := by simpa using hr
    have hr2 : rightS f t = false := hr'
    rw [hr2] at CR
    have HE := Lib.hid (show overE f t x m = 3 by rw [overE, if_pos hr'])
    clear hr hr' hr2
    go_enter Try.func15, Try.ntmps15
    go_wp2_with (go_at_call 31; (with_reducible refine (CR.out _).mono ?_); rintro e w2 ⟨rfl, hb2⟩; have HB2 := Lib.hid (chain HB1.out hb2); clear hb2)
    go_ret2
    exact ⟨_, by rw [HE.out]; rfl, by rw [overBk_none HE.out (by decide)]; exact (OE.nil (E := EI) w).below HB2.out⟩

end Go.Proofs.Ytmhddpgeiijhgaa

/-
  The program's Over.
-/
namespace Go.Proofs.Ytmhddpgeiijhgaa
open Go.RowKit

theorem make_ints13 (n : Nat) (hn : n ≤ 2000) (w : World) : ∃ w', (Instr.makeSlice 32 (.int .i64 (n : Int)) (.int .i64 (n : Int))).run Try.prog w = .ok (.slice (some ⟨w.heap.size, 0, none⟩) n n) w' ∧ w'.rowIs w.heap.size 3 n (fun _ => .int .i64 0) ∧ Below w.heap.size w w' := by
  obtain ⟨i0, hi, hz0, hz1, hz2⟩ := info_parts EI.info
  have h := run_make (P := Try.prog) w 32 3 i0 _ Try.underlying32 hi hz0 .i64 .i64 (n : Int) (n : Int) (by omega) (Int.le_refl _) (by rw [hz2]; show ((8 : Nat) : Int) * (n : Int) ≤ _; omega) (by omega)
  rw [hz1] at h
  simp only [Int.toNat_natCast] at h
  refine ⟨_, h, ?_, (bl w).alloc (Nat.le_refl _) _⟩
  have := World.rowIs_made w (.int .i64 0) n 3
  have e : EI.z.cells = #[.int .i64 0] := rfl
  have e2 : n * EI.sz = n := Nat.mul_one n
  first
    | exact this
    | (rw [e, e2]; exact this)
/-- What Over leaves, of the program. -/
def OverP13 (f t x m : Int) (w : World) (e : Ending) (w' : World) : Prop := ∃ u, e = .returned (.tuple #[u, .int .i64 ((overE f t x m : Nat) : Int)]) ∧ ListE EI w' u (overBk f t x m) ∧ Below w.heap.size w w'
theorem listI_nil (w : World) : ListE EI w (.slice none 0 0) [] := ListE.nil w
set_option maxHeartbeats 4000000 in
set_option maxRecDepth 10000 in
theorem pbover_any (f t x m : Int) (w : World) (hm : m ≤ 2000) (hm2 : -9223372036854775808 ≤ m) : Calls Try.prog 14 #[.agg #[.int .i64 f, .int .i64 t], .int .i64 x, .int .i64 m] w fun e w' => ∃ u, e = .returned (.tuple #[u, .int .i64 ((overE f t x m : Nat) : Int)]) ∧ ListE EI w' u (overBk f t x m) ∧ Below w.heap.size w w' := by
  show Calls Try.prog 14 #[.agg #[.int .i64 f, .int .i64 t], .int .i64 x, .int .i64 m] w (OverP13 f t x m w)
  have CR := Lib.hid (fun w => pspan_right f t w)
  have CW := Lib.hid (pwidth13_any x)
  have HB1 := Lib.hid (show Below w.heap.size w (w.alloc (.cells #[.int .i64 f, .int .i64 t] 26)) from (bl w).alloc (Nat.le_refl _) _)
  have HK := Lib.hid (show ∀ w', Below (w.alloc (.cells #[.int .i64 f, .int .i64 t] 26)).heap.size (w.alloc (.cells #[.int .i64 f, .int .i64 t] 26)) w' → w'.cell? ⟨w.heap.size, 0, none⟩ = some (.int .i64 f) ∧ w'.cell? ⟨w.heap.size, 1, none⟩ = some (.int .i64 t) from fun w' h => ⟨keepc h (by simp [go_sem]), keepc h (by simp [go_sem])⟩)
  cases hr : rightS f t with
  | false =>
    rw [hr] at CR
    have HE := Lib.hid (show overE f t x m = 3 by rw [overE, if_pos (show rightBk f t = false from hr)])
    clear hr
    go_enter Try.func14, Try.ntmps14
    go_wp2_with (go_at_call 30; (with_reducible refine (CR.out _).mono ?_); rintro e w2 ⟨rfl, hb2⟩; have HB2 := Lib.hid (chain HB1.out hb2); clear hb2)
    go_ret2
    exact ⟨_, by rw [HE.out]; rfl, by rw [show overBk f t x m = [] by unfold overBk; rw [HE.out]; rfl]; exact listI_nil _, HB2.out⟩
  | true =>
    rw [hr] at CR
    cases hw : widthB x with
    | false =>
      rw [hw] at CW
      have HE := Lib.hid (show overE f t x m = 2 by rw [overE, if_neg (by rw [show rightBk f t = true from hr]; simp), if_pos hw])
      clear hr hw
      go_enter Try.func14, Try.ntmps14
      go_wp2_with (first
        | (go_at_call 30; (with_reducible refine (CR.out _).mono ?_); rintro e w2 ⟨rfl, hb2⟩; have HB2 := Lib.hid (chain HB1.out hb2); clear hb2)
        | (go_at_call 27; (with_reducible refine (CW.out _).mono ?_); rintro e w2 ⟨rfl, rfl⟩))
      go_ret2
      exact ⟨_, by rw [HE.out]; rfl, by rw [show overBk f t x m = [] by unfold overBk; rw [HE.out]; rfl]; exact listI_nil _, HB2.out⟩
    | true =>
      rw [hw] at CW
      have hx := (widthB_iff x).1 hw
      have hft : -1099511627776 ≤ f ∧ t ≤ 1099511627776 ∧ f < t := by
        have h := hr
        simp only [rightS, Bool.and_eq_true, decide_eq_true_eq] at h
        omega
      have q0 : wrap64 (t - 1) = t - 1 := IntWalk.wrap64_in _ (by omega)
      have CF := Lib.hid (fun w => pfl13_any f x w hx.1 (by omega) (by omega))
      have CG := Lib.hid (fun w => pfl13_any (t - 1) x w hx.1 (by omega) (by omega))
      have hmono := ediv_mono (w := x) hx.1 (show f ≤ t - 1 by omega)
      have hs1 := ediv_small (t := f) hx.1 (by omega) (by omega)
      have hs2 := ediv_small (t := t - 1) hx.1 (by omega) (by omega)
      have HOE := Lib.hid (show overE f t x m = if m < (t - 1) / x - f / x + 1 then 4 else 0 by rw [overE, if_neg (by rw [show rightBk f t = true from hr]; simp), if_neg (by rw [hw]; simp)])
      have HOB := Lib.hid (show ∀ n : Nat, overE f t x m = 0 → ((t - 1) / x - f / x + 1).toNat = n → overBk f t x m = risingI (f / x) n from fun n h hn => by unfold overBk; rw [if_pos h, hn])
      generalize f / x = a at *
      generalize (t - 1) / x = b at *
      have q1 : wrap64 (b - a) = b - a := IntWalk.wrap64_in _ (by omega)
      have q2 : wrap64 (b - a + 1) = b - a + 1 := IntWalk.wrap64_in _ (by omega)
      clear hr hw hx hft
      by_cases h2 : m < b - a + 1
      · have h2' : decide (m < b - a + 1) = true := by simpa using h2
        have HE := Lib.hid (show overE f t x m = 4 by rw [HOE.out, if_pos h2])
        clear h2 hmono hs1 hs2
        go_enter Try.func14, Try.ntmps14
        go_wp2_with (first
          | (go_at_call 30; (with_reducible refine (CR.out _).mono ?_); rintro e w2 ⟨rfl, hb2⟩; have HB2 := Lib.hid (chain HB1.out hb2); obtain ⟨k0, k1⟩ := HK.out _ hb2; clear hb2)
          | (go_at_call 27; (with_reducible refine (CW.out _).mono ?_); rintro e w3 ⟨rfl, rfl⟩)
          | fail)
        go_quiet (first | (go_at_call 29; (with_reducible refine (CF.out _).mono ?_); exact fun e w' h => ⟨h.1, _, h.2⟩) | (go_at_call 29; (with_reducible refine (CG.out _).mono ?_); exact fun e w' h => ⟨h.1, _, h.2⟩))
        go_wp2_with fail
        go_ret2
        exact ⟨_, by rw [HE.out]; rfl, by rw [show overBk f t x m = [] by unfold overBk; rw [HE.out]; rfl]; exact listI_nil _, belowN HB2.out _⟩
      · have h2' : decide (m < b - a + 1) = false := by simpa using h2
        have HE := Lib.hid (show overE f t x m = 0 by rw [HOE.out, if_neg h2])
        obtain ⟨n, hn⟩ : ∃ n : Nat, b - a + 1 = (n : Int) := ⟨(b - a + 1).toNat, by omega⟩
        have HL := Lib.hid (HOB.out n HE.out (by omega))
        have hn2 : n ≤ 2000 := by omega
        have HBN := Lib.hid hn
        clear hmono HOB HOE hn
        go_enter Try.func14, Try.ntmps14
        go_wp2_with (first
          | (go_at_call 30; (with_reducible refine (CR.out _).mono ?_); rintro e w2 ⟨rfl, hb2⟩; have HB2 := Lib.hid (chain HB1.out hb2); obtain ⟨k0, k1⟩ := HK.out _ hb2; clear hb2)
          | (go_at_call 27; (with_reducible refine (CW.out _).mono ?_); rintro e w3 ⟨rfl, rfl⟩)
          | fail)
        go_quiet (first | (go_at_call 29; (with_reducible refine (CF.out _).mono ?_); exact fun e w' h => ⟨h.1, _, h.2⟩) | (go_at_call 29; (with_reducible refine (CG.out _).mono ?_); exact fun e w' h => ⟨h.1, _, h.2⟩))
        have hb3 := belowN HB2.out nq
        obtain ⟨w4, hmk, hrow, hb4⟩ := make_ints13 n hn2 (w3.drewN nq)
        rw [← HBN.out] at hmk
        have HB4 := Lib.hid (chain hb3 hb4)
        have HG := Lib.hid (show w.heap.size ≤ (w3.drewN nq).heap.size from hb3.size)
        generalize (w3.drewN nq).heap.size = g at *
        have HROW := Lib.hid hrow
        clear hrow hb4 hb3
        go_wp2_with fail
        go_loopw [39] (fun i wr => ∃ (k : Nat) (c : Nat → Value), k ≤ n ∧ i = .int .i64 (k : Int) ∧ wr.rowIs g 3 n c ∧ (∀ j : Nat, j < k → c j = .int .i64 (a + (j : Int))) ∧ Below w.heap.size w wr) (fun i _ => n - (intOf i).toNat)
        case atStart => exact ⟨0, _, Nat.zero_le _, rfl, HROW.out, fun j hj => by omega, HB4.out⟩
        case round =>
          obtain ⟨k, c, hk, rfl, hr, hc, hB⟩ := hrel
          have HR := Lib.hid hr
          have HC := Lib.hid hc
          have HB := Lib.hid hB
          clear hc hB
          by_cases hlt : k < n
          · have hlt' : (k : Int) < (n : Int) := by omega
            have hcell := hr.cell hlt
            have hfro := hr.frozen k
            have q5 : wrap64 (a + (k : Int)) = a + (k : Int) := IntWalk.wrap64_in _ (by have := HBN.out; omega)
            clear hr
            go_wp2_with fail
            refine ⟨⟨k + 1, _, by omega, by go_num, HR.out.set k _, fun j hj => ?_, HB.out.setCell (p := ⟨g, k, none⟩) HG.out _⟩, by simp [intOf]; omega⟩
            by_cases hjk : j = k
            · rw [if_pos hjk, hjk]
            · rw [if_neg hjk]; exact HC.out j (by omega)
          · obtain rfl : k = n := by omega
            have hlt' : ¬ (k : Int) < (k : Int) := by omega
            clear hr
            go_wp2_with fail
            go_ret2
            refine ⟨.slice (some ⟨g, 0, none⟩) k k, by rw [HE.out]; rfl, ?_, HB.out⟩
            rw [HL.out]
            have hlen := risingI_len a k
            refine ⟨_, k, by rw [hlen], fun i y hy => ⟨g, 0, rfl, fun j u hu => ?_⟩, by rw [hlen]; exact Nat.le_refl _, fun h => by cases h⟩
            have hi : i < k := by rw [← hlen]; exact (List.getElem?_eq_some_iff.1 hy).1
            have hj : j = 0 := by
              have := (List.getElem?_eq_some_iff.1 hu).1
              have h3 : (EI.cells y).length = 1 := rfl
              omega
            subst hj
            obtain rfl : Value.int .i64 y = u := by simpa [EI] using hu
            have hy2 : y = a + (i : Int) := by
              unfold risingI at hy
              simp [hi] at hy
              exact hy.symm
            have h4 := HR.out.cell hi
            rw [HC.out i hi] at h4
            show wr.cell? ⟨g, 0 + i * 1 + 0, none⟩ = _
            rw [hy2, Nat.zero_add, Nat.mul_one]; exact h4

end Go.Proofs.Ytmhddpgeiijhgaa

/-
  The statement of a span's buckets, walked.
-/
namespace Go.Proofs.Ytmhddpgeiijhgaa
open Go.RowKit

set_option maxHeartbeats 800000 in
theorem samei13_any (w : World) (A B : Option Addr) (c d : Nat) (l : List Int) (hl : Co.Ints w A l) (hm : Co.Ints w B l) (hn : l.length ≤ 9223372036854775807) :
    Calls Try.prog 16 #[.slice A l.length c, .slice B l.length d] w fun e w' => e = .returned (.bool true) ∧ Below w.heap.size w w' := by
  have HL := Lib.hid hl
  have HM := Lib.hid hm
  clear hl hm
  obtain ⟨n, hnm⟩ : ∃ n, n = l.length := ⟨_, rfl⟩
  rw [← hnm]
  have HN := Lib.hid hnm
  have hn' : n ≤ 9223372036854775807 := by omega
  clear hnm hn
  go_enter Try.func16, Try.ntmps16
  go_wp2
  go_loopw [5] (fun i wr => ∃ k : Nat, k ≤ n ∧ i = .int .i64 k ∧ ∃ q, wr = w.drewN q) (fun i _ => n - (intOf i).toNat)
  case atStart => exact ⟨0, Nat.zero_le _, rfl, 0, rfl⟩
  case round =>
    obtain ⟨k, hk, rfl, q, rfl⟩ := hrel
    by_cases hlt : k < n
    · obtain ⟨x, hx⟩ : ∃ p, l[k]? = some p := ⟨_, List.getElem?_eq_getElem (by have := HN.out; omega)⟩
      obtain ⟨g, off, rfl, c0⟩ := HL.out k _ hx
      obtain ⟨g', off', rfl, d0⟩ := HM.out k _ hx
      clear hx
      have e0 : (x == x) = true := by simp
      go_wp2
      go_quiet (fail)
      go_wp2
      go_roundw
      case rel => exact ⟨k + 1, by omega, by go_num, _, rfl⟩
      case measure => simp [intOf]; omega
    · go_wp2
      go_ret
      exact ⟨rfl, ⟨rfl, rfl, rfl, Nat.le_refl _, fun _ _ => rfl⟩⟩

theorem samel13_any (w : World) (u v : Value) (l : List Int) (hl : ListE EI w u l) (hm : ListE EI w v l) (hn : l.length ≤ 9223372036854775807) : Ret 16 #[u, v] w (.bool true) := by
  obtain ⟨A, c, rfl, h1, _⟩ := hl
  obtain ⟨B, d, rfl, h2, _⟩ := hm
  exact samei13_any w A B c d l (rowI_ints h1) (rowI_ints h2) hn
theorem overBk_len (f t x m : Int) (hm : m ≤ 2000) : (overBk f t x m).length ≤ 9223372036854775807 := by
  unfold overBk
  split
  · rename_i h
    rw [risingI_len]
    unfold overE at h
    split at h
    · omega
    · split at h
      · omega
      · split at h
        · omega
        · omega
  · simp

set_option maxHeartbeats 4000000 in
set_option maxRecDepth 100000 in
theorem overs13_walk (f t x m : Int) (hm0 : -9223372036854775808 ≤ m) (W : World) : Ret 5 #[.agg #[.int .i64 f, .int .i64 t], .int .i64 x, .int .i64 m] W (.bool true) := by
  have CA := Lib.hid (fun w => alive13_any w)
  have HB1 := Lib.hid (show Below W.heap.size W (W.alloc (.cells #[.int .i64 f, .int .i64 t] 26)) from (bl W).alloc (Nat.le_refl _) _)
  by_cases hb : m > 2000
  · have hb' : decide (m > 2000) = true := by simpa using hb
    have hb'' : decide (2000 < m) = true := by simpa using hb
    clear hb
    go_enter Try.func5, Try.ntmps5
    go_wp2_with (go_at_call 12; (with_reducible refine (CA.out _).mono ?_); rintro e w7 ⟨rfl, hb7⟩; have HB7 := Lib.hid hb7; clear hb7)
    go_ret
    exact ⟨rfl, chain HB1.out HB7.out⟩
  · have hb' : decide (m > 2000) = false := by simpa using hb
    have hb'' : decide (2000 < m) = false := by simpa using hb
    have CP := Lib.hid (fun w => pbover_any f t x m w (by omega) hm0)
    have CD := Lib.hid (show ∀ w, Calls Try.prog 15 #[.agg #[.int .i64 f, .int .i64 t], .int .i64 x, .int .i64 m] w (fun e w' => ∃ u, e = .returned (.tuple #[u, .int .i64 ((overE f t x m : Nat) : Int)]) ∧ OE EI w (overBk f t x m) u w') from fun w => dover13_any f t x m w (by omega) hm0)
    have HLEN := Lib.hid (overBk_len f t x m (by omega))
    generalize overE f t x m = e0 at *
    generalize overBk f t x m = L at *
    clear hb hm0
    go_enter Try.func5, Try.ntmps5
    go_wp2_with (first
      | (go_at_call 14; (with_reducible refine (CP.out _).mono ?_); rintro e w2 ⟨u2, rfl, hl2, hb2⟩; have k0 := keepc hb2 (show (W.alloc (.cells #[.int .i64 f, .int .i64 t] 26)).cell? ⟨W.heap.size, 0, none⟩ = some (.int .i64 f) by simp [go_sem]); have k1 := keepc hb2 (show (W.alloc (.cells #[.int .i64 f, .int .i64 t] 26)).cell? ⟨W.heap.size, 1, none⟩ = some (.int .i64 t) by simp [go_sem]); have HB2 := Lib.hid (chain HB1.out hb2); have HL2 := Lib.hid hl2; clear hb2 hl2)
      | (go_at_call 15; (with_reducible refine (CD.out _).mono ?_); rintro e w3 ⟨u3, rfl, ho3⟩; have HB3 := Lib.hid ho3.bel; have HL3 := Lib.hid ho3.list; have HL4 := Lib.hid (HL2.out.below ho3.bel); clear ho3)
      | (go_at_call 16; (with_reducible refine (samel13_any _ _ _ L HL4.out HL3.out HLEN.out).mono ?_); rintro e w6 ⟨rfl, hb6⟩; have HB6 := Lib.hid hb6; clear hb6)
      | (go_at_call 12; (with_reducible refine (CA.out _).mono ?_); rintro e w7 ⟨rfl, hb7⟩; have HB7 := Lib.hid hb7; clear hb7))
    go_ret
    exact ⟨rfl, chain HB2.out (chain HB3.out (chain HB6.out HB7.out))⟩
end Go.Proofs.Ytmhddpgeiijhgaa

/-
  What the small calls of span, and of the document's answers beside it, give back for any spans and times: Right, Has, Long. Each makes new blocks alone.
-/
namespace Go.Proofs.Ytmhddpgeiijhgaa.Co
open Go.RowKit

/-- A span as a value. -/
abbrev sp (f t : Int) : Value := .agg #[.int .i64 f, .int .i64 t]

theorem bcell {W w1 : World} (hb : Below W.heap.size W w1) : (∀ b o, b < W.heap.size → w1.cell? ⟨b, o, none⟩ = W.cell? ⟨b, o, none⟩) ∧ (∀ b o, b < W.heap.size → w1.frozen? ⟨b, o, none⟩ = W.frozen? ⟨b, o, none⟩) :=
  ⟨fun b o h => hb.cell (p := ⟨b, o, none⟩) h, fun b o h => hb.frozen (p := ⟨b, o, none⟩) h⟩

set_option maxHeartbeats 400000 in
theorem right_any (f t : Int) (w : World) :
    Calls Try.prog 30 #[sp f t] w fun e w' => e = .returned (.bool (rightB f t)) ∧ Below w.heap.size w w' := by
  by_cases h0 : -1099511627776 ≤ f
  case' neg =>
    go_enter Try.func30, Try.ntmps30
    go_wp2
    go_ret
    exact ⟨by simp [rightB]; omega, by go_grown⟩
  by_cases h1 : f < t
  case' neg =>
    go_enter Try.func30, Try.ntmps30
    go_wp2
    go_ret
    exact ⟨by simp [rightB]; omega, by go_grown⟩
  by_cases h2 : t ≤ 1099511627776
  case' neg =>
    go_enter Try.func30, Try.ntmps30
    go_wp2
    go_ret
    exact ⟨by simp [rightB]; omega, by go_grown⟩
  go_enter Try.func30, Try.ntmps30
  go_wp2
  go_ret
  exact ⟨by simp [rightB]; omega, by go_grown⟩

set_option maxHeartbeats 400000 in
theorem drightc_any (f t : Int) (w : World) :
    Calls Try.prog 31 #[sp f t] w fun e w' => e = .returned (.bool (rightB f t)) ∧ Below w.heap.size w w' := by
  by_cases h0 : -1099511627776 ≤ f
  case' neg =>
    go_enter Try.func31, Try.ntmps31
    go_wp2
    go_ret
    exact ⟨by simp [rightB]; omega, by go_grown⟩
  by_cases h1 : t ≤ 1099511627776
  case' neg =>
    go_enter Try.func31, Try.ntmps31
    go_wp2
    go_ret
    exact ⟨by simp [rightB]; omega, by go_grown⟩
  by_cases h2 : f < t
  case' neg =>
    go_enter Try.func31, Try.ntmps31
    go_wp2
    go_ret
    exact ⟨by simp [rightB]; omega, by go_grown⟩
  go_enter Try.func31, Try.ntmps31
  go_wp2
  go_ret
  exact ⟨by simp [rightB]; omega, by go_grown⟩

set_option maxHeartbeats 400000 in
theorem has_any (f t x : Int) (w : World) :
    Calls Try.prog 28 #[sp f t, .int .i64 x] w fun e w' => e = .returned (.bool (hasB f t x)) ∧ Below w.heap.size w w' := by
  by_cases h0 : f ≤ x
  case' neg =>
    go_enter Try.func28, Try.ntmps28
    go_wp2
    go_ret
    exact ⟨by simp [hasB]; omega, by go_grown⟩
  by_cases h1 : x < t
  case' neg =>
    go_enter Try.func28, Try.ntmps28
    go_wp2
    go_ret
    exact ⟨by simp [hasB]; omega, by go_grown⟩
  go_enter Try.func28, Try.ntmps28
  go_wp2
  go_ret
  exact ⟨by simp [hasB]; omega, by go_grown⟩

set_option maxHeartbeats 400000 in
theorem dhas_any (f t x : Int) (w : World) :
    Calls Try.prog 13 #[sp f t, .int .i64 x] w fun e w' => e = .returned (.bool (hasB f t x)) ∧ Below w.heap.size w w' := by
  by_cases h0 : f ≤ x
  case' neg =>
    go_enter Try.func13, Try.ntmps13
    go_wp2
    go_ret
    exact ⟨by simp [hasB]; omega, by go_grown⟩
  by_cases h1 : x < t
  case' neg =>
    go_enter Try.func13, Try.ntmps13
    go_wp2
    go_ret
    exact ⟨by simp [hasB]; omega, by go_grown⟩
  go_enter Try.func13, Try.ntmps13
  go_wp2
  go_ret
  exact ⟨by simp [hasB]; omega, by go_grown⟩

/-- How many times it has. -/
def longI (f t : Int) : Int := if rightB f t then t - f else 0
theorem ret_int {k : IntKind} {a b : Int} (h : a = b) : Ending.returned (.int k a) = .returned (.int k b) := by rw [h]

/-- Two cells of one block, stored one behind the other. -/
theorem two_set {w : World} {b : Nat} {u0 u1 : Value} (x y : Value) (h0 : w.cell? ⟨b, 0, none⟩ = some u0) (h1 : w.cell? ⟨b, 1, none⟩ = some u1) :
    (w.setCell ⟨b, 0, none⟩ x).cell? ⟨b, 0, none⟩ = some x ∧ ((w.setCell ⟨b, 0, none⟩ x).setCell ⟨b, 1, none⟩ y).cell? ⟨b, 1, none⟩ = some y :=
  ⟨World.cell?_setCell_same _ _ _ h0, World.cell?_setCell_same _ _ _ ((World.cell?_setCell_other _ _ _ _ (by simp)).trans h1)⟩

end Go.Proofs.Ytmhddpgeiijhgaa.Co

/-
  Arguments that are lists of pieces, spans by value; how long a list of versions may be.
-/
namespace Go.Proofs.Ytmhddpgeiijhgaa
open Go.ChangeShapes Go.WideShapes Go.ChangeAt Go.RowKit Go.Joins Go.ChangeMaps Go.Deep

instance inhabitedPc : Inhabited Pc := ⟨⟨0, 0, none, 0, []⟩⟩
section
variable {H : Type} {enc : TypeId × Value → H} {W : World} {r : Reach} {base : Nat}

set_option maxRecDepth 100000 in
theorem arg_span {v : Value} {d : DataW H} {p : List MemPlace} (hv : Value.okWide Try.prog W r base 26 v) (h : DataW.Trod enc Try.prog W 0 (fun _ => true) true 26 v d p) :
    ∃ a : Int × Int, v = .agg #[.int .i64 a.1, .int .i64 a.2] := by
  obtain ⟨cs, rfl, hs⟩ := okWide_struct Try.underlying26 hv
  rw [Try.cellsSpan] at hs
  obtain ⟨fuel, hf⟩ := h
  obtain ⟨xs, k, hk, hxy, _, hxl, hf⟩ := DataW.trod_struct Try.underlying26 hf
  obtain ⟨x0, x1, rfl⟩ := array2 hs
  match xs, hxl with
  | [y0, y1], _ =>
    have g0 := hf 0 _ rfl
    have g1 := hf 1 _ rfl
    simp [Try.cells3i] at g0 g1
    obtain ⟨x, e0, _, _⟩ := DataW.trod_int Try.underlying3 g0
    obtain ⟨y, e1, _, _⟩ := DataW.trod_int Try.underlying3 g1
    simp [Value.cells] at e0 e1
    subst e0 e1
    exact ⟨(x, y), rfl⟩

/-- How long a list of versions is, in its data. -/
theorem vers_len {v : Value} {d : DataW H} {p : List MemPlace} (h : DataW.Trod enc Try.prog W 0 (fun _ => true) true 43 v d p) {l : List Vr} (hl : VersL W v l) : l.length = 0 ∨ ∃ es sp, d = .slice es sp ∧ es.length = l.length := by
  obtain ⟨A, c, rfl, _⟩ := hl.1
  obtain ⟨fuel, hf⟩ := h
  rcases DataW.trod_slice Try.underlying43 hf with ⟨hcs, _⟩ | ⟨a, len, cap, elems, rest, n, _, hcs, hx, _, _, _, hlen, _⟩
  · simp [Value.cells] at hcs
    exact .inl (by rw [hcs.2.1]; rfl)
  · simp [Value.cells] at hcs
    injection hx with hd _
    exact .inr ⟨_, _, hd, by rw [List.length_map, hlen]; exact hcs.2.1.symm⟩
theorem vers_sized {ts : List TypeId} {ds : List (DataW H)} (hsz : (DataW.weightsEach Try.prog ts ds).all (· ≤ reachBytes) = true) {j : Nat} {v : Value} {d : DataW H} {p : List MemPlace} (ht : ts[j]? = some 43) (hd : ds[j]? = some d) (h : DataW.Trod enc Try.prog W 0 (fun _ => true) true 43 v d p) {l : List Vr} (hl : VersL W v l) : l.length * 80 ≤ 140737488351232 := by
  rcases vers_len h hl with h0 | ⟨es, sp, rfl, he⟩
  · rw [h0]; decide
  · have := sized_slice hsz ht hd Try.underlying43
    have hb : Try.prog.bytesOf 51 = 80 := by kernel_rfl
    rw [hb, he] at this
    have e : reachBytes = 140737488351232 := rfl
    rw [e] at this
    exact Nat.le_trans (Nat.mul_le_mul_right 80 (by omega)) this

end

end Go.Proofs.Ytmhddpgeiijhgaa
