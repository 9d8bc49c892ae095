/-
  What Cut gives back for any span and any times.
-/
import Derived.Test.YtaobmlkbhdonkaaWithin
namespace Go.Proofs.Ytaobmlkbhdonkaa
open Go.RowKit

/-- The pieces behind some times, and where the next one begins. -/
def cutSt (a : Int) (ts : List Int) : List (Int × Int) × Int := ts.foldl (fun s t => (kept s.1 s.2 t, t)) ([], a)
def cutL (a b : Int) (ts : List Int) : List (Int × Int) := kept (cutSt a ts).1 (cutSt a ts).2 b
/-- The span's pieces. -/
def spanCut (a b : Int) (zs : List Int) : List (Int × Int) := if rightB a b then cutL a b (sortI (zs.filter (hasB a b))) else []

theorem cutSt_snoc (a : Int) (ts : List Int) (t : Int) : cutSt a (ts ++ [t]) = (kept (cutSt a ts).1 (cutSt a ts).2 t, t) := by simp [cutSt]
theorem kept_length (l : List (Int × Int)) (f t : Int) : (kept l f t).length ≤ l.length + 1 := by unfold kept; split <;> simp
theorem foldl_length (ts : List Int) : ∀ s : List (Int × Int) × Int, (ts.foldl (fun s t => (kept s.1 s.2 t, t)) s).1.length ≤ s.1.length + ts.length := by
  induction ts with
  | nil => intro s; simp
  | cons t ts ih =>
    intro s
    have h1 := ih (kept s.1 s.2 t, t)
    have h2 := kept_length s.1 s.2 t
    simp only [List.foldl_cons, List.length_cons] at h1 ⊢
    omega
theorem cutSt_length (a : Int) (ts : List Int) : (cutSt a ts).1.length ≤ ts.length := by simpa [cutSt] using foldl_length ts ([], a)

/-- A block that holds one list's variable holds no number. -/
theorem ne_of_cell {w : World} {b g o : Nat} {A : Option Addr} {n c : Nat} {t : TypeId} {x : Int} (hv : w.heap[b]? = some (.cells #[.slice A n c] t (0, 0))) (hc : w.cell? ⟨g, o, none⟩ = some (.int .i64 x)) : g ≠ b := by
  rintro rfl
  rcases o with _ | o <;> simp [World.cell?, hv] at hc

/-- What holds at the head of each round of Cut. -/
def CutRel (B base : Nat) (l : List (Int × Int)) (w wr : World) : Prop :=
  ∃ v, wr.heap[B]? = some (.cells #[v] 36 (0, 0)) ∧ wr.ownsRow base 23 2 v l.length (flat l) ∧ Aside base B w wr

set_option maxHeartbeats 1000000 in
theorem cut_any (a b : Int) (A : Option Addr) (c : Nat) (zs : List Int) (w : World) (hz : Ints w A zs) (hn : zs.length ≤ 100000) :
    Calls Try.prog 25 #[sp a b, .slice A zs.length c] w (ListPost (spanCut a b zs) w) := by
  have HZ := Lib.hid hz
  clear hz
  cases hr : rightB a b
  · go_enter Try.func25, Try.ntmps25
    go_wp2_with fail
    (go_at_call 10; refine (right_any _ _ _).mono ?_; rintro e w1 ⟨rfl, hb⟩)
    go_wp2_with fail
    go_ret
    rw [spanCut, hr]
    exact ⟨none, 0, rfl, Spans.nil _ _, ((Below.refl _ _).alloc (Nat.le_refl _) _).trans (hb.mono (by simp))⟩
  · obtain ⟨ts, hts⟩ : ∃ ts, ts = sortI (zs.filter (hasB a b)) := ⟨_, rfl⟩
    have htl : ts.length ≤ 100000 := by rw [hts, sortI_length]; exact Nat.le_trans (List.length_filter_le _ _) hn
    have HT := Lib.hid hts
    clear hts
    go_enter Try.func25, Try.ntmps25
    go_wp2_with fail
    (go_at_call 10; refine (right_any _ _ _).mono ?_; rintro e w1 ⟨rfl, hb⟩)
    have hs1 : w.heap.size < w1.heap.size := by have := hb.size; simp at this; omega
    go_wp2_with fail
    (go_at_call 28; refine (keeper_any _ _).mono ?_; rintro e w2 ⟨rfl, hp, hsz, hb2⟩)
    have hB : Below (w.heap.size + 1) (w.alloc (.cells #[.int .i64 a, .int .i64 b] 23)) w2 := (((hb.mono (by simp)).alloc (by omega) _).trans (hb2.mono (by simp; omega)))
    have hv : w2.heap[w1.heap.size]? = some (.cells #[.slice none 0 0] 36 (0, 0)) := (hb2.block w1.heap.size (by simp)).trans (heap_alloc_new w1 _)
    have ca0 : w2.cell? ⟨w.heap.size, 0, none⟩ = some (.int .i64 a) := (hB.cell (p := ⟨w.heap.size, 0, none⟩) (by simp)).trans (by simp [go_sem])
    have ca1 : w2.cell? ⟨w.heap.size, 1, none⟩ = some (.int .i64 b) := (hB.cell (p := ⟨w.heap.size, 1, none⟩) (by simp)).trans (by simp [go_sem])
    have hw2 : Below w.heap.size w w2 := ((Below.refl _ _).alloc (Nat.le_refl _) _).trans (hB.mono (by omega))
    simp at hp hsz
    have HP := Lib.hid hp
    have HV := Lib.hid hv
    clear hp hv
    go_wp2_with fail
    (go_at_call 29; refine (within_any a b A c zs w2 (HZ.out.below hw2) (by omega)).mono ?_; rintro e w3 ⟨A', c', rfl, hts, hb3⟩)
    rw [← HT.out] at hts ⊢
    have HTS := Lib.hid hts
    clear hts
    have hs3 := hb3.size
    go_wp2_with fail
    have hv3 : w3.heap[w1.heap.size]? = some (.cells #[.slice none 0 0] 36 (0, 0)) := (hb3.block _ (by omega)).trans HV.out
    have hp3 := (hb3.block _ (by omega)).trans HP.out
    have ca3 : w3.cell? ⟨w.heap.size, 1, none⟩ = some (.int .i64 b) := (hb3.cell (p := ⟨w.heap.size, 1, none⟩) (by simp; omega)).trans ca1
    have HV3 := Lib.hid hv3
    have HP3 := Lib.hid hp3
    clear hv3 hp3
    go_loopw [7, 20] (fun f i wr => ∃ k : Nat, k ≤ ts.length ∧ i = .int .i64 k ∧ f = .int .i64 (cutSt a (ts.take k)).2 ∧ CutRel w1.heap.size w3.heap.size (cutSt a (ts.take k)).1 w3 wr) (fun _ i _ => ts.length - (intOf i).toNat)
    case atStart => exact ⟨0, Nat.zero_le _, rfl, by simp [cutSt], .slice none 0 0, HV3.out, by simpa [cutSt, flat] using World.ownsRow_nil _ _ _ _, Aside.refl _ _ _⟩
    case round =>
      obtain ⟨k, hk, rfl, rfl, hrel⟩ := hrel
      obtain ⟨l, hl⟩ : ∃ l, (cutSt a (ts.take k)).1 = l := ⟨_, rfl⟩
      obtain ⟨f, hf⟩ : ∃ f, (cutSt a (ts.take k)).2 = f := ⟨_, rfl⟩
      have hll : l.length ≤ k := by rw [← hl]; exact Nat.le_trans (cutSt_length _ _) (List.length_take_le _ _)
      rw [hl] at hrel
      rw [hf]
      obtain ⟨v, hv, hown, hA⟩ := hrel
      have HL := Lib.hid hl
      have HF := Lib.hid hf
      clear hl hf
      have hpr := (hA.block _ (by omega) (by omega)).trans HP3.out
      have car : wr.cell? ⟨w.heap.size, 1, none⟩ = some (.int .i64 b) := (hA.cell (by omega) (by omega)).trans ca3
      have hsr := hA.size
      by_cases hlt : k < ts.length
      · obtain ⟨t, ht⟩ : ∃ t, ts[k]? = some t := ⟨_, List.getElem?_eq_getElem hlt⟩
        obtain ⟨g, off, rfl, c0⟩ := HTS.out k t ht
        have hg := lt_of_cell c0
        have hgB := ne_of_cell HV3.out c0
        have c1 := (hA.cell hg hgB).trans c0
        have HT' := Lib.hid ht
        clear ht
        go_wp2_with (go_at_call 32; refine (keep_any _ _ w1.heap.size w3.heap.size v l wr hpr hv (by omega) hsr hown (by omega)).mono ?_; rintro e w4 ⟨rfl, v4, hv4, hown4, hA4⟩)
        have hsn : cutSt a (ts.take (k + 1)) = (kept l f t, t) := by rw [List.take_add_one, HT'.out, Option.toList_some, cutSt_snoc, HL.out, HF.out]
        go_roundw
        case rel => exact ⟨k + 1, by omega, by go_num, by rw [hsn], v4, hv4, by rw [hsn]; exact hown4, hA.trans hA4⟩
        case measure => simp [intOf]; omega
      · have hfin : spanCut a b zs = kept l f b := by rw [spanCut, hr, if_pos rfl, ← HT.out, cutL, ← HL.out, ← HF.out, List.take_of_length_le (by omega)]
        have HFIN := Lib.hid hfin
        clear hfin
        go_wp2_with (go_at_call 32; refine (keep_any _ _ w1.heap.size w3.heap.size v l wr hpr hv (by omega) hsr hown (by omega)).mono ?_; rintro e w4 ⟨rfl, v4, hv4, hown4, hA4⟩; have c4 := cell_of_one hv4)
        go_ret
        obtain ⟨A4, cc, rfl, hsp⟩ := own_spans hown4
        rw [HFIN.out]
        exact ⟨A4, cc, rfl, hsp, hw2.trans ((hb3.mono (by omega)).trans ((hA.trans hA4).below (by omega) (by omega)))⟩

end Go.Proofs.Ytaobmlkbhdonkaa
