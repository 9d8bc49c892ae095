/-
  SpanParts is true for any two spans and any time: each time of the first is in one part alone, and the parts are as long as the whole.
-/
import Derived.Test.YtaobmlkbhdonkaaPure
namespace Go.Proofs.Ytaobmlkbhdonkaa
open Go.RowKit

/-- The cells of the two spans, and of what both have, behind steps that make new blocks alone. -/
def PartRel (l : List (Int × Int)) (n0 l0 t : Int) (W : World) (k : Nat) (n long : Value) (wr : World) : Prop :=
  n = .int .i64 (n0 + cntL (l.take k) t) ∧ long = .int .i64 (l0 + lenL (l.take k)) ∧ Below W.heap.size W wr

theorem minus_empty (c d : Int) : minusL 0 0 c d = [] := by simp [minusL, rightB]

set_option maxHeartbeats 2000000 in
theorem parts_no (a b c d t : Int) (w : World) (h : rightB a b = false ∨ (rightB a b = true ∧ rightB c d = false)) :
    Calls Try.prog 5 #[sp a b, sp c d, .int .i64 t] w fun e w' => e = .returned (.bool true) ∧ Below w.heap.size w w' := by
  rcases h with hr | ⟨hr, hs⟩
  · go_enter Try.func5, Try.ntmps5
    go_wp2_with fail
    (go_at_call 9; refine (dright_any _ _ _).mono ?_; rintro e w1 ⟨rfl, hb⟩; obtain ⟨hc, hf⟩ := bcell hb)
    have hw1 : Below w.heap.size w w1 := (((Below.refl _ _).alloc (Nat.le_refl _) _).alloc (by simp) _).trans (hb.mono (by simp; omega))
    go_wp2_with fail
    (go_at_call 21; refine (minus_any _ _ _ _ _).mono ?_; rintro e w2 ⟨A, cA, rfl, hsp, hb2⟩)
    rw [minus_empty]
    clear hsp
    go_wp2_with (go_at_call 17; refine (alive_any _).mono ?_; rintro e w3 ⟨rfl, hb3⟩)
    go_ret
    exact ⟨rfl, chain (chain hw1 hb2) hb3⟩
  · go_enter Try.func5, Try.ntmps5
    go_wp2_with fail
    (go_at_call 9; refine (dright_any _ _ _).mono ?_; rintro e w1 ⟨rfl, hb⟩; obtain ⟨hc, hf⟩ := bcell hb)
    have hw1 : Below w.heap.size w w1 := (((Below.refl _ _).alloc (Nat.le_refl _) _).alloc (by simp) _).trans (hb.mono (by simp; omega))
    have hz1 : w.heap.size + 1 < w1.heap.size := by have := hb.size; simp at this; omega
    go_wp2_with fail
    (go_at_call 9; refine (dright_any _ _ _).mono ?_; rintro e w1' ⟨rfl, hb'⟩; obtain ⟨hc', hf'⟩ := bcell hb')
    go_wp2_with fail
    (go_at_call 21; refine (minus_any _ _ _ _ _).mono ?_; rintro e w2 ⟨A, cA, rfl, hsp, hb2⟩)
    rw [minus_empty]
    clear hsp
    go_wp2_with (go_at_call 17; refine (alive_any _).mono ?_; rintro e w3 ⟨rfl, hb3⟩)
    go_ret
    exact ⟨rfl, chain (chain (chain hw1 hb') hb2) hb3⟩

theorem keepc {w w' : World} {g o : Nat} {u : Value} (hb : Below w.heap.size w w') (h : w.cell? ⟨g, o, none⟩ = some u) : w'.cell? ⟨g, o, none⟩ = some u := (hb.cell (p := ⟨g, o, none⟩) (lt_of_cell h)).trans h

theorem minusL_two (a b c d : Int) : (minusL a b c d).length ≤ 2 := by
  unfold minusL
  split
  · split
    · have h1 := kept_length [] a (max a c)
      have h2 := kept_length (kept [] a (max a c)) (min b d) b
      simp at h1
      omega
    · simp
  · simp
theorem longI_bound (f t : Int) : 0 ≤ longI f t ∧ longI f t ≤ 2199023255552 := by
  unfold longI
  split
  · rename_i h
    have := right_yes h
    omega
  · omega
theorem cntL_bound (l : List (Int × Int)) (t : Int) : 0 ≤ cntL l t ∧ cntL l t ≤ l.length := by
  have := List.length_filter_le (fun p : Int × Int => hasB p.1 p.2 t) l
  unfold cntL
  omega
theorem lenL_bound : ∀ l : List (Int × Int), 0 ≤ lenL l ∧ lenL l ≤ l.length * 2199023255552
  | [] => by simp [lenL_nil]
  | (p, q) :: l => by
    have h1 := lenL_bound l
    have h2 := longI_bound p q
    rw [lenL_cons, List.length_cons]
    omega
theorem cntL_snoc (l : List (Int × Int)) (p : Int × Int) (t : Int) : cntL (l ++ [p]) t = cntL l t + if hasB p.1 p.2 t then 1 else 0 := by
  cases h : hasB p.1 p.2 t <;> simp [cntL, List.filter_append, h]
theorem lenL_snoc (l : List (Int × Int)) (p : Int × Int) : lenL (l ++ [p]) = lenL l + longI p.1 p.2 := by simp [lenL]

theorem cntM_bound (a b c d t : Int) : 0 ≤ cntM a b c d t ∧ cntM a b c d t ≤ 1 := by
  unfold cntM
  (repeat' split) <;> omega
theorem lenM_bound (a b c d : Int) : 0 ≤ lenM a b c d ∧ lenM a b c d ≤ 2199023255552 := by
  have := longI_bound (meetF a b c d) (meetT a b c d)
  unfold lenM
  split <;> omega
theorem part_bounds (a b c d t : Int) (l : List (Int × Int)) (k : Nat) (hl : l.length ≤ 2) {N L : Int} (hN : cntM a b c d t + cntL (l.take k) t = N) (hL : lenM a b c d + lenL (l.take k) = L) :
    0 ≤ N ∧ N ≤ 3 ∧ 0 ≤ L ∧ L ≤ 6597069766656 := by
  have h1 := cntM_bound a b c d t
  have h2 := lenM_bound a b c d
  have h3 := cntL_bound (l.take k) t
  have h4 := lenL_bound (l.take k)
  have h5 : (l.take k).length ≤ l.length := List.length_take_le' _ _
  omega
theorem part_cnt {l : List (Int × Int)} {k : Nat} {p q t m N u : Int} (hp : l[k]? = some (p, q)) (hN : m + cntL (l.take k) t = N) (hu : N + (if hasB p q t then 1 else 0) = u) : Value.int .i64 u = .int .i64 (m + cntL (l.take (k + 1)) t) := by
  rw [List.take_add_one, hp, Option.toList_some, cntL_snoc, ← hu, ← hN, Int.add_assoc]
theorem part_len {l : List (Int × Int)} {k : Nat} {p q m L : Int} (hp : l[k]? = some (p, q)) (hL : m + lenL (l.take k) = L) : Value.int .i64 (L + longI p q) = .int .i64 (m + lenL (l.take (k + 1))) := by
  rw [List.take_add_one, hp, Option.toList_some, lenL_snoc, ← hL, Int.add_assoc]

set_option maxRecDepth 100000 in
set_option maxHeartbeats 4000000 in
theorem parts_yes (a b c d t : Int) (w : World) (hr : rightB a b = true) (hs : rightB c d = true) :
    Calls Try.prog 5 #[sp a b, sp c d, .int .i64 t] w fun e w' => e = .returned (.bool true) ∧ Below w.heap.size w w' := by
  have hcnt := Lib.hid (parts_cnt t hr hs)
  have hlen := Lib.hid (parts_len hr hs)
  have hap := Lib.hid (minus_apart hr hs)
  obtain ⟨l, hl⟩ : ∃ l, minusL a b c d = l := ⟨_, rfl⟩
  have hl2 : l.length ≤ 2 := by rw [← hl]; exact minusL_two a b c d
  have HL := Lib.hid hl
  clear hl
  cases hm : meetB a b c d
  · have m0 := Lib.hid (show cntM a b c d t = 0 by simp [cntM, hm])
    have m1 := Lib.hid (show lenM a b c d = 0 by simp [lenM, hm])
    go_enter Try.func5, Try.ntmps5
    go_wp2_with fail
    (go_at_call 9; refine (dright_any _ _ _).mono ?_; rintro e w1 ⟨rfl, hb⟩)
    have ca0 : w1.cell? ⟨w.heap.size, 0, none⟩ = some (.int .i64 a) := (hb.cell (p := ⟨w.heap.size, 0, none⟩) (by simp; omega)).trans (by simp [go_sem])
    have ca1 : w1.cell? ⟨w.heap.size, 1, none⟩ = some (.int .i64 b) := (hb.cell (p := ⟨w.heap.size, 1, none⟩) (by simp; omega)).trans (by simp [go_sem])
    have cb0 : w1.cell? ⟨w.heap.size + 1, 0, none⟩ = some (.int .i64 c) := (hb.cell (p := ⟨w.heap.size + 1, 0, none⟩) (by simp)).trans (by simp [go_sem])
    have cb1 : w1.cell? ⟨w.heap.size + 1, 1, none⟩ = some (.int .i64 d) := (hb.cell (p := ⟨w.heap.size + 1, 1, none⟩) (by simp)).trans (by simp [go_sem])
    have hw1 : Below w.heap.size w w1 := (((Below.refl _ _).alloc (Nat.le_refl _) _).alloc (by simp) _).trans (hb.mono (by simp; omega))
    go_wp2_with fail
    (go_at_call 9; refine (dright_any _ _ _).mono ?_; rintro e w2 ⟨rfl, hb2⟩)
    have hw2 := chain hw1 hb2
    (replace ca0 := keepc hb2 ca0; replace ca1 := keepc hb2 ca1; replace cb0 := keepc hb2 cb0; replace cb1 := keepc hb2 cb1)
    go_wp2_with fail
    (go_at_call 18; refine (meet_any _ _ _ _ _).mono ?_; rintro e w3 ⟨rfl, hb3⟩)
    have hw3 := chain hw2 hb3
    (replace ca0 := keepc hb3 ca0; replace ca1 := keepc hb3 ca1; replace cb0 := keepc hb3 cb0; replace cb1 := keepc hb3 cb1)
    have hs3 : w.heap.size + 1 < w3.heap.size := lt_of_cell cb0
    have hs3' : w.heap.size < w3.heap.size := by omega
    have h4 : Below w3.heap.size w3 (w3.alloc (.cells #[.int .i64 (meetF a b c d), .int .i64 (meetT a b c d)] 23)) := (Below.refl _ _).alloc (Nat.le_refl _) _
    have hw4 := chain hw3 h4
    have cx0 : (w3.alloc (.cells #[.int .i64 (meetF a b c d), .int .i64 (meetT a b c d)] 23)).cell? ⟨w3.heap.size, 0, none⟩ = some (.int .i64 (meetF a b c d)) := by simp [go_sem]
    have cx1 : (w3.alloc (.cells #[.int .i64 (meetF a b c d), .int .i64 (meetT a b c d)] 23)).cell? ⟨w3.heap.size, 1, none⟩ = some (.int .i64 (meetT a b c d)) := by simp [go_sem]
    go_wp2_with fail
    (go_at_call 21; refine (minus_any _ _ _ _ _).mono ?_; rintro e W ⟨A, cA, rfl, hsp, hbW⟩)
    have hwW := chain hw4 hbW
    rw [HL.out] at hsp ⊢
    have SP := Lib.hid hsp
    clear hsp
    (replace ca0 := keepc hbW (keepc h4 ca0); replace ca1 := keepc hbW (keepc h4 ca1); replace cb0 := keepc hbW (keepc h4 cb0); replace cb1 := keepc hbW (keepc h4 cb1))
    go_wp2_with fail
    go_loopw [9, 10, 49] (fun n g i wr => ∃ k : Nat, k ≤ l.length ∧ i = .int .i64 k ∧ PartRel l (cntM a b c d t) (lenM a b c d) t W k n g wr) (fun _ _ i _ => l.length - (intOf i).toNat)
    case atStart => exact ⟨0, Nat.zero_le _, rfl, by rw [m0.out]; simp [cntL_nil], by rw [m1.out]; simp [lenL_nil], Below.refl _ _⟩
    case round =>
      obtain ⟨k, hk, rfl, rfl, rfl, hB⟩ := hrel
      obtain ⟨N, hN⟩ : ∃ N, cntM a b c d t + cntL (l.take k) t = N := ⟨_, rfl⟩
      obtain ⟨L, hL⟩ : ∃ L, lenM a b c d + lenL (l.take k) = L := ⟨_, rfl⟩
      have hNL := part_bounds a b c d t l k hl2 hN hL
      obtain ⟨n0, n1, l0, l1⟩ := hNL
      rw [hN, hL]
      have HN := Lib.hid hN
      have HLN := Lib.hid hL
      clear hN hL
      have ra0 := keepc hB ca0
      have ra1 := keepc hB ca1
      have rb0 := keepc hB cb0
      have rb1 := keepc hB cb1
      by_cases hlt : k < l.length
      · obtain ⟨⟨p, q⟩, hp⟩ : ∃ pq, l[k]? = some pq := ⟨_, List.getElem?_eq_getElem hlt⟩
        obtain ⟨pm, pr⟩ := hap.out (p, q) (by rw [HL.out]; exact List.mem_of_getElem? hp)
        obtain ⟨g, off, rfl, c0, c1⟩ := SP.out k _ hp
        have d0 := keepc hB c0
        have d1 := keepc hB c1
        have lg := longI_bound p q
        obtain ⟨lg0, lg1⟩ := lg
        have hy : Below wr.heap.size wr (wr.alloc (.cells #[.int .i64 p, .int .i64 q] 23)) := (Below.refl _ _).alloc (Nat.le_refl _) _
        have cy0 : (wr.alloc (.cells #[.int .i64 p, .int .i64 q] 23)).cell? ⟨wr.heap.size, 0, none⟩ = some (.int .i64 p) := by simp [go_sem]
        have cy1 : (wr.alloc (.cells #[.int .i64 p, .int .i64 q] 23)).cell? ⟨wr.heap.size, 1, none⟩ = some (.int .i64 q) := by simp [go_sem]
        have sb0 := keepc hy rb0
        have sb1 := keepc hy rb1
        have HP := Lib.hid hp
        clear hp
        simp only at pm pr d0 d1
        cases hh : hasB p q t
        all_goals
          have HH := Lib.hid hh
          go_wp2_with fail
          (go_at_call 13; refine (long_any _ _ _).mono ?_; rintro e w5 ⟨rfl, hb5⟩; replace cy0 := keepc hb5 cy0; replace cy1 := keepc hb5 cy1; replace sb0 := keepc hb5 sb0; replace sb1 := keepc hb5 sb1)
          go_wp2_with fail
          (go_at_call 11; refine (has_any _ _ _ _).mono ?_; rintro e w6 ⟨rfl, hb6⟩; replace cy0 := keepc hb6 cy0; replace cy1 := keepc hb6 cy1; replace sb0 := keepc hb6 sb0; replace sb1 := keepc hb6 sb1)
          go_wp2_with fail
          (go_at_call 18; refine (meet_any _ _ _ _ _).mono ?_; rintro e w7 ⟨rfl, hb7⟩)
          go_wp2_with fail
          have hfin := chain (chain (chain (chain hB hy) hb5) hb6) hb7
          go_roundw
          case rel => exact ⟨k + 1, by omega, by go_num, part_cnt HP.out HN.out (by simp [HH.out]), part_len HP.out HLN.out, hfin.alloc hfin.size _⟩
          case measure => simp [intOf]; omega
      · have hN' : N = if hasB a b t then 1 else 0 := by rw [← HN.out, List.take_of_length_le (by omega), ← HL.out]; exact hcnt.out
        have hL' : L = b - a := by rw [← HLN.out, List.take_of_length_le (by omega), ← HL.out]; exact hlen.out
        have hab := right_yes hr
        obtain ⟨ab0, ab1, ab2⟩ := hab
        cases hh : hasB a b t
        · obtain rfl : N = 0 := by simpa [hh] using hN'
          clear hN'
          subst hL'
          go_wp2_with fail
          (go_at_call 12; refine (dhas_any _ _ _ _).mono ?_; rintro e w5 ⟨rfl, hb5⟩; replace ra0 := keepc hb5 ra0; replace ra1 := keepc hb5 ra1)
          go_wp2_with fail
          (go_at_call 12; refine (dhas_any _ _ _ _).mono ?_; rintro e w6 ⟨rfl, hb6⟩; replace ra0 := keepc hb6 ra0; replace ra1 := keepc hb6 ra1)
          go_wp2_with (go_at_call 17; refine (alive_any _).mono ?_; rintro e w7 ⟨rfl, hb7⟩)
          go_ret
          exact ⟨rfl, chain (chain (chain (chain hwW hB) hb5) hb6) hb7⟩
        · obtain rfl : N = 1 := by simpa [hh] using hN'
          clear hN'
          subst hL'
          go_wp2_with fail
          (go_at_call 12; refine (dhas_any _ _ _ _).mono ?_; rintro e w5 ⟨rfl, hb5⟩; replace ra0 := keepc hb5 ra0; replace ra1 := keepc hb5 ra1)
          go_wp2_with fail
          (go_at_call 12; refine (dhas_any _ _ _ _).mono ?_; rintro e w6 ⟨rfl, hb6⟩; replace ra0 := keepc hb6 ra0; replace ra1 := keepc hb6 ra1)
          go_wp2_with (go_at_call 17; refine (alive_any _).mono ?_; rintro e w7 ⟨rfl, hb7⟩)
          go_ret
          exact ⟨rfl, chain (chain (chain (chain hwW hB) hb5) hb6) hb7⟩
  · cases hx : hasB (meetF a b c d) (meetT a b c d) t
    · have m0 := Lib.hid (show cntM a b c d t = 0 by simp [cntM, hm, hx])
      have m1 := Lib.hid (show lenM a b c d = longI (meetF a b c d) (meetT a b c d) by simp [lenM, hm])
      go_enter Try.func5, Try.ntmps5
      go_wp2_with fail
      (go_at_call 9; refine (dright_any _ _ _).mono ?_; rintro e w1 ⟨rfl, hb⟩)
      have ca0 : w1.cell? ⟨w.heap.size, 0, none⟩ = some (.int .i64 a) := (hb.cell (p := ⟨w.heap.size, 0, none⟩) (by simp; omega)).trans (by simp [go_sem])
      have ca1 : w1.cell? ⟨w.heap.size, 1, none⟩ = some (.int .i64 b) := (hb.cell (p := ⟨w.heap.size, 1, none⟩) (by simp; omega)).trans (by simp [go_sem])
      have cb0 : w1.cell? ⟨w.heap.size + 1, 0, none⟩ = some (.int .i64 c) := (hb.cell (p := ⟨w.heap.size + 1, 0, none⟩) (by simp)).trans (by simp [go_sem])
      have cb1 : w1.cell? ⟨w.heap.size + 1, 1, none⟩ = some (.int .i64 d) := (hb.cell (p := ⟨w.heap.size + 1, 1, none⟩) (by simp)).trans (by simp [go_sem])
      have hw1 : Below w.heap.size w w1 := (((Below.refl _ _).alloc (Nat.le_refl _) _).alloc (by simp) _).trans (hb.mono (by simp; omega))
      go_wp2_with fail
      (go_at_call 9; refine (dright_any _ _ _).mono ?_; rintro e w2 ⟨rfl, hb2⟩)
      have hw2 := chain hw1 hb2
      (replace ca0 := keepc hb2 ca0; replace ca1 := keepc hb2 ca1; replace cb0 := keepc hb2 cb0; replace cb1 := keepc hb2 cb1)
      go_wp2_with fail
      (go_at_call 18; refine (meet_any _ _ _ _ _).mono ?_; rintro e w3 ⟨rfl, hb3⟩)
      have hw3 := chain hw2 hb3
      (replace ca0 := keepc hb3 ca0; replace ca1 := keepc hb3 ca1; replace cb0 := keepc hb3 cb0; replace cb1 := keepc hb3 cb1)
      have hs3 : w.heap.size + 1 < w3.heap.size := lt_of_cell cb0
      have hs3' : w.heap.size < w3.heap.size := by omega
      have h4 : Below w3.heap.size w3 (w3.alloc (.cells #[.int .i64 (meetF a b c d), .int .i64 (meetT a b c d)] 23)) := (Below.refl _ _).alloc (Nat.le_refl _) _
      have hw4 := chain hw3 h4
      have cx0 : (w3.alloc (.cells #[.int .i64 (meetF a b c d), .int .i64 (meetT a b c d)] 23)).cell? ⟨w3.heap.size, 0, none⟩ = some (.int .i64 (meetF a b c d)) := by simp [go_sem]
      have cx1 : (w3.alloc (.cells #[.int .i64 (meetF a b c d), .int .i64 (meetT a b c d)] 23)).cell? ⟨w3.heap.size, 1, none⟩ = some (.int .i64 (meetT a b c d)) := by simp [go_sem]
      go_wp2_with fail
      (go_at_call 13; refine (long_any _ _ _).mono ?_; rintro e w5 ⟨rfl, hb5⟩; replace ca0 := keepc hb5 (keepc h4 ca0); replace ca1 := keepc hb5 (keepc h4 ca1); replace cb0 := keepc hb5 (keepc h4 cb0); replace cb1 := keepc hb5 (keepc h4 cb1); replace cx0 := keepc hb5 cx0; replace cx1 := keepc hb5 cx1)
      go_wp2_with fail
      (go_at_call 11; refine (has_any _ _ _ _).mono ?_; rintro e w6 ⟨rfl, hb6⟩; replace ca0 := keepc hb6 ca0; replace ca1 := keepc hb6 ca1; replace cb0 := keepc hb6 cb0; replace cb1 := keepc hb6 cb1)
      have hw6 := chain (chain hw4 hb5) hb6
      go_wp2_with fail
      (go_at_call 21; refine (minus_any _ _ _ _ _).mono ?_; rintro e W ⟨A, cA, rfl, hsp, hbW⟩)
      have hwW := chain hw6 hbW
      rw [HL.out] at hsp ⊢
      have SP := Lib.hid hsp
      clear hsp
      (replace ca0 := keepc hbW ca0; replace ca1 := keepc hbW ca1; replace cb0 := keepc hbW cb0; replace cb1 := keepc hbW cb1)
      go_wp2_with fail
      go_loopw [9, 10, 49] (fun n g i wr => ∃ k : Nat, k ≤ l.length ∧ i = .int .i64 k ∧ PartRel l (cntM a b c d t) (lenM a b c d) t W k n g wr) (fun _ _ i _ => l.length - (intOf i).toNat)
      case atStart => exact ⟨0, Nat.zero_le _, rfl, by rw [m0.out]; simp [cntL_nil], by rw [m1.out]; simp [lenL_nil], Below.refl _ _⟩
      case round =>
        obtain ⟨k, hk, rfl, rfl, rfl, hB⟩ := hrel
        obtain ⟨N, hN⟩ : ∃ N, cntM a b c d t + cntL (l.take k) t = N := ⟨_, rfl⟩
        obtain ⟨L, hL⟩ : ∃ L, lenM a b c d + lenL (l.take k) = L := ⟨_, rfl⟩
        have hNL := part_bounds a b c d t l k hl2 hN hL
        obtain ⟨n0, n1, l0, l1⟩ := hNL
        rw [hN, hL]
        have HN := Lib.hid hN
        have HLN := Lib.hid hL
        clear hN hL
        have ra0 := keepc hB ca0
        have ra1 := keepc hB ca1
        have rb0 := keepc hB cb0
        have rb1 := keepc hB cb1
        by_cases hlt : k < l.length
        · obtain ⟨⟨p, q⟩, hp⟩ : ∃ pq, l[k]? = some pq := ⟨_, List.getElem?_eq_getElem hlt⟩
          obtain ⟨pm, pr⟩ := hap.out (p, q) (by rw [HL.out]; exact List.mem_of_getElem? hp)
          obtain ⟨g, off, rfl, c0, c1⟩ := SP.out k _ hp
          have d0 := keepc hB c0
          have d1 := keepc hB c1
          have lg := longI_bound p q
          obtain ⟨lg0, lg1⟩ := lg
          have hy : Below wr.heap.size wr (wr.alloc (.cells #[.int .i64 p, .int .i64 q] 23)) := (Below.refl _ _).alloc (Nat.le_refl _) _
          have cy0 : (wr.alloc (.cells #[.int .i64 p, .int .i64 q] 23)).cell? ⟨wr.heap.size, 0, none⟩ = some (.int .i64 p) := by simp [go_sem]
          have cy1 : (wr.alloc (.cells #[.int .i64 p, .int .i64 q] 23)).cell? ⟨wr.heap.size, 1, none⟩ = some (.int .i64 q) := by simp [go_sem]
          have sb0 := keepc hy rb0
          have sb1 := keepc hy rb1
          have HP := Lib.hid hp
          clear hp
          simp only at pm pr d0 d1
          cases hh : hasB p q t
          all_goals
            have HH := Lib.hid hh
            go_wp2_with fail
            (go_at_call 13; refine (long_any _ _ _).mono ?_; rintro e w5 ⟨rfl, hb5⟩; replace cy0 := keepc hb5 cy0; replace cy1 := keepc hb5 cy1; replace sb0 := keepc hb5 sb0; replace sb1 := keepc hb5 sb1)
            go_wp2_with fail
            (go_at_call 11; refine (has_any _ _ _ _).mono ?_; rintro e w6 ⟨rfl, hb6⟩; replace cy0 := keepc hb6 cy0; replace cy1 := keepc hb6 cy1; replace sb0 := keepc hb6 sb0; replace sb1 := keepc hb6 sb1)
            go_wp2_with fail
            (go_at_call 18; refine (meet_any _ _ _ _ _).mono ?_; rintro e w7 ⟨rfl, hb7⟩)
            go_wp2_with fail
            have hfin := chain (chain (chain (chain hB hy) hb5) hb6) hb7
            go_roundw
            case rel => exact ⟨k + 1, by omega, by go_num, part_cnt HP.out HN.out (by simp [HH.out]), part_len HP.out HLN.out, hfin.alloc hfin.size _⟩
            case measure => simp [intOf]; omega
        · have hN' : N = if hasB a b t then 1 else 0 := by rw [← HN.out, List.take_of_length_le (by omega), ← HL.out]; exact hcnt.out
          have hL' : L = b - a := by rw [← HLN.out, List.take_of_length_le (by omega), ← HL.out]; exact hlen.out
          have hab := right_yes hr
          obtain ⟨ab0, ab1, ab2⟩ := hab
          cases hh : hasB a b t
          · obtain rfl : N = 0 := by simpa [hh] using hN'
            clear hN'
            subst hL'
            go_wp2_with fail
            (go_at_call 12; refine (dhas_any _ _ _ _).mono ?_; rintro e w5 ⟨rfl, hb5⟩; replace ra0 := keepc hb5 ra0; replace ra1 := keepc hb5 ra1)
            go_wp2_with fail
            (go_at_call 12; refine (dhas_any _ _ _ _).mono ?_; rintro e w6 ⟨rfl, hb6⟩; replace ra0 := keepc hb6 ra0; replace ra1 := keepc hb6 ra1)
            go_wp2_with (go_at_call 17; refine (alive_any _).mono ?_; rintro e w7 ⟨rfl, hb7⟩)
            go_ret
            exact ⟨rfl, chain (chain (chain (chain hwW hB) hb5) hb6) hb7⟩
          · obtain rfl : N = 1 := by simpa [hh] using hN'
            clear hN'
            subst hL'
            go_wp2_with fail
            (go_at_call 12; refine (dhas_any _ _ _ _).mono ?_; rintro e w5 ⟨rfl, hb5⟩; replace ra0 := keepc hb5 ra0; replace ra1 := keepc hb5 ra1)
            go_wp2_with fail
            (go_at_call 12; refine (dhas_any _ _ _ _).mono ?_; rintro e w6 ⟨rfl, hb6⟩; replace ra0 := keepc hb6 ra0; replace ra1 := keepc hb6 ra1)
            go_wp2_with (go_at_call 17; refine (alive_any _).mono ?_; rintro e w7 ⟨rfl, hb7⟩)
            go_ret
            exact ⟨rfl, chain (chain (chain (chain hwW hB) hb5) hb6) hb7⟩
    · have m0 := Lib.hid (show cntM a b c d t = 1 by simp [cntM, hm, hx])
      have m1 := Lib.hid (show lenM a b c d = longI (meetF a b c d) (meetT a b c d) by simp [lenM, hm])
      go_enter Try.func5, Try.ntmps5
      go_wp2_with fail
      (go_at_call 9; refine (dright_any _ _ _).mono ?_; rintro e w1 ⟨rfl, hb⟩)
      have ca0 : w1.cell? ⟨w.heap.size, 0, none⟩ = some (.int .i64 a) := (hb.cell (p := ⟨w.heap.size, 0, none⟩) (by simp; omega)).trans (by simp [go_sem])
      have ca1 : w1.cell? ⟨w.heap.size, 1, none⟩ = some (.int .i64 b) := (hb.cell (p := ⟨w.heap.size, 1, none⟩) (by simp; omega)).trans (by simp [go_sem])
      have cb0 : w1.cell? ⟨w.heap.size + 1, 0, none⟩ = some (.int .i64 c) := (hb.cell (p := ⟨w.heap.size + 1, 0, none⟩) (by simp)).trans (by simp [go_sem])
      have cb1 : w1.cell? ⟨w.heap.size + 1, 1, none⟩ = some (.int .i64 d) := (hb.cell (p := ⟨w.heap.size + 1, 1, none⟩) (by simp)).trans (by simp [go_sem])
      have hw1 : Below w.heap.size w w1 := (((Below.refl _ _).alloc (Nat.le_refl _) _).alloc (by simp) _).trans (hb.mono (by simp; omega))
      go_wp2_with fail
      (go_at_call 9; refine (dright_any _ _ _).mono ?_; rintro e w2 ⟨rfl, hb2⟩)
      have hw2 := chain hw1 hb2
      (replace ca0 := keepc hb2 ca0; replace ca1 := keepc hb2 ca1; replace cb0 := keepc hb2 cb0; replace cb1 := keepc hb2 cb1)
      go_wp2_with fail
      (go_at_call 18; refine (meet_any _ _ _ _ _).mono ?_; rintro e w3 ⟨rfl, hb3⟩)
      have hw3 := chain hw2 hb3
      (replace ca0 := keepc hb3 ca0; replace ca1 := keepc hb3 ca1; replace cb0 := keepc hb3 cb0; replace cb1 := keepc hb3 cb1)
      have hs3 : w.heap.size + 1 < w3.heap.size := lt_of_cell cb0
      have hs3' : w.heap.size < w3.heap.size := by omega
      have h4 : Below w3.heap.size w3 (w3.alloc (.cells #[.int .i64 (meetF a b c d), .int .i64 (meetT a b c d)] 23)) := (Below.refl _ _).alloc (Nat.le_refl _) _
      have hw4 := chain hw3 h4
      have cx0 : (w3.alloc (.cells #[.int .i64 (meetF a b c d), .int .i64 (meetT a b c d)] 23)).cell? ⟨w3.heap.size, 0, none⟩ = some (.int .i64 (meetF a b c d)) := by simp [go_sem]
      have cx1 : (w3.alloc (.cells #[.int .i64 (meetF a b c d), .int .i64 (meetT a b c d)] 23)).cell? ⟨w3.heap.size, 1, none⟩ = some (.int .i64 (meetT a b c d)) := by simp [go_sem]
      go_wp2_with fail
      (go_at_call 13; refine (long_any _ _ _).mono ?_; rintro e w5 ⟨rfl, hb5⟩; replace ca0 := keepc hb5 (keepc h4 ca0); replace ca1 := keepc hb5 (keepc h4 ca1); replace cb0 := keepc hb5 (keepc h4 cb0); replace cb1 := keepc hb5 (keepc h4 cb1); replace cx0 := keepc hb5 cx0; replace cx1 := keepc hb5 cx1)
      go_wp2_with fail
      (go_at_call 11; refine (has_any _ _ _ _).mono ?_; rintro e w6 ⟨rfl, hb6⟩; replace ca0 := keepc hb6 ca0; replace ca1 := keepc hb6 ca1; replace cb0 := keepc hb6 cb0; replace cb1 := keepc hb6 cb1)
      have hw6 := chain (chain hw4 hb5) hb6
      go_wp2_with fail
      (go_at_call 21; refine (minus_any _ _ _ _ _).mono ?_; rintro e W ⟨A, cA, rfl, hsp, hbW⟩)
      have hwW := chain hw6 hbW
      rw [HL.out] at hsp ⊢
      have SP := Lib.hid hsp
      clear hsp
      (replace ca0 := keepc hbW ca0; replace ca1 := keepc hbW ca1; replace cb0 := keepc hbW cb0; replace cb1 := keepc hbW cb1)
      go_wp2_with fail
      go_loopw [9, 10, 49] (fun n g i wr => ∃ k : Nat, k ≤ l.length ∧ i = .int .i64 k ∧ PartRel l (cntM a b c d t) (lenM a b c d) t W k n g wr) (fun _ _ i _ => l.length - (intOf i).toNat)
      case atStart => exact ⟨0, Nat.zero_le _, rfl, by rw [m0.out]; simp [cntL_nil], by rw [m1.out]; simp [lenL_nil], Below.refl _ _⟩
      case round =>
        obtain ⟨k, hk, rfl, rfl, rfl, hB⟩ := hrel
        obtain ⟨N, hN⟩ : ∃ N, cntM a b c d t + cntL (l.take k) t = N := ⟨_, rfl⟩
        obtain ⟨L, hL⟩ : ∃ L, lenM a b c d + lenL (l.take k) = L := ⟨_, rfl⟩
        have hNL := part_bounds a b c d t l k hl2 hN hL
        obtain ⟨n0, n1, l0, l1⟩ := hNL
        rw [hN, hL]
        have HN := Lib.hid hN
        have HLN := Lib.hid hL
        clear hN hL
        have ra0 := keepc hB ca0
        have ra1 := keepc hB ca1
        have rb0 := keepc hB cb0
        have rb1 := keepc hB cb1
        by_cases hlt : k < l.length
        · obtain ⟨⟨p, q⟩, hp⟩ : ∃ pq, l[k]? = some pq := ⟨_, List.getElem?_eq_getElem hlt⟩
          obtain ⟨pm, pr⟩ := hap.out (p, q) (by rw [HL.out]; exact List.mem_of_getElem? hp)
          obtain ⟨g, off, rfl, c0, c1⟩ := SP.out k _ hp
          have d0 := keepc hB c0
          have d1 := keepc hB c1
          have lg := longI_bound p q
          obtain ⟨lg0, lg1⟩ := lg
          have hy : Below wr.heap.size wr (wr.alloc (.cells #[.int .i64 p, .int .i64 q] 23)) := (Below.refl _ _).alloc (Nat.le_refl _) _
          have cy0 : (wr.alloc (.cells #[.int .i64 p, .int .i64 q] 23)).cell? ⟨wr.heap.size, 0, none⟩ = some (.int .i64 p) := by simp [go_sem]
          have cy1 : (wr.alloc (.cells #[.int .i64 p, .int .i64 q] 23)).cell? ⟨wr.heap.size, 1, none⟩ = some (.int .i64 q) := by simp [go_sem]
          have sb0 := keepc hy rb0
          have sb1 := keepc hy rb1
          have HP := Lib.hid hp
          clear hp
          simp only at pm pr d0 d1
          cases hh : hasB p q t
          all_goals
            have HH := Lib.hid hh
            go_wp2_with fail
            (go_at_call 13; refine (long_any _ _ _).mono ?_; rintro e w5 ⟨rfl, hb5⟩; replace cy0 := keepc hb5 cy0; replace cy1 := keepc hb5 cy1; replace sb0 := keepc hb5 sb0; replace sb1 := keepc hb5 sb1)
            go_wp2_with fail
            (go_at_call 11; refine (has_any _ _ _ _).mono ?_; rintro e w6 ⟨rfl, hb6⟩; replace cy0 := keepc hb6 cy0; replace cy1 := keepc hb6 cy1; replace sb0 := keepc hb6 sb0; replace sb1 := keepc hb6 sb1)
            go_wp2_with fail
            (go_at_call 18; refine (meet_any _ _ _ _ _).mono ?_; rintro e w7 ⟨rfl, hb7⟩)
            go_wp2_with fail
            have hfin := chain (chain (chain (chain hB hy) hb5) hb6) hb7
            go_roundw
            case rel => exact ⟨k + 1, by omega, by go_num, part_cnt HP.out HN.out (by simp [HH.out]), part_len HP.out HLN.out, hfin.alloc hfin.size _⟩
            case measure => simp [intOf]; omega
        · have hN' : N = if hasB a b t then 1 else 0 := by rw [← HN.out, List.take_of_length_le (by omega), ← HL.out]; exact hcnt.out
          have hL' : L = b - a := by rw [← HLN.out, List.take_of_length_le (by omega), ← HL.out]; exact hlen.out
          have hab := right_yes hr
          obtain ⟨ab0, ab1, ab2⟩ := hab
          cases hh : hasB a b t
          · obtain rfl : N = 0 := by simpa [hh] using hN'
            clear hN'
            subst hL'
            go_wp2_with fail
            (go_at_call 12; refine (dhas_any _ _ _ _).mono ?_; rintro e w5 ⟨rfl, hb5⟩; replace ra0 := keepc hb5 ra0; replace ra1 := keepc hb5 ra1)
            go_wp2_with fail
            (go_at_call 12; refine (dhas_any _ _ _ _).mono ?_; rintro e w6 ⟨rfl, hb6⟩; replace ra0 := keepc hb6 ra0; replace ra1 := keepc hb6 ra1)
            go_wp2_with (go_at_call 17; refine (alive_any _).mono ?_; rintro e w7 ⟨rfl, hb7⟩)
            go_ret
            exact ⟨rfl, chain (chain (chain (chain hwW hB) hb5) hb6) hb7⟩
          · obtain rfl : N = 1 := by simpa [hh] using hN'
            clear hN'
            subst hL'
            go_wp2_with fail
            (go_at_call 12; refine (dhas_any _ _ _ _).mono ?_; rintro e w5 ⟨rfl, hb5⟩; replace ra0 := keepc hb5 ra0; replace ra1 := keepc hb5 ra1)
            go_wp2_with fail
            (go_at_call 12; refine (dhas_any _ _ _ _).mono ?_; rintro e w6 ⟨rfl, hb6⟩; replace ra0 := keepc hb6 ra0; replace ra1 := keepc hb6 ra1)
            go_wp2_with (go_at_call 17; refine (alive_any _).mono ?_; rintro e w7 ⟨rfl, hb7⟩)
            go_ret
            exact ⟨rfl, chain (chain (chain (chain hwW hB) hb5) hb6) hb7⟩

theorem parts_walk (a b c d t : Int) (w : World) :
    Calls Try.prog 5 #[sp a b, sp c d, .int .i64 t] w fun e w' => e = .returned (.bool true) ∧ Below w.heap.size w w' := by
  cases hr : rightB a b
  · exact parts_no a b c d t w (.inl hr)
  · cases hs : rightB c d
    · exact parts_no a b c d t w (.inr ⟨hr, hs⟩)
    · exact parts_yes a b c d t w hr hs

end Go.Proofs.Ytaobmlkbhdonkaa
