/-
  What Hull gives back for any spans, of span and of the document's answer: the same.
-/
import Derived.Test.YtaobmlkbhdonkaaFrame
namespace Go.Proofs.Ytaobmlkbhdonkaa
open Go.RowKit

/-- What has been found behind some spans: is there one, where does the least span begin and end. -/
def hullStep (s : Bool × Int × Int) (p : Int × Int) : Bool × Int × Int :=
  if rightB p.1 p.2 then (if s.1 then (true, min s.2.1 p.1, max s.2.2 p.2) else (true, p.1, p.2)) else s
def hullSt (l : List (Int × Int)) : Bool × Int × Int := l.foldl hullStep (false, 0, 0)
theorem hullSt_snoc {l : List (Int × Int)} {k : Nat} {p : Int × Int} (hp : l[k]? = some p) : hullSt (l.take (k + 1)) = hullStep (hullSt (l.take k)) p := by
  rw [List.take_add_one, hp]
  simp [hullSt]

section
variable {w : World} {b : Nat} {x y : Value} {ty : TypeId}
theorem blk0 (h : w.heap[b]? = some (.cells #[x, y] ty (0, 0))) : w.cell? ⟨b, 0, none⟩ = some x := by simp [World.cell?, h]
theorem blk1 (h : w.heap[b]? = some (.cells #[x, y] ty (0, 0))) : w.cell? ⟨b, 1, none⟩ = some y := by simp [World.cell?, h]
theorem blkf (h : w.heap[b]? = some (.cells #[x, y] ty (0, 0))) (o : Nat) : w.frozen? ⟨b, o, none⟩ = false := by simp [World.frozen?, h]
theorem blk_set0 (h : w.heap[b]? = some (.cells #[x, y] ty (0, 0))) (u : Value) : (w.setCell ⟨b, 0, none⟩ u).heap[b]? = some (.cells #[u, y] ty (0, 0)) := by
  simp [World.setCell, Array.getElem?_modify, h]
theorem blk_set1 (h : w.heap[b]? = some (.cells #[x, y] ty (0, 0))) (u : Value) : (w.setCell ⟨b, 1, none⟩ u).heap[b]? = some (.cells #[x, u] ty (0, 0)) := by
  simp [World.setCell, Array.getElem?_modify, h]
theorem blk_below {w' : World} {B : Nat} (h : w.heap[b]? = some (.cells #[x, y] ty (0, 0))) (hb : Below B w w') (hB : b < B) : w'.heap[b]? = some (.cells #[x, y] ty (0, 0)) := (hb.block b hB).trans h
end

/-- What holds at the head of each round. -/
def HullRel (w : World) (s : Bool × Int × Int) (fnd : Value) (wr : World) : Prop :=
  fnd = .bool s.1 ∧ wr.heap[w.heap.size + 1]? = some (.cells #[.int .i64 s.2.1, .int .i64 s.2.2] 23 (0, 0)) ∧ Below (w.heap.size + 1) (w.alloc (.cells #[.int .i64 0, .int .i64 0] 23)) wr

theorem keepc' {w w' : World} {g o : Nat} {u : Value} (hb : Below w.heap.size w w') (h : w.cell? ⟨g, o, none⟩ = some u) : w'.cell? ⟨g, o, none⟩ = some u := (hb.cell (p := ⟨g, o, none⟩) (lt_of_cell h)).trans h

set_option maxHeartbeats 2000000 in
theorem hull_any (w : World) (A : Option Addr) (c : Nat) (l : List (Int × Int)) (hl : Spans w A l) (hn : l.length ≤ 9223372036854775807) :
    Calls Try.prog 23 #[.slice A l.length c] w fun e w' => e = .returned (.tuple #[sp (hullSt l).2.1 (hullSt l).2.2, .bool (hullSt l).1]) ∧ Below w.heap.size w w' := by
  have HL := Lib.hid hl
  clear hl
  obtain ⟨n, hnm⟩ : ∃ n, n = l.length := ⟨_, rfl⟩
  rw [← hnm]
  have hn' : n ≤ 9223372036854775807 := by omega
  have HN := Lib.hid hnm
  clear hnm hn
  go_enter Try.func23, Try.ntmps23
  go_wp2_with fail
  go_loopw [5, 10] (fun fnd i wr => ∃ k : Nat, k ≤ n ∧ i = .int .i64 k ∧ HullRel w (hullSt (l.take k)) fnd wr) (fun _ i _ => n - (intOf i).toNat)
  case atStart => exact ⟨0, Nat.zero_le _, rfl, rfl, by simpa [hullSt] using heap_alloc_new (w.alloc (.cells #[.int .i64 0, .int .i64 0] 23)) (.cells #[.int .i64 0, .int .i64 0] 23), (Below.refl _ _).alloc (by simp) _⟩
  case round =>
    obtain ⟨k, hk, rfl, rfl, hH, hB⟩ := hrel
    obtain ⟨⟨fd, x, y⟩, hst⟩ : ∃ s, hullSt (l.take k) = s := ⟨_, rfl⟩
    rw [hst] at hH ⊢
    have HST := Lib.hid hst
    clear hst
    simp only at hH
    have ch0 := blk0 hH
    have ch1 := blk1 hH
    have hsr : w.heap.size + 1 < wr.heap.size := lt_of_cell ch0
    by_cases hlt : k < n
    · obtain ⟨⟨f, t⟩, hp⟩ : ∃ p, l[k]? = some p := ⟨_, List.getElem?_eq_getElem (by have := HN.out; omega)⟩
      obtain ⟨g, off, rfl, c0, c1⟩ := HL.out k _ hp
      have hg := lt_of_cell c0
      have d0 : wr.cell? ⟨g, off + k * 2, none⟩ = some (.int .i64 f) := ((hB.cell (p := ⟨g, off + k * 2, none⟩) (by simp; omega)).trans (World.cell?_alloc_lt _ _ _ hg)).trans c0
      have d1 : wr.cell? ⟨g, off + k * 2 + 1, none⟩ = some (.int .i64 t) := ((hB.cell (p := ⟨g, off + k * 2 + 1, none⟩) (by simp; omega)).trans (World.cell?_alloc_lt _ _ _ hg)).trans c1
      have hnx := hullSt_snoc hp
      rw [HST.out] at hnx
      have HNX := Lib.hid hnx
      clear hnx c0 c1 hp
      have hy : Below wr.heap.size wr (wr.alloc (.cells #[.int .i64 f, .int .i64 t] 23)) := (Below.refl _ _).alloc (Nat.le_refl _) _
      have cy0 : (wr.alloc (.cells #[.int .i64 f, .int .i64 t] 23)).cell? ⟨wr.heap.size, 0, none⟩ = some (.int .i64 f) := by simp [go_sem]
      have cy1 : (wr.alloc (.cells #[.int .i64 f, .int .i64 t] 23)).cell? ⟨wr.heap.size, 1, none⟩ = some (.int .i64 t) := by simp [go_sem]
      cases hr : rightB f t
      · go_wp2_with (go_at_call 10; refine (right_any _ _ _).mono ?_; rintro e w1 ⟨rfl, hb1⟩)
        have h1 := chain hy hb1
        go_roundw
        case rel => exact ⟨k + 1, by omega, by go_num, by rw [HNX.out]; simp [hullStep, hr], by rw [HNX.out]; simpa [hullStep, hr] using blk_below hH h1 hsr, hB.trans (h1.mono (by omega))⟩
        case measure => simp [intOf]; omega
      · cases fd
        · go_wp2_with fail
          (go_at_call 10; refine (right_any _ _ _).mono ?_; rintro e w1 ⟨rfl, hb1⟩)
          have h1 := chain hy hb1
          have hH1 := blk_below hH h1 hsr
          have cz0 := blk0 hH1
          have cz1 := blk1 hH1
          have fz0 := blkf hH1 0
          have fz1 := blkf hH1 1
          have hs1 := h1.size
          replace cy0 := keepc' hb1 cy0
          replace cy1 := keepc' hb1 cy1
          go_wp2_with fail
          go_roundw
          case rel => exact ⟨k + 1, by omega, by go_num, by rw [HNX.out]; simp [hullStep, hr], by rw [HNX.out]; simpa [hullStep, hr] using blk_set1 (blk_set0 hH1 _) _, ((hB.trans (h1.mono (by omega))).setCell (by simp) _).setCell (by simp) _⟩
          case measure => simp [intOf]; omega
        · go_wp2_with fail
          (go_at_call 10; refine (right_any _ _ _).mono ?_; rintro e w1 ⟨rfl, hb1⟩)
          have h1 := chain hy hb1
          have hH1 := blk_below hH h1 hsr
          have cz0 := blk0 hH1
          have cz1 := blk1 hH1
          have fz0 := blkf hH1 0
          have fz1 := blkf hH1 1
          have hs1 := h1.size
          replace cy0 := keepc' hb1 cy0
          replace cy1 := keepc' hb1 cy1
          go_wp2_with fail
          go_region
          all_goals
            go_wp2_with fail
            go_roundw
            case rel => exact ⟨k + 1, by omega, by go_num, by rw [HNX.out]; simp [hullStep, hr], by rw [HNX.out]; simp only [hullStep, hr, if_true]; exact blk_set1 (blk_set0 hH1 _) _, (((hB.trans (h1.mono (by omega))).setCell (by simp) _).setCell (by simp) _).drew⟩
            case measure => simp [intOf]; omega
    · have hall : hullSt l = (fd, x, y) := by rw [← HST.out, List.take_of_length_le (by have := HN.out; omega)]
      have cr0 : wr.cell? ⟨w.heap.size, 0, none⟩ = some (.int .i64 0) := (hB.cell (p := ⟨w.heap.size, 0, none⟩) (by simp)).trans (by simp [go_sem])
      have cr1 : wr.cell? ⟨w.heap.size, 1, none⟩ = some (.int .i64 0) := (hB.cell (p := ⟨w.heap.size, 1, none⟩) (by simp)).trans (by simp [go_sem])
      have fr0 : wr.frozen? ⟨w.heap.size, 0, none⟩ = false := (hB.frozen (p := ⟨w.heap.size, 0, none⟩) (by simp)).trans (by simp [go_sem])
      have fr1 : wr.frozen? ⟨w.heap.size, 1, none⟩ = false := (hB.frozen (p := ⟨w.heap.size, 1, none⟩) (by simp)).trans (by simp [go_sem])
      obtain ⟨q0, q1⟩ := two_set (.int .i64 x) (.int .i64 y) cr0 cr1
      have HALL := Lib.hid hall
      clear hall
      go_wp2_with fail
      refine bodyPost_ret (v := .tuple #[sp x y, .bool fd]) (by simp [results, Try.results23, go_sem, q0, q1]) rfl ⟨by rw [HALL.out], ?_⟩
      exact ((((Below.refl _ _).alloc (Nat.le_refl _) _).trans (hB.mono (by omega))).setCell (by simp) _).setCell (by simp) _

end Go.Proofs.Ytaobmlkbhdonkaa
