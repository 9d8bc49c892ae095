/-
  What within gives back: the times of the list that the span has, in order, in a list of its own.
-/
import Derived.Test.YtaobmlkbhdonkaaDminus
import Derived.Test.YtaobmlkbhdonkaaShelf
import Derived.Sort.OwnSortedInts
namespace Go.Proofs.Ytaobmlkbhdonkaa
open Go.RowKit

theorem Try.infoInt : (Try.prog.info? 3).map (fun i => (i.zero, i.size, i.bytes)) = some (some (.int .i64 0), 1, 8) := by kernel_rfl

/-- From A on the numbers of l lie, one behind the other. -/
def Ints (w : World) (A : Option Addr) (l : List Int) : Prop := ∀ i x, l[i]? = some x → ∃ g off, A = some ⟨g, off, none⟩ ∧ w.cell? ⟨g, off + i, none⟩ = some (.int .i64 x)

theorem lt_of_cell {w : World} {g o : Nat} {u : Value} (h : w.cell? ⟨g, o, none⟩ = some u) : g < w.heap.size := by
  rcases Nat.lt_or_ge g w.heap.size with hlt | hge
  · exact hlt
  · simp [World.cell?, Array.getElem?_eq_none hge] at h
theorem Ints.below {w w' : World} {A : Option Addr} {l : List Int} (h : Ints w A l) (hb : Below w.heap.size w w') : Ints w' A l := fun i x hx => by
  obtain ⟨g, off, rfl, c0⟩ := h i x hx
  exact ⟨g, off, rfl, (hb.cell (p := ⟨g, _, none⟩) (lt_of_cell c0)).trans c0⟩
theorem Ints.nil (w : World) (A : Option Addr) : Ints w A [] := fun i p h => by simp at h
theorem own_ints {w : World} {base : Nat} {v : Value} {l : List Int} (h : w.ownsRow base 3 1 v l.length (l.map (Value.int .i64))) : ∃ A c, v = .slice A l.length c ∧ Ints w A l := by
  rcases Nat.eq_zero_or_pos l.length with h0 | h0
  · obtain rfl := List.eq_nil_of_length_eq_zero h0
    rcases h.2 with ⟨hv, _⟩ | ⟨g, cap, cur, hv, _⟩
    · exact ⟨_, _, hv, Ints.nil _ _⟩
    · exact ⟨_, _, hv, Ints.nil _ _⟩
  · obtain ⟨g, cap, rfl, _, _⟩ := h.form h0
    refine ⟨_, _, rfl, fun i x hx => ⟨g, 0, rfl, ?_⟩⟩
    have add : ∀ n, (⟨g, 0, none⟩ : Addr).add n = ⟨g, 0 + n, none⟩ := fun n => by unfold Addr.add; split <;> simp_all
    have c0 := h.cells (g := g) rfl i (.int .i64 x) (by simp [hx])
    rwa [add] at c0
/-- What the call owns stays owned over a call that makes new blocks alone. -/
theorem own_below {w w' : World} {base e size n : Nat} {v : Value} {xs : List Value} (h : w.ownsRow base e size v n xs) (hb : Below w.heap.size w w') : w'.ownsRow base e size v n xs :=
  h.kept (row := none) ⟨hb.os, hb.tape, hb.output, hb.size, fun k hk _ => hb.block k hk⟩ (by cases v.ownBlock <;> simp)

def sortI (ts : List Int) : List Int := ts.mergeSort fun x y => decide (x ≤ y)
theorem sortI_length (ts : List Int) : (sortI ts).length = ts.length := List.length_mergeSort ts

/-- What the sort leaves. -/
def SortPost (base : Nat) (v : Value) (ts : List Int) (w : World) (e : Ending) (w' : World) : Prop :=
  e = .returned (.tuple #[]) ∧ w'.ownsRow base 3 1 v (sortI ts).length ((sortI ts).map (Value.int .i64)) ∧ w.grownBy w' v.ownBlock

theorem sort_own {base : Nat} {v : Value} {ts : List Int} (w : World) (hown : w.ownsRow base 3 1 v ts.length (ts.map (Value.int .i64))) (hl : ts.length < 4611686018427387904) :
    Calls Try.prog 33 #[v] w (SortPost base v ts w) := by
  rcases hown.2 with ⟨rfl, h0⟩ | ⟨g, cap, cur, rfl, hbase, hb, hn, hcap, hcs, ht⟩
  · obtain rfl := List.eq_nil_of_length_eq_zero h0
    refine (Try.slices_Sort_int_none none 0 w).mono fun e w' ⟨he, hw⟩ => ?_
    subst he hw
    exact ⟨rfl, by rw [show sortI [] = [] from by simp [sortI]]; exact hown, World.grownBy.refl _ _⟩
  · have hlt : g < w.heap.size := (Array.getElem?_eq_some_iff.1 hb).1
    refine (Try.slices_Sort_int g 0 cap ts w (holds_of_blockI hb (by simpa using ht)) hlt hl).mono fun e w' ⟨he, n, os, hw⟩ => ?_
    subst he hw
    refine ⟨rfl, ?_, grownBy_sortedI _⟩
    have := ownsRow_sortedI (w := w) (base := base) (n := n) (os := os) (ts := sortI ts) (ss := ts) (sortI_length ts) hbase hb hn hcap hcs
    rw [sortI_length]
    exact this

theorem news_one (w : World) (x : Int) (ty : TypeId) : ∀ j u, [Value.int .i64 x][j]? = some u → (w.alloc (.cells #[.int .i64 x] ty)).cell? ((⟨w.heap.size, 0, none⟩ : Addr).add j) = some u :=
  World.news_of_block (cs := #[.int .i64 x]) (heap_alloc_new w _)

/-- Of the first k times those that the span has. -/
def inside (a b : Int) (zs : List Int) (k : Nat) : List Int := (zs.take k).filter (hasB a b)
theorem inside_le (a b : Int) (zs : List Int) (k : Nat) : (inside a b zs k).length ≤ k := Nat.le_trans (List.length_filter_le _ _) (List.length_take_le _ _)
theorem inside_yes {a b : Int} {zs : List Int} {k : Nat} {x : Int} (hx : zs[k]? = some x) (h : hasB a b x = true) : inside a b zs (k + 1) = inside a b zs k ++ [x] := by
  simp [inside, List.take_add_one, hx, List.filter_append, h]
theorem inside_no {a b : Int} {zs : List Int} {k : Nat} {x : Int} (hx : zs[k]? = some x) (h : hasB a b x = false) : inside a b zs (k + 1) = inside a b zs k := by
  simp [inside, List.take_add_one, hx, List.filter_append, h]

/-- What holds at the head of each round of within. -/
def InRel (a b : Int) (zs : List Int) (w : World) (k : Nat) (v : Value) (wr : World) : Prop :=
  wr.ownsRow (w.heap.size + 1) 3 1 v (inside a b zs k).length ((inside a b zs k).map (Value.int .i64)) ∧ Below (w.heap.size + 1) (w.alloc (.cells #[.int .i64 a, .int .i64 b] 23)) wr

/-- What within leaves. -/
def IntsPost (l : List Int) (w : World) (e : Ending) (w' : World) : Prop := ∃ A c, e = .returned (.slice A l.length c) ∧ Ints w' A l ∧ Below w.heap.size w w'

set_option maxHeartbeats 1000000 in
theorem within_any (a b : Int) (A : Option Addr) (c : Nat) (zs : List Int) (w : World) (hz : Ints w A zs) (hn : zs.length ≤ 1000000) :
    Calls Try.prog 29 #[sp a b, .slice A zs.length c] w (IntsPost (sortI (zs.filter (hasB a b))) w) := by
  obtain ⟨i0, hi, hz0, hz1, hz2⟩ := info_parts Try.infoInt
  have HZ := Lib.hid hz
  clear hz
  obtain ⟨n, hnm⟩ : ∃ n, n = zs.length := ⟨_, rfl⟩
  rw [← hnm]
  have hn' : n ≤ 1000000 := by omega
  have HN := Lib.hid hnm
  clear hnm hn
  go_enter Try.func29, Try.ntmps29
  go_wp2_with fail
  go_loopw [5, 10] (fun v i wr => ∃ k : Nat, k ≤ n ∧ i = .int .i64 k ∧ InRel a b zs w k v wr) (fun _ i _ => n - (intOf i).toNat)
  case atStart => exact ⟨0, Nat.zero_le _, rfl, by simpa [inside] using World.ownsRow_nil _ _ _ _, Below.refl _ _⟩
  case round =>
    obtain ⟨k, hk, rfl, hrel⟩ := hrel
    have hrel' := hrel
    obtain ⟨hown, hB⟩ := hrel
    have hs0 : w.heap.size < wr.heap.size := by have := hB.size; simp at this; omega
    have ca0 : wr.cell? ⟨w.heap.size, 0, none⟩ = some (.int .i64 a) := (hB.cell (p := ⟨w.heap.size, 0, none⟩) (by simp)).trans (by simp [go_sem])
    have ca1 : wr.cell? ⟨w.heap.size, 1, none⟩ = some (.int .i64 b) := (hB.cell (p := ⟨w.heap.size, 1, none⟩) (by simp)).trans (by simp [go_sem])
    by_cases hlt : k < n
    · obtain ⟨x, hx⟩ : ∃ x, zs[k]? = some x := ⟨_, List.getElem?_eq_getElem (by have := HN.out; omega)⟩
      obtain ⟨g, off, rfl, c0⟩ := HZ.out k x hx
      have hg := lt_of_cell c0
      have c1 : wr.cell? ⟨g, off + k, none⟩ = some (.int .i64 x) := ((hB.cell (p := ⟨g, off + k, none⟩) (by simp; omega)).trans (World.cell?_alloc_lt _ _ _ hg)).trans c0
      have HX := Lib.hid hx
      clear hx
      cases hh : hasB a b x
      · have HH := Lib.hid hh
        go_wp2_with (go_at_call 11; refine (has_any _ _ _ _).mono ?_; rintro e w1 ⟨rfl, hb⟩)
        go_roundw
        case rel => exact ⟨k + 1, by omega, by go_num, by rw [inside_no HX.out HH.out]; exact own_below hown hb, hB.trans (hb.mono (by omega))⟩
        case measure => simp [intOf]; omega
      · have HH := Lib.hid hh
        have hle := inside_le a b zs k
        go_wp2_with (first | (go_at_call 11; refine (has_any _ _ _ _).mono ?_; rintro e w1 ⟨rfl, hb⟩; have hs1 := hb.size) | (at_builtin; refine wpList_append_own _ rfl (.tmp 17) (.tmp 19) 42 rfl (w.heap.size + 1) 3 i0 (.int .i64 0) 1 8 Try.underlying42 hi hz0 hz1 hz2 rfl (by decide) _ _ _ rfl (World.ownsRow.alloc (own_below hown hb) _) ⟨w1.heap.size, 0, none⟩ 1 1 [.int .i64 x] rfl rfl (news_one w1 x _) (by simp [Value.oneCell']) (by unfold maxLen; omega) (by omega) (by simp; omega) ?_; intro v' w2 hown2 hgrow2 _))
        go_roundw
        case rel => exact ⟨k + 1, by omega, by go_num, by rw [inside_yes HX.out HH.out]; simpa using hown2, below_app (hB.trans (hb.mono (by omega))) hgrow2 (by omega) (fun j hj => (hown.lt j hj).1)⟩
        case measure => simp [intOf]; omega
    · obtain rfl : k = n := by omega
      have hall : inside a b zs k = zs.filter (hasB a b) := by rw [inside, List.take_of_length_le (by have := HN.out; omega)]
      have HA := Lib.hid hall
      clear hall
      have hle := inside_le a b zs k
      go_wp2_with (go_at_call 33; refine (sort_own _ hown (by omega)).mono ?_; rintro e w2 ⟨rfl, hown2, hgrow2⟩)
      go_ret
      rw [← HA.out]
      obtain ⟨A, c, rfl, hints⟩ := own_ints hown2
      exact ⟨A, c, rfl, hints, (((Below.refl _ _).alloc (Nat.le_refl _) _).trans (hB.mono (by omega))).grown hgrow2 (by omega) (fun j hj => by have := (hown.lt j hj).1; omega)⟩

end Go.Proofs.Ytaobmlkbhdonkaa
