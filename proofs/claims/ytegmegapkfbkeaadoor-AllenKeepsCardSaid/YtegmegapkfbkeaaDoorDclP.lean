/-
  The document's Close, in parts: what holds while its net is laid, while it is made less, and while it is looked over.
-/
import Derived.Test.YtegmegapkfbkeaaDoorClose
import Derived.Test.YtegmegapkfbkeaaDoorTable
namespace Go.Proofs.YtegmegapkfbkeaaDoor
open Go.RowKit

theorem low_nat {a : Nat} (h : a < 8192) : low (a : Int) = a := by unfold low; omega
theorem turn_low (x : Int) : turnI (low x : Int) = turnI x := Nat.eq_of_testBit_eq fun t => by
  rw [testBit_turnI, testBit_turnI]
  by_cases ht : t < 13
  · rw [bitB_nat, bitB_low x (12 - t) (by omega)]
  · simp [ht]

/-- While the net is laid: as far as the place of i and k. -/
structure Ph1 (w : World) (G tb n N : Nat) (TT : Nat → Nat) (A : Option Addr) (zs : Nat → Int) (i k : Nat) (T : Nat → Nat) (wr : World) : Prop where
  sets : Arr wr G T N
  small : ∀ p, T p < 8192
  done : ∀ i' k', i' < n → k' < n → (i' < i ∨ (i' = i ∧ k' < k)) → T (i' * n + k') = initN n (fun p => low (zs p)) i' k'
  table : Arr wr tb TT 169
  args : Ints wr A zs N
  world : Below w.heap.size w wr
theorem Ph1.drew {w wr : World} {G tb n N i k : Nat} {TT T : Nat → Nat} {A : Option Addr} {zs : Nat → Int} (h : Ph1 w G tb n N TT A zs i k T wr) (q : Nat) : Ph1 w G tb n N TT A zs i k T (wr.drewN q) :=
  ⟨h.sets, h.small, h.done, h.table, h.args, below_drewN h.world q⟩
theorem Ph1.drew1 {w wr : World} {G tb n N i k : Nat} {TT T : Nat → Nat} {A : Option Addr} {zs : Nat → Int} (h : Ph1 w G tb n N TT A zs i k T wr) : Ph1 w G tb n N TT A zs i k T wr.drew :=
  ⟨h.sets, h.small, h.done, h.table, h.args, h.world.drew⟩
theorem Ph1.put {w wr : World} {G tb n N i k v : Nat} {TT T : Nat → Nat} {A : Option Addr} {zs : Nat → Int} (h : Ph1 w G tb n N TT A zs i k T wr) (hi : i < n) (hk : k < n) (hp : i * n + k < N) (hG : w.heap.size ≤ G) (hgt : G ≠ tb) (hI : Ints w A zs N) (hv : v < 8192) :
    Ph1 w G tb n N TT A zs i k (upd T (i * n + k) v) (wr.setCell ⟨G, i * n + k, none⟩ (.int .i64 v)) := by
  have hB : Below w.heap.size w (wr.setCell ⟨G, i * n + k, none⟩ (.int .i64 v)) := h.world.setCell hG _
  refine ⟨h.sets.put hp, fun p => ?_, fun i' k' hi' hk' hd => ?_, ⟨by simpa [World.setCell] using h.table.1, fun q hq => ⟨(World.cell?_setCell_other wr _ _ _ (by simp <;> (intro e; exact absurd e hgt))).trans (h.table.2 q hq).1, by simpa [go_sem] using (h.table.2 q hq).2⟩⟩, hI.below hB, hB⟩
  · unfold upd; split
    · exact hv
    · exact h.small p
  · unfold upd
    rw [if_neg (fun e => by have := place_inj hk' hk e; omega)]
    exact h.done i' k' hi' hk' hd
theorem Ph1.next {w wr : World} {G tb n N i k : Nat} {TT T : Nat → Nat} {A : Option Addr} {zs : Nat → Int} (h : Ph1 w G tb n N TT A zs i k T wr) (hk : k < n) (e : T (i * n + k) = initN n (fun p => low (zs p)) i k) : Ph1 w G tb n N TT A zs i (k + 1) T wr :=
  ⟨h.sets, h.small, fun i' k' hi' hk' hd => by
    by_cases hh : i' = i ∧ k' = k
    · obtain ⟨rfl, rfl⟩ := hh; exact e
    · exact h.done i' k' hi' hk' (by omega), h.table, h.args, h.world⟩
theorem Ph1.line {w wr : World} {G tb n N i : Nat} {TT T : Nat → Nat} {A : Option Addr} {zs : Nat → Int} (h : Ph1 w G tb n N TT A zs i n T wr) : Ph1 w G tb n N TT A zs (i + 1) 0 T wr :=
  ⟨h.sets, h.small, fun i' k' hi' hk' hd => h.done i' k' hi' hk' (by omega), h.table, h.args, h.world⟩

/-- While it is made less. -/
structure Ph2 (w : World) (G tb n N : Nat) (TT N0 T : Nat → Nat) (wr : World) : Prop where
  sets : Arr wr G T N
  inv : TriInv n N0 T
  table : Arr wr tb TT 169
  world : Below w.heap.size w wr
theorem Ph1.ph2 {w wr : World} {G tb n N : Nat} {TT T : Nat → Nat} {A : Option Addr} {zs : Nat → Int} (h : Ph1 w G tb n N TT A zs n 0 T wr) : Ph2 w G tb n N TT (fun p => low (zs p)) T wr :=
  ⟨h.sets, ⟨h.small, fun i k hi hk => by rw [h.done i k hi hk (by omega)]; exact Sub.rfl' _, fun m _ hl i k hi hk => by rw [h.done i k hi hk (by omega)]; exact hl i k hi hk⟩, h.table, h.world⟩
theorem Ph2.drew {w wr : World} {G tb n N : Nat} {TT N0 T : Nat → Nat} (h : Ph2 w G tb n N TT N0 T wr) (q : Nat) : Ph2 w G tb n N TT N0 T (wr.drewN q) := ⟨h.sets, h.inv, h.table, below_drewN h.world q⟩
theorem Ph2.put {w wr : World} {G tb n N i j k : Nat} {TT N0 T : Nat → Nat} (h : Ph2 w G tb n N TT N0 T wr) (hi : i < n) (hj : j < n) (hk : k < n) (hp : i * n + k < N) (hG : w.heap.size ≤ G) (hgt : G ≠ tb) :
    Ph2 w G tb n N TT N0 (upd T (i * n + k) (T (i * n + k) &&& followI (T (i * n + j)) (T (j * n + k)))) (wr.setCell ⟨G, i * n + k, none⟩ (.int .i64 ((T (i * n + k) &&& followI (T (i * n + j)) (T (j * n + k)) : Nat) : Int))) :=
  ⟨h.sets.put hp, h.inv.step hi hj hk, ⟨by simpa [World.setCell] using h.table.1, fun q hq => ⟨(World.cell?_setCell_other wr _ _ _ (by simp <;> (intro e; exact absurd e hgt))).trans (h.table.2 q hq).1, by simpa [go_sem] using (h.table.2 q hq).2⟩⟩, h.world.setCell hG _⟩

/-- Which triangles were gone over. -/
def Gone (n : Nat) (T : Nat → Nat) (i k j : Nat) : Prop := ∀ i' k' j', i' < n → k' < n → j' < n → (i' < i ∨ (i' = i ∧ (k' < k ∨ (k' = k ∧ j' < j)))) → Sub (T (i' * n + k')) (followI (T (i' * n + j')) (T (j' * n + k')))
/-- While all is gone over once. -/
def Pass (w : World) (G tb n N : Nat) (TT N0 : Nat → Nat) (S i k j : Nat) (c : Value) (wr : World) : Prop :=
  ∃ T b, c = .bool b ∧ Ph2 w G tb n N TT N0 T wr ∧ ((b = false ∧ sumTo T N = S ∧ Gone n T i k j) ∨ (b = true ∧ sumTo T N < S))
theorem Pass.mk0 {w wr : World} {G tb n N : Nat} {TT N0 T : Nat → Nat} (h : Ph2 w G tb n N TT N0 T wr) : Pass w G tb n N TT N0 (sumTo T N) 0 0 0 (.bool false) wr :=
  ⟨T, false, rfl, h, .inl ⟨rfl, rfl, fun _ _ _ _ _ _ hd => by omega⟩⟩
theorem Pass.kline {w wr : World} {G tb n N S i k : Nat} {TT N0 : Nat → Nat} {c : Value} (h : Pass w G tb n N TT N0 S i k n c wr) : Pass w G tb n N TT N0 S i (k + 1) 0 c wr := by
  obtain ⟨T, b, rfl, h1, h2⟩ := h
  refine ⟨T, b, rfl, h1, h2.imp (fun ⟨a, b, g⟩ => ⟨a, b, fun i' k' j' x y z hd => g i' k' j' x y z (by omega)⟩) id⟩
theorem Pass.iline {w wr : World} {G tb n N S i : Nat} {TT N0 : Nat → Nat} {c : Value} (h : Pass w G tb n N TT N0 S i n 0 c wr) : Pass w G tb n N TT N0 S (i + 1) 0 0 c wr := by
  obtain ⟨T, b, rfl, h1, h2⟩ := h
  refine ⟨T, b, rfl, h1, h2.imp (fun ⟨a, b, g⟩ => ⟨a, b, fun i' k' j' x y z hd => g i' k' j' x y z (by omega)⟩) id⟩
/-- A triangle that leaves the set as it is. -/
theorem Pass.stays {w wr : World} {G tb n N S i k j : Nat} {TT N0 T : Nat → Nat} {b : Bool} (h1 : Ph2 w G tb n N TT N0 T wr) (h2 : (b = false ∧ sumTo T N = S ∧ Gone n T i k j) ∨ (b = true ∧ sumTo T N < S))
    (he : T (i * n + k) &&& followI (T (i * n + j)) (T (j * n + k)) = T (i * n + k)) : Pass w G tb n N TT N0 S i k (j + 1) (.bool b) wr := by
  refine ⟨T, b, rfl, h1, h2.imp (fun ⟨a, b, g⟩ => ⟨a, b, fun i' k' j' x y z hd => ?_⟩) id⟩
  by_cases e : i' = i ∧ k' = k ∧ j' = j
  · obtain ⟨rfl, rfl, rfl⟩ := e
    rw [← he]; exact Sub.right _ _
  · exact g i' k' j' x y z (by omega)
/-- A triangle that makes the set less. -/
theorem Pass.less {w wr : World} {G tb n N S i k j : Nat} {TT N0 T : Nat → Nat} {b : Bool} (h1 : Ph2 w G tb n N TT N0 T wr) (h2 : (b = false ∧ sumTo T N = S ∧ Gone n T i k j) ∨ (b = true ∧ sumTo T N < S))
    (hi : i < n) (hj : j < n) (hk : k < n) (hp : i * n + k < N) (hG : w.heap.size ≤ G) (hgt : G ≠ tb) (he : T (i * n + k) &&& followI (T (i * n + j)) (T (j * n + k)) ≠ T (i * n + k)) :
    Pass w G tb n N TT N0 S i k (j + 1) (.bool true) (wr.setCell ⟨G, i * n + k, none⟩ (.int .i64 ((T (i * n + k) &&& followI (T (i * n + j)) (T (j * n + k)) : Nat) : Int))) := by
  refine ⟨_, true, rfl, h1.put hi hj hk hp hG hgt, .inr ⟨rfl, ?_⟩⟩
  have s1 := sum_upd T (i * n + k) (T (i * n + k) &&& followI (T (i * n + j)) (T (j * n + k))) N hp
  have s2 := (Sub.left (T (i * n + k)) (followI (T (i * n + j)) (T (j * n + k)))).lt he
  rcases h2 with ⟨_, a, _⟩ | ⟨_, a⟩ <;> omega
theorem Pass.done {w wr : World} {G tb n N S : Nat} {TT N0 : Nat → Nat} {c : Value} (h : Pass w G tb n N TT N0 S n 0 0 c wr) :
    ∃ T b, c = .bool b ∧ Ph2 w G tb n N TT N0 T wr ∧ ((b = false ∧ sumTo T N = S ∧ Tri n T) ∨ (b = true ∧ sumTo T N < S)) := by
  obtain ⟨T, b, rfl, h1, h2⟩ := h
  exact ⟨T, b, rfl, h1, h2.imp (fun ⟨a, b, g⟩ => ⟨a, b, fun i j k x y z => g i k j x z y (.inl x)⟩) id⟩

theorem init_eq (n : Nat) (zs : Nat → Int) (i k : Nat) : initN n (fun p => low (zs p)) i k = if i = k then (low (zs (i * n + k)) &&& turnI (zs (k * n + i))) &&& 64 else low (zs (i * n + k)) &&& turnI (zs (k * n + i)) := by
  unfold initN narBase
  rw [turn_low]
theorem both_turn (x y : Int) (w : World) : Same 39 #[.int .i64 x, .int .i64 (turnI y)] w (.int .i64 ((low x &&& turnI y : Nat) : Int)) := by
  have := both_any x (turnI y) w
  rwa [low_nat (turnI_lt y)] at this
theorem both_nat {a b : Nat} (ha : a < 8192) (hb : b < 8192) (w : World) : Same 39 #[.int .i64 a, .int .i64 b] w (.int .i64 ((a &&& b : Nat) : Int)) := by
  have := both_any a b w
  rwa [low_nat ha, low_nat hb] at this

def DCloseOut (w : World) (n N : Nat) (N0 : Nat → Nat) (e : Ending) (w' : World) : Prop :=
  Below w.heap.size w w' ∧ ∃ L, Greatest n N0 L ∧ ((∃ g, e = .returned (.tuple #[.slice (some ⟨g, 0, none⟩) N N, .bool true]) ∧ Arr w' g L N ∧ ∀ p, p < N → L p ≠ 0) ∨
    (e = .returned (.tuple #[.slice none 0 0, .bool false]) ∧ ∃ p, p < N ∧ L p = 0))

end Go.Proofs.YtegmegapkfbkeaaDoor
