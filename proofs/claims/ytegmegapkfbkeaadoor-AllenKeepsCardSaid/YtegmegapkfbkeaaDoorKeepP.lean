/-
  What spans have to each other is a closed net, in plain Lean; rows of whatever numbers in memory.
-/
import Derived.Test.YtegmegapkfbkeaaDoorClosesA
namespace Go.Proofs.YtegmegapkfbkeaaDoor
open Go.RowKit

/-- Block g holds the first n numbers of zs, whatever they are. -/
def ArrI (w : World) (g : Nat) (zs : Nat → Int) (n : Nat) : Prop := g < w.heap.size ∧ ∀ i, i < n → w.cell? ⟨g, i, none⟩ = some (.int .i64 (zs i)) ∧ w.frozen? ⟨g, i, none⟩ = false
theorem Arr.toI {w : World} {g n : Nat} {T : Nat → Nat} (h : Arr w g T n) : ArrI w g (fun p => (T p : Int)) n := h
theorem ArrI.ints {w : World} {g N : Nat} {zs : Nat → Int} (h : ArrI w g zs N) : Ints w (some ⟨g, 0, none⟩) zs N := fun i hi => ⟨g, 0, rfl, by rw [Nat.zero_add]; exact (h.2 i hi).1⟩
theorem ArrI.below {W w : World} {g n : Nat} {T : Nat → Int} (h : ArrI W g T n) {B : Nat} (hg : g < B) (hb : Below B W w) : ArrI w g T n :=
  ⟨Nat.lt_of_lt_of_le h.1 hb.size, fun i hi => ⟨(hb.cell (p := ⟨g, i, none⟩) hg).trans (h.2 i hi).1, (hb.frozen (p := ⟨g, i, none⟩) hg).trans (h.2 i hi).2⟩⟩
def updI (T : Nat → Int) (p : Nat) (v : Int) : Nat → Int := fun q => if q = p then v else T q
theorem ArrI.put {w : World} {g n p : Nat} {v : Int} {T : Nat → Int} (h : ArrI w g T n) (hp : p < n) : ArrI (w.setCell ⟨g, p, none⟩ (.int .i64 v)) g (updI T p v) n := by
  refine ⟨by simpa [World.setCell] using h.1, fun i hi => ?_⟩
  obtain ⟨c, f⟩ := h.2 i hi
  unfold updI
  by_cases e : i = p
  · subst e
    rw [if_pos rfl]
    exact ⟨World.cell?_setCell_same w _ _ c, by simpa [go_sem] using f⟩
  · rw [if_neg e]
    exact ⟨(World.cell?_setCell_other w _ _ _ (by simp [e])).trans c, by simpa [go_sem] using f⟩

def lF (l : List (Int × Int)) (i : Nat) : Int := (l.getD i (0, 0)).1
def lT (l : List (Int × Int)) (i : Nat) : Int := (l.getD i (0, 0)).2
theorem l_get (l : List (Int × Int)) {i : Nat} (hi : i < l.length) : l[i]? = some (lF l i, lT l i) := by
  unfold lF lT
  rw [List.getD_eq_getElem?_getD, List.getElem?_eq_getElem hi]; rfl
/-- The relation of the i-th span to the k-th. -/
def rL (l : List (Int × Int)) (i k : Nat) : Nat := (relI (lF l i) (lT l i) (lF l k) (lT l k)).toNat
def bL (l : List (Int × Int)) (i k : Nat) : Bool := bothB (lF l i) (lT l i) (lF l k) (lT l k)
theorem rL_eq {l : List (Int × Int)} {i k : Nat} (h : bL l i k = true) : relI (lF l i) (lT l i) (lF l k) (lT l k) = (rL l i k : Int) ∧ rL l i k < 13 := by
  have hb := both_lt h
  have := rel_lt hb.1 hb.2
  unfold rL
  omega
theorem ofL {l : List (Int × Int)} {i k : Nat} (h : bL l i k = true) : ofI (lF l i) (lT l i) (lF l k) (lT l k) = (rL l i k : Int) := by
  have h' : bothB (lF l i) (lT l i) (lF l k) (lT l k) = true := h
  rw [ofI, if_pos h']; exact (rL_eq h).1

/-- The net of what the spans have. -/
def mL (l : List (Int × Int)) (p : Nat) : Nat := 2 ^ rL l (p / l.length) (p % l.length)
theorem mL_at {l : List (Int × Int)} {i k : Nat} (hk : k < l.length) : mL l (i * l.length + k) = 2 ^ rL l i k := by
  unfold mL
  have h1 : (i * l.length + k) / l.length = i := by rw [Nat.mul_comm, Nat.mul_add_div (by omega), Nat.div_eq_of_lt hk, Nat.add_zero]
  have h2 : (i * l.length + k) % l.length = k := by rw [Nat.mul_comm, Nat.mul_add_mod, Nat.mod_eq_of_lt hk]
  rw [h1, h2]
theorem pow_bit {r t : Nat} (h : (2 ^ r : Nat).testBit t = true) : t = r := by
  rw [Nat.testBit_two_pow] at h
  exact (of_decide_eq_true h).symm
theorem mL_good {l : List (Int × Int)} (h : ∀ i k, i < l.length → k < l.length → bL l i k = true) : Good l.length (mL l) where
  turn := fun i k hi hk t ht => by
    rw [mL_at hk] at ht
    rw [mL_at hi]
    have := pow_bit ht
    subst this
    have b := both_lt (h i k hi hk)
    have e1 := rL_eq (h i k hi hk)
    have e2 := rL_eq (h k i hk hi)
    have e3 := rel_back b.1 b.2
    rw [e1.1, e2.1] at e3
    rw [testBit_turnI, bitB_nat, Nat.testBit_two_pow, Bool.and_eq_true, decide_eq_true_eq, decide_eq_true_eq]
    omega
  self := fun i hi t ht => by
    rw [mL_at hi] at ht
    have := pow_bit ht
    subst this
    have b := both_lt (h i i hi hi)
    have e1 := (rL_eq (h i i hi hi)).1
    rw [rel_self _ _ b.1] at e1
    rw [bit64, decide_eq_true_eq]
    omega
  tri := fun i j k hi hj hk t ht => by
    rw [mL_at hk] at ht
    rw [mL_at hj, mL_at hk]
    have := pow_bit ht
    subst this
    have b1 := both_lt (h i j hi hj)
    have b2 := both_lt (h j k hj hk)
    rw [testBit_followI]
    refine ⟨rL l i j, rL l j k, (rL_eq (h i j hi hj)).2, (rL_eq (h j k hj hk)).2, ?_, ?_, ?_⟩
    · rw [bitB_nat, Nat.testBit_two_pow]; simp
    · rw [bitB_nat, Nat.testBit_two_pow]; simp
    · exact sound b1.1 b1.2 b2.2 (rL_eq (h i j hi hj)).1 (rL_eq (h j k hj hk)).1 (rL_eq (h i k hi hk)).1
theorem mL_pos (l : List (Int × Int)) (p : Nat) : mL l p ≠ 0 := by
  unfold mL
  exact Nat.pos_iff_ne_zero.mp (Nat.two_pow_pos _)
theorem mL_le {l : List (Int × Int)} {zs : Nat → Int} (h : ∀ i k, i < l.length → k < l.length → bL l i k = true ∧ bitB (zs (i * l.length + k)) (rL l i k) = true) : Le l.length (mL l) (fun p => low (zs p)) := fun i k hi hk t ht => by
  rw [mL_at hk] at ht
  have := pow_bit ht
  subst this
  rw [bitB_low _ _ (rL_eq (h i k hi hk).1).2]
  exact (h i k hi hk).2
/-- A set with one relation, and more. -/
theorem bit_pow (r : Nat) : bitB ((2 ^ r : Nat) : Int) r = true := by rw [bitB_nat, Nat.testBit_two_pow]; simp

/-- While the net is laid. -/
structure Kp (w : World) (G N : Nat) (l : List (Int × Int)) (A B : Option Addr) (ys : Nat → Int) (M : Nat) (i k : Nat) (zs : Nat → Int) (wr : World) : Prop where
  sets : ArrI wr G zs N
  done : ∀ i' k', i' < l.length → k' < l.length → (i' < i ∨ (i' = i ∧ k' < k)) → bL l i' k' = true ∧ bitB (zs (i' * l.length + k')) (rL l i' k') = true
  spans : Spans wr A l
  more : Ints wr B ys M
  world : Below w.heap.size w wr
theorem Kp.step {w wr w' : World} {G N M i k : Nat} {l : List (Int × Int)} {A B : Option Addr} {ys zs : Nat → Int} (h : Kp w G N l A B ys M i k zs wr) (hb : Below wr.heap.size wr w') : Kp w G N l A B ys M i k zs w' :=
  ⟨h.sets.below h.sets.1 hb, h.done, h.spans.below hb, h.more.below hb, chain h.world hb⟩
theorem Kp.put {w wr : World} {G N M i k : Nat} {l : List (Int × Int)} {A B : Option Addr} {ys zs : Nat → Int} (h : Kp w G N l A B ys M i k zs wr) (hk : k < l.length) (hp : i * l.length + k < N) (hG : w.heap.size ≤ G) (hA : Spans w A l) (hB : Ints w B ys M) (v : Int) :
    Kp w G N l A B ys M i k (updI zs (i * l.length + k) v) (wr.setCell ⟨G, i * l.length + k, none⟩ (.int .i64 v)) := by
  have hb : Below w.heap.size w (wr.setCell ⟨G, i * l.length + k, none⟩ (.int .i64 v)) := h.world.setCell hG _
  refine ⟨h.sets.put hp, fun i' k' hi' hk' hd => ?_, hA.below hb, hB.below hb, hb⟩
  have hne : ¬ i' * l.length + k' = i * l.length + k := fun e => by have := place_inj hk' hk e; omega
  unfold updI
  rw [if_neg hne]
  exact h.done i' k' hi' hk' hd
theorem Kp.drew {w wr : World} {G N M i k : Nat} {l : List (Int × Int)} {A B : Option Addr} {ys zs : Nat → Int} (h : Kp w G N l A B ys M i k zs wr) : Kp w G N l A B ys M i k zs wr.drew := h.step ((Below.refl _ _).drew)
theorem Kp.next {w wr : World} {G N M i k : Nat} {l : List (Int × Int)} {A B : Option Addr} {ys zs : Nat → Int} (h : Kp w G N l A B ys M i k zs wr) (e : bL l i k = true ∧ bitB (zs (i * l.length + k)) (rL l i k) = true) : Kp w G N l A B ys M i (k + 1) zs wr :=
  ⟨h.sets, fun i' k' hi' hk' hd => by
    by_cases hh : i' = i ∧ k' = k
    · obtain ⟨rfl, rfl⟩ := hh; exact e
    · exact h.done i' k' hi' hk' (by omega), h.spans, h.more, h.world⟩
theorem Kp.line {w wr : World} {G N M i : Nat} {l : List (Int × Int)} {A B : Option Addr} {ys zs : Nat → Int} (h : Kp w G N l A B ys M i l.length zs wr) : Kp w G N l A B ys M (i + 1) 0 zs wr :=
  ⟨h.sets, fun i' k' hi' hk' hd => h.done i' k' hi' hk' (by omega), h.spans, h.more, h.world⟩

end Go.Proofs.YtegmegapkfbkeaaDoor
