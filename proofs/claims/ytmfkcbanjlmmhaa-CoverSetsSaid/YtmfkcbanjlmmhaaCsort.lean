/-
  Sorting a list of pairs of the call's own: spans by Compare, turns by their times.
-/
import Derived.Test.YtmfkcbanjlmmhaaCkept
import Derived.Test.YtmfkcbanjlmmhaaShelf
import Derived.RangeFuncOwn
namespace Go.Proofs.Ytmfkcbanjlmmhaa
open Go.RowKit Go.Sort Go.Shelf

/-- A pair's two cells. -/
def enc2 (x : Int × Int) : List Value := [.int .i64 x.1, .int .i64 x.2]
theorem getBang {l : List (Int × Int)} {i : Nat} {p : Int × Int} (h : l[i]? = some p) : l.toArray[i]! = p := by
  obtain ⟨hl, he⟩ := List.getElem?_eq_some_iff.1 h
  rw [getElem!_pos l.toArray i (by simpa using hl)]
  simpa using he
theorem holds_own {w : World} {g : Nat} {cur : Array Value} {ty : TypeId} {l : List (Int × Int)} (hb : w.heap[g]? = some (.cells cur ty (0, 0))) (ht : cur.toList.take (l.length * 2) = flat l) : HoldsK enc2 2 w g 0 l.toArray := by
  intro j hj
  rw [size_flatK] at hj
  have hj' : j < l.length * 2 := by simpa using hj
  have hc : cur[j]? = (flat l)[j]? := by
    rw [← ht, List.getElem?_take, if_pos hj']
    simp
  obtain ⟨p, hp⟩ : ∃ p, l[j / 2]? = some p := ⟨_, List.getElem?_eq_getElem (by omega)⟩
  obtain ⟨e0, e1⟩ := flat_get l (j / 2) p hp
  refine ⟨?_, by simp [World.frozen?, hb]⟩
  rw [get_flatK _ _ _ _ hj, getBang hp]
  rcases Nat.mod_two_eq_zero_or_one j with h | h
  · rw [show j / 2 * 2 = j from by omega] at e0
    rw [e0] at hc
    simp [World.cell?, hb, hc, h, enc2]
  · rw [show j / 2 * 2 + 1 = j from by omega] at e1
    rw [e1] at hc
    simp [World.cell?, hb, hc, h, enc2]
theorem below_sorted {w : World} {base g n : Nat} {d : Array (Int × Int)} {os : Array Obj} (hg : base ≤ g) (hs : base ≤ w.heap.size) : Below base w (sortWorldK enc2 2 w g 0 n d os) := by
  refine ⟨rfl, rfl, rfl, ?_, fun k hk => ?_⟩
  · simp [sortWorldK, putRowK, putRow, mapBlock, grow, Sort.ahead]
  · simp only [sortWorldK, putRowK, putRow, mapBlock, grow, Sort.ahead]
    rw [Array.getElem?_append_left (by simp; omega), Array.getElem?_modify, if_neg (by omega)]

/-- Whatever is no cells lies as it lay. -/
def NC (w w' : World) : Prop := ∀ (k : Nat) (o : Obj), w.heap[k]? = some o → o.isCells = false → w'.heap[k]? = some o
theorem NC.refl (w : World) : NC w w := fun _ _ h _ => h
theorem NC.trans {a b c : World} (h : NC a b) (k : NC b c) : NC a c := fun i o hi ho => k i o (h i o hi ho) ho
theorem nc_sorted {w : World} {g n : Nat} {d : Array (Int × Int)} {os : Array Obj} {cur : Array Value} {ty : TypeId} (hb : w.heap[g]? = some (.cells cur ty (0, 0))) : NC w (sortWorldK enc2 2 w g 0 n d os) := fun k o hk ho => by
  have hne : g ≠ k := by
    rintro rfl
    rw [hb] at hk
    injection hk with hk
    subst hk
    cases ho
  have hlt := (Array.getElem?_eq_some_iff.1 hk).1
  simp only [sortWorldK, putRowK, putRow, mapBlock, grow, Sort.ahead]
  rw [Array.getElem?_append_left (by simp; omega), Array.getElem?_modify, if_neg hne]
  exact hk

/-- What a sort leaves. -/
def Sorted2 (lt : Int × Int → Int × Int → Bool) (base : Nat) (v : Value) (l : List (Int × Int)) (w : World) (e : Ending) (w' : World) : Prop :=
  e = .returned (.tuple #[]) ∧ ∃ A c l', v = .slice A l.length c ∧ l'.Perm l ∧ (∀ (i j : Nat) p q, i < j → l'[i]? = some p → l'[j]? = some q → lt q p = false) ∧ Spans w' A l' ∧ Below base w w' ∧ NC w w'

theorem sorted_of {lt : Int × Int → Int × Int → Bool} {base g cap n : Nat} {l : List (Int × Int)} {w : World} {d' : Array (Int × Int)} {os : Array Obj} {cur : Array Value} {ty : TypeId} (hblk0 : w.heap[g]? = some (.cells cur ty (0, 0))) (hH : HoldsK enc2 2 w g 0 l.toArray) (hblk : g < w.heap.size) (hbase : base ≤ g)
    (hp : PermIn 0 l.toArray.size l.toArray d') (hs : SortedIn lt 0 l.toArray.size d') : Sorted2 lt base (.slice (some ⟨g, 0, none⟩) l.length cap) l w (.returned (.tuple #[])) (sortWorldK enc2 2 w g 0 n d' os) := by
  have hsz : d'.size = l.length := by simpa using hp.1
  refine ⟨rfl, _, _, d'.toList, rfl, ?_, ?_, ?_, below_sorted hbase (by omega), nc_sorted hblk0⟩
  · have := hp.2.2
    simp only [List.size_toArray] at this
    rw [← hsz] at this
    simp only [Array.extract_size] at this
    rw [hsz] at this
    rw [show l.length = l.toArray.size from by simp, Array.extract_size] at this
    simpa using this
  · intro i j p q hij hi hj
    have hi' : i < d'.size := by simpa using (List.getElem?_eq_some_iff.1 hi).1
    have hj' : j < d'.size := by simpa using (List.getElem?_eq_some_iff.1 hj).1
    have := hs i j (Nat.zero_le _) hij (by simp; omega)
    rw [getElem!_pos d' i hi', getElem!_pos d' j hj'] at this
    rw [Array.getElem?_toList, Array.getElem?_eq_getElem hi'] at hi
    rw [Array.getElem?_toList, Array.getElem?_eq_getElem hj'] at hj
    injection hi with hi
    injection hj with hj
    rw [← hi, ← hj]
    exact this
  · intro i p hi
    have hi' : i < d'.size := by simpa using (List.getElem?_eq_some_iff.1 hi).1
    have hK := holdsK_sortWorldK enc2 2 w g 0 n l.toArray d' os hblk hH (by simpa using hsz)
    have c0 := (hK.cell hi' (c := 0) (by omega)).1
    have c1 := (hK.cell hi' (c := 1) (by omega)).1
    have e : d'[i]! = p := by
      rw [getElem!_pos d' i hi']
      rw [Array.getElem?_toList, Array.getElem?_eq_getElem hi'] at hi
      injection hi
    rw [e] at c0 c1
    exact ⟨g, 0, rfl, by simpa [enc2] using c0, by simpa [enc2] using c1⟩
theorem sorted_none {lt : Int × Int → Int × Int → Bool} {base : Nat} {w : World} (h : base ≤ w.heap.size) : Sorted2 lt base (.slice none 0 0) [] w (.returned (.tuple #[])) w :=
  ⟨rfl, none, 0, [], rfl, List.Perm.refl _, by simp, Spans.nil _ _, Below.refl _ _, NC.refl _⟩

/-- How span.Compare tells two spans apart. -/
def cfS (x y : Int × Int) : Int := if x = y then 0 else if x.1 ≠ y.1 then Lib.compareInt x.1 y.1 else Lib.compareInt x.2 y.2
theorem ltS (x y : Int × Int) : ltOf cfS x y = decide (x.1 < y.1 ∨ x.1 = y.1 ∧ x.2 < y.2) := by
  unfold ltOf cfS Lib.compareInt
  rw [Bool.eq_iff_iff]
  simp only [decide_eq_true_eq]
  rcases x with ⟨a, b⟩
  rcases y with ⟨c, d⟩
  simp only [Prod.mk.injEq]
  by_cases h1 : a = c
  · subst h1
    by_cases h2 : b = d
    · subst h2; simp
    · simp only [h2, and_false, if_false, ne_eq, not_true_eq_false]
      split
      · simp; omega
      · split <;> simp <;> omega
  · simp only [h1, false_and, if_false, ne_eq, not_false_eq_true, if_true]
    split
    · simp; omega
    · split <;> simp <;> omega
theorem swoS : SWO (ltOf cfS) where
  irrefl x := by rw [ltS]; simp
  trans x y z h1 h2 := by rw [ltS] at *; simp at *; omega
  ntrans x y z h1 h2 := by rw [ltS] at *; simp at *; omega
/-- How turns are told apart: by their times. -/
def cfT (x y : Int × Int) : Int := Lib.compareInt x.1 y.1
theorem ltT (x y : Int × Int) : ltOf cfT x y = decide (x.1 < y.1) := by
  unfold ltOf cfT Lib.compareInt
  by_cases h1 : x.1 < y.1
  · simp [h1]
  · by_cases h2 : y.1 < x.1 <;> simp [h1, h2]
theorem swoT : SWO (ltOf cfT) where
  irrefl x := by rw [ltT]; simp
  trans x y z h1 h2 := by rw [ltT] at *; simp at *; omega
  ntrans x y z h1 h2 := by rw [ltT] at *; simp at *; omega

set_option maxHeartbeats 1000000 in
theorem compare_any (x y : Int × Int) (W : World) : Calls Try.prog 45 #[.agg #[.int .i64 x.1, .int .i64 x.2], .agg #[.int .i64 y.1, .int .i64 y.2]] W fun e w' => e = .returned (.int .i64 (cfS x y)) ∧ ∃ q os', w' = grow (W.drewN q) os' := by
  rcases x with ⟨a, b⟩
  rcases y with ⟨c, d⟩
  simp only
  by_cases h1 : a = c
  · subst h1
    have e0 : (a == a) = true := by simp
    by_cases h2 : b = d
    · subst h2
      have e1 : (b == b) = true := by simp
      go_enter Try.func45, Try.ntmps45
      go_wp2_with fail
      go_ret
      exact ⟨ret_int (by simp [cfS]), 0, _, by rw [alloc_eq_grow, alloc_eq_grow, grow_grow]; rfl⟩
    · have e1 : (b == d) = false := by simpa using h2
      have hcon := fun W' => Try.cmp_Compare_int b d W'
      have EQ := Lib.hid (show Lib.compareInt b d = cfS (a, b) (a, d) by simp [cfS, h2])
      generalize Lib.compareInt b d = r at hcon EQ
      go_enter Try.func45, Try.ntmps45
      go_wp2_with (go_at_call 51; refine (hcon _).mono ?_; rintro e w' ⟨rfl, rfl⟩)
      go_ret
      exact ⟨ret_int EQ.out, 0, _, by rw [alloc_eq_grow, alloc_eq_grow, grow_grow]; rfl⟩
  · have e0 : (a == c) = false := by simpa using h1
    have hcon := fun W' => Try.cmp_Compare_int a c W'
    have EQ := Lib.hid (show Lib.compareInt a c = cfS (a, b) (c, d) by simp [cfS, h1])
    generalize Lib.compareInt a c = r at hcon EQ
    go_enter Try.func45, Try.ntmps45
    go_wp2_with (go_at_call 51; refine (hcon _).mono ?_; rintro e w' ⟨rfl, rfl⟩)
    go_ret
    exact ⟨ret_int EQ.out, 0, _, by rw [alloc_eq_grow, alloc_eq_grow, grow_grow]; rfl⟩
set_option maxHeartbeats 1000000 in
theorem cmpT_any (x y : Int × Int) (W : World) : Calls Try.prog 53 #[.agg #[.int .i64 x.1, .int .i64 x.2], .agg #[.int .i64 y.1, .int .i64 y.2]] W fun e w' => e = .returned (.int .i64 (cfT x y)) ∧ ∃ q os', w' = grow (W.drewN q) os' := by
  have hcon := fun W' => Try.cmp_Compare_int x.1 y.1 W'
  unfold cfT
  generalize Lib.compareInt x.1 y.1 = r at hcon ⊢
  go_enter Try.func53, Try.ntmps53
  go_wp2_with (go_at_call 51; refine (hcon _).mono ?_; rintro e w' ⟨rfl, rfl⟩)
  go_ret
  exact ⟨rfl, 0, _, by rw [alloc_eq_grow, alloc_eq_grow, grow_grow]; rfl⟩

theorem enc_one (x : Int × Int) (v : Value) (hv : v ∈ enc2 x) : v.oneCell' = true := by
  simp [enc2] at hv
  rcases hv with rfl | rfl <;> rfl
theorem sort_spans {base : Nat} {v : Value} {l : List (Int × Int)} (w : World) (hown : w.ownsRow base 36 2 v l.length (flat l)) (hl : l.length < 4611686018427387904) (hb0 : base ≤ w.heap.size) :
    Calls Try.prog 44 #[v, .func (.func 45) #[] #[]] w (Sorted2 (ltOf cfS) base v l w) := by
  rcases hown.2 with ⟨rfl, h0⟩ | ⟨g, cap, cur, rfl, hbase, hb, hn, hcap, hcs, ht⟩
  · obtain rfl := List.eq_nil_of_length_eq_zero h0
    refine (AnyF.slices_SortFunc_none Try.sortSpan none 0 _ w).mono ?_
    rintro e w' ⟨rfl, rfl⟩
    exact sorted_none hb0
  · have hlt : g < w.heap.size := (Array.getElem?_eq_some_iff.1 hb).1
    have hH := holds_own hb ht
    have hcon := AnyQ.slices_SortFunc Try.sortSpan 2 Try.isAgg36 Try.sizeOf36 enc2 (fun _ => rfl) enc_one cfS swoS 45 #[] g 0 cap l.toArray w (enters_of Try.func45 (by kernel_rfl) rfl) (fun _ _ _ _ x y => compare_any x y _) hH hlt (by simpa using hl)
    change Calls Try.prog 44 _ _ _ at hcon
    simp only [List.size_toArray] at hcon
    refine hcon.mono ?_
    rintro e w' ⟨rfl, d', n, os, hp, hs, rfl⟩
    exact sorted_of hb hH hlt hbase (by simpa using hp) (by simpa using hs)
theorem sort_turns {base : Nat} {v : Value} {l : List (Int × Int)} (w : World) (hown : w.ownsRow base 61 2 v l.length (flat l)) (hl : l.length < 4611686018427387904) (hb0 : base ≤ w.heap.size) :
    Calls Try.prog 52 #[v, .func (.func 53) #[] #[]] w (Sorted2 (ltOf cfT) base v l w) := by
  rcases hown.2 with ⟨rfl, h0⟩ | ⟨g, cap, cur, rfl, hbase, hb, hn, hcap, hcs, ht⟩
  · obtain rfl := List.eq_nil_of_length_eq_zero h0
    refine (AnyF.slices_SortFunc_none Try.sortTurn none 0 _ w).mono ?_
    rintro e w' ⟨rfl, rfl⟩
    exact sorted_none hb0
  · have hlt : g < w.heap.size := (Array.getElem?_eq_some_iff.1 hb).1
    have hH := holds_own hb ht
    have hcon := AnyQ.slices_SortFunc Try.sortTurn 2 Try.isAgg61 Try.sizeOf61 enc2 (fun _ => rfl) enc_one cfT swoT 53 #[] g 0 cap l.toArray w (enters_of Try.func53 (by kernel_rfl) rfl) (fun _ _ _ _ x y => cmpT_any x y _) hH hlt (by simpa using hl)
    change Calls Try.prog 52 _ _ _ at hcon
    simp only [List.size_toArray] at hcon
    refine hcon.mono ?_
    rintro e w' ⟨rfl, d', n, os, hp, hs, rfl⟩
    exact sorted_of hb hH hlt hbase (by simpa using hp) (by simpa using hs)

end Go.Proofs.Ytmfkcbanjlmmhaa
