/-
  Texts joined into one: what the program's and the document's calls give back, piece by piece.
-/
import Derived.Test.YtnopbhlhdecimaaMg1
import Derived.Test.YtnopbhlhdecimaaMg2
import Derived.Test.YtnopbhlhdecimaaMg3
import Derived.Test.YtnopbhlhdecimaaMg4
import Derived.Test.YtnopbhlhdecimaaMg5
import Derived.Test.YtnopbhlhdecimaaRows
import Derived.BigQuiet
import Derived.ChangeAlike
import Derived.Deep.AppendLies
import Derived.Deep.QuietTactic
import Derived.Deep.RegionHeld3
import Derived.Deep.RegionLaw
import Derived.Handy
import Derived.Lib.Hide
import Derived.Lib.SmallJoins
import Derived.OneCell
import Derived.ProofKit
import Derived.RangeFuncOwn
import Derived.RegionTactic
import Derived.WalkKit
import Derived.WalkLawsBesides
import Derived.WalkSpells
import Derived.Test.YtnopbhlhdecimaaProg
import Derived.ChangeKeysEq
import Derived.Deep.CutBlock
import Derived.Deep.CutRange
import Derived.Deep.Light
import Derived.Deep.LoopGhost
import Derived.Laws.BytesArg
import Derived.Laws.OwnMore
import Derived.Laws.Strings
import Derived.Laws.StructEq
import Derived.Lib.Bytealg
import Derived.Maps.AppendAt
import Derived.Maps.RangeWalk
import Derived.OwnWalk
import Derived.RangeFuncBox
import Derived.Shelf.SlSortCmp.KitK
import Derived.Shelf.SlSortCmp.NoneTotal
import Derived.Sort.KeysCollected
import Derived.Sort.WalkB12
import Derived.Sort.WalkB2
import Derived.StillTailTactics
import Derived.WalkArith
import Derived.IntWalk
import Derived.Lib.QuietBelow
import Derived.LoopIn
import Derived.LoopNIn
import Derived.OrdersIn
import Derived.OwnWalkIn
import Derived.RangeFuncLeaves
import Derived.RangeFuncNested
import Derived.Shelf.Abstract
import Derived.Shelf.RegionOpen
import Derived.TacticsInMore

/-
  Sorting a list of pairs of the call's own: spans by Compare, turns by their times.
-/
namespace Go.Proofs.Ytnopbhlhdecimaa.Co
open Go.RowKit Go.Sort Go.Shelf

/-- A pair's two cells. -/
def enc2 (x : Int × Int) : List Value := [.int .i64 x.1, .int .i64 x.2]
theorem getBang {l : List (Int × Int)} {i : Nat} {p : Int × Int} (h : l[i]? = some p) : l.toArray[i]! = p := by
  obtain ⟨hl, he⟩ := List.getElem?_eq_some_iff.1 h
  rw [getElem!_pos l.toArray i (by simpa using hl)]
  simpa using he
theorem holds_own {w : World} {g : Nat} {cur : Array Value} {ty : TypeId} {l : List (Int × Int)} (hb : w.heap[g]? = some (.cells cur ty (0, 0))) (ht : cur.toList.take (l.length * 2) = flat l) : HoldsK enc2 2 w g 0 l.toArray := by
  intro j hj
  rw [size_flatK] at hj
  have hj' : j < l.length * 2 := by simpa using hj
  have hc : cur[j]? = (flat l)[j]? := by
    rw [← ht, List.getElem?_take, if_pos hj']
    simp
  obtain ⟨p, hp⟩ : ∃ p, l[j / 2]? = some p := ⟨_, List.getElem?_eq_getElem (by omega)⟩
  obtain ⟨e0, e1⟩ := flat_get l (j / 2) p hp
  refine ⟨?_, by simp [World.frozen?, hb]⟩
  rw [get_flatK _ _ _ _ hj, getBang hp]
  rcases Nat.mod_two_eq_zero_or_one j with h | h
  · rw [show j / 2 * 2 = j from by omega] at e0
    rw [e0] at hc
    simp [World.cell?, hb, hc, h, enc2]
  · rw [show j / 2 * 2 + 1 = j from by omega] at e1
    rw [e1] at hc
    simp [World.cell?, hb, hc, h, enc2]
theorem below_sorted {w : World} {base g n : Nat} {d : Array (Int × Int)} {os : Array Obj} (hg : base ≤ g) (hs : base ≤ w.heap.size) : Below base w (sortWorldK enc2 2 w g 0 n d os) := by
  refine ⟨rfl, rfl, rfl, ?_, fun k hk => ?_⟩
  · simp [sortWorldK, putRowK, putRow, mapBlock, grow, Sort.ahead]
  · simp only [sortWorldK, putRowK, putRow, mapBlock, grow, Sort.ahead]
    rw [Array.getElem?_append_left (by simp; omega), Array.getElem?_modify, if_neg (by omega)]

/-- Whatever is no cells lies as it lay. -/
def NC (w w' : World) : Prop := ∀ (k : Nat) (o : Obj), w.heap[k]? = some o → o.isCells = false → w'.heap[k]? = some o
theorem NC.refl (w : World) : NC w w := fun _ _ h _ => h
theorem NC.trans {a b c : World} (h : NC a b) (k : NC b c) : NC a c := fun i o hi ho => k i o (h i o hi ho) ho
theorem nc_sorted {w : World} {g n : Nat} {d : Array (Int × Int)} {os : Array Obj} {cur : Array Value} {ty : TypeId} (hb : w.heap[g]? = some (.cells cur ty (0, 0))) : NC w (sortWorldK enc2 2 w g 0 n d os) := fun k o hk ho => by
  have hne : g ≠ k := by
    rintro rfl
    rw [hb] at hk
    injection hk with hk
    subst hk
    cases ho
  have hlt := (Array.getElem?_eq_some_iff.1 hk).1
  simp only [sortWorldK, putRowK, putRow, mapBlock, grow, Sort.ahead]
  rw [Array.getElem?_append_left (by simp; omega), Array.getElem?_modify, if_neg hne]
  exact hk

/-- What a sort leaves. -/
def Sorted2 (lt : Int × Int → Int × Int → Bool) (base : Nat) (v : Value) (l : List (Int × Int)) (w : World) (e : Ending) (w' : World) : Prop :=
  e = .returned (.tuple #[]) ∧ ∃ A c l', v = .slice A l.length c ∧ l'.Perm l ∧ (∀ (i j : Nat) p q, i < j → l'[i]? = some p → l'[j]? = some q → lt q p = false) ∧ Spans w' A l' ∧ Below base w w' ∧ NC w w'

theorem sorted_of {lt : Int × Int → Int × Int → Bool} {base g cap n : Nat} {l : List (Int × Int)} {w : World} {d' : Array (Int × Int)} {os : Array Obj} {cur : Array Value} {ty : TypeId} (hblk0 : w.heap[g]? = some (.cells cur ty (0, 0))) (hH : HoldsK enc2 2 w g 0 l.toArray) (hblk : g < w.heap.size) (hbase : base ≤ g)
    (hp : PermIn 0 l.toArray.size l.toArray d') (hs : SortedIn lt 0 l.toArray.size d') : Sorted2 lt base (.slice (some ⟨g, 0, none⟩) l.length cap) l w (.returned (.tuple #[])) (sortWorldK enc2 2 w g 0 n d' os) := by
  have hsz : d'.size = l.length := by simpa using hp.1
  refine ⟨rfl, _, _, d'.toList, rfl, ?_, ?_, ?_, below_sorted hbase (by omega), nc_sorted hblk0⟩
  · have := hp.2.2
    simp only [List.size_toArray] at this
    rw [← hsz] at this
    simp only [Array.extract_size] at this
    rw [hsz] at this
    rw [show l.length = l.toArray.size from by simp, Array.extract_size] at this
    simpa using this
  · intro i j p q hij hi hj
    have hi' : i < d'.size := by simpa using (List.getElem?_eq_some_iff.1 hi).1
    have hj' : j < d'.size := by simpa using (List.getElem?_eq_some_iff.1 hj).1
    have := hs i j (Nat.zero_le _) hij (by simp; omega)
    rw [getElem!_pos d' i hi', getElem!_pos d' j hj'] at this
    rw [Array.getElem?_toList, Array.getElem?_eq_getElem hi'] at hi
    rw [Array.getElem?_toList, Array.getElem?_eq_getElem hj'] at hj
    injection hi with hi
    injection hj with hj
    rw [← hi, ← hj]
    exact this
  · intro i p hi
    have hi' : i < d'.size := by simpa using (List.getElem?_eq_some_iff.1 hi).1
    have hK := holdsK_sortWorldK enc2 2 w g 0 n l.toArray d' os hblk hH (by simpa using hsz)
    have c0 := (hK.cell hi' (c := 0) (by omega)).1
    have c1 := (hK.cell hi' (c := 1) (by omega)).1
    have e : d'[i]! = p := by
      rw [getElem!_pos d' i hi']
      rw [Array.getElem?_toList, Array.getElem?_eq_getElem hi'] at hi
      injection hi
    rw [e] at c0 c1
    exact ⟨g, 0, rfl, by simpa [enc2] using c0, by simpa [enc2] using c1⟩
theorem sorted_none {lt : Int × Int → Int × Int → Bool} {base : Nat} {w : World} (_h : base ≤ w.heap.size) : Sorted2 lt base (.slice none 0 0) [] w (.returned (.tuple #[])) w :=
  ⟨rfl, none, 0, [], rfl, List.Perm.refl _, by simp, Spans.nil _ _, Below.refl _ _, NC.refl _⟩

/-- How span.Compare tells two spans apart. -/
def cfS (x y : Int × Int) : Int := if x = y then 0 else if x.1 ≠ y.1 then Lib.compareInt x.1 y.1 else Lib.compareInt x.2 y.2
theorem ltS (x y : Int × Int) : ltOf cfS x y = decide (x.1 < y.1 ∨ x.1 = y.1 ∧ x.2 < y.2) := by
  unfold ltOf cfS Lib.compareInt
  rw [Bool.eq_iff_iff]
  simp only [decide_eq_true_eq]
  rcases x with ⟨a, b⟩
  rcases y with ⟨c, d⟩
  simp only [Prod.mk.injEq]
  by_cases h1 : a = c
  · subst h1
    by_cases h2 : b = d
    · subst h2; simp
    · simp only [h2, and_false, if_false, ne_eq, not_true_eq_false]
      split
      · simp; omega
      · split <;> simp <;> omega
  · simp only [h1, false_and, if_false, ne_eq, not_false_eq_true, if_true]
    split
    · simp; omega
    · split <;> simp <;> omega
theorem swoS : SWO (ltOf cfS) where
  irrefl x := by rw [ltS]; simp
  trans x y z h1 h2 := by rw [ltS] at *; simp at *; omega
  ntrans x y z h1 h2 := by rw [ltS] at *; simp at *; omega
/-- How turns are told apart: by their times. -/
def cfT (x y : Int × Int) : Int := Lib.compareInt x.1 y.1
theorem ltT (x y : Int × Int) : ltOf cfT x y = decide (x.1 < y.1) := by
  unfold ltOf cfT Lib.compareInt
  by_cases h1 : x.1 < y.1
  · simp [h1]
  · by_cases h2 : y.1 < x.1 <;> simp [h1, h2]
theorem swoT : SWO (ltOf cfT) where
  irrefl x := by rw [ltT]; simp
  trans x y z h1 h2 := by rw [ltT] at *; simp at *; omega
  ntrans x y z h1 h2 := by rw [ltT] at *; simp at *; omega

set_option maxHeartbeats 1000000 in
theorem compare_any (x y : Int × Int) (W : World) : Calls Try.prog 44 #[.agg #[.int .i64 x.1, .int .i64 x.2], .agg #[.int .i64 y.1, .int .i64 y.2]] W fun e w' => e = .returned (.int .i64 (cfS x y)) ∧ ∃ q os', w' = grow (W.drewN q) os' := by
  rcases x with ⟨a, b⟩
  rcases y with ⟨c, d⟩
  simp only
  by_cases h1 : a = c
  · subst h1
    have e0 : (a == a) = true := by simp
    by_cases h2 : b = d
    · subst h2
      have e1 : (b == b) = true := by simp
      go_enter Try.func44, Try.ntmps44
      go_wp2_with fail
      go_ret
      exact ⟨ret_int (by simp [cfS]), 0, _, by rw [alloc_eq_grow, alloc_eq_grow, grow_grow]; rfl⟩
    · have e1 : (b == d) = false := by simpa using h2
      have hcon := fun W' => Try.cmp_Compare_int b d W'
      have EQ := Lib.hid (show Lib.compareInt b d = cfS (a, b) (a, d) by simp [cfS, h2])
      generalize Lib.compareInt b d = r at hcon EQ
      go_enter Try.func44, Try.ntmps44
      go_wp2_with (go_at_call 52; refine (hcon _).mono ?_; rintro e w' ⟨rfl, rfl⟩)
      go_ret
      exact ⟨ret_int EQ.out, 0, _, by rw [alloc_eq_grow, alloc_eq_grow, grow_grow]; rfl⟩
  · have e0 : (a == c) = false := by simpa using h1
    have hcon := fun W' => Try.cmp_Compare_int a c W'
    have EQ := Lib.hid (show Lib.compareInt a c = cfS (a, b) (c, d) by simp [cfS, h1])
    generalize Lib.compareInt a c = r at hcon EQ
    go_enter Try.func44, Try.ntmps44
    go_wp2_with (go_at_call 52; refine (hcon _).mono ?_; rintro e w' ⟨rfl, rfl⟩)
    go_ret
    exact ⟨ret_int EQ.out, 0, _, by rw [alloc_eq_grow, alloc_eq_grow, grow_grow]; rfl⟩
theorem enc_one (x : Int × Int) (v : Value) (hv : v ∈ enc2 x) : v.oneCell' = true := by
  simp [enc2] at hv
  rcases hv with rfl | rfl <;> rfl
end Go.Proofs.Ytnopbhlhdecimaa.Co

/-
  Sorting a list of pieces of the call's own by their spans.
-/
namespace Go.Proofs.Ytnopbhlhdecimaa
open Go.RowKit Go.Sort Go.Shelf

instance inhabitedPc8 : Inhabited Pc := ⟨⟨0, 0, none, 0, []⟩⟩
theorem getBangP {l : List Pc} {i : Nat} {p : Pc} (h : l[i]? = some p) : l.toArray[i]! = p := by
  obtain ⟨hl, he⟩ := List.getElem?_eq_some_iff.1 h
  rw [getElem!_pos l.toArray i (by simpa using hl)]
  simpa using he
theorem holds_ownP {w : World} {g : Nat} {cur : Array Value} {ty : TypeId} {l : List Pc} (hb : w.heap[g]? = some (.cells cur ty (0, 0))) (hr : RowE EP w (some ⟨g, 0, none⟩) l) : HoldsK cellsPc 3 w g 0 l.toArray := by
  intro j hj
  rw [size_flatK] at hj
  have hj' : j < l.length * 3 := by simpa using hj
  obtain ⟨p, hp⟩ : ∃ p, l[j / 3]? = some p := ⟨_, List.getElem?_eq_getElem (by omega)⟩
  refine ⟨?_, by simp [World.frozen?, hb]⟩
  rw [get_flatK _ _ _ _ hj, getBangP hp]
  have e1 : j / 3 * 3 + j % 3 = j := by omega
  have hm : j % 3 = 0 ∨ j % 3 = 1 ∨ j % 3 = 2 := by omega
  rcases hm with h | h | h
  all_goals
    have k := hr.at hp (j := j % 3) (by rw [h]; rfl)
    rw [show 0 + j / 3 * EP.sz + j % 3 = 0 + j by show 0 + j / 3 * 3 + j % 3 = 0 + j; omega] at k
    simpa [h] using k
theorem below_sortedP {w : World} {base g n : Nat} {d : Array Pc} {os : Array Obj} (hg : base ≤ g) (hs : base ≤ w.heap.size) : Go.RowKit.Below base w (sortWorldK cellsPc 3 w g 0 n d os) := by
  refine ⟨rfl, rfl, rfl, ?_, fun k hk => ?_⟩
  · simp [sortWorldK, putRowK, putRow, mapBlock, grow, Sort.ahead]
  · simp only [sortWorldK, putRowK, putRow, mapBlock, grow, Sort.ahead]
    rw [Array.getElem?_append_left (by simp; omega), Array.getElem?_modify, if_neg (by omega)]
theorem other_sortedP {w : World} {g n c : Nat} {d : Array Pc} {os : Array Obj} (hc : c < w.heap.size) (hcg : c ≠ g) : (sortWorldK cellsPc 3 w g 0 n d os).heap[c]? = w.heap[c]? := by
  simp only [sortWorldK, putRowK, putRow, mapBlock, grow, Sort.ahead]
  rw [Array.getElem?_append_left (by simp; omega), Array.getElem?_modify, if_neg (by omega)]
theorem drewN_growP (W : World) (os : Array Obj) (q : Nat) : (grow W os).drewN q = grow (W.drewN q) os := rfl
/-- How joined tells two pieces apart. -/
def cfPc (x y : Pc) : Int := Co.cfS (x.f, x.t) (y.f, y.t)
theorem ltPc (x y : Pc) : ltOf cfPc x y = ltOf Co.cfS (x.f, x.t) (y.f, y.t) := rfl
theorem swoPc : SWO (ltOf cfPc) where
  irrefl x := Co.swoS.irrefl (x.f, x.t)
  trans x y z h1 h2 := Co.swoS.trans (x.f, x.t) (y.f, y.t) (z.f, z.t) h1 h2
  ntrans x y z h1 h2 := Co.swoS.ntrans (x.f, x.t) (y.f, y.t) (z.f, z.t) h1 h2
set_option maxHeartbeats 1000000 in
theorem cmpP_any (x y : Pc) (W : World) : Calls Try.prog 43 #[pv x, pv y] W fun e w' => e = .returned (.int .i64 (cfPc x y)) ∧ ∃ q os', w' = grow (W.drewN q) os' := by
  have hcon := fun W' => Co.compare_any (x.f, x.t) (y.f, y.t) W'
  unfold cfPc
  generalize Co.cfS (x.f, x.t) (y.f, y.t) = r at hcon ⊢
  go_enter Try.func43, Try.ntmps43
  go_wp2_with (go_at_call 44; with_reducible refine (hcon _).mono ?_; rintro e w' ⟨rfl, q, os', rfl⟩)
  go_ret
  exact ⟨rfl, q, _, by rw [alloc_eq_grow, alloc_eq_grow, grow_grow, drewN_growP, grow_grow]⟩
theorem cellsPc_one (x : Pc) (v : Value) (hv : v ∈ cellsPc x) : v.oneCell' = true := EP.one x v hv
/-- What the sort leaves. -/
def SortPostP (base : Nat) (v : Value) (l : List Pc) (w : World) (e : Ending) (w' : World) : Prop :=
  e = .returned (.tuple #[]) ∧ ∃ m, l.Perm m ∧ m.Pairwise (fun x y => x.f ≤ y.f) ∧ ListE EP w' v m ∧ Go.RowKit.Below base w w' ∧ ∀ c, c < w.heap.size → v.ownBlock ≠ some c → w'.heap[c]? = w.heap[c]?
theorem sorted_ofP {base g cap n : Nat} {l : List Pc} {w : World} {d' : Array Pc} {os : Array Obj} (hH : HoldsK cellsPc 3 w g 0 l.toArray) (hblk : g < w.heap.size) (hbase : base ≤ g) (hcap : l.length ≤ cap)
    (hp : PermIn 0 l.toArray.size l.toArray d') (hs : SortedIn (ltOf cfPc) 0 l.toArray.size d') : SortPostP base (.slice (some ⟨g, 0, none⟩) l.length cap) l w (.returned (.tuple #[])) (sortWorldK cellsPc 3 w g 0 n d' os) := by
  have hsz : d'.size = l.length := by simpa using hp.1
  have hlen : d'.toList.length = l.length := by simpa using hsz
  refine ⟨rfl, d'.toList, ?_, ?_, ⟨some ⟨g, 0, none⟩, cap, by rw [hlen], ?_, by rw [hlen]; exact hcap, fun h => by cases h⟩, below_sortedP hbase (by omega), fun c hc hne => other_sortedP hc fun e => hne (by rw [e]; rfl)⟩
  · have := hp.2.2
    simp only [List.size_toArray] at this
    rw [← hsz] at this
    simp only [Array.extract_size] at this
    rw [hsz] at this
    rw [show l.length = l.toArray.size from by simp, Array.extract_size] at this
    have h2 : d'.toList.Perm l := by simpa using this
    exact h2.symm
  · rw [List.pairwise_iff_getElem]
    intro i j hi hj hij
    have hi' : i < d'.size := by simpa using hi
    have hj' : j < d'.size := by simpa using hj
    have := hs i j (Nat.zero_le _) hij (by simp; omega)
    rw [getElem!_pos d' i hi', getElem!_pos d' j hj', ltPc, Co.ltS] at this
    simp at this
    have h1 : d'.toList[i].f = d'[i].f := by simp
    have h2 : d'.toList[j].f = d'[j].f := by simp
    rw [h1, h2]
    omega
  · intro i p hi
    have hi' : i < d'.size := by simpa using (List.getElem?_eq_some_iff.1 hi).1
    have hK := holdsK_sortWorldK cellsPc 3 w g 0 n l.toArray d' os hblk hH (by simpa using hsz)
    have e : d'[i]! = p := by
      rw [getElem!_pos d' i hi']
      rw [Array.getElem?_toList, Array.getElem?_eq_getElem hi'] at hi
      injection hi
    have c0 := (hK.cell hi' (c := 0) (by omega)).1
    have c1 := (hK.cell hi' (c := 1) (by omega)).1
    have c2 := (hK.cell hi' (c := 2) (by omega)).1
    rw [e] at c0 c1 c2
    refine ⟨g, 0, rfl, fun j u hu => ?_⟩
    have hj : j = 0 ∨ j = 1 ∨ j = 2 := by
      have := (List.getElem?_eq_some_iff.1 hu).1
      have h3 : (EP.cells p).length = 3 := rfl
      omega
    rcases hj with rfl | rfl | rfl
    · cases hu; rw [show EP.sz = 3 from rfl]; simpa using c0
    · cases hu; rw [show EP.sz = 3 from rfl]; simpa using c1
    · cases hu; rw [show EP.sz = 3 from rfl]; simpa using c2
theorem sort_piecesP {base : Nat} {v : Value} {l : List Pc} (w : World) (hown : ownE EP w base v l) (hl : l.length < 4611686018427387904) :
    Calls Try.prog 42 #[v, .func (.func 43) #[] #[]] w (SortPostP base v l w) := by
  have hrow := ownE_list hown
  rcases hown.2 with ⟨rfl, h0⟩ | ⟨g, cap, cur, rfl, hbase, hb, hn, hcap, hcs, ht⟩
  · obtain rfl := List.eq_nil_of_length_eq_zero h0
    refine (AnyF.slices_SortFunc_none Try.sortPc none 0 _ w).mono ?_
    rintro e w' ⟨rfl, rfl⟩
    exact ⟨rfl, [], List.Perm.refl _, List.Pairwise.nil, ListE.nil _, Go.RowKit.Below.refl _ _, fun _ _ _ => rfl⟩
  · have hlt : g < w.heap.size := (Array.getElem?_eq_some_iff.1 hb).1
    obtain ⟨A2, c2, he, hr, _⟩ := hrow
    injection he with he _ _
    rw [← he] at hr
    have hH := holds_ownP hb hr
    have hcon := AnyQ.slices_SortFunc Try.sortPc 3 Try.isAgg45 Try.sizeOf45 cellsPc (fun _ => rfl) cellsPc_one cfPc swoPc 43 #[] g 0 cap l.toArray w (enters_of Try.func43 (by kernel_rfl) rfl) (fun _ _ _ _ x y => cmpP_any x y _) hH hlt (by simpa using hl)
    change Calls Try.prog 42 _ _ _ at hcon
    simp only [List.size_toArray] at hcon
    refine hcon.mono ?_
    rintro e w' ⟨rfl, d', n, os, hp, hs, rfl⟩
    exact sorted_ofP hH hlt hbase hn (by simpa using hp) (by simpa using hs)

end Go.Proofs.Ytnopbhlhdecimaa

/-
  rising: the right spans of a list in order, in a list of its own.
-/
namespace Go.Proofs.Ytnopbhlhdecimaa.Co
open Go.RowKit Go.Sort Go.Shelf

/-- What lies while spans are gathered. -/
def SpRel (W : World) (l : List (Int × Int)) (v : Value) (wr : World) : Prop := wr.ownsRow W.heap.size 42 2 v l.length (flat l) ∧ Below W.heap.size W wr
theorem SpRel.nil (W : World) : SpRel W [] (.slice none 0 0) W := ⟨World.ownsRow_nil _ _ _ _, bl _⟩
theorem SpRel.step {W wr w1 : World} {l : List (Int × Int)} {v : Value} (h : SpRel W l v wr) (hb : Below wr.heap.size wr w1) : SpRel W l v w1 := ⟨own_below h.1 hb, chain h.2 hb⟩
theorem SpRel.app {W wr w1 : World} {l : List (Int × Int)} {v v1 : Value} {o : Obj} {f t : Int} (h : SpRel W l v wr) (hg : (wr.alloc o).grownBy w1 v.ownBlock) (hown : w1.ownsRow W.heap.size 42 2 v1 (l.length + 1) (flat l ++ [.int .i64 f, .int .i64 t])) : SpRel W (l ++ [(f, t)]) v1 w1 :=
  ⟨by rw [flat_snoc, List.length_append]; exact hown, below_app h.2 hg h.2.size (fun k hk => (h.1.lt k hk).1)⟩

/-- Of the first k spans those that are right. -/
def rights (l : List Sp) (k : Nat) : List Sp := (l.take k).filter fun p => rightB p.1 p.2
theorem rights_yes {l : List Sp} {k : Nat} {f t : Int} (hp : l[k]? = some (f, t)) (h : rightB f t = true) : rights l (k + 1) = rights l k ++ [(f, t)] := by
  simp [rights, List.take_add_one, hp, List.filter_append, h]
theorem rights_no {l : List Sp} {k : Nat} {f t : Int} (hp : l[k]? = some (f, t)) (h : rightB f t = false) : rights l (k + 1) = rights l k := by
  simp [rights, List.take_add_one, hp, List.filter_append, h]
theorem rights_le (l : List Sp) (k : Nat) : (rights l k).length ≤ k := Nat.le_trans (List.length_filter_le _ _) (List.length_take_le _ _)
theorem rights_all {l : List Sp} {k : Nat} (h : l.length ≤ k) : rights l k = l.filter fun p => rightB p.1 p.2 := by rw [rights, List.take_of_length_le h]

/-- What rising leaves. -/
def RisePost (l : List Sp) (w : World) (e : Ending) (w' : World) : Prop :=
  ∃ A c s, e = .returned (.slice A s.length c) ∧ Spans w' A s ∧ s.Perm (l.filter fun p => rightB p.1 p.2) ∧ (∀ (i j : Nat) (p q : Sp), i < j → s[i]? = some p → s[j]? = some q → p.1 ≤ q.1) ∧ Below w.heap.size w w'

end Go.Proofs.Ytnopbhlhdecimaa.Co

/-
  Make: the cover that has just the times that the list has.
-/
namespace Go.Proofs.Ytnopbhlhdecimaa.Co
open Go.RowKit Go.Sort Go.Shelf

theorem own_block {w : World} {base e size n g cap : Nat} {xs : List Value} (h : w.ownsRow base e size (.slice (some ⟨g, 0, none⟩) n cap) n xs) : ∃ cur, w.heap[g]? = some (.cells cur e (0, 0)) ∧ n ≤ cap ∧ cap ≤ maxLen ∧ cur.size = cap * size ∧ cur.toList.take (n * size) = xs ∧ base ≤ g := by
  rcases h.2 with ⟨hv, _⟩ | ⟨g', cap', cur, hv, h1, h2, h3⟩
  · cases hv
  · injection hv with e1 e2 e3
    injection e1 with e1
    injection e1 with e1
    subst e1 e3
    exact ⟨cur, h2, h3.1, h3.2.1, h3.2.2.1, h3.2.2.2, h1⟩
theorem own_frozen {w : World} {base e size n g cap : Nat} {xs : List Value} (h : w.ownsRow base e size (.slice (some ⟨g, 0, none⟩) n cap) n xs) (o : Nat) : w.frozen? ⟨g, o, none⟩ = false := by
  obtain ⟨cur, hb, _⟩ := own_block h
  simp [World.frozen?, hb]
/-- One cell of a row of the call's own is stored. -/
theorem own_set {w : World} {base e size n g cap : Nat} {xs : List Value} (h : w.ownsRow base e size (.slice (some ⟨g, 0, none⟩) n cap) n xs) (j : Nat) (u : Value) : (w.setCell ⟨g, j, none⟩ u).ownsRow base e size (.slice (some ⟨g, 0, none⟩) n cap) n (xs.set j u) := by
  obtain ⟨cur, hb, h1, h2, h3, h4, h5⟩ := own_block h
  refine ⟨by rw [List.length_set]; exact h.1, .inr ⟨g, cap, cur.setIfInBounds j u, rfl, h5, ?_, h1, h2, by simpa using h3, ?_⟩⟩
  · simp [World.setCell, Array.getElem?_modify, hb]
  · rw [← h4, Array.toList_setIfInBounds, List.take_set]
theorem flat_length (l : List Sp) : (flat l).length = l.length * 2 := by
  induction l with
  | nil => rfl
  | cons p l ih =>
    have e : flat (p :: l) = .int .i64 p.1 :: .int .i64 p.2 :: flat l := by simp [flat]
    rw [e]
    simp only [List.length_cons, ih]
    omega
theorem flat_set (m : List Sp) (a b y : Int) : (flat (m ++ [(a, b)])).set (m.length * 2 + 1) (.int .i64 y) = flat (m ++ [(a, y)]) := by
  rw [flat_snoc, flat_snoc, List.set_append_right _ _ (by rw [flat_length]; omega), flat_length]
  rw [show m.length * 2 + 1 - m.length * 2 = 1 from by omega]
  rfl
/-- A cover comes back, in a list of its own. -/
def CovPost (S : Int → Prop) (K : Nat) (w : World) (e : Ending) (w' : World) : Prop :=
  ∃ A c m, e = .returned (.slice A m.length c) ∧ Spans w' A m ∧ CovOf m S ∧ m.length ≤ K ∧ Below w.heap.size w w' ∧ (m.length ≤ c ∧ (A = none → c = 0))
theorem take_snoc {s : List Sp} {k : Nat} {p : Sp} (h : s[k]? = some p) : s.take (k + 1) = s.take k ++ [p] := by rw [List.take_add_one, h]; rfl
theorem take_le {s : List Sp} (hs : ∀ (i j : Nat) (p q : Sp), i < j → s[i]? = some p → s[j]? = some q → p.1 ≤ q.1) {k : Nat} {a : Sp} (h : s[k]? = some a) : ∀ p ∈ s.take k, p.1 ≤ a.1 := fun p hp => by
  obtain ⟨i, hi⟩ := List.getElem?_of_mem hp
  rw [List.getElem?_take] at hi
  split at hi
  · exact hs i k p a (by omega) hi h
  · cases hi
/-- A cover comes back, and the call owns its list. -/
def MakePost (S : Int → Prop) (K : Nat) (w : World) (e : Ending) (w' : World) : Prop :=
  ∃ v m, e = .returned v ∧ SpRel w m v w' ∧ CovOf m S ∧ m.length ≤ K
theorem own_lower {w : World} {b b' e size n : Nat} {v : Value} {xs : List Value} (hb : b ≤ b') (h : w.ownsRow b' e size v n xs) : w.ownsRow b e size v n xs := by
  refine ⟨h.1, ?_⟩
  rcases h.2 with h2 | ⟨g, cap, cur, hv, hg, r⟩
  · exact .inl h2
  · exact .inr ⟨g, cap, cur, hv, by omega, r⟩
/-- What holds at the head of each round of Make. -/
def MkRel (W : World) (s m : List Sp) (k : Nat) (v : Value) (wr : World) : Prop := Made m (s.take k) ∧ SpRel W m v wr

end Go.Proofs.Ytnopbhlhdecimaa.Co

/-
  The document's Make, Gaps and Long.
-/
namespace Go.Proofs.Ytnopbhlhdecimaa.Co
open Go.RowKit

theorem kind_make (l : List Sp) (x : Int) : KindP 0 l [] x ↔ Mem l x := by simp [KindP, kindB, memB_iff, show memB [] x = false from rfl]

theorem CovPost.weaken {S T : Int → Prop} {K : Nat} {w w0 : World} {e : Ending} {w' : World} (h : CovPost S K w e w') (hs : ∀ x, S x ↔ T x) (hb : Below w0.heap.size w0 w) : CovPost T K w0 e w' := by
  obtain ⟨A, c, m, he, hsp, hc, hl, hb', hcc⟩ := h
  exact ⟨A, c, m, he, hsp, ⟨hc.1, fun x => (hc.2 x).trans (hs x)⟩, hl, chain hb hb', hcc⟩

theorem spans_one {w : World} {f t : Int} (ty : TypeId) : Spans (w.alloc (.cells #[.int .i64 f, .int .i64 t] ty)) (some ⟨w.heap.size, 0, none⟩) [(f, t)] := fun i p hp => by
  rcases i with _ | i
  · obtain rfl : (f, t) = p := by simpa using hp
    exact ⟨_, _, rfl, by simp [go_sem], by simp [go_sem]⟩
  · simp at hp

theorem Cov.take {l : List Sp} (h : Cov l) (k : Nat) : Cov (l.take k) := ⟨fun p hp => h.1 p (List.mem_of_mem_take hp), h.2.sublist (List.take_sublist _ _)⟩
/-- What a loop has added up. -/
theorem lens_next {m : List Sp} (h : Cov m) {k : Nat} {f t : Int} (hp : m[k]? = some (f, t)) : lens (m.take (k + 1)) = lens (m.take k) + (t - f) ∧ rightB f t = true ∧ 0 ≤ lens (m.take (k + 1)) ∧ lens (m.take (k + 1)) ≤ 2199023255552 := by
  refine ⟨?_, h.1 _ (List.mem_of_getElem? hp), (lens_nonneg (h.take (k + 1))).1, (lens_nonneg (h.take (k + 1))).2⟩
  rw [take_snoc hp, lens_snoc]

/-- What Long leaves. -/
def LongPost (S : Int → Prop) (w : World) (e : Ending) (w' : World) : Prop := ∃ m, CovOf m S ∧ e = .returned (.int .i64 (lens m)) ∧ Below w.heap.size w w'

end Go.Proofs.Ytnopbhlhdecimaa.Co

/-
  The program's Same and Known of pieces.
-/
namespace Go.Proofs.Ytnopbhlhdecimaa
open Go.RowKit

set_option maxRecDepth 100000 in
theorem run_eql_sp (a b c d : Int) (w : World) : (binOp .eql 42 (.agg #[.int .i64 a, .int .i64 b]) (.agg #[.int .i64 c, .int .i64 d])).run Try.prog w = .ok (.bool (decide (a = c ∧ b = d))) w := by
  rw [run_eql_struct, run_equalIn_struct w 9999 42 _ _ Try.underlying42 (by kernel_rfl)]
  have h3 := Try.underlying3
  have a3 : ∀ w, (isAgg 3).run Try.prog w = .ok false w := Try.isAgg3
  have c3 : Try.prog.cellsOf 3 = 1 := by kernel_rfl
  simp [Op.eqFields, Program.fieldsOf, Try.underlying42, part, a3, run_equalIn_int w 9998 _ .i64 .i64 _ _ h3]
  by_cases h1 : a = c
  · by_cases h2 : b = d <;> simp [h1, h2]
  · simp [h1]

set_option maxHeartbeats 4000000 in
set_option maxRecDepth 10000 in
theorem ptsame1_any (w : World) (p q : Pc) (hp : PF w p) (hq : PF w q) (hpl : p.fs.length ≤ 1000000) (hql : q.fs.length ≤ 1000000) : Ret 55 #[pv p, pv q] w (.bool (sameP1 p q)) := by
  have hb1 : Below w.heap.size w (w.alloc (ocP p)) := (bl w).alloc (Nat.le_refl _) _
  have hb2 : Below w.heap.size w ((w.alloc (ocP p)).alloc (ocP q)) := hb1.alloc hb1.size _
  have CO := Lib.hid (fun w' (h : Below w.heap.size w w') => psame_any w' (.slice p.fa p.fs.length p.fc) (.slice q.fa q.fs.length q.fc) p.fs q.fs (hp.below h).list (hq.below h).list (by omega) (by omega))
  have HB2 := Lib.hid hb2
  clear hb1 hb2 hp hq hpl hql
  by_cases h : p.f = q.f ∧ p.t = q.t
  · have h' : ∀ w, (binOp .eql 42 (.agg #[.int .i64 p.f, .int .i64 p.t]) (.agg #[.int .i64 q.f, .int .i64 q.t])).run Try.prog w = .ok (.bool true) w := fun w => by rw [run_eql_sp, decide_eq_true h]
    have HE := Lib.hid (show sameP1 p q = sameF p.fs q.fs by unfold sameP1; rw [decide_eq_true h.1, decide_eq_true h.2]; rfl)
    rw [HE.out]
    clear h
    generalize sameF p.fs q.fs = s at *
    go_enter Try.func55, Try.ntmps55
    go_wp2_with (go_at_call 38; (with_reducible refine (CO.out _ HB2.out).mono ?_); rintro e w2 ⟨rfl, hb2⟩)
    go_ret
    exact ⟨rfl, chain HB2.out hb2⟩
  · have h' : ∀ w, (binOp .eql 42 (.agg #[.int .i64 p.f, .int .i64 p.t]) (.agg #[.int .i64 q.f, .int .i64 q.t])).run Try.prog w = .ok (.bool false) w := fun w => by rw [run_eql_sp, decide_eq_false h]
    have HE := Lib.hid (show sameP1 p q = false by
      unfold sameP1
      have : (decide (p.f = q.f) && decide (p.t = q.t)) = false := by
        rw [Bool.and_eq_false_iff, decide_eq_false_iff_not, decide_eq_false_iff_not]
        by_cases h1 : p.f = q.f
        · exact .inr fun k => h ⟨h1, k⟩
        · exact .inl h1
      rw [this, Bool.false_and])
    rw [HE.out]
    clear h
    go_enter Try.func55, Try.ntmps55
    go_wp2_with fail
    go_ret
    exact ⟨rfl, HB2.out⟩

abbrev samer : Value := .func (.func 55) #[] #[]
set_option maxHeartbeats 4000000 in
set_option maxRecDepth 10000 in
theorem pteq_any (w : World) (ua ub : Value) (a b : List Pc) (ha : PcsL w ua a) (hb : PcsL w ub b) (hn : a.length ≤ 1000) (ha2 : ∀ p ∈ a, p.fs.length ≤ 1000000) (hb2 : ∀ p ∈ b, p.fs.length ≤ 1000000) : Ret 54 #[ua, ub, samer] w (.bool (sameP a b)) := by
  obtain ⟨⟨A, c, rfl, hA, hc1, hc2⟩, hVA⟩ := ha
  obtain ⟨⟨B, d, rfl, hB, hd1, hd2⟩, hVB⟩ := hb
  by_cases hnm : a.length ≠ b.length
  · have HS := Lib.hid (sameP_len a b hnm)
    have hne : ((a.length : Int) != (b.length : Int)) = true := by rw [bne_iff_ne]; omega
    clear hA hB hVA hVB ha2 hb2 hc1 hc2 hd1 hd2
    generalize a.length = n at *
    generalize b.length = m at *
    go_enter Try.func54, Try.ntmps54
    go_wp2_with fail
    go_ret
    exact ⟨ret_bool HS.out.symm, bl w⟩
  · obtain ⟨n, hn1⟩ : ∃ n, a.length = n := ⟨_, rfl⟩
    have hn2 : b.length = n := by omega
    obtain ⟨t, ht⟩ : ∃ t, sameP a b = t := ⟨_, rfl⟩
    have HT := Lib.hid ht
    rw [hn1] at hn hc1 ⊢
    rw [hn2] at hd1
    rw [hn2, ht]
    have HA := Lib.hid hA
    have HB := Lib.hid hB
    have HVA := Lib.hid hVA
    have HVB := Lib.hid hVB
    have HA2 := Lib.hid ha2
    have HB2 := Lib.hid hb2
    have HN1 := Lib.hid hn1
    have HN2 := Lib.hid hn2
    clear hA hB hn1 hn2 hnm ht hVA hVB ha2 hb2 hc2 hd2
    go_enter Try.func54, Try.ntmps54
    go_wp2_with fail
    go_loopw [17] (fun i wr => ∃ k : Nat, k ≤ n ∧ i = .int .i64 k ∧ t = sameP (a.drop k) (b.drop k) ∧ Below w.heap.size w wr) (fun i _ => n - (intOf i).toNat)
    case atStart => exact ⟨0, Nat.zero_le _, rfl, HT.out.symm, bl w⟩
    case round =>
      obtain ⟨k, hk, rfl, hg, hW⟩ := hrel
      have HW := Lib.hid hW
      clear hW
      by_cases hlt : k < n
      · have hlt' : (k : Int) < (n : Int) := by omega
        obtain ⟨x, hx⟩ : ∃ x, a[k]? = some x := ⟨_, List.getElem?_eq_getElem (by have := HN1.out; omega)⟩
        obtain ⟨y, hy⟩ : ∃ y, b[k]? = some y := ⟨_, List.getElem?_eq_getElem (by have := HN2.out; omega)⟩
        obtain ⟨g1, off, rfl, hX⟩ := (HA.out.below HW.out).cells3 hx
        obtain ⟨g2, off', rfl, hY⟩ := (HB.out.below HW.out).cells3 hy
        have hsx := HA2.out x (List.mem_of_getElem? hx)
        have hsy := HB2.out y (List.mem_of_getElem? hy)
        have hb1 : Below wr.heap.size wr (wr.alloc (ocP x)) := (bl wr).alloc (Nat.le_refl _) _
        have hb2 : Below wr.heap.size wr ((wr.alloc (ocP x)).alloc (ocP y)) := hb1.alloc hb1.size _
        have CO := Lib.hid (ptsame1_any ((wr.alloc (ocP x)).alloc (ocP y)) x y ((HVA.out x (List.mem_of_getElem? hx)).below (chain HW.out hb2)) ((HVB.out y (List.mem_of_getElem? hy)).below (chain HW.out hb2)) hsx hsy)
        rw [drop_consL hx, drop_consL hy, sameP] at hg
        have HY1 := Lib.hid (hY.below hb1)
        have HC2 := Lib.hid (chain HW.out hb2)
        obtain ⟨z0, z1, z2⟩ := hX
        obtain ⟨y0, y1, y2⟩ := HY1.out
        generalize sameP1 x y = s at *
        clear hsx hsy hx hy hb1 hb2 hY
        cases s with
        | true =>
          have HG := Lib.hid (show t = sameP (a.drop (k + 1)) (b.drop (k + 1)) by rw [hg, Bool.true_and])
          clear hg
          go_wp2_with (go_at_call 55; (with_reducible refine CO.out.mono ?_); rintro e w2 ⟨rfl, hb2⟩)
          exact ⟨⟨k + 1, by omega, by go_num, HG.out, chain HC2.out hb2⟩, by simp [intOf] <;> omega⟩
        | false =>
          have HG := Lib.hid (show t = false by rw [hg, Bool.false_and])
          clear hg
          go_wp2_with (go_at_call 55; (with_reducible refine CO.out.mono ?_); rintro e w2 ⟨rfl, hb2⟩)
          go_ret
          exact ⟨ret_bool HG.out.symm, chain HC2.out hb2⟩
      · obtain rfl : k = n := by omega
        have hlt' : ¬ (k : Int) < (k : Int) := by omega
        rw [List.drop_of_length_le (by have := HN1.out; omega), List.drop_of_length_le (by have := HN2.out; omega)] at hg
        have HG := Lib.hid (show t = true from hg)
        clear hg
        go_wp2_with fail
        go_ret
        exact ⟨ret_bool HG.out.symm, HW.out⟩

set_option maxHeartbeats 1000000 in
theorem ptsame_any (w : World) (ua ub : Value) (a b : List Pc) (ha : PcsL w ua a) (hb : PcsL w ub b) (hn : a.length ≤ 1000) (ha2 : ∀ p ∈ a, p.fs.length ≤ 1000000) (hb2 : ∀ p ∈ b, p.fs.length ≤ 1000000) : Ret 48 #[ua, ub] w (.bool (sameP a b)) := by
  have CO := Lib.hid (pteq_any w ua ub a b ha hb hn ha2 hb2)
  generalize sameP a b = s at *
  obtain ⟨⟨A, c, rfl, _, _, _⟩, _⟩ := ha
  obtain ⟨⟨B, d, rfl, _, _, _⟩, _⟩ := hb
  clear hn ha2 hb2
  go_enter Try.func48, Try.ntmps48
  go_wp2_with (go_at_call 54; (with_reducible refine CO.out.mono ?_); rintro e w2 ⟨rfl, hb2⟩)
  go_ret
  exact ⟨rfl, hb2⟩

end Go.Proofs.Ytnopbhlhdecimaa

/-
  The program's Back, had and wrong.
-/
namespace Go.Proofs.Ytnopbhlhdecimaa
open Go.RowKit

theorem CKF.below {w w' : World} {c : Ch} (h : CKF w c) (hb : Below w.heap.size w w') : CKF w' c := h.kt (.of_below hb)
/-- Blocks of fields lie where a list of changes has grown. -/
theorem CKF.grown {w w' : World} {tmp : Obj} {base : Nat} {v : Value} {L : List Ch} {c : Ch} (h : CKF w c) (hown : ownE ED12 w base v L) (hg : (w.alloc tmp).grownBy w' v.ownBlock) : CKF w' c := h.ft fun k cur hk => keptD hown hg hk (fun cur' e => by injection e with _ e _; revert e; decide)
theorem boxC_grown {w w' : World} {tmp : Obj} {q : Nat} {v : Value} {p : Ch} (h : BoxC w q p) (hq : q < w.heap.size) (hg : (w.alloc tmp).grownBy w' v.ownBlock) (hlt : ∀ g, v.ownBlock = some g → g < q) : BoxC w' q p := by
  have e : w'.heap[q]? = w.heap[q]? := by
    rw [hg.block q (by simp; omega) (fun e => by have := hlt q e.symm; omega), Go.RowKit.Below.heap_alloc w tmp q hq]
  obtain ⟨h0, h1, h2, h3, h4, h5⟩ := h
  exact ⟨(World.cell?_of_block (a := ⟨q, _, none⟩) e).trans h0, (World.cell?_of_block (a := ⟨q, _, none⟩) e).trans h1, (World.cell?_of_block (a := ⟨q, _, none⟩) e).trans h2, (World.cell?_of_block (a := ⟨q, _, none⟩) e).trans h3, (World.cell?_of_block (a := ⟨q, _, none⟩) e).trans h4, (World.cell?_of_block (a := ⟨q, _, none⟩) e).trans h5⟩
theorem row_take {w : World} {A : Option Addr} {l : List Pc} (h : RowE EP w A l) (k : Nat) : RowE EP w A (l.take k) := fun i p hp => by
  rw [List.getElem?_take] at hp
  split at hp
  · exact h i p hp
  · cases hp
/-- What Back leaves. -/
def PBackPost (l : List Ch) (w : World) (e : Ending) (w' : World) : Prop := ∃ x m, e = .returned x ∧ ChsL ED12 w' x m ∧ pgs m = pgs (l.map backC) ∧ Below w.heap.size w w'
set_option maxHeartbeats 8000000 in
set_option maxRecDepth 100000 in
theorem pdback_post (w : World) (u : Value) (l : List Ch) (hl : ChsL ED12 w u l) (hn : l.length ≤ 1000) (hf : ∀ c ∈ l, c.os.length ≤ 20 ∧ c.ns.length ≤ 20) : Calls Try.prog 13 #[u] w (PBackPost l w) := by
  obtain ⟨⟨A, c, rfl, hA, hc, hnc⟩, hCF⟩ := hl
  have HA := Lib.hid hA
  have HCF := Lib.hid hCF
  have HF := Lib.hid hf
  obtain ⟨n, hnm⟩ : ∃ n, l.length = n := ⟨_, rfl⟩
  rw [hnm] at hn hc ⊢
  have HN := Lib.hid hnm
  clear hA hc hnc hnm hCF hf
  go_enter Try.func13, Try.ntmps13
  go_wp2_with fail
  go_loopw [3, 8] (fun o i wr => ∃ (t : Nat) (vs : List Ch), t ≤ n ∧ i = .int .i64 (t : Nat) ∧ pgs vs = pgs ((l.take t).map backC) ∧ OE ED12 w vs o wr ∧ ∀ d ∈ vs, CKF wr d) (fun _ i _ => n - (intOf i).toNat)
  case atStart => exact ⟨0, [], Nat.zero_le _, rfl, rfl, OE.nil w, fun d hd => by simp at hd⟩
  case round =>
    obtain ⟨t, vs, ht, rfl, hvs, hO, hck⟩ := hrel
    have HO := Lib.hid hO
    have HVS := Lib.hid hvs
    have HCK := Lib.hid hck
    clear hvs hO hck
    have HLV := Lib.hid (show vs.length = t by
      have h := congrArg List.length HVS.out
      unfold pgs at h
      rw [List.length_map, List.length_map, List.length_map, List.length_take] at h
      have := HN.out
      omega)
    by_cases hlt : t < n
    · have hlt' : (t : Int) < (n : Int) := by omega
      obtain ⟨p, hx⟩ : ∃ p, l[t]? = some p := ⟨_, List.getElem?_eq_getElem (by have := HN.out; omega)⟩
      obtain ⟨g, off, rfl, hX⟩ := (HA.out.below HO.out.bel).cells6d hx
      have hcf := HCF.out p (List.mem_of_getElem? hx)
      have hff := HF.out p (List.mem_of_getElem? hx)
      have NX := Lib.hid (show ∀ (A1 A2 : Option Addr) (c1 c2 : Nat), pgs (vs ++ [⟨p.f, p.t, p.has, p.had, A1, c1, p.ns, A2, c2, p.os⟩]) = pgs ((l.take (t + 1)).map backC) from fun A1 A2 c1 c2 => by
        rw [List.take_add_one, hx, Option.toList_some, List.map_append]
        have h := HVS.out
        unfold pgs at h ⊢
        rw [List.map_append, List.map_append, h]
        rfl)
      have hb1 : Below wr.heap.size wr (wr.alloc (.cells #[.int .i64 p.f, .int .i64 p.t, .bool p.had, .bool p.has, .slice p.oa p.os.length p.oc, .slice p.na p.ns.length p.nc] TDc)) := (bl wr).alloc (Nat.le_refl _) _
      have HB1 := Lib.hid hb1
      have CC1 := Lib.hid (fun W' (h : Below wr.heap.size wr W') => cloneF_any W' p.na p.nc p.ns (hcf.2.1.below (chain HO.out.bel h)) hcf.2.2.2 (by omega))
      have CC2 := Lib.hid (fun W' (h : Below wr.heap.size wr W') => cloneF_any W' p.oa p.oc p.os (hcf.1.1.below (chain HO.out.bel h)) hcf.1.2.2 (by omega))
      have HBC := Lib.hid (show BoxC (wr.alloc (.cells #[.int .i64 p.f, .int .i64 p.t, .bool p.had, .bool p.has, .slice p.oa p.os.length p.oc, .slice p.na p.ns.length p.nc] TDc)) wr.heap.size p from ⟨by simp [go_sem], by simp [go_sem], by simp [go_sem], by simp [go_sem], by simp [go_sem], by simp [go_sem]⟩)
      obtain ⟨z0, z1, z2, z3, z4, z5⟩ := hX
      clear hx hcf hff hb1
      go_upto_region 5 with fail
      refine abstract_worldW (fun W => Below wr.heap.size wr W ∧ BoxC W wr.heap.size p ∧ wr.heap.size < W.heap.size) ⟨HB1.out, HBC.out, by simp⟩ ?_
      rintro W ⟨hw1, hw2, hw3⟩
      clear z0 z1 z2 z3 z4 z5
      have HW := Lib.hid hw1
      have HLW := Lib.hid hw3
      have MK := Lib.hid (show ∀ W', Below W.heap.size W W' → BoxC W' wr.heap.size p from fun W' h => hw2.below h)
      have HOW := Lib.hid (HO.out.below hw1)
      clear hw1 hw2 hw3
      first
        | (go_region_held3 (fun W' => BoxC W' wr.heap.size p)
            (first | exact MK.out _ ((bl W).drew) | exact MK.out _ HBA.out | exact MK.out _ HBB.out | exact MK.out _ (HBB.out.alloc HBB.out.size _) | exact HS4.out | fail)
            (first
              | ((go_at_call 23); (with_reducible refine (CC1.out _ (HW.out.drew)).mono ?_); (rintro e w1 ⟨u1, rfl, hO1⟩); (obtain ⟨A1, c1, rfl, hF1, hl1, hn1, hfb1⟩ := FB.new hO1); (have HG1 := Lib.hid (show FG w1 A1 c1 p.ns from ⟨hF1, hl1, hn1, hfb1⟩)); (have HBA := Lib.hid (chain ((bl W).drew) hO1.bel)); clear hO1 hF1 hl1 hn1 hfb1)
              | ((go_at_call 23); (with_reducible refine (CC2.out _ (chain HW.out HBA.out)).mono ?_); (rintro e w2 ⟨u2, rfl, hO2⟩); (obtain ⟨A2, c2, rfl, hF2, hl2, hn2, hfb2⟩ := FB.new hO2); (have HG2 := Lib.hid (show FG w2 A2 c2 p.os from ⟨hF2, hl2, hn2, hfb2⟩)); (have HBB := Lib.hid (chain HBA.out hO2.bel)); (have HC2 := Lib.hid hO2.bel); clear hO2 hF2 hl2 hn2 hfb2)
              | (refine step_appE (E := ED12) (xs := [(⟨p.f, p.t, p.has, p.had, A1, c1, p.ns, A2, c2, p.os⟩ : Ch)]) rfl (.tmp 12) (.tmp 26) rfl rfl rfl (World.ownsRow.alloc (HOW.out.below HBB.out).own _) rfl rfl (by have hrow := rowE_one (E := ED12) w2 (⟨p.f, p.t, p.has, p.had, A1, c1, p.ns, A2, c2, p.os⟩ : Ch) #[.int .i64 p.f, .int .i64 p.t, .bool p.has, .bool p.had, .slice A1 p.ns.length c1, .slice A2 p.os.length c2] rfl TDc; first | exact hrow | (simp at hrow ⊢; exact hrow)) (fun h => by cases h) (by have := HLV.out; simp; omega) (by have := (chain HO.out.bel (chain HW.out HBB.out)).size; simp; omega) ?_; intro v' w6 hown6 hg6 _; have HN6 := Lib.hid (((HOW.out.below HBB.out).below ((bl w2).alloc (Nat.le_refl _) _)).grown hg6 hown6); have HCK6 := Lib.hid (show ∀ d ∈ vs ++ [(⟨p.f, p.t, p.has, p.had, A1, c1, p.ns, A2, c2, p.os⟩ : Ch)], CKF w6 d from fun d hd => by
                  refine CKF.grown ?_ (HOW.out.below HBB.out).own hg6
                  rcases List.mem_append.1 hd with hd | hd
                  · exact (HCK.out d hd).below (chain HW.out HBB.out)
                  · rw [List.mem_singleton.1 hd]; exact FG.ckf (HG1.out.below HC2.out) HG2.out); have HS4 := Lib.hid (show BoxC w6 wr.heap.size p from boxC_grown (MK.out _ HBB.out) (Nat.lt_of_lt_of_le HLW.out HBB.out.size) hg6 (fun g e => (HO.out.own.lt g e).2)))
              | fail))
        | fail
      go_wp2_with fail
      exact ⟨⟨t + 1, _, by omega, by go_num, NX.out A1 A2 c1 c2, HN6.out, HCK6.out⟩, by simp [intOf] <;> omega⟩
    · obtain rfl : t = n := by omega
      have hlt' : ¬ (t : Int) < (t : Int) := by omega
      have NX := Lib.hid (show pgs vs = pgs (l.map backC) by rw [HVS.out, List.take_of_length_le (by have := HN.out; omega)])
      go_wp2_with fail
      go_ret
      exact ⟨_, vs, rfl, ⟨HO.out.list, fun d hd => (HCK.out d hd).1⟩, NX.out, HO.out.bel⟩
theorem pdback_any (w : World) (u : Value) (l : List Ch) (hl : ChsL ED12 w u l) (hn : l.length ≤ 1000) (hf : ∀ c ∈ l, c.os.length ≤ 20 ∧ c.ns.length ≤ 20) : Calls Try.prog 13 #[u] w fun e w' => ∃ x m, e = .returned x ∧ ChsL ED12 w' x m ∧ pgs m = pgs (l.map backC) ∧ Below w.heap.size w w' := pdback_post w u l hl hn hf

/-- What had looks at in its change. -/
def BoxH (w : World) (g : Nat) (c : Ch) : Prop := w.cell? ⟨g, 0, none⟩ = some (.int .i64 c.f) ∧ w.cell? ⟨g, 1, none⟩ = some (.int .i64 c.t) ∧ w.cell? ⟨g, 4, none⟩ = some (.slice c.oa c.os.length c.oc)
theorem BoxH.below {w w' : World} {g : Nat} {c : Ch} (h : BoxH w g c) (hb : Below w.heap.size w w') : BoxH w' g c := ⟨keepc hb h.1, keepc hb h.2.1, keepc hb h.2.2⟩
set_option maxHeartbeats 4000000 in
set_option maxRecDepth 100000 in
theorem phad_any (w : World) (u : Value) (r : List Pc) (c : Ch) (hr : PcsL w u r) (hc : CF w c) (hn : r.length ≤ 1000) (hfs : ∀ p ∈ r, p.fs.length ≤ 1000) (hos : c.os.length ≤ 1000) (htl : TL r) (hh : ∀ p m, r = p :: m → c.f < p.t) (hri : rightP c.f c.t = true) :
    Calls Try.prog 41 #[u, cv c] w fun e w' => (∃ x, e = .returned (.bool x) ∧ (x = true ↔ SaysC r c)) ∧ Below w.heap.size w w' := by
  obtain ⟨⟨A, q, rfl, hA, hq, hnq⟩, hPF⟩ := hr
  have HA := Lib.hid hA
  have HPF := Lib.hid hPF
  obtain ⟨n, hnm⟩ : ∃ n, r.length = n := ⟨_, rfl⟩
  rw [hnm] at hq hn ⊢
  obtain ⟨k, hk⟩ : ∃ k, min n 1 = k := ⟨_, rfl⟩
  have hmin : min (n : Int) 1 = (k : Int) := by omega
  have hk0 : (0 : Int) ≤ (k : Int) := by omega
  have hkq : (k : Int) ≤ (q : Int) := by omega
  have hkq2 : k ≤ q := by omega
  have HTK := Lib.hid (show (r.take 1).length = k by rw [List.length_take, hnm, ← hk]; omega)
  have HTT := Lib.hid (show TL (r.take 1) by
    cases r with
    | nil => trivial
    | cons p m => exact htl.head)
  have CCL := Lib.hid (fun w' (h : Below w.heap.size w w') => ptclip_any w' (c.f, c.t) (.slice A k q) (r.take 1) ⟨⟨A, q, by rw [HTK.out], row_take (HA.out.below h) 1, by rw [HTK.out]; exact hkq2, hnq⟩, fun p hp => (HPF.out p (List.mem_of_mem_take hp)).below h⟩ (by rw [HTK.out]; omega) (fun p hp => by have := hfs p (List.mem_of_mem_take hp); omega))
  have HIFF := Lib.hid (show ∀ (w' : World) (x : Value) (R : List Pc), TimeL w' x (clipG (c.f, c.t) (r.take 1)) R → (sameP R (oldP c) = true ↔ SaysC r c) from fun _ _ R h => had_iff htl hh hri h.tl fun y => by rw [h.fs, clipG, if_pos ((rightT_iff _).2 HTT.out)])
  have HFW := Lib.hid (show ∀ (w' : World) (x : Value) (R : List Pc), TimeL w' x (clipG (c.f, c.t) (r.take 1)) R → ∀ p ∈ R, p.fs.length ≤ 1000000 from fun {w' x R} h p hp => by
    have := h.few (clipG_few (n := 1000) (fun p hp => hfs p (List.mem_of_mem_take hp))) p hp
    omega)
  have HCF := Lib.hid hc
  have HOS := Lib.hid hos
  have HOL := Lib.hid (show (c.had = false → oldP c = []) ∧ (c.had = true → oldP c = [⟨c.f, c.t, c.oa, c.oc, c.os⟩]) from ⟨fun h => by unfold oldP; rw [h]; rfl, fun h => by unfold oldP; rw [h]; rfl⟩)
  clear hA hq hnq hPF hnm hk hc hn hfs hos htl hh
  show Calls Try.prog 41 #[.slice A n q, .agg #[.int .i64 c.f, .int .i64 c.t, .bool c.had, .bool c.has, .slice c.oa c.os.length c.oc, .slice c.na c.ns.length c.nc]] w _
  generalize c.had = hb at *
  have HB1 := Lib.hid (show Below w.heap.size w (w.alloc (.cells #[.int .i64 c.f, .int .i64 c.t, .bool hb, .bool c.has, .slice c.oa c.os.length c.oc, .slice c.na c.ns.length c.nc] TDc)) from (bl w).alloc (Nat.le_refl _) _)
  have HBC := Lib.hid (show BoxH (w.alloc (.cells #[.int .i64 c.f, .int .i64 c.t, .bool hb, .bool c.has, .slice c.oa c.os.length c.oc, .slice c.na c.ns.length c.nc] TDc)) w.heap.size c from ⟨by simp [go_sem], by simp [go_sem], by simp [go_sem]⟩)
  cases hb with
  | false =>
    have HOE := Lib.hid (HOL.out.1 rfl)
    clear HOL
    go_enter Try.func41, Try.ntmps41
    go_wp2_with fail
    refine abstract_worldW (fun W => Below w.heap.size w W ∧ BoxH W w.heap.size c) ⟨HB1.out, HBC.out⟩ ?_
    clear HB1 HBC
    rintro W ⟨hw1, z0, z1, z4⟩
    have HW := Lib.hid hw1
    clear hw1
    go_region_with (first
      | ((go_at_call 49); (with_reducible refine (CCL.out _ (HW.out.drew)).mono ?_); (rintro e w2 ⟨x2, rfl, ⟨R, hT⟩, hb2⟩); (have HT := Lib.hid hT); (have HB2 := Lib.hid (chain (HW.out.drew) hb2)); (have CSM := Lib.hid (ptsame_any w2 x2 (.slice none 0 0) R [] hT.pcs (PcsL.nil _) (by have := hT.len; omega) (HFW.out _ _ _ hT) (by simp))); clear hT hb2)
      | ((go_at_call 48); (with_reducible refine CSM.out.mono ?_); (rintro e w3 ⟨rfl, hb3⟩); (have HB3 := Lib.hid (chain HB2.out hb3)); clear hb3))
    all_goals go_wp2_with fail
    all_goals go_ret
    all_goals exact ⟨⟨_, rfl, by have h := HIFF.out _ _ _ HT.out; rw [HOE.out] at h; exact h⟩, HB3.out⟩
  | true =>
    have HOE := Lib.hid (HOL.out.2 rfl)
    clear HOL
    go_enter Try.func41, Try.ntmps41
    go_upto_region 3 with fail
    refine abstract_worldW (fun W => Below w.heap.size w W ∧ BoxH W w.heap.size c) ⟨HB1.out, HBC.out⟩ ?_
    clear HB1 HBC
    rintro W ⟨hw1, hbx⟩
    have HBX := Lib.hid hbx
    obtain ⟨z0, z1, z4⟩ := hbx
    have HW := Lib.hid hw1
    clear hw1
    go_wp2_with (first
      | (at_builtin; refine wpList_appE (E := EP) (xs := [(⟨c.f, c.t, c.oa, c.oc, c.os⟩ : Pc)]) rfl (.tmp 8) (.tmp 14) rfl rfl (base := W.heap.size) rfl (ownE_nil _ _) rfl rfl (by have hrow := rowE_one (E := EP) W (⟨c.f, c.t, c.oa, c.oc, c.os⟩ : Pc) #[.int .i64 c.f, .int .i64 c.t, .slice c.oa c.os.length c.oc] rfl TPc; first | exact hrow | (simp at hrow ⊢; exact hrow)) (fun h => by cases h) (by simp) (by simp) ?_; intro v' w4 hown4 hg4; have HO4 := Lib.hid (((OE.nil (E := EP) W).below ((bl W).alloc (Nat.le_refl _) _)).grown hg4 hown4); clear hown4 hg4)
      | go_in)
    obtain ⟨z0', z1', z4'⟩ := HBX.out.below HO4.out.bel
    have HPO := Lib.hid (show PcsL w4 v' (oldP c) by
      rw [HOE.out]
      refine ⟨HO4.out.list, fun p hp => ?_⟩
      rw [List.mem_singleton.1 hp]
      exact (HCF.out.below (chain HW.out HO4.out.bel)).1)
    have HBW := Lib.hid (chain HW.out HO4.out.bel)
    go_region_with (first
      | ((go_at_call 49); (with_reducible refine (CCL.out _ (HBW.out.drew)).mono ?_); (rintro e w2 ⟨x2, rfl, ⟨R, hT⟩, hb2⟩); (have HT := Lib.hid hT); (have HB2 := Lib.hid (chain (HBW.out.drew) hb2)); (have CSM := Lib.hid (ptsame_any w2 x2 v' R (oldP c) hT.pcs (HPO.out.below (chain ((bl w4).drew) hb2)) (by have := hT.len; omega) (HFW.out _ _ _ hT) (by rw [HOE.out]; intro p hp; rw [List.mem_singleton.1 hp]; have := HOS.out; show c.os.length ≤ 1000000; omega))); clear hT hb2)
      | ((go_at_call 48); (with_reducible refine CSM.out.mono ?_); (rintro e w3 ⟨rfl, hb3⟩); (have HB3 := Lib.hid (chain HB2.out hb3)); clear hb3))
    all_goals go_wp2_with fail
    all_goals go_ret
    all_goals exact ⟨⟨_, rfl, HIFF.out _ _ _ HT.out⟩, HB3.out⟩

end Go.Proofs.Ytnopbhlhdecimaa

/-
  The program's joined: pieces in order, those that touch and have the same fields being one.
-/
namespace Go.Proofs.Ytnopbhlhdecimaa
open Go.RowKit

theorem right_two {q p : Pc} (h1 : rightP q.f q.t = true) (h2 : rightP p.f p.t = true) (hle : q.t ≤ p.f) : rightT [q, p] = !goesB q p := by
  rw [rightT, rightT, h1, h2, Bool.true_and, Bool.and_true, linkB, goesB, decide_eq_true hle, Bool.true_and]
  by_cases h : q.t = p.f
  · rw [decide_eq_true h, decide_eq_false (p := q.t ≠ p.f) (by simpa using h), Bool.false_or, Bool.true_and]
  · rw [decide_eq_false h, decide_eq_true (p := q.t ≠ p.f) h, Bool.true_or, Bool.false_and]
    rfl
abbrev oc2P (q p : Pc) : Obj := .cells #[.int .i64 q.f, .int .i64 q.t, .slice q.fa q.fs.length q.fc, .int .i64 p.f, .int .i64 p.t, .slice p.fa p.fs.length p.fc] TPc
theorem pcs_two {w : World} {q p : Pc} (hq : PF w q) (hp : PF w p) : PcsL (w.alloc (oc2P q p)) (.slice (some ⟨w.heap.size, 0, none⟩) 2 2) [q, p] := by
  have hb : Below w.heap.size w (w.alloc (oc2P q p)) := (bl w).alloc (Nat.le_refl _) _
  refine ⟨⟨some ⟨w.heap.size, 0, none⟩, 2, rfl, fun k x hx => ?_, Nat.le_refl _, fun h => by cases h⟩, fun x hx => ?_⟩
  · refine ⟨w.heap.size, 0, rfl, fun j u hu => ?_⟩
    have hk : k = 0 ∨ k = 1 := by have := (List.getElem?_eq_some_iff.1 hx).1; simp at this; omega
    have hj : j = 0 ∨ j = 1 ∨ j = 2 := by
      have := (List.getElem?_eq_some_iff.1 hu).1
      have h3 : (EP.cells x).length = 3 := rfl
      omega
    rw [show EP.sz = 3 from rfl]
    rcases hk with rfl | rfl
    · obtain rfl : q = x := by simpa using hx
      rcases hj with rfl | rfl | rfl <;> (cases hu; simp [go_sem])
    · obtain rfl : p = x := by simpa using hx
      rcases hj with rfl | rfl | rfl <;> (cases hu; simp [go_sem])
  · rcases List.mem_cons.1 hx with rfl | hx
    · exact hq.below hb
    · rw [List.mem_singleton.1 hx]; exact hp.below hb
theorem KF.grownP {w w' : World} {tmp : Obj} {base : Nat} {v : Value} {L : List Pc} {p : Pc} (h : KF w p) (hown : ownE EP w base v L) (hg : (w.alloc tmp).grownBy w' v.ownBlock) : KF w' p := h.pf_of fun c cur hc => by
  have hlt := (Array.getElem?_eq_some_iff.1 hc).1
  rw [hg.block c (by simp; omega) (fun e => ?_), Go.RowKit.Below.heap_alloc w tmp c hlt]
  · exact hc
  · rcases hown.2 with ⟨rfl, _⟩ | ⟨g, cap, cur', rfl, _, hh, _⟩
    · cases e
    · cases e
      rw [show w.heap[g]? = _ from hh] at hc
      injection hc with hc
      injection hc with _ hc _
      revert hc; decide
/-- Behind a store into the last piece of a list of the call's own. -/
theorem oe_setLastP {W w : World} {m : List Pc} {q : Pc} {g c n : Nat} (h : OE EP W (m ++ [q]) (.slice (some ⟨g, 0, none⟩) n c) w) (hn : n = m.length + 1) (x : Int) : OE EP W (m ++ [{ q with t := x }]) (.slice (some ⟨g, 0, none⟩) n c) (w.setCell ⟨g, m.length * 3 + 1, none⟩ (.int .i64 x)) := by
  subst hn
  have hq : (m ++ [q])[m.length]? = some q := by simp
  have hset : (m ++ [q]).set m.length { q with t := x } = m ++ [{ q with t := x }] := by simp
  have hlen : (m ++ [q]).length = m.length + 1 := by simp
  have hw := h.own
  unfold ownE at hw
  rw [hlen] at hw
  have hs := (World.ownsRow.stored hw (m.length * 3 + 1) (.int .i64 x)).1
  rw [flat_setP _ _ _ x hq, hset] at hs
  have hlen2 : (m ++ [{ q with t := x }]).length = m.length + 1 := by simp
  refine ⟨?_, h.bel.setCell (p := ⟨g, m.length * 3 + 1, none⟩) ((h.own.lt g rfl).1) _⟩
  unfold ownE
  rw [hlen2]
  exact hs
theorem kf_setLast {W w : World} {L : List Pc} {g c n o : Nat} {p : Pc} (h : OE EP W L (.slice (some ⟨g, 0, none⟩) n c) w) (hk : KF w p) (u : Value) : KF (w.setCell ⟨g, o, none⟩ u) p := hk.pf_of fun c' cur hc => by
  refine (Go.RowKit.Below.heap_setCell w ⟨g, o, none⟩ u c' fun e => ?_).trans hc
  rcases h.own.2 with ⟨hv, _⟩ | ⟨g', cap, cur', hv, _, hh, _⟩
  · cases hv
  · injection hv with hv
    injection hv with hv
    injection hv with hv _ _
    rw [e, hv, show w.heap[g']? = _ from hh] at hc
    injection hc with hc
    injection hc with _ hc _
    revert hc; decide
theorem oe_lastP {W w : World} {m : List Pc} {q : Pc} {g n c : Nat} (h : OE EP W (m ++ [q]) (.slice (some ⟨g, 0, none⟩) n c) w) : Cells3 w g (m.length * 3) q := by
  obtain ⟨A2, c2, e2, hr, _⟩ := h.list
  injection e2 with e2 _ _
  rw [← e2] at hr
  have hx : (m ++ [q])[m.length]? = some q := by simp
  have k0 := hr.at hx (j := 0) rfl
  have k1 := hr.at hx (j := 1) rfl
  have k2 := hr.at hx (j := 2) rfl
  rw [Nat.zero_add] at k0 k1 k2
  exact ⟨k0, k1, k2⟩
theorem boxP_grown {w w' : World} {tmp : Obj} {q : Nat} {v : Value} {p : Pc} (h : BoxP w q p) (hq : q < w.heap.size) (hg : (w.alloc tmp).grownBy w' v.ownBlock) (hlt : ∀ g, v.ownBlock = some g → g < q) : BoxP w' q p := by
  have e : w'.heap[q]? = w.heap[q]? := by
    rw [hg.block q (by simp; omega) (fun e => by have := hlt q e.symm; omega), Go.RowKit.Below.heap_alloc w tmp q hq]
  obtain ⟨h0, h1, h2⟩ := h
  exact ⟨(World.cell?_of_block (a := ⟨q, _, none⟩) e).trans h0, (World.cell?_of_block (a := ⟨q, _, none⟩) e).trans h1, (World.cell?_of_block (a := ⟨q, _, none⟩) e).trans h2⟩
theorem nil_or_snocP (l : List Pc) : l = [] ∨ ∃ m q, l = m ++ [q] := by
  rcases List.eq_nil_or_concat l with h | ⟨m, q, h⟩
  · exact .inl h
  · exact .inr ⟨m, q, by rw [h, List.concat_eq_append]⟩

theorem own_atP {w : World} {base : Nat} {v : Value} {L : List Pc} (h : ownE EP w base v L) (hL : L ≠ []) : ∃ g n c, v = .slice (some ⟨g, 0, none⟩) n c := by
  obtain ⟨g, c, h⟩ := own_at h hL
  exact ⟨g, _, c, h⟩
/-- What joined leaves. -/
def JoinPost (base : Nat) (v : Value) (M : List Pc) (w : World) (e : Ending) (w' : World) : Prop := ∃ x, e = .returned x ∧ HasTL w' x (fsP M) ∧ Below base w w' ∧ ∀ c, c < w.heap.size → v.ownBlock ≠ some c → w'.heap[c]? = w.heap[c]?
set_option maxHeartbeats 8000000 in
set_option maxRecDepth 100000 in
theorem pjoined_any (w0 w : World) (v : Value) (M : List Pc) (hw0 : Below w0.heap.size w0 w) (hown : ownE EP w w0.heap.size v M) (hkf : ∀ p ∈ M, PF w0 p) (hri : ∀ p ∈ M, rightP p.f p.t = true) (hdj : M.Pairwise apartP) (hn : M.length ≤ 1000) (hfs : ∀ p ∈ M, p.fs.length ≤ 1000) : Calls Try.prog 29 #[v] w (JoinPost w0.heap.size v M w) := by
  have CS := Lib.hid (sort_piecesP w hown (by omega))
  obtain ⟨A, n0, c0, hv⟩ : ∃ A n c, v = .slice A n c := by
    obtain ⟨A, c, hv, _⟩ := ownE_list hown
    exact ⟨A, _, c, hv⟩
  have HKF := Lib.hid hkf
  have HRI := Lib.hid hri
  have HDJ := Lib.hid hdj
  have HN := Lib.hid hn
  have HFS := Lib.hid hfs
  have HBASE := Lib.hid hw0.size
  have HW0 := Lib.hid hw0
  have HLV := Lib.hid (show ∀ (A2 : Option Addr) (n2 c2 : Nat), v = .slice A2 n2 c2 → n2 = M.length from fun A2 n2 c2 h => by
    obtain ⟨A3, c3, hv3, _⟩ := ownE_list hown
    rw [h] at hv3
    injection hv3)
  subst hv
  clear hown hw0 hkf hri hdj hn hfs
  go_enter Try.func29, Try.ntmps29
  go_wp2_with (go_at_call 42; (with_reducible refine CS.out.mono ?_); rintro e w1 ⟨rfl, S, hpm, hso, hli, hb1, hoth⟩)
  have HRS := Lib.hid (dj_sorted (M := S) (fun p hp => HRI.out p (hpm.mem_iff.2 hp)) ((hpm.pairwise_iff (fun {_ _} h => apart_symm h)).1 HDJ.out) hso)
  have HFE := Lib.hid (show ∀ x, fsP M x = fsP S x from fun x => dj_perm hpm HDJ.out x)
  have HSK := Lib.hid (show ∀ p ∈ S, PF w1 p from fun p hp => (HKF.out p (hpm.mem_iff.2 hp)).below (HW0.out.trans hb1))
  have HSF := Lib.hid (show ∀ p ∈ S, p.fs.length ≤ 1000 from fun p hp => HFS.out p (hpm.mem_iff.2 hp))
  have HB1 := Lib.hid hb1
  have HOTH := Lib.hid hoth
  clear hoth
  obtain ⟨n, hnm⟩ : ∃ n, S.length = n := ⟨_, rfl⟩
  have HNS := Lib.hid hnm
  have HNM := Lib.hid (show n ≤ 1000 by rw [← hnm, ← hpm.length_eq]; exact HN.out)
  obtain ⟨A3, c3, he, hr, _⟩ := hli
  injection he with e1 e2 e3
  subst e1
  obtain rfl : n0 = n := by rw [e2, hnm]
  have HR := Lib.hid hr
  clear hpm hso hb1 hnm e2 e3 hr CS HLV
  have hn0 : n0 ≤ 1000 := HNM.out
  go_loopw [3, 11] (fun o i wr => ∃ (t : Nat) (L : List Pc), t ≤ n0 ∧ i = .int .i64 (t : Nat) ∧ PutAll (S.take t) L ∧ OE EP w1 L o wr ∧ ∀ q ∈ L, KF wr q) (fun _ i _ => n0 - (intOf i).toNat)
  case atStart => exact ⟨0, [], Nat.zero_le _, rfl, PutAll.nil, OE.nil w1, fun q hq => by simp at hq⟩
  case round =>
    obtain ⟨t, L, ht, rfl, hPA, hO, hck⟩ := hrel
    have HPA := Lib.hid hPA
    have HO := Lib.hid hO
    have HCK := Lib.hid hck
    clear hPA hO hck
    by_cases hlt : t < n0
    · have hlt' : (t : Int) < (n0 : Int) := by omega
      obtain ⟨p, hx⟩ : ∃ p, S[t]? = some p := ⟨_, List.getElem?_eq_getElem (by have := HNS.out; omega)⟩
      obtain ⟨g, off, rfl, hX⟩ := (HR.out.below HO.out.bel).cells3 hx
      have hkp := HSK.out p (List.mem_of_getElem? hx)
      have hfp := HSF.out p (List.mem_of_getElem? hx)
      have hat := RiseP.at (M := S) HRS.out hx
      have HSTEP := Lib.hid (show ∀ (A : Option Addr) (c : Nat), PutAll (S.take (t + 1)) (putP L { p with fa := A, fc := c }) from fun A c => by
        rw [List.take_add_one, hx, Option.toList_some]
        exact HPA.out.step hat.1 hat.2 A c)
      have HLE := Lib.hid (show ∀ q ∈ L, q.t ≤ p.f from fun q hq => by
        obtain ⟨r, hr, h1⟩ := HPA.out.le q hq
        have := hat.2 r hr
        omega)
      have HRP := Lib.hid hat.1
      have HLL := Lib.hid (show L.length ≤ 1000 by have h1 := HPA.out.len; rw [List.length_take] at h1; have := HNM.out; omega)
      have HKP := Lib.hid hkp
      have HFP := Lib.hid hfp
      have HB2 := Lib.hid (show Below wr.heap.size wr (wr.alloc (ocP p)) from (bl wr).alloc (Nat.le_refl _) _)
      have HBX := Lib.hid (boxP_new wr p)
      obtain ⟨z0, z1, z2⟩ := hX
      clear hx hkp hfp hat
      rcases nil_or_snocP L with rfl | ⟨m, q, rfl⟩
      · obtain ⟨A0, c0', hu, _⟩ := HO.out.list
        simp only [List.length_nil] at hu
        subst hu
        have hm1 : IntKind.i64.wrap ((0 : Int) - 1) = -1 := by decide
        go_wp2_with fail
        go_quiet (fail)
        refine abstract_then (fun W => Below wr.heap.size wr W ∧ BoxP W wr.heap.size p ∧ wr.heap.size < W.heap.size) ⟨belowN HB2.out _, HBX.out.below (belowN (bl _) _), by simp⟩ ?_
        rintro W ⟨hw1, hw2, hw3⟩
        clear z0 z1 z2
        have HW := Lib.hid hw1
        have HLW := Lib.hid hw3
        have MK := Lib.hid (show ∀ W', Below W.heap.size W W' → BoxP W' wr.heap.size p from fun W' h => hw2.below h)
        have HOW := Lib.hid (HO.out.below hw1)
        have CC := Lib.hid (fun W' (h : Below w1.heap.size w1 W') => cloneF_any W' p.fa p.fc p.fs (HKP.out.1.below h) HKP.out.2.2 (by have := HFP.out; omega))
        clear hw1 hw2 hw3
        have HCKW := Lib.hid (show ∀ q ∈ ([] : List Pc), KF W q from fun q hq => by simp at hq)
        have HWW := Lib.hid HOW.out.bel
        go_wp2_with fail
        first
          | (go_region_held3 (fun W' => BoxP W' wr.heap.size p)
              (first | exact MK.out _ ((bl W).drew) | exact MK.out _ HBA.out | exact MK.out _ (HBA.out.alloc HBA.out.size _) | exact HS6.out | fail)
              (first
              | ((go_at_call 23); (with_reducible refine (CC.out _ (HWW.out.drew)).mono ?_); (rintro e w2 ⟨u2, rfl, hO2⟩); (obtain ⟨A2, c2, rfl, hkf2⟩ := KF.new hO2); (have HG := Lib.hid hkf2); (have HBA := Lib.hid (chain ((bl W).drew) hO2.bel)); clear hO2 hkf2)
              | (refine step_appE (E := EP) (xs := [(⟨p.f, p.t, A2, c2, p.fs⟩ : Pc)]) rfl (.tmp 38) (.tmp 45) rfl rfl rfl (World.ownsRow.alloc (HOW.out.below HBA.out).own _) rfl rfl (by have hrow := rowE_one (E := EP) w2 (⟨p.f, p.t, A2, c2, p.fs⟩ : Pc) #[.int .i64 p.f, .int .i64 p.t, .slice A2 p.fs.length c2] rfl TPc; first | exact hrow | (simp at hrow ⊢; exact hrow)) (fun h => by cases h) (by simp) (by have := (HOW.out.below HBA.out).bel.size; simp; omega) ?_; intro v' w6 hown6 hg6 _; have HN6 := Lib.hid (((HOW.out.below HBA.out).below ((bl w2).alloc (Nat.le_refl _) _)).grown hg6 hown6); have HCK6 := Lib.hid (show ∀ d ∈ ([] : List Pc) ++ [(⟨p.f, p.t, A2, c2, p.fs⟩ : Pc)], KF w6 d from fun d hd => by
                  refine KF.grownP ?_ (HOW.out.below HBA.out).own hg6
                  rcases List.mem_append.1 hd with hd | hd
                  · exact (HCKW.out d hd).below HBA.out
                  · rw [List.mem_singleton.1 hd]; exact HG.out p.f p.t); have HS6 := Lib.hid (show BoxP w6 wr.heap.size p from boxP_grown (MK.out _ HBA.out) (Nat.lt_of_lt_of_le HLW.out HBA.out.size) hg6 (fun g e => (HO.out.own.lt g e).2)))
              | fail))
          | fail
        go_wp2_with fail
        exact ⟨⟨t + 1, ([] : List Pc) ++ [⟨p.f, p.t, A2, c2, p.fs⟩], by omega, by go_num, HSTEP.out A2 c2, HN6.out, HCK6.out⟩, by simp [intOf] <;> omega⟩
      · obtain ⟨g', cL, hu⟩ := own_at HO.out.own (by simp)
        obtain ⟨n3, hn3⟩ : ∃ n3, (m ++ [q]).length = n3 := ⟨_, rfl⟩
        obtain ⟨j, hj⟩ : ∃ j, m.length = j := ⟨_, rfl⟩
        rw [hn3] at hu
        subst hu
        have hn3j : n3 = j + 1 := by rw [← hn3, ← hj]; simp
        have HNJ := Lib.hid hn3j
        have hn4 : n3 ≤ 1000 := by have := HLL.out; omega
        have hsub : IntKind.i64.wrap ((n3 : Int) - 1) = (j : Int) := by rw [IntWalk.i64_in _ (by omega)]; omega
        have hjn : (j : Int) < (n3 : Int) := by omega
        have hjn2 : j < n3 := by omega
        have hj0 : (0 : Int) ≤ (j : Int) := by omega
        have hj0' : decide ((0 : Int) ≤ (j : Int)) = true := by simp
        have HJ := Lib.hid hj
        have HQK := Lib.hid (HCK.out q (by simp))
        have HRQ := Lib.hid (HPA.out.tl.rights q (by simp))
        have HFQ := Lib.hid (show q.fs.length ≤ 1000 by
          obtain ⟨r, hr, e⟩ := HPA.out.few q (by simp)
          have := HSF.out r (List.mem_of_mem_take hr)
          rw [e]; exact this)
        have HQL := Lib.hid (HLE.out q (by simp))
        have HX := Lib.hid (show ∀ W, Below wr.heap.size wr W → Cells3 W g' (j * 3) q from fun W h => by rw [← hj]; exact oe_lastP (HO.out.below h))
        have HFZ := Lib.hid (show ∀ W, Below wr.heap.size wr W → W.frozen? ⟨g', j * 3 + 1, none⟩ = false from fun W h => by
          have e := (HO.out.below h).own
          unfold ownE at e
          rw [hn3] at e
          exact World.ownsRow.frozenAt e _)
        have HGL := Lib.hid (show g' < wr.heap.size from (HO.out.own.lt g' rfl).2)
        clear hn3 hj hn3j
        go_upto_region 7 with fail
        refine abstract_worldW (fun W => Below wr.heap.size wr W ∧ BoxP W wr.heap.size p ∧ wr.heap.size < W.heap.size) ⟨HB2.out, HBX.out, by simp⟩ ?_
        rintro W ⟨hw1, hw2, hw3⟩
        clear z0 z1 z2
        have HW := Lib.hid hw1
        have HLW := Lib.hid hw3
        have MK := Lib.hid (show ∀ W', Below W.heap.size W W' → BoxP W' wr.heap.size p from fun W' h => hw2.below h)
        have MK2 := Lib.hid (show ∀ W', Below W.heap.size W W' → Cells3 W' g' (j * 3) q ∧ BoxP W' wr.heap.size p from fun W' h => ⟨HX.out _ (chain HW.out h), MK.out _ h⟩)
        have HOW := Lib.hid (HO.out.below hw1)
        have HWW := Lib.hid HOW.out.bel
        have HCKW := Lib.hid (show ∀ d ∈ m ++ [q], KF W d from fun d hd => (HCK.out d hd).below HW.out)
        have CC := Lib.hid (fun W' (h : Below w1.heap.size w1 W') => cloneF_any W' p.fa p.fc p.fs (HKP.out.1.below h) HKP.out.2.2 (by have := HFP.out; omega))
        have HBT := Lib.hid (show Below W.heap.size W (W.alloc (oc2P q p)).drew from ((bl W).alloc (Nat.le_refl _) _).drew)
        have CR2 := Lib.hid (show Ret 20 #[.slice (some ⟨W.heap.size, 0, none⟩) 2 2] (W.alloc (oc2P q p)).drew (.bool (!goesB q p)) from by
          rw [← right_two HRQ.out HRP.out HQL.out]
          exact ptright_any _ _ [q, p] ((pcs_two (HQK.out.1.below HW.out) (HKP.out.below HOW.out.bel)).below ((bl (W.alloc (oc2P q p))).drew)) (by simp) (fun x hx => by
            have h1 := HFQ.out
            have h2 := HFP.out
            rcases List.mem_cons.1 hx with rfl | hx
            · omega
            · rw [List.mem_singleton.1 hx]; omega))
        have NA := Lib.hid (show goesB q p = false → ∀ A c, putP (m ++ [q]) { p with fa := A, fc := c } = (m ++ [q]) ++ [{ p with fa := A, fc := c }] from fun hg A c => putP_app (by
          rintro ⟨e1, e2⟩
          have e1 : q.t = p.f := e1
          have e2 : sameF q.fs p.fs = true := e2
          rw [goesB, decide_eq_true e1, e2] at hg
          cases hg))
        have NJ := Lib.hid (show goesB q p = true → putP (m ++ [q]) { p with fa := none, fc := 0 } = m ++ [{ q with t := p.t }] from fun hg => putP_join (by
          rw [goesB, Bool.and_eq_true, decide_eq_true_eq] at hg
          exact hg))
        clear hw1 hw2 hw3
        generalize goesB q p = s at *
        obtain ⟨y0, y1, y2⟩ := HX.out _ HW.out
        obtain ⟨b0, b1, b2⟩ := MK.out _ (bl W)
        cases s with
        | true =>
          have NX := Lib.hid (NJ.out rfl)
          clear NA NJ
          (go_region_held3 (fun W' => Cells3 W' g' (j * 3) q ∧ BoxP W' wr.heap.size p)
                (first | exact MK2.out _ ((bl W).drew) | exact MK2.out _ HBT.out | exact MK2.out _ ((bl W).alloc (Nat.le_refl _) _) | exact MK2.out _ HB7.out | fail)
                (first | ((go_at_call 20); (with_reducible refine CR2.out.mono ?_); (rintro e w7 ⟨rfl, hb7⟩); (have HB7 := Lib.hid (chain HBT.out hb7)); clear hb7) | fail))
          have HB8 := Lib.hid (chain HW.out HB7.out)
          obtain ⟨y0', y1', y2'⟩ := HX.out _ HB8.out
          obtain ⟨b0', b1', b2'⟩ := MK.out _ HB7.out
          have f1 := HFZ.out _ HB8.out
          go_wp2_with fail
          have HOJ := Lib.hid (HO.out.below HB8.out)
          exact ⟨⟨t + 1, m ++ [{ q with t := p.t }], by omega, by go_num, by rw [← NX.out]; exact HSTEP.out none 0, by
            have h := oe_setLastP HOJ.out (by rw [HJ.out]; exact HNJ.out) p.t
            rw [HJ.out] at h
            exact h, fun d hd => by
            rcases List.mem_append.1 hd with hd | hd
            · exact kf_setLast HOJ.out ((HCK.out d (by simp [hd])).below HB8.out) _
            · rw [List.mem_singleton.1 hd]
              exact (kf_setLast HOJ.out (HQK.out.below HB8.out) _).same rfl rfl rfl⟩, by simp [intOf] <;> omega⟩
        | false =>
          have NX := Lib.hid (NA.out rfl)
          clear NA NJ
          (go_region_held3 (fun W' => Cells3 W' g' (j * 3) q ∧ BoxP W' wr.heap.size p)
                (first | exact MK2.out _ ((bl W).drew) | exact MK2.out _ HBT.out | exact MK2.out _ ((bl W).alloc (Nat.le_refl _) _) | exact MK2.out _ HB7.out | fail)
                (first | ((go_at_call 20); (with_reducible refine CR2.out.mono ?_); (rintro e w7 ⟨rfl, hb7⟩); (have HB7 := Lib.hid (chain HBT.out hb7)); clear hb7) | fail))
          clear y0 y1 y2 b0 b1 b2
          refine abstract_then (fun Z => Below W.heap.size W Z) HB7.out ?_
          rintro Z hz
          have HOZ := Lib.hid (HOW.out.below hz)
          have HWZ := Lib.hid HOZ.out.bel
          have HLZ := Lib.hid (Nat.lt_of_lt_of_le HLW.out hz.size)
          have MKZ := Lib.hid (show ∀ W', Below Z.heap.size Z W' → BoxP W' wr.heap.size p from fun W' h => MK.out _ (chain hz h))
          have HCZ := Lib.hid (show ∀ d ∈ m ++ [q], KF Z d from fun d hd => (HCKW.out d hd).below hz)
          obtain ⟨b0, b1, b2⟩ := MK.out _ hz
          clear hz
          go_wp2_with fail
          first
            | (go_region_held3 (fun Z' => BoxP Z' wr.heap.size p)
                (first | exact MKZ.out _ ((bl Z).drew) | exact MKZ.out _ HBA.out | exact MKZ.out _ (HBA.out.alloc HBA.out.size _) | exact HS6.out | fail)
                (first
                | ((go_at_call 23); (with_reducible refine (CC.out _ (HWZ.out.drew)).mono ?_); (rintro e w2 ⟨u2, rfl, hO2⟩); (obtain ⟨A2, c2, rfl, hkf2⟩ := KF.new hO2); (have HG := Lib.hid hkf2); (have HBA := Lib.hid (chain ((bl Z).drew) hO2.bel)); clear hO2 hkf2)
                | (refine step_appE (E := EP) (xs := [(⟨p.f, p.t, A2, c2, p.fs⟩ : Pc)]) rfl (.tmp 38) (.tmp 45) rfl rfl rfl (World.ownsRow.alloc (HOZ.out.below HBA.out).own _) rfl rfl (by have hrow := rowE_one (E := EP) w2 (⟨p.f, p.t, A2, c2, p.fs⟩ : Pc) #[.int .i64 p.f, .int .i64 p.t, .slice A2 p.fs.length c2] rfl TPc; first | exact hrow | (simp at hrow ⊢; exact hrow)) (fun h => by cases h) (by have := HLL.out; simp at this ⊢; omega) (by have := (HOZ.out.below HBA.out).bel.size; simp; omega) ?_; intro v' w6 hown6 hg6 _; have HN6 := Lib.hid (((HOZ.out.below HBA.out).below ((bl w2).alloc (Nat.le_refl _) _)).grown hg6 hown6); have HCK6 := Lib.hid (show ∀ d ∈ (m ++ [q]) ++ [(⟨p.f, p.t, A2, c2, p.fs⟩ : Pc)], KF w6 d from fun d hd => by
                    refine KF.grownP ?_ (HOZ.out.below HBA.out).own hg6
                    rcases List.mem_append.1 hd with hd | hd
                    · exact (HCZ.out d hd).below HBA.out
                    · rw [List.mem_singleton.1 hd]; exact HG.out p.f p.t); have HS6 := Lib.hid (show BoxP w6 wr.heap.size p from boxP_grown (MKZ.out _ HBA.out) (Nat.lt_of_lt_of_le HLZ.out HBA.out.size) hg6 (fun g e => (HO.out.own.lt g e).2)))
                | fail))
            | fail
          go_wp2_with fail
          exact ⟨⟨t + 1, (m ++ [q]) ++ [⟨p.f, p.t, A2, c2, p.fs⟩], by omega, by go_num, by
            have h := HSTEP.out A2 c2
            rw [NX.out A2 c2] at h
            exact h, HN6.out, HCK6.out⟩, by simp [intOf] <;> omega⟩
    · obtain rfl : t = n0 := by omega
      have hlt' : ¬ (t : Int) < (t : Int) := by omega
      have HALL := Lib.hid (show S.take t = S from List.take_of_length_le (by have := HNS.out; omega))
      go_wp2_with fail
      go_ret
      exact ⟨_, rfl, ⟨L, ⟨HO.out.list, fun q hq => (HCK.out q hq).1⟩, HPA.out.tl, fun x => by rw [HPA.out.fs, HALL.out, HFE.out], by have h1 := HPA.out.len; rw [List.length_take] at h1; have := HNM.out; omega⟩, HB1.out.trans (HO.out.bel.mono (Nat.le_trans HBASE.out HB1.out.size)), fun c hc hne => (HO.out.bel.block c (Nat.lt_of_lt_of_le hc HB1.out.size)).trans (HOTH.out c hc hne)⟩

end Go.Proofs.Ytnopbhlhdecimaa

/-
  How long timelines are; the chapter's example: plain facts.
-/
namespace Go.Proofs.Ytnopbhlhdecimaa
open Go.RowKit

theorem steps_made {ts : List Int} {g : Int → Option (List Fd)} (h : Steps ts g) : ∀ i, i < ts.length → ∃ o, MadeT ts g i o
  | 0, _ => ⟨[], MadeT.start h⟩
  | i + 1, hi => by
    obtain ⟨o, ho⟩ := steps_made h i (by omega)
    obtain ⟨f, hf⟩ : ∃ f, ts[i]? = some f := ⟨_, List.getElem?_eq_getElem (by omega)⟩
    obtain ⟨t, ht⟩ : ∃ t, ts[i + 1]? = some t := ⟨_, List.getElem?_eq_getElem hi⟩
    cases hg : g f with
    | none => exact ⟨o, ho.skip h hf ht hg⟩
    | some s => exact ⟨_, ho.next h (p := ⟨f, t, none, 0, s⟩) hf ht hg⟩
theorem steps_exists {ts : List Int} {g : Int → Option (List Fd)} (h : Steps ts g) (hpos : 1 ≤ ts.length) : ∃ o, TL o ∧ (∀ x, fsP o x = g x) ∧ o.length + 1 ≤ ts.length := by
  obtain ⟨o, ho⟩ := steps_made h (ts.length - 1) (by omega)
  obtain ⟨h1, h2⟩ := ho.stop h (by omega)
  exact ⟨o, h1, h2, by have := ho.len; omega⟩
theorem tl_len {a b : List Pc} (ha : TL a) (hb : TL b) (h : ∀ x, fsP a x = fsP b x) : a.length = b.length := by
  have := congrArg List.length (tl_ext ha hb h)
  simpa using this
theorem make_len {a : Int × Int} {l : List Vr} {R : List Pc} (hR : TL R) (h : ∀ x, fsP R x = makeV a l x) : R.length ≤ 2 * l.length + 1 := by
  cases ha : rightP a.1 a.2 with
  | false =>
    have := tl_len hR (b := []) trivial (fun x => by rw [h, makeV_out (fun k => by rw [ha] at k; exact absurd k.1 (by simp))]; rfl)
    simp at this
    rw [this]; simp
  | true =>
    have hs := steps_make (ts := Co.riseL (endsM a l)) ha (Co.riseL_pw _) (fun y => Co.mem_riseL _ y)
    have hp : 1 ≤ (Co.riseL (endsM a l)).length := List.length_pos_of_mem ((Co.mem_riseL _ a.1).2 (by simp [endsM]))
    obtain ⟨o, h1, h2, h3⟩ := steps_exists hs hp
    have e := tl_len hR h1 (fun x => (h x).trans (h2 x).symm)
    have := Co.riseL_length (endsM a l)
    have := endsM_length a l
    omega
theorem splice_len {a : Int × Int} {l m R : List Pc} (hR : TL R) (h : ∀ x, fsP R x = spliceG a l m x) : R.length ≤ 2 * l.length + 2 * m.length + 1 := by
  cases hl : (rightT l && rightT m) with
  | false =>
    have := tl_len hR (b := []) trivial (fun x => by rw [h, spliceG, hl]; rfl)
    simp at this
    rw [this]; simp
  | true =>
    have hl2 := hl
    rw [Bool.and_eq_true, rightT_iff, rightT_iff] at hl2
    cases ha : rightP a.1 a.2 with
    | false =>
      have := tl_len hR hl2.1 (fun x => by rw [h, spliceG, hl, ha]; rfl)
      omega
    | true =>
      have hs := steps_splice (ts := Co.riseL (endsS a l m)) ha hl2.1 hl2.2 (Co.riseL_pw _) (fun y => Co.mem_riseL _ y)
      have hp : 1 ≤ (Co.riseL (endsS a l m)).length := List.length_pos_of_mem ((Co.mem_riseL _ a.1).2 (by simp [endsS]))
      obtain ⟨o, h1, h2, h3⟩ := steps_exists hs hp
      have e := tl_len hR h1 (fun x => by rw [h, h2, spliceG, hl, ha]; rfl)
      have := Co.riseL_length (endsS a l m)
      have := endsS_length a l m
      omega

/-! The example. -/
def exF1 : Fd := ⟨⟨#[97]⟩, 1⟩
def exF2 : Fd := ⟨⟨#[97]⟩, 2⟩
def exT1 (A : Option Addr) : Vr := ⟨0, 1, ⟨#[]⟩, 0, 6, A, 1, [exF1], false⟩
def exT2 (A : Option Addr) : Vr := ⟨0, 2, ⟨#[]⟩, 4, 8, A, 1, [exF2], false⟩
def exP1 (A : Option Addr) : Pc := ⟨0, 4, A, 1, [exF1]⟩
def exP2 (A : Option Addr) : Pc := ⟨4, 8, A, 1, [exF2]⟩
theorem ex_of1 (A : Option Addr) : ofL [exT1 A] = [exF1] := by rfl
theorem ex_of2 (B : Option Addr) : ofL [exT2 B] = [exF2] := by rfl
theorem ex_of12 (A B : Option Addr) : ofL [exT1 A, exT2 B] = [exF2] := by rfl
theorem ex_c1 (A : Option Addr) (x : Int) : coversB (exT1 A) x = true ↔ 0 ≤ x ∧ x < 6 := by
  rw [covers_iff]
  show (false = false ∧ rightP 0 6 = true ∧ 0 ≤ x ∧ x < 6) ↔ _
  have : rightP 0 6 = true := by decide
  simp [this]
theorem ex_c2 (B : Option Addr) (x : Int) : coversB (exT2 B) x = true ↔ 4 ≤ x ∧ x < 8 := by
  rw [covers_iff]
  show (false = false ∧ rightP 4 8 = true ∧ 4 ≤ x ∧ x < 8) ↔ _
  have : rightP 4 8 = true := by decide
  simp [this]
theorem ex_h1 (C : Option Addr) (x : Int) : hasP (exP1 C) x = true ↔ 0 ≤ x ∧ x < 4 := by
  rw [hasP_iff]
  show ((-1099511627776 ≤ (0 : Int) ∧ (4 : Int) ≤ 1099511627776 ∧ (0 : Int) < 4) ∧ 0 ≤ x ∧ x < 4) ↔ _
  omega
theorem ex_h2 (D : Option Addr) (x : Int) : hasP (exP2 D) x = true ↔ 4 ≤ x ∧ x < 8 := by
  rw [hasP_iff]
  show ((-1099511627776 ≤ (4 : Int) ∧ (8 : Int) ≤ 1099511627776 ∧ (4 : Int) < 8) ∧ 4 ≤ x ∧ x < 8) ↔ _
  omega
theorem ex_make (A B C D : Option Addr) (x : Int) : makeV (0, 10) [exT1 A, exT2 B] x = fsP [exP1 C, exP2 D] x := by
  by_cases hin : 0 ≤ x ∧ x < 10
  · rw [makeV_in (a := ((0 : Int), (10 : Int))) (by decide) hin.1 hin.2]
    by_cases h4 : x < 4
    · have c1 : coversB (exT1 A) x = true := (ex_c1 A x).2 (by omega)
      have c2 : coversB (exT2 B) x = false := by rw [Bool.eq_false_iff, ne_eq, ex_c2]; omega
      have e : atL x [exT1 A, exT2 B] = [exF1] := by
        rw [atL, List.filter_cons, c1, List.filter_cons, c2]; exact ex_of1 A
      rw [e, fsP, valP, if_pos ((ex_h1 C x).2 (by omega))]
      simp only [List.any_cons, c1, Bool.true_or]
      rfl
    · have h1 : ¬ hasP (exP1 C) x = true := by rw [ex_h1]; omega
      by_cases h6 : x < 6
      · have c1 : coversB (exT1 A) x = true := (ex_c1 A x).2 (by omega)
        have c2 : coversB (exT2 B) x = true := (ex_c2 B x).2 (by omega)
        have e : atL x [exT1 A, exT2 B] = [exF2] := by
          rw [atL, List.filter_cons, c1, List.filter_cons, c2]; exact ex_of12 A B
        rw [e, fsP, valP, if_neg h1, valP, if_pos ((ex_h2 D x).2 (by omega))]
        simp only [List.any_cons, c1, Bool.true_or]
        rfl
      · have c1 : coversB (exT1 A) x = false := by rw [Bool.eq_false_iff, ne_eq, ex_c1]; omega
        by_cases h8 : x < 8
        · have c2 : coversB (exT2 B) x = true := (ex_c2 B x).2 (by omega)
          have e : atL x [exT1 A, exT2 B] = [exF2] := by
            rw [atL, List.filter_cons, c1, List.filter_cons, c2]; exact ex_of2 B
          rw [e, fsP, valP, if_neg h1, valP, if_pos ((ex_h2 D x).2 (by omega))]
          simp only [List.any_cons, c1, c2, Bool.false_or, Bool.true_or]
          rfl
        · have c2 : coversB (exT2 B) x = false := by rw [Bool.eq_false_iff, ne_eq, ex_c2]; omega
          have h2 : ¬ hasP (exP2 D) x = true := by rw [ex_h2]; omega
          rw [fsP, valP, if_neg h1, valP, if_neg h2]
          simp only [List.any_cons, c1, c2, List.any_nil, Bool.or_false]
          rfl
  · rw [makeV_out (a := ((0 : Int), (10 : Int))) (fun h => hin ⟨h.2.1, h.2.2⟩)]
    exact (fsP_none fun p hp hh => by
      rcases List.mem_cons.1 hp with rfl | hp
      · rw [ex_h1] at hh; omega
      · obtain rfl := List.mem_singleton.1 hp
        rw [ex_h2] at hh; omega).symm
theorem ex_tl (A B : Option Addr) : TL [exP1 A, exP2 B] := ⟨by show rightP 0 4 = true; decide, ⟨Int.le_refl _, fun _ h => by cases h⟩, by show rightP 4 8 = true; decide⟩

end Go.Proofs.Ytnopbhlhdecimaa

/-
  How long a list is that changes were applied to; applied one by one: plain facts.
-/
namespace Go.Proofs.Ytnopbhlhdecimaa
open Go.RowKit

def endsC (c : Ch) : List Int := [c.f, c.t]
def endsA (a : List Pc) (l : List Ch) : List Int := a.flatMap endsP ++ l.flatMap endsC
theorem endsA_length (a : List Pc) (l : List Ch) : (endsA a l).length ≤ 2 * a.length + 2 * l.length := by
  have h1 := flat2_length endsP (fun _ => Nat.le_refl 2) a
  have h2 := flat2_length endsC (fun _ => Nat.le_refl 2) l
  unfold endsA
  rw [List.length_append]
  omega
theorem newAt_congr {l : List Ch} {x y : Int} (h : ∀ c ∈ l, (c.f ≤ x ↔ c.f ≤ y) ∧ (c.t ≤ x ↔ c.t ≤ y)) : newAt l x = newAt l y := by
  induction l with
  | nil => rfl
  | cons c l ih =>
    have hc := h c (by simp)
    have e : (decide (c.f ≤ x) && decide (x < c.t)) = (decide (c.f ≤ y) && decide (y < c.t)) := by
      rw [Bool.eq_iff_iff, Bool.and_eq_true, Bool.and_eq_true, decide_eq_true_eq, decide_eq_true_eq, decide_eq_true_eq, decide_eq_true_eq]
      omega
    rw [newAt, newAt, e, ih fun d hd => h d (List.mem_cons_of_mem _ hd)]
theorem steps_app {a : List Pc} {l : List Ch} {ts : List Int} (ha : TL a) (hl : ∀ c ∈ l, rightP c.f c.t = true) (hp : ts.Pairwise (· < ·)) (ht : ∀ y, y ∈ ts ↔ y ∈ endsA a l) : Steps ts (appV a l) := by
  have a1 : ∀ p ∈ a, p.f ∈ ts ∧ p.t ∈ ts := fun p hpa => ⟨(ht _).2 (List.mem_append.2 (.inl (List.mem_flatMap.2 ⟨p, hpa, by simp [endsP]⟩))), (ht _).2 (List.mem_append.2 (.inl (List.mem_flatMap.2 ⟨p, hpa, by simp [endsP]⟩)))⟩
  have l1 : ∀ c ∈ l, c.f ∈ ts ∧ c.t ∈ ts := fun c hc => ⟨(ht _).2 (List.mem_append.2 (.inr (List.mem_flatMap.2 ⟨c, hc, by simp [endsC]⟩))), (ht _).2 (List.mem_append.2 (.inr (List.mem_flatMap.2 ⟨c, hc, by simp [endsC]⟩)))⟩
  refine ⟨hp, fun e he => ?_, fun i b c x hb hc hx1 hx2 => ?_, fun x hx => ?_, fun x hx => ?_⟩
  · have he := (ht e).1 he
    unfold endsA at he
    rcases List.mem_append.1 he with he | he
    · obtain ⟨p, hpl, he⟩ := List.mem_flatMap.1 he
      have := (rightP_iff _ _).1 (ha.rights p hpl)
      simp [endsP] at he
      omega
    · obtain ⟨c, hc, he⟩ := List.mem_flatMap.1 he
      have := (rightP_iff _ _).1 (hl c hc)
      simp [endsC] at he
      omega
  · have e1 : fsP a x = fsP a b := fs_congr fun p hpk => by
      have k1 := end_le hp hb hc hx1 hx2 (a1 p hpk).1
      have k2 := end_le hp hb hc hx1 hx2 (a1 p hpk).2
      rw [Bool.eq_iff_iff, hasP_iff, hasP_iff]
      omega
    have e2 : newAt l x = newAt l b := newAt_congr fun d hd => ⟨end_le hp hb hc hx1 hx2 (l1 d hd).1, end_le hp hb hc hx1 hx2 (l1 d hd).2⟩
    rw [appV, appV, e1, e2]
  · have e2 : newAt l x = none := by
      cases hn : newAt l x with
      | none => rfl
      | some c =>
        obtain ⟨hc, h1, _⟩ := newAt_mem hn
        have := end_first hp hx (l1 c hc).1
        omega
    rw [appV, e2]
    exact fsP_none fun p hpl h => by
      rw [hasP_iff] at h
      have := end_first hp hx (a1 p hpl).1
      omega
  · have e2 : newAt l x = none := by
      cases hn : newAt l x with
      | none => rfl
      | some c =>
        obtain ⟨hc, _, h2⟩ := newAt_mem hn
        have := hx c.t (l1 c hc).2
        omega
    rw [appV, e2]
    exact fsP_none fun p hpl h => by
      rw [hasP_iff] at h
      have := hx p.t (a1 p hpl).2
      omega
theorem app_len {a R : List Pc} {l : List Ch} (ha : TL a) (hl : ∀ c ∈ l, rightP c.f c.t = true) (hR : TL R) (h : ∀ x, fsP R x = appV a l x) : R.length ≤ 2 * a.length + 2 * l.length := by
  have hs := steps_app (ts := Co.riseL (endsA a l)) ha hl (Co.riseL_pw _) (fun y => Co.mem_riseL _ y)
  rcases Nat.eq_zero_or_pos (Co.riseL (endsA a l)).length with h0 | h0
  · have hn : Co.riseL (endsA a l) = [] := List.eq_nil_of_length_eq_zero h0
    have := tl_len hR (b := []) trivial (fun x => by rw [h, hs.ahead x (fun e he => by rw [hn] at he; simp at he)]; rfl)
    simp at this
    rw [this]; simp
  · obtain ⟨o, h1, h2, h3⟩ := steps_exists hs h0
    have e := tl_len hR h1 (fun x => (h x).trans (h2 x).symm)
    have := Co.riseL_length (endsA a l)
    have := endsA_length a l
    omega
/-- One change more, behind the others. -/
theorem newAt_snoc {l : List Ch} {c : Ch} (h : ∀ d ∈ l, d.t ≤ c.f) (x : Int) : newAt (l ++ [c]) x = if (decide (c.f ≤ x) && decide (x < c.t)) = true then some c else newAt l x := by
  induction l with
  | nil => rfl
  | cons d l ih =>
    have hd := h d (by simp)
    rw [List.cons_append, newAt, newAt, ih fun e he => h e (List.mem_cons_of_mem _ he)]
    by_cases h1 : (decide (d.f ≤ x) && decide (x < d.t)) = true
    · rw [if_pos h1, if_pos h1]
      rw [Bool.and_eq_true, decide_eq_true_eq, decide_eq_true_eq] at h1
      rw [if_neg (by rw [Bool.and_eq_true, decide_eq_true_eq, decide_eq_true_eq]; omega)]
    · rw [if_neg h1, if_neg h1]
/-- The piece that a change makes, if it makes one. -/
def pieceC (c : Ch) : List Pc := if c.has = true then [⟨c.f, c.t, c.na, c.nc, c.ns⟩] else []
theorem pieceC_tl {c : Ch} (h : rightP c.f c.t = true) : TL (pieceC c) := by
  unfold pieceC
  split
  · exact h
  · trivial
theorem pieceC_fs (c : Ch) {x : Int} (h : rightP c.f c.t = true) (h1 : c.f ≤ x) (h2 : x < c.t) : fsP (pieceC c) x = newC c := by
  unfold pieceC newC
  split
  · rename_i hh
    rw [fsP_one, if_pos (has_at (p := ⟨c.f, c.t, c.na, c.nc, c.ns⟩) h h1 h2)]
  · rfl
theorem splice_app {a out : List Pc} {l : List Ch} {c : Ch} (ho : TL out) (hv : ∀ x, fsP out x = appV a l x) (hc : rightP c.f c.t = true) (hl : ∀ d ∈ l, d.t ≤ c.f) (x : Int) : spliceG (c.f, c.t) out (pieceC c) x = appV a (l ++ [c]) x := by
  rw [spliceG, (rightT_iff _).2 ho, (rightT_iff _).2 (pieceC_tl hc)]
  simp only [Bool.and_self, if_true]
  rw [show rightP (c.f, c.t).1 (c.f, c.t).2 = true from hc, if_pos rfl, spliceV, appV, newAt_snoc hl]
  by_cases hin : c.f ≤ x ∧ x < c.t
  · rw [if_pos ((inP_iff _ _ _).2 hin), if_pos (by rw [Bool.and_eq_true, decide_eq_true_eq, decide_eq_true_eq]; exact hin), pieceC_fs c hc hin.1 hin.2]
  · rw [if_neg (fun k => hin ((inP_iff _ _ _).1 k)), if_neg (fun k => hin (by rw [Bool.and_eq_true, decide_eq_true_eq, decide_eq_true_eq] at k; exact k)), hv x, appV]
/-- What the document asks of a change: the list within its span is nothing, or one piece of it. -/
def saysB (a : List Pc) (c : Ch) : Bool := match c.had, clipL (c.f, c.t) a with
  | false, m => m.isEmpty
  | true, [p] => (decide (p.f = c.f) && decide (p.t = c.t)) && sameF p.fs c.os
  | true, _ => false
theorem says_iff {a : List Pc} {c : Ch} (ha : TL a) (hc : rightP c.f c.t = true) : saysB a c = true ↔ SaysC a c := by
  have hcl := clip_tl (a := (c.f, c.t)) ha
  have hfs : ∀ x, fsP (clipL (c.f, c.t) a) x = if inP c.f c.t x = true then fsP a x else none := fun x => by
    rw [clip_fs, show rightP (c.f, c.t).1 (c.f, c.t).2 = true from hc, Bool.true_and]
  have hcr := right_lt hc
  unfold saysB
  cases hh : c.had with
  | false =>
    have hold : oldC c = none := by rw [oldC, hh]; rfl
    simp only
    constructor
    · intro hm x h1 h2
      rw [List.isEmpty_iff] at hm
      have := hfs x
      rw [hm, if_pos ((inP_iff _ _ _).2 ⟨h1, h2⟩)] at this
      rw [hold, ← this]; rfl
    · intro hs
      rw [List.isEmpty_iff]
      have := tl_len hcl (b := []) trivial (fun x => by
        rw [hfs]
        split
        · rename_i hx
          rw [inP_iff] at hx
          rw [hs x hx.1 hx.2, hold]; rfl
        · rfl)
      exact List.eq_nil_of_length_eq_zero this
  | true =>
    have hold : oldC c = some c.os := by rw [oldC, hh]; rfl
    have key : SaysC a c ↔ (clipL (c.f, c.t) a).map sayP = [(c.f, c.t, c.os)] := by
      have ht1 : TL [(⟨c.f, c.t, none, 0, c.os⟩ : Pc)] := hc
      constructor
      · intro hs
        exact tl_ext hcl ht1 (fun x => by
          rw [hfs, fsP_one]
          by_cases hx : c.f ≤ x ∧ x < c.t
          · rw [if_pos ((inP_iff _ _ _).2 hx), hs x hx.1 hx.2, hold, if_pos (has_at (p := ⟨c.f, c.t, none, 0, c.os⟩) hc hx.1 hx.2)]
          · rw [if_neg (fun k => hx ((inP_iff _ _ _).1 k)), if_neg (fun k => by rw [hasP_iff] at k; exact hx k.2)])
      · intro hm x h1 h2
        obtain ⟨p, hp⟩ : ∃ p, clipL (c.f, c.t) a = [p] := by
          cases hq : clipL (c.f, c.t) a with
          | nil => rw [hq] at hm; simp at hm
          | cons p m =>
            rw [hq, List.map_cons] at hm
            injection hm with _ hm2
            cases m with
            | nil => exact ⟨p, rfl⟩
            | cons r m => simp at hm2
        rw [hp] at hm
        simp only [List.map_cons, List.map_nil, List.cons.injEq, and_true, Prod.mk.injEq] at hm
        have hv := hfs x
        have hpr : rightP p.f p.t = true := by rw [hp] at hcl; exact hcl
        rw [hp, fsP_one, if_pos ((inP_iff _ _ _).2 ⟨h1, h2⟩), if_pos (has_at hpr (by rw [hm.1]; exact h1) (by rw [hm.2.1]; exact h2)), hm.2.2] at hv
        rw [← hv, hold]
    rw [key]
    cases hq : clipL (c.f, c.t) a with
    | nil => simp
    | cons p m =>
      cases m with
      | nil =>
        simp only [List.map_cons, List.map_nil, List.cons.injEq, and_true, Prod.mk.injEq, Bool.and_eq_true, decide_eq_true_eq]
        constructor
        · rintro ⟨⟨h1, h2⟩, h3⟩; exact ⟨h1, h2, sameF_eq _ _ h3⟩
        · rintro ⟨h1, h2, h3⟩; exact ⟨⟨h1, h2⟩, by rw [h3]; exact sameF_self _⟩
      | cons r m => simp

end Go.Proofs.Ytnopbhlhdecimaa

/-
  The document's One and Same of versions.
-/
namespace Go.Proofs.Ytnopbhlhdecimaa
open Go.RowKit

theorem Try.noGuardSpan : Try.prog.eqGuardType Try.prog.depth 42 = false := by kernel_rfl
set_option maxRecDepth 100000 in
theorem run_eql_span (a b c d : Int) (w : World) : (binOp .eql 42 (.agg #[.int .i64 a, .int .i64 b]) (.agg #[.int .i64 c, .int .i64 d])).run Try.prog w = .ok (.bool (decide (a = c ∧ b = d))) w := by
  rw [run_eql_struct, run_equalIn_struct w 9999 42 _ _ Try.underlying42 (by kernel_rfl)]
  have h3 := Try.underlying3
  have a3 : ∀ w, (isAgg 3).run Try.prog w = .ok false w := Try.isAgg3
  have c3 : Try.prog.cellsOf 3 = 1 := by kernel_rfl
  simp [Op.eqFields, Program.fieldsOf, Try.underlying42, part, a3, run_equalIn_int w 9998 _ .i64 .i64 _ _ h3]
  by_cases h1 : a = c
  · by_cases h2 : b = d <;> simp [h1, h2]
  · simp [h1]

end Go.Proofs.Ytnopbhlhdecimaa

/-
  The document's Few of changes; says.
-/
namespace Go.Proofs.Ytnopbhlhdecimaa
open Go.RowKit

/-- Are there at most so many changes, of at most 20 fields? -/
def fewCh (c : Ch) : Bool := decide (c.os.length ≤ 20) && decide (c.ns.length ≤ 20)
def fewC (l : List Ch) (m : Int) : Bool := decide ((l.length : Int) ≤ m) && l.all fewCh
theorem few_changes {l : List Ch} {m : Int} (h : fewC l m = true) : (l.length : Int) ≤ m ∧ ∀ c ∈ l, c.os.length ≤ 20 ∧ c.ns.length ≤ 20 := by
  unfold fewC at h
  rw [Bool.and_eq_true, decide_eq_true_eq, List.all_eq_true] at h
  refine ⟨h.1, fun c hc => ?_⟩
  have := h.2 c hc
  unfold fewCh at this
  rw [Bool.and_eq_true, decide_eq_true_eq, decide_eq_true_eq] at this
  exact this
set_option maxHeartbeats 2000000 in
theorem dfew12_any (w : World) (u : Value) (l : List Ch) (m : Int) (hl : ListE ER12 w u l) (hn : l.length ≤ 9223372036854775807) : Same 15 #[u, .int .i64 m] w (.bool (fewC l m)) := by
  obtain ⟨A, c, rfl, hA, hc, hnc⟩ := hl
  have HA := Lib.hid hA
  obtain ⟨n, hnm⟩ : ∃ n, l.length = n := ⟨_, rfl⟩
  have HFB := Lib.hid (show fewC l m = (decide ((n : Int) ≤ m) && l.all fewCh) by rw [← hnm]; rfl)
  rw [hnm] at hn ⊢
  have HN := Lib.hid hnm
  clear hA hc hnc hnm
  generalize fewC l m = R at *
  by_cases hm : m < (n : Int)
  · have HE := Lib.hid (show R = false by rw [HFB.out, decide_eq_false (by omega)]; rfl)
    go_enter Try.func15, Try.ntmps15
    go_wp2_with fail
    go_ret
    exact ⟨ret_bool HE.out.symm, rfl⟩
  · have HE := Lib.hid (show R = l.all fewCh by rw [HFB.out, decide_eq_true (by omega)]; rfl)
    go_enter Try.func15, Try.ntmps15
    go_wp2_with fail
    go_loopw [5] (fun i wr => ∃ k : Nat, k ≤ n ∧ i = .int .i64 k ∧ R = (l.drop k).all fewCh ∧ wr = w) (fun i _ => n - (intOf i).toNat)
    case atStart => exact ⟨0, Nat.zero_le _, rfl, HE.out, rfl⟩
    case round =>
      obtain ⟨k, hk, rfl, hg, hwr⟩ := hrel
      obtain rfl := hwr.symm
      by_cases hlt : k < n
      · have hlt' : (k : Int) < (n : Int) := by omega
        obtain ⟨v, hx⟩ : ∃ v, l[k]? = some v := ⟨_, List.getElem?_eq_getElem (by have := HN.out; omega)⟩
        obtain ⟨g, off, rfl, hX⟩ := HA.out.cells6r hx
        obtain ⟨x0, x1, x2, x3, z4, z5⟩ := hX
        rw [drop_consL hx, List.all_cons] at hg
        clear hx x0 x1 x2 x3
        have HFC : fewCh v = (decide (v.os.length ≤ 20) && decide (v.ns.length ≤ 20)) := rfl
        by_cases h20 : 20 < v.os.length
        · have h20' : (20 : Int) < (v.os.length : Int) := by omega
          have NX := Lib.hid (show R = false by rw [hg, HFC, decide_eq_false (by omega)]; rfl)
          clear hg HFC
          generalize v.os.length = q at *
          generalize v.ns.length = q2 at *
          go_wp2_with fail
          go_ret
          exact ⟨ret_bool NX.out.symm, rfl⟩
        · have h20' : ¬ (20 : Int) < (v.os.length : Int) := by omega
          by_cases h21 : 20 < v.ns.length
          · have h21' : (20 : Int) < (v.ns.length : Int) := by omega
            have NX := Lib.hid (show R = false by rw [hg, HFC, decide_eq_false (p := v.ns.length ≤ 20) (by omega), Bool.and_false]; rfl)
            clear hg HFC
            generalize v.os.length = q at *
            generalize v.ns.length = q2 at *
            go_wp2_with fail
            go_ret
            exact ⟨ret_bool NX.out.symm, rfl⟩
          · have h21' : ¬ (20 : Int) < (v.ns.length : Int) := by omega
            have NX := Lib.hid (show R = (l.drop (k + 1)).all fewCh by rw [hg, HFC, decide_eq_true (by omega), decide_eq_true (by omega)]; rfl)
            clear hg HFC
            generalize v.os.length = q at *
            generalize v.ns.length = q2 at *
            go_wp2_with fail
            exact ⟨⟨k + 1, by omega, by go_num, NX.out, trivial⟩, by simp [intOf] <;> omega⟩
      · obtain rfl : k = n := by omega
        have hlt' : ¬ (k : Int) < (k : Int) := by omega
        rw [List.drop_of_length_le (by have := HN.out; omega)] at hg
        have NX := Lib.hid (show R = true from hg)
        clear hg
        go_wp2_with fail
        go_ret
        exact ⟨ret_bool NX.out.symm, rfl⟩

/-- What says asks of the list within the span. -/
def saysR (c : Ch) (m : List Pc) : Bool := match c.had, m with
  | false, m => m.isEmpty
  | true, [p] => (decide (p.f = c.f) && decide (p.t = c.t)) && sameF p.fs c.os
  | true, _ => false
theorem saysR_congr {c : Ch} {l m : List Pc} (h : l.map sayP = m.map sayP) : saysR c l = saysR c m := by
  unfold saysR
  cases c.had with
  | false => cases l <;> cases m <;> simp_all
  | true =>
    match l, m, h with
    | [], [], _ => rfl
    | [], q :: m, h => simp at h
    | p :: l, [], h => simp at h
    | [p], [q], h =>
      simp only [List.map_cons, List.map_nil, List.cons.injEq, and_true, sayP, Prod.mk.injEq] at h
      simp only [h.1, h.2.1, h.2.2]
    | [p], q :: r :: m, h => simp at h
    | p :: r :: l, [q], h => simp at h
    | p :: r :: l, q :: s :: m, h => rfl
theorem saysB_R (a : List Pc) (c : Ch) : saysB a c = saysR c (clipL (c.f, c.t) a) := by
  unfold saysB saysR
  cases c.had with
  | false => rfl
  | true =>
    match clipL (c.f, c.t) a with
    | [] => rfl
    | [p] => rfl
    | p :: q :: l => rfl

set_option maxHeartbeats 4000000 in
set_option maxRecDepth 10000 in
theorem dsays_any (w : World) (u : Value) (a : List Pc) (c : Ch) (ha : PcsL w u a) (hc : CF w c) (hn : a.length ≤ 1000) (hfs : ∀ p ∈ a, p.fs.length ≤ 20000) (hos : c.os.length ≤ 20000) (htl : TL a) : Ret 31 #[u, cv c] w (.bool (saysB a c)) := by
  have CC := Lib.hid (fun w' (h : Below w.heap.size w w') => dtclip_any w' (c.f, c.t) u a (ha.below h) hn (fun p hp => by have := hfs p hp; omega))
  have HB1 := Lib.hid (show Below w.heap.size w (w.alloc (ocCh c)) from (bl w).alloc (Nat.le_refl _) _)
  have HX1 := Lib.hid (boxC_new w c)
  have HCF := Lib.hid hc
  have HOS := Lib.hid hos
  have HRR := Lib.hid (show ∀ m : List Pc, TL m → (∀ x, fsP m x = clipG (c.f, c.t) a x) → saysB a c = saysR c m ∧ ∀ p ∈ m, p.fs.length ≤ 20000 from fun m hm hv => by
    have h1 : ∀ x, fsP m x = fsP (clipL (c.f, c.t) a) x := fun x => by rw [hv, clipG, (rightT_iff _).2 htl, if_pos rfl]
    refine ⟨by rw [saysB_R]; exact (saysR_congr (tl_ext hm (clip_tl htl) h1)).symm, fun p hp => ?_⟩
    exact clipG_few (a := (c.f, c.t)) hfs p.f p.fs (by rw [← hv]; exact fs_mem hm p hp))
  generalize saysB a c = r at *
  clear ha hc hn hfs htl hos
  go_enter Try.func31, Try.ntmps31
  go_upto_region 1 with fail
  refine abstract_worldW (fun W => Below w.heap.size w W ∧ BoxC W w.heap.size c) ⟨HB1.out, HX1.out⟩ ?_
  rintro W ⟨hW, hx⟩
  have HW := Lib.hid hW
  have HX := Lib.hid hx
  obtain ⟨x0, x1, x2, x3, x4, x5⟩ := hx
  clear hW HX1 HB1
  go_upto_region 2 with (first
    | (go_at_call 45; (with_reducible refine (CC.out _ HW.out).mono ?_); rintro e w2 ⟨v2, rfl, ⟨m, hm⟩, hb2⟩; have HM := Lib.hid hm; have HB2 := Lib.hid hb2; clear hm hb2))
  have HR := Lib.hid (HRR.out m HM.out.tl HM.out.fs)
  have HX2 := Lib.hid (HX.out.below HB2.out)
  have HW2 := Lib.hid (chain HW.out HB2.out)
  clear x0 x1 x2 x3 x4 x5
  obtain ⟨x0, x1, x2, x3, x4, x5⟩ := HX2.out
  obtain ⟨⟨A, cp, rfl, hA, hcp, hncp⟩, hPF⟩ := HM.out.pcs
  have hml := HM.out.len
  have HA := Lib.hid hA
  have HPF := Lib.hid hPF
  have HE := Lib.hid (show r = saysR c m from HR.out.1)
  clear hA hPF hncp hcp
  cases hh : c.had with
  | false =>
    rw [hh] at x2
    have HE2 := Lib.hid (show r = decide ((m.length : Int) = 0) by
      rw [HE.out]
      unfold saysR
      rw [hh]
      cases m with
      | nil => rfl
      | cons p m => simp; omega)
    clear x0 x1 x3 x4 x5 hh
    generalize m.length = k at *
    go_wp2_with fail
    go_ret
    exact ⟨ret_bool (by rw [HE2.out, Bool.eq_iff_iff]; simp), HW2.out⟩
  | true =>
    rw [hh] at x2
    by_cases h1 : m.length = 1
    · clear HM
      obtain ⟨p, hp⟩ : ∃ p, m = [p] := List.length_eq_one_iff.1 h1
      rw [h1]
      subst hp
      obtain ⟨g, off, rfl, hP⟩ := HA.out.cells3 (k := 0) (p := p) rfl
      have hsz := HR.out.2 p (by simp)
      have hos := HOS.out
      have HE2 := Lib.hid (show r = ((decide (p.f = c.f) && decide (p.t = c.t)) && sameF p.fs c.os) by rw [HE.out]; unfold saysR; rw [hh])
      have CS := Lib.hid (fun w' (h : Below w2.heap.size w2 w') => dsamel_any w' _ _ p.fs c.os ((HPF.out p (by simp)).list.below h) (HCF.out.old.below (chain HW2.out h)) (by omega) (by omega))
      rw [Nat.zero_mul, Nat.add_zero] at hP
      obtain ⟨y0, y1, y2⟩ := hP
      by_cases hsp : p.f = c.f ∧ p.t = c.t
      · have HE3 := Lib.hid (show r = sameF p.fs c.os by rw [HE2.out, decide_eq_true hsp.1, decide_eq_true hsp.2]; rfl)
        have hq : ∀ w, (binOp .eql 42 (.agg #[.int .i64 p.f, .int .i64 p.t]) (.agg #[.int .i64 c.f, .int .i64 c.t])).run Try.prog w = .ok (.bool true) w := fun w => by rw [run_eql_span, decide_eq_true hsp]
        have ef : (p.f == c.f) = true := by simpa using hsp.1
        have et : (p.t == c.t) = true := by simpa using hsp.2
        have HP := Lib.hid (show Cells3 w2 g off p from ⟨y0, y1, y2⟩)
        have MK := Lib.hid (show ∀ w', Below w2.heap.size w2 w' → (Below w2.heap.size w2 w' ∧ Cells3 w' g off p ∧ BoxC w' w.heap.size c) from fun w' h => ⟨h, HP.out.below h, HX2.out.below h⟩)
        clear hsp hh h1 hml
        generalize sameF p.fs c.os = s at *
        go_wp2_with fail
        first
          | (go_region_held3 (fun w' => Below w2.heap.size w2 w' ∧ Cells3 w' g off p ∧ BoxC w' w.heap.size c)
              (first | exact MK.out _ ((bl w2).drew) | exact MK.out _ hb1 | fail)
              (first | (go_at_call 27; (refine (CS.out _ (by go_split_ands; assumption)).mono ?_); (rintro e w3 ⟨rfl, hb0⟩); (have hb1 := chain (by go_split_ands; assumption) hb0); clear hb0) | fail))
          | fail
        go_wp2_with fail
        go_ret
        exact ⟨ret_bool HE3.out.symm, chain HW2.out hb1⟩
      · have HE3 := Lib.hid (show r = false by
          rw [HE2.out]
          have : (decide (p.f = c.f) && decide (p.t = c.t)) = false := by
            rw [Bool.and_eq_false_iff, decide_eq_false_iff_not, decide_eq_false_iff_not]
            by_cases h : p.f = c.f
            · exact .inr fun k => hsp ⟨h, k⟩
            · exact .inl h
          rw [this, Bool.false_and])
        have hq : ∀ w, (binOp .eql 42 (.agg #[.int .i64 p.f, .int .i64 p.t]) (.agg #[.int .i64 c.f, .int .i64 c.t])).run Try.prog w = .ok (.bool false) w := fun w => by rw [run_eql_span, decide_eq_false hsp]
        clear hsp hh h1 hml
        go_wp2_with fail
        go_quiet (fail)
        go_wp2_with fail
        go_ret
        exact ⟨ret_bool HE3.out.symm, belowN HW2.out _⟩
    · have h1' : ¬ (m.length : Int) = 1 := by omega
      have HE3 := Lib.hid (show r = false by
        rw [HE.out]
        unfold saysR
        rw [hh]
        match m, h1 with
        | [], _ => rfl
        | [p], h => exact absurd rfl h
        | p :: q :: l, _ => rfl)
      clear hh h1
      generalize m.length = k at *
      go_wp2_with fail
      go_quiet (fail)
      go_wp2_with fail
      go_ret
      exact ⟨ret_bool HE3.out.symm, belowN HW2.out _⟩

end Go.Proofs.Ytnopbhlhdecimaa

/-
  The document's Apply.
-/
namespace Go.Proofs.Ytnopbhlhdecimaa
open Go.RowKit

/-- So far no change is wrong: how far, and where the last one ends. -/
structure ApI (a : List Pc) (l : List Ch) (t : Nat) (e : Option Int) : Prop where
  wr : wrongC a none l = wrongC a e (l.drop t)
  ri : ∀ d ∈ l.take t, rightP d.f d.t = true
  le : ∀ d ∈ l.take t, ∀ te, e = some te → d.t ≤ te
  ev : ∀ j, t = j + 1 → ∃ d, l[j]? = some d ∧ e = some d.t
  e0 : t = 0 → e = none
theorem apI_start (a : List Pc) (l : List Ch) : ApI a l 0 none := ⟨by rw [List.drop_zero], fun d hd => by simp at hd, fun d hd => by simp at hd, fun j h => by omega, fun _ => rfl⟩
theorem ApI.bad1 {a : List Pc} {l : List Ch} {t : Nat} {e : Option Int} (h : ApI a l t e) {c : Ch} (hx : l[t]? = some c) (hr : rightP c.f c.t = false) : wrongC a none l = 3 := by
  rw [h.wr, drop_consL hx, wrongC, if_pos hr]
theorem ApI.bad2 {a : List Pc} {l : List Ch} {t : Nat} {e : Option Int} (h : ApI a l t e) {c : Ch} (hx : l[t]? = some c) (hr : rightP c.f c.t = true) {te : Int} (he : e = some te) (hl : c.f < te) : wrongC a none l = 16 := by
  rw [h.wr, drop_consL hx, wrongC, if_neg (by rw [hr]; simp), if_pos ⟨te, he, hl⟩]
theorem ApI.bad3 {a : List Pc} {l : List Ch} {t : Nat} {e : Option Int} (h : ApI a l t e) {c : Ch} (hx : l[t]? = some c) (hr : rightP c.f c.t = true) (ho : ∀ te, e = some te → te ≤ c.f) (hs : ¬ SaysC a c) : wrongC a none l = 15 := by
  rw [h.wr, drop_consL hx, wrongC, if_neg (by rw [hr]; simp), if_neg (by rintro ⟨te, he, hl⟩; have := ho te he; omega), if_pos hs]
theorem ApI.prev {a : List Pc} {l : List Ch} {t : Nat} {e : Option Int} (h : ApI a l t e) {c : Ch} (ho : ∀ te, e = some te → te ≤ c.f) : ∀ d ∈ l.take t, d.t ≤ c.f := fun d hd => by
  rcases Nat.eq_zero_or_pos t with h0 | h0
  · rw [h0] at hd; simp at hd
  · obtain ⟨q, _, he⟩ := h.ev (t - 1) (by omega)
    exact Int.le_trans (h.le d hd _ he) (ho _ he)
theorem take_next {l : List Ch} {t : Nat} {c : Ch} (hx : l[t]? = some c) : l.take (t + 1) = l.take t ++ [c] := by rw [List.take_add_one, hx, Option.toList_some]
theorem ApI.next {a : List Pc} {l : List Ch} {t : Nat} {e : Option Int} (h : ApI a l t e) {c : Ch} (hx : l[t]? = some c) (hr : rightP c.f c.t = true) (ho : ∀ te, e = some te → te ≤ c.f) (hs : SaysC a c) : ApI a l (t + 1) (some c.t) := by
  refine ⟨?_, fun d hd => ?_, fun d hd te he => ?_, fun j hj => ?_, fun h0 => by omega⟩
  · rw [h.wr, drop_consL hx, wrongC, if_neg (by rw [hr]; simp), if_neg (by rintro ⟨te, he, hl⟩; have := ho te he; omega), if_neg (by simpa using hs)]
  · rw [take_next hx] at hd
    rcases List.mem_append.1 hd with hd | hd
    · exact h.ri d hd
    · simp at hd; rw [hd]; exact hr
  · injection he with he
    rw [take_next hx] at hd
    rcases List.mem_append.1 hd with hd | hd
    · have := h.prev ho d hd
      have := (right_lt hr).2.1
      omega
    · simp at hd; rw [hd]; omega
  · obtain rfl : j = t := by omega
    exact ⟨c, hx, rfl⟩
theorem appV_few {a : List Pc} {l : List Ch} {n : Nat} (ha : ∀ p ∈ a, p.fs.length ≤ n) (hl : ∀ c ∈ l, c.os.length ≤ n ∧ c.ns.length ≤ n) : ∀ x s, appV a l x = some s → s.length ≤ n := fun x s h => by
  rw [appV] at h
  cases hn : newAt l x with
  | none => rw [hn] at h; exact fs_small ha h
  | some c =>
    rw [hn] at h
    simp only at h
    unfold newC at h
    split at h
    · injection h with h
      rw [← h]
      exact (hl c (newAt_mem hn).1).2
    · cases h
theorem pieceC_few {c : Ch} {n : Nat} (h : c.ns.length ≤ n) : ∀ p ∈ pieceC c, p.fs.length ≤ n := fun p hp => by
  unfold pieceC at hp
  split at hp
  · simp at hp; rw [hp]; exact h
  · simp at hp

set_option maxHeartbeats 8000000 in
set_option maxRecDepth 10000 in
theorem dapply12_any (w : World) (u u' : Value) (a : List Pc) (l : List Ch) (ha : PcsL w u a) (hl : ChsL ER12 w u' l) (hna : a.length ≤ 40) (hnl : l.length ≤ 40) (hfa : ∀ p ∈ a, p.fs.length ≤ 20) (hfl : ∀ c ∈ l, c.os.length ≤ 20 ∧ c.ns.length ≤ 20) : Calls Try.prog 17 #[u, u'] w fun e w' => ∃ x, e = .returned (.tuple #[x, .int .i64 ((applyE a l : Nat) : Int)]) ∧ HasTL w' x (applyG a l) ∧ Below w.heap.size w w' := by
  have CA := Lib.hid (fun w' (h : Below w.heap.size w w') => dtright_any w' u a (ha.below h) (by omega) (fun p hp => by have := hfa p hp; omega))
  have HPA := Lib.hid ha
  have HNA := Lib.hid hna
  have HFA := Lib.hid hfa
  have HFL := Lib.hid hfl
  obtain ⟨⟨B, d, rfl, hB, hd, hnd⟩, hVF⟩ := hl
  have HB := Lib.hid hB
  have HVF := Lib.hid hVF
  obtain ⟨n, hn1⟩ : ∃ n, l.length = n := ⟨_, rfl⟩
  rw [hn1] at hnl hd ⊢
  have HN := Lib.hid hn1
  have HERR := Lib.hid (show ∀ w', applyE a l ≠ 0 → HasTL w' (.slice none 0 0) (applyG a l) from fun w' h => ⟨[], TimeL.nil _ _ (fun x => by rw [applyG, if_neg h])⟩)
  clear ha hB hd hnd hVF hn1 hna hfa hfl
  cases hra : rightT a with
  | false =>
    rw [hra] at CA
    have HE := Lib.hid (show applyE a l = 2 by rw [applyE, hra]; rfl)
    clear hra
    go_enter Try.func17, Try.ntmps17
    go_wp2_with (go_at_call 19; (with_reducible refine (CA.out _ (bl w)).mono ?_); rintro e w2 ⟨rfl, hb2⟩)
    go_ret2
    exact ⟨_, by rw [HE.out]; rfl, HERR.out _ (by rw [HE.out]; decide), hb2⟩
  | true =>
    rw [hra] at CA
    have HTL := Lib.hid ((rightT_iff a).1 hra)
    have HE := Lib.hid (show applyE a l = wrongC a none l by rw [applyE, if_pos hra])
    clear hra
    go_enter Try.func17, Try.ntmps17
    go_wp2_with (go_at_call 19; (with_reducible refine (CA.out _ (bl w)).mono ?_); rintro e w2 ⟨rfl, hb2⟩; have HB2 := Lib.hid hb2; clear hb2)
    go_loopw [6, 7] (fun o i wr => ∃ (t : Nat) (e : Option Int) (R : List Pc), t ≤ n ∧ i = .int .i64 (t : Nat) ∧ ApI a l t e ∧ TimeL wr o (appV a (l.take t)) R ∧ Below w.heap.size w wr) (fun _ i _ => n - (intOf i).toNat)
    case atStart => exact ⟨0, none, a, Nat.zero_le _, rfl, apI_start a l, ⟨HPA.out.below HB2.out, HTL.out, fun x => rfl, by have := HNA.out; omega⟩, HB2.out⟩
    case round =>
      obtain ⟨t, e, R, ht, rfl, hI, hT, hW⟩ := hrel
      have HI := Lib.hid hI
      have HT := Lib.hid hT
      have HW := Lib.hid hW
      clear hI hT hW
      by_cases hlt : t < n
      · have hlt' : (t : Int) < (n : Int) := by omega
        obtain ⟨c, hx⟩ : ∃ c, l[t]? = some c := ⟨_, List.getElem?_eq_getElem (by have := HN.out; omega)⟩
        have HC := Lib.hid hx
        obtain ⟨g, off, rfl, hX⟩ := (HB.out.below HW.out).cells6r hx
        have HX := Lib.hid hX
        have HCF := Lib.hid (HVF.out c (List.mem_of_getElem? hx))
        have HFC := Lib.hid (HFL.out c (List.mem_of_getElem? hx))
        have CR := Lib.hid (fun w => dright01_any c.f c.t w)
        obtain ⟨z0, z1, z2, z3, z4, z5⟩ := hX
        clear hx
        rw [rightS_P] at CR
        cases hr : rightP c.f c.t with
        | false =>
          rw [hr] at CR
          have HE2 := Lib.hid (show applyE a l = 3 by rw [HE.out, HI.out.bad1 HC.out hr])
          clear hr
          go_wp2_with (go_at_call 30; (with_reducible refine (CR.out _).mono ?_); rintro e w3 ⟨rfl, hb3⟩)
          go_ret2
          exact ⟨_, by rw [HE2.out]; rfl, HERR.out _ (by rw [HE2.out]; decide), chain HW.out hb3⟩
        | true =>
          rw [hr] at CR
          have HRT := Lib.hid hr
          clear hr
          have CSP := Lib.hid (fun w' (v : Value) (h : Below wr.heap.size wr w') (hv : PcsL w' v (pieceC c)) => dtsplice_any w' (c.f, c.t) _ v R (pieceC c) (HT.out.pcs.below h) hv (by
            have h1 := app_len HTL.out HI.out.ri HT.out.tl HT.out.fs
            have h2 := HNA.out
            have h3 : (l.take t).length ≤ t := List.length_take_le t l
            omega) (by unfold pieceC; split <;> simp) (fun p hp => by have := HT.out.few (appV_few HFA.out (fun c hc => HFL.out c (List.mem_of_mem_take hc))) p hp; omega) (fun p hp => by have := pieceC_few HFC.out.2 p hp; omega))
          have HFIN := Lib.hid (show (∀ te, e = some te → te ≤ c.f) → ∀ w' x, HasTL w' x (spliceG (c.f, c.t) R (pieceC c)) → ∃ R', TimeL w' x (appV a (l.take (t + 1))) R' from fun ho w' x ⟨R', h⟩ => ⟨R', h.mono (fun y => by rw [take_next HC.out]; exact splice_app HT.out.tl HT.out.fs HRT.out (HI.out.prev ho) y)⟩)
          have CS := Lib.hid (fun w' (h : Below wr.heap.size wr w') => dsays_any w' u a c (HPA.out.below (chain HW.out h)) (HCF.out.below (chain HW.out h)) (by have := HNA.out; omega) (fun p hp => by have := HFA.out p hp; omega) (by have := HFC.out.1; omega) HTL.out)
          rcases Nat.eq_zero_or_pos t with hk0 | hk0
          · have HOR := Lib.hid (show ∀ te, e = some te → te ≤ c.f from fun te he => by rw [HI.out.e0 hk0] at he; cases he)
            have hkz : ¬ (0 : Int) < (t : Int) := by omega
            have hkn : ¬ 0 < t := by omega
            clear hk0
            go_wp2_with (go_at_call 30; (with_reducible refine (CR.out _).mono ?_); rintro e w3 ⟨rfl, hb3⟩; have HB3 := Lib.hid hb3; clear hb3)
            go_quiet (fail)
            go_upto_region 11 with fail
            refine abstract_worldW (fun W => Below wr.heap.size wr W) (belowN HB3.out _) ?_
            rintro W hW3
            have HW3 := Lib.hid hW3
            have HXW := Lib.hid (HX.out.below hW3)
            clear z0 z1 z2 z3 z4 z5 hW3
            obtain ⟨z0, z1, z2, z3, z4, z5⟩ := HXW.out
            cases hs : saysB a c with
            | false =>
              rw [hs] at CS
              have HE2 := Lib.hid (show applyE a l = 15 by rw [HE.out, HI.out.bad3 HC.out HRT.out HOR.out (fun k => by rw [(says_iff HTL.out HRT.out).2 k] at hs; cases hs)])
              clear hs
              go_wp2_with (go_at_call 31; (with_reducible refine (CS.out _ HW3.out).mono ?_); rintro e w4 ⟨rfl, hb4⟩)
              go_ret2
              exact ⟨_, by rw [HE2.out]; rfl, HERR.out _ (by rw [HE2.out]; decide), chain HW.out (chain HW3.out hb4)⟩
            | true =>
              rw [hs] at CS
              have NXI := Lib.hid (HI.out.next HC.out HRT.out HOR.out ((says_iff HTL.out HRT.out).1 hs))
              clear hs
              go_upto_region 13 with (go_at_call 31; (with_reducible refine (CS.out _ HW3.out).mono ?_); rintro e w4 ⟨rfl, hb4⟩; have HW4 := Lib.hid (chain HW3.out hb4); have HX4 := Lib.hid (HXW.out.below hb4); clear hb4)
              clear z0 z1 z2 z3 z4 z5
              obtain ⟨y0, y1, y2, y3, y4, y5⟩ := HX4.out
              cases hh : c.has with
              | false =>
                rw [hh] at y3
                have HPC := Lib.hid (show pieceC c = [] by unfold pieceC; rw [hh]; rfl)
                go_wp2_with (go_at_call 32; (with_reducible refine (CSP.out _ _ HW4.out (by rw [HPC.out]; exact PcsL.nil _)).mono ?_); rintro e w5 ⟨v5, rfl, hv5, hb5⟩; have HV5 := Lib.hid hv5; have HW5 := Lib.hid (chain HW4.out hb5); clear hv5 hb5)
                obtain ⟨R', hR'⟩ := HFIN.out HOR.out _ _ HV5.out
                exact ⟨⟨t + 1, some c.t, R', by omega, by go_num, NXI.out, hR', chain HW.out HW5.out⟩, by simp [intOf] <;> omega⟩
              | true =>
                rw [hh] at y3
                have HPC := Lib.hid (show pieceC c = [⟨c.f, c.t, c.na, c.nc, c.ns⟩] by unfold pieceC; rw [hh]; rfl)
                have MK := Lib.hid (show ∀ w', Below w4.heap.size w4 w' → (Below w4.heap.size w4 w' ∧ Cells6 w' g (off + t * 6) c) from fun w' h => ⟨h, HX4.out.below h⟩)
                go_upto_region 15 with fail
                generalize hvn : (Value.slice none 0 0) = vn
                have HOD := Lib.hid (show OE EP w4 [] vn w4.drew by rw [← hvn]; exact (OE.nil (E := EP) w4).below ((bl w4).drew))
                clear hvn
                first
                  | (go_region_held3 (fun w' => Below w4.heap.size w4 w' ∧ Cells6 w' g (off + t * 6) c)
                      (first | exact MK.out _ HOD.out.bel | exact MK.out _ (HOD.out.bel.alloc HOD.out.bel.size _) | exact MK.out _ HN4.out.bel | fail)
                      (first
                        | (refine step_appE (E := EP) (xs := [(⟨c.f, c.t, c.na, c.nc, c.ns⟩ : Pc)]) rfl (.tmp 56) (.tmp 68) rfl rfl rfl (World.ownsRow.alloc HOD.out.own _) rfl rfl (by have hrow := rowE_one (E := EP) w4.drew (⟨c.f, c.t, c.na, c.nc, c.ns⟩ : Pc) #[.int .i64 c.f, .int .i64 c.t, .slice c.na c.ns.length c.nc] rfl 45; first | exact hrow | (simp at hrow ⊢; exact hrow)) (fun h => by cases h) (by first | (simp; done) | (simp; omega)) (by first | (simp; done) | (simp; omega)) ?_; intro v' w6 hown6 hg6 _; have HN4 := Lib.hid ((HOD.out.below ((bl w4.drew).alloc (Nat.le_refl _) _)).grown hg6 hown6))
                        | fail))
                  | fail
                clear y0 y1 y2 y3 y4 y5
                obtain ⟨y0, y1, y2, y3, y4, y5⟩ := HX4.out.below HN4.out.bel
                have HPM := Lib.hid (show PcsL _ _ (pieceC c) by
                  rw [HPC.out]
                  refine ⟨HN4.out.list, fun p hp => ?_⟩
                  rw [List.mem_singleton] at hp
                  rw [hp]
                  exact (HCF.out.below (chain HW.out (chain HW4.out HN4.out.bel))).2)
                go_wp2_with (go_at_call 32; (with_reducible refine (CSP.out _ _ (chain HW4.out HN4.out.bel) HPM.out).mono ?_); rintro e w7 ⟨v7, rfl, hv7, hb7⟩; have HV5 := Lib.hid hv7; have HW5 := Lib.hid (chain (chain HW4.out HN4.out.bel) hb7); clear hv7 hb7)
                obtain ⟨R', hR'⟩ := HFIN.out HOR.out _ _ HV5.out
                exact ⟨⟨t + 1, some c.t, R', by omega, by go_num, NXI.out, hR', chain HW.out HW5.out⟩, by simp [intOf] <;> omega⟩
          · obtain ⟨j, hkj⟩ : ∃ j, t = j + 1 := ⟨t - 1, by omega⟩
            obtain ⟨q, hq, heq⟩ := HI.out.ev j hkj
            obtain ⟨g', off', he, hP⟩ := (HB.out.below HW.out).cells6r hq
            injection he with he
            injection he with e1 e2 _
            subst e1 e2
            have HPP := Lib.hid hP
            have HEQ := Lib.hid heq
            have hkz : (0 : Int) < (t : Int) := by omega
            have hkz2 : 0 < t := hk0
            have hsub : IntKind.i64.wrap ((t : Int) - 1) = (j : Int) := by rw [IntWalk.i64_in _ (by omega)]; omega
            have hjn : (j : Int) < (n : Int) := by omega
            have hjn2 : j < n := by omega
            clear hq hP hkj heq
            by_cases h1 : c.f < q.t
            · have h1' : decide (c.f < q.t) = true := decide_eq_true h1
              have HE2 := Lib.hid (show applyE a l = 16 by rw [HE.out, HI.out.bad2 HC.out HRT.out HEQ.out h1])
              go_wp2_with (go_at_call 30; (with_reducible refine (CR.out _).mono ?_); rintro e w3 ⟨rfl, hb3⟩; obtain ⟨x0, x1, x2, x3, x4, x5⟩ := HX.out.below hb3; obtain ⟨y0, y1, y2, y3, y4, y5⟩ := HPP.out.below hb3)
              go_quiet (fail)
              go_wp2_with fail
              go_ret2
              exact ⟨_, by rw [HE2.out]; rfl, HERR.out _ (by rw [HE2.out]; decide), belowN (chain HW.out hb3) _⟩
            · have h1' : decide (c.f < q.t) = false := decide_eq_false h1
              have HOR := Lib.hid (show ∀ te, e = some te → te ≤ c.f from fun te he => by rw [HEQ.out] at he; injection he with he; omega)
              go_wp2_with (go_at_call 30; (with_reducible refine (CR.out _).mono ?_); rintro e w3 ⟨rfl, hb3⟩; obtain ⟨x0, x1, x2, x3, x4, x5⟩ := HX.out.below hb3; obtain ⟨y0, y1, y2, y3, y4, y5⟩ := HPP.out.below hb3; have HB3 := Lib.hid hb3; clear hb3)
              go_quiet (fail)
              go_upto_region 11 with fail
              clear x0 x1 x2 x3 x4 x5 y0 y1 y2 y3 y4 y5
              refine abstract_worldW (fun W => Below wr.heap.size wr W) (belowN HB3.out _) ?_
              rintro W hW3
              have HW3 := Lib.hid hW3
              have HXW := Lib.hid (HX.out.below hW3)
              clear z0 z1 z2 z3 z4 z5 hW3
              obtain ⟨z0, z1, z2, z3, z4, z5⟩ := HXW.out
              cases hs : saysB a c with
              | false =>
                rw [hs] at CS
                have HE2 := Lib.hid (show applyE a l = 15 by rw [HE.out, HI.out.bad3 HC.out HRT.out HOR.out (fun k => by rw [(says_iff HTL.out HRT.out).2 k] at hs; cases hs)])
                clear hs
                go_wp2_with (go_at_call 31; (with_reducible refine (CS.out _ HW3.out).mono ?_); rintro e w4 ⟨rfl, hb4⟩)
                go_ret2
                exact ⟨_, by rw [HE2.out]; rfl, HERR.out _ (by rw [HE2.out]; decide), chain HW.out (chain HW3.out hb4)⟩
              | true =>
                rw [hs] at CS
                have NXI := Lib.hid (HI.out.next HC.out HRT.out HOR.out ((says_iff HTL.out HRT.out).1 hs))
                clear hs
                go_upto_region 13 with (go_at_call 31; (with_reducible refine (CS.out _ HW3.out).mono ?_); rintro e w4 ⟨rfl, hb4⟩; have HW4 := Lib.hid (chain HW3.out hb4); have HX4 := Lib.hid (HXW.out.below hb4); clear hb4)
                clear z0 z1 z2 z3 z4 z5
                obtain ⟨y0, y1, y2, y3, y4, y5⟩ := HX4.out
                cases hh : c.has with
                | false =>
                  rw [hh] at y3
                  have HPC := Lib.hid (show pieceC c = [] by unfold pieceC; rw [hh]; rfl)
                  go_wp2_with (go_at_call 32; (with_reducible refine (CSP.out _ _ HW4.out (by rw [HPC.out]; exact PcsL.nil _)).mono ?_); rintro e w5 ⟨v5, rfl, hv5, hb5⟩; have HV5 := Lib.hid hv5; have HW5 := Lib.hid (chain HW4.out hb5); clear hv5 hb5)
                  obtain ⟨R', hR'⟩ := HFIN.out HOR.out _ _ HV5.out
                  exact ⟨⟨t + 1, some c.t, R', by omega, by go_num, NXI.out, hR', chain HW.out HW5.out⟩, by simp [intOf] <;> omega⟩
                | true =>
                  rw [hh] at y3
                  have HPC := Lib.hid (show pieceC c = [⟨c.f, c.t, c.na, c.nc, c.ns⟩] by unfold pieceC; rw [hh]; rfl)
                  have MK := Lib.hid (show ∀ w', Below w4.heap.size w4 w' → (Below w4.heap.size w4 w' ∧ Cells6 w' g (off + t * 6) c) from fun w' h => ⟨h, HX4.out.below h⟩)
                  go_upto_region 15 with fail
                  generalize hvn : (Value.slice none 0 0) = vn
                  have HOD := Lib.hid (show OE EP w4 [] vn w4.drew by rw [← hvn]; exact (OE.nil (E := EP) w4).below ((bl w4).drew))
                  clear hvn
                  first
                    | (go_region_held3 (fun w' => Below w4.heap.size w4 w' ∧ Cells6 w' g (off + t * 6) c)
                        (first | exact MK.out _ HOD.out.bel | exact MK.out _ (HOD.out.bel.alloc HOD.out.bel.size _) | exact MK.out _ HN4.out.bel | fail)
                        (first
                          | (refine step_appE (E := EP) (xs := [(⟨c.f, c.t, c.na, c.nc, c.ns⟩ : Pc)]) rfl (.tmp 56) (.tmp 68) rfl rfl rfl (World.ownsRow.alloc HOD.out.own _) rfl rfl (by have hrow := rowE_one (E := EP) w4.drew (⟨c.f, c.t, c.na, c.nc, c.ns⟩ : Pc) #[.int .i64 c.f, .int .i64 c.t, .slice c.na c.ns.length c.nc] rfl 45; first | exact hrow | (simp at hrow ⊢; exact hrow)) (fun h => by cases h) (by first | (simp; done) | (simp; omega)) (by first | (simp; done) | (simp; omega)) ?_; intro v' w6 hown6 hg6 _; have HN4 := Lib.hid ((HOD.out.below ((bl w4.drew).alloc (Nat.le_refl _) _)).grown hg6 hown6))
                          | fail))
                    | fail
                  clear y0 y1 y2 y3 y4 y5
                  obtain ⟨y0, y1, y2, y3, y4, y5⟩ := HX4.out.below HN4.out.bel
                  have HPM := Lib.hid (show PcsL _ _ (pieceC c) by
                    rw [HPC.out]
                    refine ⟨HN4.out.list, fun p hp => ?_⟩
                    rw [List.mem_singleton] at hp
                    rw [hp]
                    exact (HCF.out.below (chain HW.out (chain HW4.out HN4.out.bel))).2)
                  go_wp2_with (go_at_call 32; (with_reducible refine (CSP.out _ _ (chain HW4.out HN4.out.bel) HPM.out).mono ?_); rintro e w7 ⟨v7, rfl, hv7, hb7⟩; have HV5 := Lib.hid hv7; have HW5 := Lib.hid (chain (chain HW4.out HN4.out.bel) hb7); clear hv7 hb7)
                  obtain ⟨R', hR'⟩ := HFIN.out HOR.out _ _ HV5.out
                  exact ⟨⟨t + 1, some c.t, R', by omega, by go_num, NXI.out, hR', chain HW.out HW5.out⟩, by simp [intOf] <;> omega⟩
      · obtain rfl : t = n := by omega
        have hlt' : ¬ (t : Int) < (t : Int) := by omega
        have hI := HI.out.wr
        rw [List.drop_of_length_le (by have := HN.out; omega)] at hI
        have HE2 := Lib.hid (show applyE a l = 0 by rw [HE.out, hI]; rfl)
        have HRES := Lib.hid (show TimeL wr _ (applyG a l) R from HT.out.mono (fun x => by rw [List.take_of_length_le (by have := HN.out; omega), applyG, if_pos HE2.out]))
        clear hI
        go_wp2_with fail
        go_ret2
        exact ⟨_, by rw [HE2.out]; rfl, ⟨R, HRES.out⟩, HW.out⟩

end Go.Proofs.Ytnopbhlhdecimaa

/-
  The program's wrong: what is wrong first with changes.
-/
namespace Go.Proofs.Ytnopbhlhdecimaa
open Go.RowKit

theorem pcs_of_row {w : World} {X : Nat → Prop} {v : Value} {l m : List Pc} (h : RowB X w v m) (hl : ∀ p ∈ l, PF w p) (hm : ∀ p ∈ m, p ∈ l) : PcsL w v m := by
  obtain ⟨⟨A, c, rfl, hr, hc, hn⟩, _⟩ := h
  exact ⟨⟨A, c, rfl, hr, hc, hn⟩, fun p hp => hl p (hm p hp)⟩
set_option maxHeartbeats 8000000 in
set_option maxRecDepth 100000 in
theorem pwrong_any (w : World) (u u' : Value) (a : List Pc) (l : List Ch) (ha : PcsL w u a) (hl : ChsL ED12 w u' l) (hna : a.length ≤ 40) (hnl : l.length ≤ 400) (hfa : ∀ p ∈ a, p.fs.length ≤ 20) (hfl : ∀ c ∈ l, c.os.length ≤ 20 ∧ c.ns.length ≤ 20) (htl : TL a) : Calls Try.prog 28 #[u, u'] w fun e w' => e = .returned (.int .i64 ((wrongC a none l : Nat) : Int)) ∧ Below w.heap.size w w' := by
  have HTL := Lib.hid htl
  have HNA := Lib.hid hna
  have HFA := Lib.hid hfa
  have HFL := Lib.hid hfl
  have HPA := Lib.hid ha
  obtain ⟨⟨B, d, rfl, hB, hd, hnd⟩, hVF⟩ := hl
  have HB := Lib.hid hB
  have HVF := Lib.hid hVF
  obtain ⟨n, hn1⟩ : ∃ n, l.length = n := ⟨_, rfl⟩
  rw [hn1] at hnl hd ⊢
  have HN := Lib.hid hn1
  obtain ⟨R0, hR0⟩ : ∃ R0, wrongC a none l = R0 := ⟨_, rfl⟩
  have HR0 := Lib.hid hR0
  rw [hR0]
  obtain ⟨A, na, c0, hu⟩ : ∃ A na c, u = .slice A na c := by
    obtain ⟨A, c, hu, _⟩ := ha.1
    exact ⟨A, _, c, hu⟩
  subst hu
  clear ha hB hd hnd hVF hn1 hna hfa hfl htl hR0
  go_enter Try.func28, Try.ntmps28
  go_wp2_with fail
  go_loopw [0, 5, 10] (fun x te i wr => ∃ (t : Nat) (r : List Pc) (e : Option Int) (z : Int), t ≤ n ∧ i = .int .i64 (t : Nat) ∧ te = .int .i64 z ∧ ApI a l t e ∧ LeftT a r z ∧ PcsL wr x r ∧ (e = none → z = -1099511627776) ∧ (∀ y, e = some y → y = z) ∧ -1099511627776 ≤ z ∧ Below w.heap.size w wr) (fun _ _ i _ => n - (intOf i).toNat)
  case atStart => exact ⟨0, a, none, _, Nat.zero_le _, rfl, rfl, apI_start a l, .start HTL.out _, HPA.out, fun _ => rfl, fun y h => (by cases h), Int.le_refl _, bl w⟩
  case round =>
    obtain ⟨t, r, e, z, ht, rfl, rfl, hI, hL, hP, hz1, hz2, hz3, hW⟩ := hrel
    have HI := Lib.hid hI
    have HL := Lib.hid hL
    have HP := Lib.hid hP
    have HZ1 := Lib.hid hz1
    have HZ2 := Lib.hid hz2
    have HW := Lib.hid hW
    obtain ⟨A2, c2, hu2, _⟩ := hP.1
    obtain ⟨n2, hn2⟩ : ∃ n2, r.length = n2 := ⟨_, rfl⟩
    rw [hn2] at hu2
    subst hu2
    clear hn2 hI hL hP hz1 hz2 hW
    by_cases hlt : t < n
    · have hlt' : (t : Int) < (n : Int) := by omega
      obtain ⟨c, hx⟩ : ∃ c, l[t]? = some c := ⟨_, List.getElem?_eq_getElem (by have := HN.out; omega)⟩
      have HC := Lib.hid hx
      obtain ⟨g, off, rfl, hX⟩ := (HB.out.below HW.out).cells6d hx
      have HCF := Lib.hid ((HVF.out c (List.mem_of_getElem? hx)).below HW.out)
      have HFC := Lib.hid (HFL.out c (List.mem_of_getElem? hx))
      have CR := Lib.hid (fun w => Co.right_any c.f c.t w)
      obtain ⟨z0, z1, z2, z3, z4, z5⟩ := hX
      clear hx
      rw [rightB_P] at CR
      have HB1 := Lib.hid (show Below wr.heap.size wr (wr.alloc (.cells #[.int .i64 c.f, .int .i64 c.t, .bool c.had, .bool c.has, .slice c.oa c.os.length c.oc, .slice c.na c.ns.length c.nc] TDc)) from (bl wr).alloc (Nat.le_refl _) _)
      have HBC := Lib.hid (show BoxC (wr.alloc (.cells #[.int .i64 c.f, .int .i64 c.t, .bool c.had, .bool c.has, .slice c.oa c.os.length c.oc, .slice c.na c.ns.length c.nc] TDc)) wr.heap.size c from ⟨by simp [go_sem], by simp [go_sem], by simp [go_sem], by simp [go_sem], by simp [go_sem], by simp [go_sem]⟩)
      cases hr : rightP c.f c.t with
      | false =>
        rw [hr] at CR
        have HE2 := Lib.hid (show R0 = 3 by rw [← HR0.out, HI.out.bad1 HC.out hr])
        clear hr
        go_wp2_with (go_at_call 33; (with_reducible refine (CR.out _).mono ?_); rintro e w3 ⟨rfl, hb3⟩; have HB3 := Lib.hid (chain HB1.out hb3); clear hb3)
        go_ret
        exact ⟨by rw [HE2.out]; rfl, chain HW.out HB3.out⟩
      | true =>
        rw [hr] at CR
        have HRT := Lib.hid hr
        have hcr := right_lt hr
        clear hr
        have MK := Lib.hid (show ∀ W', Below (wr.alloc (.cells #[.int .i64 c.f, .int .i64 c.t, .bool c.had, .bool c.has, .slice c.oa c.os.length c.oc, .slice c.na c.ns.length c.nc] TDc)).heap.size (wr.alloc (.cells #[.int .i64 c.f, .int .i64 c.t, .bool c.had, .bool c.has, .slice c.oa c.os.length c.oc, .slice c.na c.ns.length c.nc] TDc)) W' → BoxC W' wr.heap.size c from fun W' h => HBC.out.below h)
        by_cases hz : c.f < z
        · have hz' : decide (c.f < z) = true := by simpa using hz
          have HE2 := Lib.hid (show R0 = 16 by
            cases e with
            | none => have := HZ1.out rfl; omega
            | some y =>
              have hy := HZ2.out y rfl
              rw [← HR0.out, HI.out.bad2 HC.out HRT.out rfl (by omega)])
          go_wp2_with (go_at_call 33; (with_reducible refine (CR.out _).mono ?_); rintro e w3 ⟨rfl, hb3⟩; (obtain ⟨q0, q1, q2, q3, q4, q5⟩ := MK.out _ hb3); have HB3 := Lib.hid (chain HB1.out hb3); clear hb3)
          go_ret
          exact ⟨by rw [HE2.out]; rfl, chain HW.out HB3.out⟩
        · have hz' : decide (c.f < z) = false := by simpa using hz
          have HOR := Lib.hid (show ∀ te, e = some te → te ≤ c.f from fun te he => by have := HZ2.out te he; omega)
          have HLN := Lib.hid (HL.out.next (show z ≤ c.f by omega))
          have CF := Lib.hid (fun W' (h : Below wr.heap.size wr W') => pfrom_any (· < wr.heap.size) W' (.slice A2 n2 c2) c.f r ((pcs_rowB HP.out).low fun k hk => h.block k hk) (by have := HL.out.len; have := HNA.out; omega))
          have CH := Lib.hid (fun W' (v : Value) (h : Below wr.heap.size wr W') (hv : RowB (· < wr.heap.size) W' v (fromP c.f r)) => phad_any W' v (fromP c.f r) c (pcs_of_row hv (fun p hp => (HP.out.2 p hp).below h) (fun p hp => fromP_mem hp)) (HCF.out.below h) (by have := HLN.out.len; have := HNA.out; omega) (fun p hp => by have := HFA.out p (HLN.out.sub p hp); omega) (by have := HFC.out.1; omega) HLN.out.tl (fun p m h => fromP_head h) HRT.out)
          clear hz
          by_cases hs : SaysC a c
          · have CHT := Lib.hid (fun W' (v : Value) (h : Below wr.heap.size wr W') (hv : RowB (· < wr.heap.size) W' v (fromP c.f r)) => (CH.out W' v h hv).mono (R' := fun e w' => e = .returned (.bool true) ∧ Below W'.heap.size W' w') (fun e w' ⟨⟨x, he, hx⟩, hb⟩ => ⟨by rw [he, hx.2 (HLN.out.says.2 hs)], hb⟩))
            have NXI := Lib.hid (HI.out.next HC.out HRT.out HOR.out hs)
            clear hs CH
            go_wp2_with (first
              | (go_at_call 33; (with_reducible refine (CR.out _).mono ?_); rintro e w3 ⟨rfl, hb3⟩; (obtain ⟨q0, q1, q2, q3, q4, q5⟩ := MK.out _ hb3); have HQ3 := Lib.hid (MK.out _ hb3); have HB3 := Lib.hid (chain HB1.out hb3); clear hb3)
              | (go_at_call 36; (with_reducible refine (CF.out _ HB3.out).mono ?_); rintro e w4 ⟨⟨v4, rfl, hv4⟩, rfl⟩; have HV4 := Lib.hid hv4; clear hv4)
              | (go_at_call 41; (with_reducible refine (CHT.out _ _ HB3.out HV4.out).mono ?_); rintro e w5 ⟨rfl, hb5⟩; (obtain ⟨p0, p1, p2, p3, p4, p5⟩ := HQ3.out.below hb5); have HB45 := Lib.hid hb5; have HB5 := Lib.hid (chain HB3.out hb5); clear hb5))
            exact ⟨⟨t + 1, fromP c.f r, some c.t, c.t, by omega, by go_num, rfl, NXI.out, HLN.out.more (by omega), (pcs_of_row HV4.out (fun p hp => (HP.out.2 p hp).below HB3.out) (fun p hp => fromP_mem hp)).below HB45.out, fun h => (by cases h), fun y h => (by injection h with h; exact h.symm), by omega, chain HW.out HB5.out⟩, by simp [intOf] <;> omega⟩
          · have CHF := Lib.hid (fun W' (v : Value) (h : Below wr.heap.size wr W') (hv : RowB (· < wr.heap.size) W' v (fromP c.f r)) => (CH.out W' v h hv).mono (R' := fun e w' => e = .returned (.bool false) ∧ Below W'.heap.size W' w') (fun e w' ⟨⟨x, he, hx⟩, hb⟩ => ⟨by
              cases x with
              | false => exact he
              | true => exact absurd (HLN.out.says.1 (hx.1 rfl)) hs, hb⟩))
            have HE2 := Lib.hid (show R0 = 15 by rw [← HR0.out, HI.out.bad3 HC.out HRT.out HOR.out hs])
            clear hs CH
            go_wp2_with (first
              | (go_at_call 33; (with_reducible refine (CR.out _).mono ?_); rintro e w3 ⟨rfl, hb3⟩; (obtain ⟨q0, q1, q2, q3, q4, q5⟩ := MK.out _ hb3); have HQ3 := Lib.hid (MK.out _ hb3); have HB3 := Lib.hid (chain HB1.out hb3); clear hb3)
              | (go_at_call 36; (with_reducible refine (CF.out _ HB3.out).mono ?_); rintro e w4 ⟨⟨v4, rfl, hv4⟩, rfl⟩; have HV4 := Lib.hid hv4; clear hv4)
              | (go_at_call 41; (with_reducible refine (CHF.out _ _ HB3.out HV4.out).mono ?_); rintro e w5 ⟨rfl, hb5⟩; (obtain ⟨p0, p1, p2, p3, p4, p5⟩ := HQ3.out.below hb5); have HB45 := Lib.hid hb5; have HB5 := Lib.hid (chain HB3.out hb5); clear hb5))
            go_ret
            exact ⟨by rw [HE2.out]; rfl, chain HW.out HB5.out⟩
    · obtain rfl : t = n := by omega
      have hlt' : ¬ (t : Int) < (t : Int) := by omega
      have HE2 := Lib.hid (show R0 = 0 by rw [← HR0.out, HI.out.wr, List.drop_of_length_le (by have := HN.out; omega)]; rfl)
      go_wp2_with fail
      go_ret
      exact ⟨by rw [HE2.out]; rfl, HW.out⟩

end Go.Proofs.Ytnopbhlhdecimaa

/-
  What the program's Apply has put together, as it lies.
-/
namespace Go.Proofs.Ytnopbhlhdecimaa
open Go.RowKit

theorem wpListIn_appP {l n : Nat} {ops : Array Oper} {rest : List Oper} {o : Oper} {a : Act} {w : World} {Q : Exit → Act → World → Prop} (hgd : o.guard = none) (s x : Operand)
    (ho : o.op = .call { callee := .builtin .append, args := #[s, x], argTypes := #[22, 22] })
    {base : Nat} {v : Value} {ts : List Pc} (hs : a.eval s = v) (hown : ownE EP w base v ts) {B : Option Addr} {c m : Nat} {xs : List Pc} (hv : a.eval x = .slice B m c) (hm : m = xs.length) (hx : RowE EP w B xs) (hc : B = none → c = 0)
    (hl : ts.length + xs.length ≤ 1000000) (hbase : base ≤ w.heap.size)
    (h : ∀ v' w', ownE EP w' base v' (ts ++ xs) → w.grownBy w' v.ownBlock → (v'.ownBlock = v.ownBlock ∨ v'.ownBlock = some w.heap.size) → wpListIn (Fence.wide.inRound l) n Try.prog ops Q rest (a.put o.dst v') w') : wpListIn (Fence.wide.inRound l) n Try.prog ops Q (o :: rest) a w := by
  subst hm
  obtain ⟨v', w', hrun, h2, h3, h4⟩ := run_appE w hown B c xs hx hc hl hbase o.type
  refine wpListIn_plain hgd fun _ hK => op_inRound (fun c e => by rw [ho] at e; cases e) ?_
  unfold Oper.wp execOp
  have e0 : EP.s = 22 := rfl
  rw [e0] at hrun
  simp only [ho, resolve, invoke, builtin, Sem.run_bind, Sem.run_pure, Result.andThen_ok, List.map_toArray, List.map_cons, List.map_nil, hs, hv, hrun]
  exact hK _ _ (h v' w' h2 h3 h4)
/-- Two lists of pieces of the call's own, the second one in a variable. -/
structure ApL (w : World) (B : Nat) (C M : List Pc) (ch v : Value) (W : World) : Prop where
  bel : Below w.heap.size w W
  bb : w.heap.size ≤ B
  box : Boxed W B TPs v
  own7 : ownE EP W w.heap.size ch C
  own8 : ownE EP W w.heap.size v M
  ne : ∀ g, ch.ownBlock = some g → v.ownBlock ≠ some g
/-- Blocks of pieces and of lists of them lie as they lay. -/
def KTP (w w' : World) : Prop := ∀ (c : Nat) (cur : Array Value) (t : TypeId), (t = TPs ∨ t = TPc) → w.heap[c]? = some (.cells cur t (0, 0)) → w'.heap[c]? = some (.cells cur t (0, 0))
theorem KTP.of_below {w w' : World} (h : Below w.heap.size w w') : KTP w w' := fun c _ _ _ hc => (h.block c (Array.getElem?_eq_some_iff.1 hc).1).trans hc
theorem KTP.of_it {B : Nat} {w w' : World} (h : ItStep B w w') : KTP w w' := fun c cur t ht hc => h.other hc fun cur' t' h1 e => by
  injection e with _ e _
  subst e
  unfold itT at h1
  rcases ht with rfl | rfl <;> rcases h1 with h1 | h1 | h1 <;> revert h1 <;> decide
theorem KTP.of_obj {w : World} {l : Nat} {o : Obj} (h : w.heap[l]? = some o) (ho : o.isCells = false) (o' : Obj) : KTP w (w.putObj l o') := fun c cur t _ hc => (World.putObj_heap_other fun e => by
  rw [e, h] at hc
  injection hc with hc
  rw [hc] at ho
  cases ho).trans hc
theorem ownE_ktp {w w' : World} {base : Nat} {v : Value} {L : List Pc} (h : ownE EP w base v L) (hk : KTP w w') : ownE EP w' base v L := by
  refine ⟨h.1, ?_⟩
  rcases h.2 with h5 | ⟨g, cap, cur, hv, hg, hh, r⟩
  · exact .inl h5
  · exact .inr ⟨g, cap, cur, hv, hg, hk _ _ _ (.inr rfl) hh, r⟩
section
variable {w W w1 : World} {B : Nat} {C M : List Pc} {ch v v' : Value} {p : Pc} {tmp : Obj}
theorem ApL.kt (h : ApL w B C M ch v W) (hk : KTP W w1) (hb : Below w.heap.size w w1) : ApL w B C M ch v w1 := ⟨hb, h.bb, hk _ _ _ (.inl rfl) h.box, ownE_ktp h.own7 hk, ownE_ktp h.own8 hk, h.ne⟩
theorem ApL.below (h : ApL w B C M ch v W) (hb : Below W.heap.size W w1) : ApL w B C M ch v w1 := h.kt (.of_below hb) (chain h.bel hb)
theorem own_kept {w w' : World} {base : Nat} {v : Value} {L : List Pc} {row : Option Nat} (h : ownE EP w base v L) (hg : w.grownBy w' row) (hne : ∀ g, v.ownBlock = some g → row ≠ some g) : ownE EP w' base v L := by
  refine ⟨h.1, ?_⟩
  rcases h.2 with h5 | ⟨g, cap, cur, rfl, hg2, hh, r⟩
  · exact .inl h5
  · exact .inr ⟨g, cap, cur, rfl, hg2, (hg.block g (Array.getElem?_eq_some_iff.1 hh).1 (fun e => hne g rfl e.symm)).trans hh, r⟩
theorem ApL.app7 (h : ApL w B C M ch v W) (hg : (W.alloc tmp).grownBy w1 ch.ownBlock) (hown : ownE EP w1 w.heap.size v' (C ++ [p])) (ho : v'.ownBlock = ch.ownBlock ∨ v'.ownBlock = some (W.alloc tmp).heap.size) : ApL w B (C ++ [p]) M v' v w1 := by
  have ha : Below W.heap.size W (W.alloc tmp) := (bl W).alloc (Nat.le_refl _) _
  have h2 := h.below ha
  refine ⟨h2.bel.grown hg h2.bel.size (fun g e => (h.own7.lt g e).1), h.bb, h2.box.kept hg (h2.box.not_row (by decide) h2.own7), hown, own_kept h2.own8 hg (fun g e e2 => h.ne g e2 e), fun g e e2 => ?_⟩
  rcases ho with ho | ho
  · exact h.ne g (ho ▸ e) e2
  · have := (h2.own8.lt g e2).2
    rw [ho] at e
    injection e with e
    omega
theorem ApL.app8 (h : ApL w B C M ch v W) (hg : (W.alloc tmp).grownBy w1 v.ownBlock) (hown : ownE EP w1 w.heap.size v' (M ++ [p])) (ho : v'.ownBlock = v.ownBlock ∨ v'.ownBlock = some (W.alloc tmp).heap.size) : ApL w B C (M ++ [p]) ch v' (w1.setCell ⟨B, 0, none⟩ v') := by
  have ha : Below W.heap.size W (W.alloc tmp) := (bl W).alloc (Nat.le_refl _) _
  have h2 := h.below ha
  obtain ⟨q1, q2, q3, q4, q5⟩ := Boxed.appended (t := TPs) (e := TPc) (size := 3) h.box (by decide) h.own8 h.bel.size h.bb hown hg
  have h7 := own_kept h2.own7 hg (fun g e e2 => h.ne g e e2)
  refine ⟨h.bel.trans q5, h.bb, q2, own_kept h7 (grownBy_setCell' w1 B v') (fun g e e2 => ?_), q3, fun g e e2 => ?_⟩
  · injection e2 with e2
    subst e2
    exact q1.not_row (by decide) h7 e.symm
  · rcases ho with ho | ho
    · exact h.ne g e (ho ▸ e2)
    · have := (h2.own7.lt g e).2
      rw [ho] at e2
      injection e2 with e2
      omega
/-- What else an append and the store back keep. -/
theorem ApL.keeps (h : ApL w B C M ch v W) (hg : (W.alloc tmp).grownBy w1 v.ownBlock) (hown : ownE EP w1 w.heap.size v' (M ++ [p])) : KeepsOthers W (w1.setCell ⟨B, 0, none⟩ v') ∧ KpX (fun c => c < w.heap.size ∨ ch.ownBlock = some c) W (w1.setCell ⟨B, 0, none⟩ v') := by
  obtain ⟨q1, q2, q3, q4, q5⟩ := Boxed.appended (t := TPs) (e := TPc) (size := 3) h.box (by decide) h.own8 h.bel.size h.bb hown hg
  refine ⟨q4, fun k o hk hx ho => ?_⟩
  have hlt := (Array.getElem?_eq_some_iff.1 hk).1
  have key : k ≠ B → v.ownBlock ≠ some k → (w1.setCell ⟨B, 0, none⟩ v').heap[k]? = some o := fun hkB hkv => by
    rw [heap_set2 w1 v' hkB, hg.block k (by simp; omega) (fun e => hkv e.symm), Go.RowKit.Below.heap_alloc W tmp k hlt]
    exact hk
  rcases hx with (hx | hx) | ⟨cur, t, ht, rfl⟩
  · exact (q5.block k hx).trans hk
  · refine key (fun e => ?_) (h.ne k hx)
    subst e
    exact h.box.not_row (by decide) h.own7 hx.symm
  · have hT : t ≠ TPs ∧ t ≠ TPc := by
      unfold itT at ht
      rcases ht with rfl | rfl | rfl <;> exact ⟨by decide, by decide⟩
    refine key (fun e => ?_) (fun e => ?_)
    · have h2 := h.box
      unfold Boxed at h2
      rw [e, h2] at hk
      injection hk with hk
      injection hk with _ hk _
      exact hT.1 hk.symm
    · rcases h.own8.2 with ⟨hv, _⟩ | ⟨g, cap, cur', hv, _, hh, _⟩
      · rw [hv] at e; cases e
      · rw [hv] at e
        cases e
        rw [show W.heap[g]? = _ from hh] at hk
        injection hk with hk
        injection hk with _ hk _
        exact hT.2 hk.symm
end
/-- What Apply has put together at a time. -/
def ApS (w : World) (B : Nat) (ch : Value) (a : List Pc) (l : List Ch) (e : Int) (W : World) : Prop := ∃ v M, ApL w B (chP l) M ch v W ∧ ApM a l e M
theorem ApS.it {w W W' : World} {B D : Nat} {ch : Value} {a : List Pc} {l : List Ch} {e : Int} (h : ApS w B ch a l e W) (hs : ItStep D W W') (hD : w.heap.size ≤ D) : ApS w B ch a l e W' := by
  obtain ⟨v, M, h1, h2⟩ := h
  exact ⟨v, M, h1.kt (.of_it hs) (hs.below h1.bel (Nat.le_refl _) hD), h2⟩
theorem ApS.obj {w W : World} {B : Nat} {ch : Value} {a : List Pc} {l : List Ch} {e : Int} (h : ApS w B ch a l e W) {k : Nat} {o : Obj} (hk : w.heap.size ≤ k) (ho : W.heap[k]? = some o) (hc : o.isCells = false) (o' : Obj) : ApS w B ch a l e (W.putObj k o') := by
  obtain ⟨v, M, h1, h2⟩ := h
  exact ⟨v, M, h1.kt (.of_obj ho hc o') (h1.bel.grown (grownBy_putObj' W k o') h1.bel.size fun k e => by cases e; exact hk), h2⟩
/-- A list of pieces lies behind the turn of a block that is no cells. -/
theorem cell_obj {W : World} {k : Nat} {o : Obj} (ho : W.heap[k]? = some o) (hc : o.isCells = false) (o' : Obj) {a : Addr} {u : Value} (h : W.cell? a = some u) : (W.putObj k o').cell? a = some u := by
  obtain ⟨o2, h2, h3⟩ := cells_of_cell h
  refine (World.cell?_of_block (World.putObj_heap_other fun e => ?_)).trans h
  rw [show a.block = k from e, ho] at h2
  injection h2 with h2
  rw [h2, h3] at hc
  cases hc
theorem hasTL_obj {W : World} {k : Nat} {o : Obj} (ho : W.heap[k]? = some o) (hc : o.isCells = false) (o' : Obj) {x : Value} {g : Int → Option (List Fd)} (h : HasTL W x g) : HasTL (W.putObj k o') x g := by
  obtain ⟨R, ⟨⟨⟨A, c, rfl, hr, hcl, hn⟩, hpf⟩, h2, h3, h4⟩⟩ := h
  refine ⟨R, ⟨⟨⟨A, c, rfl, fun i p hp => ?_, hcl, hn⟩, fun p hp => ⟨fun i f hf => ?_, (hpf p hp).2⟩⟩, h2, h3, h4⟩⟩
  · obtain ⟨g', off, rfl, hcell⟩ := hr i p hp
    exact ⟨g', off, rfl, fun j u hu => cell_obj ho hc o' (hcell j u hu)⟩
  · obtain ⟨g', off, he, c0, c1⟩ := (hpf p hp).1 i f hf
    exact ⟨g', off, he, cell_obj ho hc o' c0, cell_obj ho hc o' c1⟩

end Go.Proofs.Ytnopbhlhdecimaa

/-
  The program's Apply.
-/
namespace Go.Proofs.Ytnopbhlhdecimaa
open Go.RowKit

attribute [local go_sem] Oper.semAt_some

theorem cell_grownP {w w' : World} {tmp : Obj} {q o : Nat} {u v : Value} (h : w.cell? ⟨q, o, none⟩ = some u) (hg : (w.alloc tmp).grownBy w' v.ownBlock) (hlt : ∀ g, v.ownBlock = some g → g < q) : w'.cell? ⟨q, o, none⟩ = some u := by
  have hq : q < w.heap.size := lt_of_cell h
  have e : w'.heap[q]? = w.heap[q]? := by
    rw [hg.block q (by simp; omega) (fun e => by have := hlt q e.symm; omega), Go.RowKit.Below.heap_alloc w tmp q hq]
  exact (World.cell?_of_block (a := ⟨q, _, none⟩) e).trans h
/-- What Apply leaves. -/
def PApPost (a : List Pc) (l : List Ch) (w : World) (e : Ending) (w' : World) : Prop := ∃ x, e = .returned (.tuple #[x, .int .i64 ((applyE a l : Nat) : Int)]) ∧ HasTL w' x (applyG a l) ∧ Below w.heap.size w w'
set_option maxHeartbeats 4000000 in
set_option maxRecDepth 100000 in
theorem pdapply_bad (w : World) (u u' : Value) (a : List Pc) (l : List Ch) (ha : PcsL w u a) (hl : ChsL ED12 w u' l) (hna : a.length ≤ 40) (hnl : l.length ≤ 400) (hfa : ∀ p ∈ a, p.fs.length ≤ 20) (hfl : ∀ c ∈ l, c.os.length ≤ 20 ∧ c.ns.length ≤ 20) (hbad : applyE a l ≠ 0) : Calls Try.prog 16 #[u, u'] w (PApPost a l w) := by
  have CA := Lib.hid (fun w' (h : Below w.heap.size w w') => ptright_any w' u a (ha.below h) (by omega) (fun p hp => by have := hfa p hp; omega))
  have CW := Lib.hid (fun (htl : TL a) w' (h : Below w.heap.size w w') => pwrong_any w' u u' a l (ha.below h) (hl.below h) hna hnl hfa hfl htl)
  have HERR := Lib.hid (show ∀ w', HasTL w' (.slice none 0 0) (applyG a l) from fun w' => ⟨[], TimeL.nil _ _ (fun x => by rw [applyG, if_neg hbad])⟩)
  obtain ⟨A, c, hu, _⟩ := ha.1
  obtain ⟨B, d, hu', _⟩ := hl.1
  obtain ⟨n, hnm⟩ : ∃ n, a.length = n := ⟨_, rfl⟩
  obtain ⟨n', hnm'⟩ : ∃ n, l.length = n := ⟨_, rfl⟩
  rw [hnm] at hu
  rw [hnm'] at hu'
  subst hu hu'
  clear ha hl hna hnl hfa hfl hnm hnm'
  cases hra : rightT a with
  | false =>
    rw [hra] at CA
    have HE := Lib.hid (show applyE a l = 2 by rw [applyE, hra]; rfl)
    clear hra hbad
    go_enter Try.func16, Try.ntmps16
    go_wp2_with (go_at_call 20; (with_reducible refine (CA.out _ (bl w)).mono ?_); rintro e w2 ⟨rfl, hb2⟩)
    go_ret2
    exact ⟨_, by rw [HE.out]; rfl, HERR.out _, hb2⟩
  | true =>
    rw [hra] at CA
    have HTL := Lib.hid ((rightT_iff a).1 hra)
    have hE : applyE a l = wrongC a none l := by rw [applyE, if_pos hra]
    rw [hE] at hbad
    have HE := Lib.hid hE
    have CW2 := Lib.hid (CW.out HTL.out)
    obtain ⟨R0, hR0⟩ : ∃ R0, wrongC a none l = R0 := ⟨_, rfl⟩
    rw [hR0] at hbad CW2
    have HR0 := Lib.hid hR0
    have hne : ((R0 : Int) != 0) = true := by rw [bne_iff_ne]; omega
    clear hra hE hR0 CW hbad
    go_enter Try.func16, Try.ntmps16
    go_wp2_with (first
      | (go_at_call 20; (with_reducible refine (CA.out _ (bl w)).mono ?_); rintro e w2 ⟨rfl, hb2⟩)
      | (go_at_call 28; (with_reducible refine (CW2.out _ hb2).mono ?_); rintro e w3 ⟨rfl, hb3⟩))
    go_ret2
    exact ⟨.slice none 0 0, by rw [HE.out, HR0.out]; rfl, HERR.out _, chain hb2 hb3⟩

set_option maxHeartbeats 8000000 in
set_option maxRecDepth 100000 in
theorem pdapply_good (w : World) (u u' : Value) (a : List Pc) (l : List Ch) (ha : PcsL w u a) (hl : ChsL ED12 w u' l) (hna : a.length ≤ 40) (hnl : l.length ≤ 400) (hfa : ∀ p ∈ a, p.fs.length ≤ 20) (hfl : ∀ c ∈ l, c.os.length ≤ 20 ∧ c.ns.length ≤ 20) (hra : rightT a = true) (hgood : wrongC a none l = 0) : Calls Try.prog 16 #[u, u'] w (PApPost a l w) := by
  have htl := (rightT_iff a).1 hra
  have HTL := Lib.hid htl
  have CA := Lib.hid (fun w' (h : Below w.heap.size w w') => ptright_any w' u a (ha.below h) (by omega) (fun p hp => by have := hfa p hp; omega))
  have CW := Lib.hid (fun w' (h : Below w.heap.size w w') => pwrong_any w' u u' a l (ha.below h) (hl.below h) hna hnl hfa hfl htl)
  rw [hra] at CA
  rw [hgood] at CW
  have hE : applyE a l = 0 := by rw [applyE, if_pos hra]; exact hgood
  have HE := Lib.hid hE
  have HG := Lib.hid (show ∀ x, appV a l x = applyG a l x from fun x => by rw [applyG, if_pos hE])
  obtain ⟨hr1, hr2, _⟩ := wrong0_rise hgood
  have HR1 := Lib.hid hr1
  have HR2 := Lib.hid hr2
  have HPA := Lib.hid ha
  have HNA := Lib.hid hna
  have HNL := Lib.hid hnl
  have HFA := Lib.hid hfa
  have HFL := Lib.hid hfl
  obtain ⟨A, c0, hu, _⟩ := ha.1
  obtain ⟨⟨B, d, hu', hB, hd, hnd⟩, hVF⟩ := hl
  have HB := Lib.hid hB
  have HVF := Lib.hid hVF
  obtain ⟨n, hnm⟩ : ∃ n, a.length = n := ⟨_, rfl⟩
  obtain ⟨n', hnm'⟩ : ∃ n, l.length = n := ⟨_, rfl⟩
  rw [hnm] at hu
  rw [hnm'] at hu'
  subst hu hu'
  have HN' := Lib.hid hnm'
  have hn400 : n' ≤ 400 := by omega
  clear ha hB hd hnd hVF hna hnl hfa hfl hnm hnm' hra hgood htl hE hr1 hr2
  refine (callsIn_wide (n := 4)).1 ?_
  refine callsIn_of_wp_marks Try.func16 rfl trivial ?_ rfl
  simp only [Try.ntmps16, List.size_toArray, List.length_cons, List.length_nil, Nat.reduceAdd, Nat.reduceSub, Array.replicate_succ, Array.replicate_zero, List.push_toArray, List.append_toArray, List.nil_append, List.cons_append]
  gi_wp2_with (first
    | (refine ⟨trivial, ?_⟩; gi_at_call 20; with_reducible refine (callsIn_wide.2 (CA.out _ (bl w))).mono ?_; rintro e w2 ⟨rfl, hb2⟩)
    | (refine ⟨trivial, ?_⟩; gi_at_call 28; with_reducible refine (callsIn_wide.2 (CW.out _ hb2)).mono ?_; rintro e w3 ⟨rfl, hb3⟩))
  have HB3 := Lib.hid (chain hb2 hb3)
  clear hb2 hb3 CA CW
  refine wpIn_wide.2 ?_
  go_loopw [7, 25] (fun ch i wr => ∃ (t : Nat) (v8 : Value), t ≤ n' ∧ i = .int .i64 (t : Nat) ∧ ApL w w3.heap.size (chP (l.take t)) (apP (l.take t)) ch v8 wr) (fun _ i _ => n' - (intOf i).toNat)
  case atStart =>
    have h1 := HB3.out.alloc HB3.out.size (.cells #[.slice none 0 0] TPs)
    exact ⟨0, .slice none 0 0, Nat.zero_le _, rfl, h1, HB3.out.size, Boxed.new w3 TPs _, ownE_nil _ _, ownE_nil _ _, fun g h => by cases h⟩
  case round =>
    obtain ⟨t, v8, ht, rfl, hA⟩ := hrel
    have HA := Lib.hid hA
    by_cases hlt : t < n'
    · have hlt' : (t : Int) < (n' : Int) := by omega
      obtain ⟨c, hx⟩ : ∃ c, l[t]? = some c := ⟨_, List.getElem?_eq_getElem (by have := HN'.out; omega)⟩
      obtain ⟨g, off, rfl, hX⟩ := (HB.out.below hA.bel).cells6d hx
      have HC7 := Lib.hid (chP_next hx)
      have HC8 := Lib.hid (apP_next hx)
      have HL7 := Lib.hid (show (chP (l.take t)).length ≤ 400 by unfold chP; rw [List.length_map, List.length_take]; omega)
      have HL8 := Lib.hid (show (apP (l.take t)).length ≤ 400 by
        unfold apP
        rw [List.length_map]
        have h1 := List.length_filter_le (fun c : Ch => c.has) (l.take t)
        rw [List.length_take] at h1
        omega)
      obtain ⟨z0, z1, z2, z3, z4, z5⟩ := hX
      clear hx hA
      go_upto_region 11 with fail
      refine abstract_worldW (fun Z => Below wr.heap.size wr Z ∧ Z.cell? ⟨wr.heap.size, 3, none⟩ = some (.bool c.has) ∧ BoxP Z (wr.heap.size + 1) (chP1 c)) ⟨?_, by simp [go_sem], by simp [go_sem], by simp [go_sem], by simp [go_sem]⟩ ?_
      · have h1 : Below wr.heap.size wr (wr.alloc (.cells #[.int .i64 c.f, .int .i64 c.t, .bool c.had, .bool c.has, .slice c.oa c.os.length c.oc, .slice c.na c.ns.length c.nc] TDc)) := (bl wr).alloc (Nat.le_refl _) _
        exact h1.alloc h1.size _
      rintro Z ⟨hz, zh, b0, b1, b2⟩
      have HAZ := Lib.hid (HA.out.below hz)
      clear hz z0 z1 z2 z3 z4 z5
      cases hh : c.has with
      | false =>
        have HHH := Lib.hid hh
        rw [hh] at zh
        clear hh
        go_wp2_with (first
          | (at_builtin; refine wpList_appP rfl (.tmp 34) (.tmp 36) rfl (base := w.heap.size) rfl (World.ownsRow.alloc HAZ.out.own7 _) rfl rfl (by have hrow := rowE_one (E := EP) Z (chP1 c) #[.int .i64 c.f, .int .i64 c.t, .slice c.na c.ns.length c.nc] rfl TPc; first | exact hrow | (simp at hrow ⊢; exact hrow)) (fun h => by cases h) (by have := HL7.out; simp; omega) (by have := HAZ.out.bel.size; simp; omega) ?_; intro v7 w5 hown hg halt; have HA5 := Lib.hid (HAZ.out.app7 hg hown halt); have zh5 := cell_grownP zh hg (fun g e => (HA.out.own7.lt g e).2); have d0 := cell_grownP b0 hg (fun g e => by have := (HA.out.own7.lt g e).2; omega); have d1 := cell_grownP b1 hg (fun g e => by have := (HA.out.own7.lt g e).2; omega); have d2 := cell_grownP b2 hg (fun g e => by have := (HA.out.own7.lt g e).2; omega); have e5 := HA5.out.box.cell; clear hg hown halt)
          | go_in)
        exact ⟨⟨t + 1, v8, by omega, by go_num, by rw [HC7.out, HC8.out, if_neg (by rw [HHH.out]; simp)]; exact HA5.out⟩, by simp [intOf] <;> omega⟩
      | true =>
        have HHH := Lib.hid hh
        rw [hh] at zh
        clear hh
        go_wp2_with (first
          | (at_builtin; refine wpList_appP rfl (.tmp 34) (.tmp 36) rfl (base := w.heap.size) rfl (World.ownsRow.alloc HAZ.out.own7 _) rfl rfl (by have hrow := rowE_one (E := EP) Z (chP1 c) #[.int .i64 c.f, .int .i64 c.t, .slice c.na c.ns.length c.nc] rfl TPc; first | exact hrow | (simp at hrow ⊢; exact hrow)) (fun h => by cases h) (by have := HL7.out; simp; omega) (by have := HAZ.out.bel.size; simp; omega) ?_; intro v7 w5 hown hg halt; have HA5 := Lib.hid (HAZ.out.app7 hg hown halt); have zh5 := cell_grownP zh hg (fun g e => (HA.out.own7.lt g e).2); have d0 := cell_grownP b0 hg (fun g e => by have := (HA.out.own7.lt g e).2; omega); have d1 := cell_grownP b1 hg (fun g e => by have := (HA.out.own7.lt g e).2; omega); have d2 := cell_grownP b2 hg (fun g e => by have := (HA.out.own7.lt g e).2; omega); have e5 := HA5.out.box.cell; clear hg hown halt)
          | (at_builtin; refine wpList_appP rfl (.tmp 40) (.tmp 42) rfl (base := w.heap.size) rfl (World.ownsRow.alloc HA5.out.own8 _) rfl rfl (by have hrow := rowE_one (E := EP) w5 (chP1 c) #[.int .i64 c.f, .int .i64 c.t, .slice c.na c.ns.length c.nc] rfl TPc; first | exact hrow | (simp at hrow ⊢; exact hrow)) (fun h => by cases h) (by have := HL8.out; simp; omega) (by have := HA5.out.bel.size; simp; omega) ?_; intro v8' w6 hown hg halt; have HA6 := Lib.hid (HA5.out.app8 hg hown halt); have hbx := (HA5.out.box.alloc _).kept hg (HA5.out.box.not_row (by decide) HA5.out.own8); have e6 := hbx.cell; have f6 := hbx.frozen; obtain ⟨g6, n6, c6, rfl⟩ := own_atP hown (by simp); clear hg hown halt hbx)
          | go_in)
        exact ⟨⟨t + 1, _, by omega, by go_num, by rw [HC7.out, HC8.out, if_pos HHH.out]; exact HA6.out⟩, by simp [intOf] <;> omega⟩
    · obtain rfl : t = n' := by omega
      have hlt' : ¬ (t : Int) < (t : Int) := by omega
      have hall : l.take t = l := List.take_of_length_le (by have := HN'.out; omega)
      rw [hall] at hA
      clear hall HA
      obtain ⟨A7, n7, c7, hu7⟩ : ∃ A n c, u7 = .slice A n c := by
        obtain ⟨A, c, hv, _⟩ := ownE_list hA.own7
        exact ⟨A, _, c, hv⟩
      subst hu7
      have HA := Lib.hid hA
      have HPW := Lib.hid hA.bel
      have CST := Lib.hid (fun w' => pstretches_any w' A A7 n n7 c0 c7)
      clear hA
      go_wp2_with fail
      gi_wp2_with (refine ⟨trivial, ?_⟩; gi_at_call 21; with_reducible refine (callsIn_wide.2 (CST.out _)).mono ?_; rintro e w4 ⟨rfl, hw4⟩)
      rw [← hw4]
      have hs4 : w4.heap.size = wr.heap.size + 1 := by rw [hw4]; simp
      have hsw : w.heap.size ≤ wr.heap.size := HPW.out.size
      have HB4 := Lib.hid (show Below wr.heap.size wr w4 by rw [hw4]; exact (bl wr).alloc (Nat.le_refl _) _)
      have HPX := Lib.hid (show w4.heap[wr.heap.size]? = some (.cells #[.slice A n c0, .slice A7 n7 c7] T2P (0, 0)) by rw [hw4]; exact heap_alloc_new wr _)
      have HRC := Lib.hid (chP_rs HR1.out HR2.out)
      have HLC := Lib.hid (show (chP l).length ≤ 400 by unfold chP; rw [List.length_map]; exact HNL.out)
      clear hw4 CST
      refine range_strch (gf := 35) (lb := #[.pointer (some ⟨wr.heap.size, 0, none⟩)]) rfl (enters_of Try.func35 (by kernel_rfl) rfl) (fun c => c < w.heap.size ∨ (Value.slice A7 n7 c7).ownBlock = some c) a (chP l) rfl (fun e W => ApS w w3.heap.size (.slice A7 n7 c7) a l e W)
        (fun s A' B' h hs => h.it hs (by omega)) (fun s A' k o o' h hk ho hc => h.obj (by omega) ho hc o') ?run ?h0
        (fun f t' o1 o2 b' => { tmps := #[Value.slice A n c0, Value.slice B t d, undef, undef, Value.slice none 0 0, Value.int IntKind.i64 0, Value.int IntKind.i64 0, Value.slice A7 n7 c7, Value.pointer (some { block := w3.heap.size, off := 0 }), undef, u10, u11, Value.pointer (some { block := b', off := 0 }), Value.pointer (some { block := b' + 1, off := 0 }), Value.slice A n c0, Value.bool true, Value.bool false, Value.slice A n c0, Value.slice B t d, Value.int IntKind.i64 0, Value.int IntKind.i64 0, Value.bool false, undef, Value.slice B t d, Value.int IntKind.i64 t, Value.int IntKind.i64 t, Value.bool false, u27, u28, u29, u30, u31, u32, u33, u34, u35, u36, u37, u38, u39, u40, u41, u42, u43, u44, Value.slice A n c0, Value.slice A7 n7 c7, Value.agg #[Value.slice A n c0, Value.slice A7 n7 c7], Value.func (Fn.func 35) #[] #[Value.pointer (some { block := wr.heap.size, off := 0 })], Value.agg #[Value.int .i64 f, Value.int .i64 t'], Value.agg #[Value.bool o1.isSome, Value.slice (faO o1) (fsO o1).length (fcO o1), Value.bool o2.isSome, Value.slice (faO o2) (fsO o2).length (fcO o2)], undef, undef, undef, undef, undef, undef, undef, undef, undef, undef, undef, undef, undef, undef, undef, undef, undef, undef, undef], defers := [] }) ?assign ?body ?done
      case run =>
        intro k J W hb hsz hJ hY h0
        refine strch_in 3 (fun c => c < w.heap.size ∨ (Value.slice A7 n7 c7).ownBlock = some c) a (chP l) k wr.heap.size J W hJ hY (fun c hc => ?_) A A7 n c0 n7 c7 ((hb.block _ (by omega)).trans HPX.out) ?_ ?_ (tl_rs HTL.out) HRC.out (by have := HNA.out; omega) (by have := HLC.out; omega) h0
        · rcases hc with hc | hc
          · omega
          · have := (HA.out.own7.lt c hc).2
            omega
        · have h1 := (pcs_rowB HPA.out).low (w' := W) fun c (hc : c < w.heap.size) => (hb.block c (by omega)).trans ((HB4.out.block c (by omega)).trans (HPW.out.block c hc))
          exact ⟨h1.lay, fun hl g hg => .inl (h1.blk hl g hg)⟩
        · have h1 := ownE_list (ownE_below HA.out.own7 (chain HB4.out (hb.mono (Nat.le_of_eq rfl))))
          obtain ⟨A8, c8, he, hr, hc, hn⟩ := h1
          exact ⟨⟨A8, c8, he, hr, hc, hn⟩, fun _ g hg => .inr hg⟩
      case h0 => exact ⟨v8, _, HA.out.below HB4.out, .start HR1.out HR2.out⟩
      case assign =>
        intro k f t' o1 o2 W K hK
        rw [bothV_eq]
        rw [ocB_eq] at hK
        gi_wp2
        exact hK
      case body =>
        rintro k f t' o1 o2 W b' ⟨v, M, hAL, hM⟩ hst hb' hbs hbb
        have HAL := Lib.hid hAL
        have HM := Lib.hid hM
        have HST := Lib.hid hst
        have HCN := Lib.hid (show M.length ≤ 1000 by have h1 := hM.count; have := HNA.out; have := HNL.out; omega)
        have s0 : W.cell? ⟨b', 0, none⟩ = some (.int .i64 f) := by simp [World.cell?, hbs]
        have s1 : W.cell? ⟨b', 1, none⟩ = some (.int .i64 t') := by simp [World.cell?, hbs]
        have x0 := hAL.box.cell
        rw [ocB_eq] at hbb
        clear hAL hM hst
        cases o1 with
        | none =>
          have y0 : W.cell? ⟨b' + 1, 0, none⟩ = some (.bool false) := by simp [World.cell?, hbb]
          clear hbb hbs
          gi_wp2
          exact ⟨(KeepsOthers.refl W).from _, .of_below (bl W), v, M, HAL.out, HM.out.skip HR1.out HR2.out HST.out (.inl rfl)⟩
        | some q =>
          have y0 : W.cell? ⟨b' + 1, 0, none⟩ = some (.bool true) := by simp [World.cell?, hbb]
          have y1 : W.cell? ⟨b' + 1, 1, none⟩ = some (.slice q.fa q.fs.length q.fc) := by simp [World.cell?, hbb, faO, fcO, fsO]
          cases o2 with
          | some r =>
            have y2 : W.cell? ⟨b' + 1, 2, none⟩ = some (.bool true) := by simp [World.cell?, hbb]
            clear hbb hbs
            gi_wp2
            exact ⟨(KeepsOthers.refl W).from _, .of_below (bl W), v, M, HAL.out, HM.out.skip HR1.out HR2.out HST.out (.inr rfl)⟩
          | none =>
            have y2 : W.cell? ⟨b' + 1, 2, none⟩ = some (.bool false) := by simp [World.cell?, hbb]
            clear hbb hbs
            gi_wp2_with (gi_at_builtin; refine wpListIn_appP rfl (.tmp 60) (.tmp 66) rfl (base := w.heap.size) rfl (World.ownsRow.alloc HAL.out.own8 _) rfl rfl (by have hrow := rowE_one (E := EP) W (⟨f, t', q.fa, q.fc, q.fs⟩ : Pc) #[.int .i64 f, .int .i64 t', .slice q.fa q.fs.length q.fc] rfl TPc; first | exact hrow | (simp at hrow ⊢; exact hrow)) (fun h => by cases h) (by have := HCN.out; simp; omega) (by have := HAL.out.bel.size; simp; omega) ?_; intro v' w6 hown hg halt; have HA6 := Lib.hid (HAL.out.app8 hg hown halt); have HKE := Lib.hid (HAL.out.keeps hg hown); have hbx := (HAL.out.box.alloc _).kept hg (HAL.out.box.not_row (by decide) HAL.out.own8); have e6 := hbx.cell; have f6 := hbx.frozen; obtain ⟨g6, n6, c6, rfl⟩ := own_atP hown (by simp); clear hg hown halt hbx)
            exact ⟨HKE.out.1.from _, HKE.out.2, _, _, HA6.out, HM.out.put HR1.out HR2.out HST.out⟩
      case done =>
        rintro D W hD ⟨v, M, hAL, hM⟩ hK
        have x0 := hAL.box.cell
        have HAL := Lib.hid hAL
        have HM := Lib.hid hM
        have hDl := (Array.getElem?_eq_some_iff.1 hK).1
        have HDN := Lib.hid (show v.ownBlock ≠ some D from fun e => by
          rcases hAL.own8.2 with ⟨hv, _⟩ | ⟨g, cap, cur, hv, _, hh, _⟩
          · rw [hv] at e; cases e
          · rw [hv] at e
            cases e
            rw [show W.heap[g]? = _ from hh] at hK
            cases hK)
        have HFEW := Lib.hid (show ∀ p ∈ M, PF w p ∧ p.fs.length ≤ 20 from fun p hp => by
          rcases hM.few p hp with h | ⟨q, hq, h1, h2, h3⟩
          · obtain ⟨c, hc, rfl⟩ := apP_mem h
            exact ⟨(HVF.out c hc).2, (HFL.out c hc).2⟩
          · have h4 := HPA.out.2 q hq
            have h5 := HFA.out q hq
            unfold PF at h4 ⊢
            rw [h1, h2, h3]
            exact ⟨h4, h5⟩)
        have CJ := Lib.hid (pjoined_any w W v M hAL.bel hAL.own8 (fun p hp => (HFEW.out p hp).1) hM.ri hM.dj (by have h1 := hM.count; have := HNA.out; have := HNL.out; omega) (fun p hp => by have := (HFEW.out p hp).2; omega))
        have HK := Lib.hid hK
        have HDL := Lib.hid hDl
        clear hAL hM hK hDl
        gi_wp2
        refine ⟨trivial, ?_⟩
        refine (callsIn_wide.2 CJ.out).mono ?_
        rintro e w7 ⟨x, rfl, hT, hb7, hoth⟩
        have HT := Lib.hid hT
        have HB7 := Lib.hid hb7
        have HOT := Lib.hid hoth
        clear hT hb7 hoth
        gi_wp2
        obtain ⟨R, hR⟩ := HT.out
        have HTG := Lib.hid (show HasTL w7 x (applyG a l) from ⟨R, hR.mono fun y => (HM.out.done HR1.out HR2.out y).trans (HG.out y)⟩)
        clear hR
        refine leaves_all (fun W' => HasTL W' x (applyG a l) ∧ Below w.heap.size w W') w4.heap.size (fun W' D' hD' h ho => ⟨hasTL_obj ho rfl _ h.1, h.2.grown (grownBy_putObj' W' D' _) h.2.size fun k e => by cases e; omega⟩) ?_ [D] w7 (by simp) (fun D' hD' => by rw [List.mem_singleton.1 hD']; exact ⟨hD, (HOT.out D HDL.out HDN.out).trans HK.out⟩) ⟨HTG.out, HAL.out.bel.trans HB7.out⟩
        rintro W' ⟨h1, h2⟩
        exact ⟨_, results_tmp2 rfl _ _ _, x, by rw [HE.out]; rfl, h1, h2⟩

theorem pdapply_any (w : World) (u u' : Value) (a : List Pc) (l : List Ch) (ha : PcsL w u a) (hl : ChsL ED12 w u' l) (hna : a.length ≤ 40) (hnl : l.length ≤ 400) (hfa : ∀ p ∈ a, p.fs.length ≤ 20) (hfl : ∀ c ∈ l, c.os.length ≤ 20 ∧ c.ns.length ≤ 20) : Calls Try.prog 16 #[u, u'] w fun e w' => ∃ x, e = .returned (.tuple #[x, .int .i64 ((applyE a l : Nat) : Int)]) ∧ HasTL w' x (applyG a l) ∧ Below w.heap.size w w' := by
  by_cases h : applyE a l = 0
  · have hr : rightT a = true := by
      cases hr : rightT a with
      | true => rfl
      | false => rw [applyE, hr] at h; cases h
    exact pdapply_good w u u' a l ha hl hna hnl hfa hfl hr (by rw [applyE, if_pos hr] at h; exact h)
  · exact pdapply_bad w u u' a l ha hl hna hnl hfa hfl h

end Go.Proofs.Ytnopbhlhdecimaa

/-
  The program's three contracts at hand: Of, Back, Apply.
-/
namespace Go.Proofs.Ytnopbhlhdecimaa
open Go.RowKit
theorem pdof_any (w : World) (ua ub : Value) (a b : List Pc) (ha : PcsL w ua a) (hb : PcsL w ub b) (hna : a.length ≤ 40) (hnb : b.length ≤ 40) (hfa : ∀ p ∈ a, p.fs.length ≤ 20) (hfb : ∀ p ∈ b, p.fs.length ≤ 20) : Calls Try.prog 9 #[ua, ub] w fun e w' => ∃ x, e = .returned x ∧ IsD ED12 w' x a b ∧ Below w.heap.size w w' := by
  by_cases hr : (rightT a && rightT b) = true
  · exact pdof_some w ua ub a b ha hb hna hnb hfa hfb hr
  · exact pdof_none w ua ub a b ha hb hna hnb hfa hfb hr

end Go.Proofs.Ytnopbhlhdecimaa
