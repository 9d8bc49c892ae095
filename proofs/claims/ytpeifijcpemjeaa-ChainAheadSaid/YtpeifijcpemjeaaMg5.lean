/-
  Texts joined into one: what the program's and the document's calls give back, piece by piece.
-/
import Derived.Test.YtpeifijcpemjeaaMg1
import Derived.Test.YtpeifijcpemjeaaMg2
import Derived.Test.YtpeifijcpemjeaaMg3
import Derived.Test.YtpeifijcpemjeaaMg4
import Derived.Test.YtpeifijcpemjeaaRows
import Derived.BigQuiet
import Derived.ChangeAlike
import Derived.ChangeKeysEq
import Derived.Deep.AppendLies
import Derived.Deep.CutBlock
import Derived.Deep.CutRange
import Derived.Deep.Light
import Derived.Deep.QuietTactic
import Derived.Deep.RegionHeld3
import Derived.Deep.RegionLaw
import Derived.Handy
import Derived.Laws.BytesArg
import Derived.Laws.OwnMore
import Derived.Laws.Strings
import Derived.Laws.StructEq
import Derived.Lib.Hide
import Derived.Maps.AppendAt
import Derived.OneCell
import Derived.OwnWalk
import Derived.RegionTactic
import Derived.StillTailTactics
import Derived.WalkArith
import Derived.WalkKit
import Derived.WalkLawsBesides
import Derived.WalkSpells
import Derived.Lib.SmallJoins
import Derived.ProofKit
import Derived.RangeFuncOwn
import Derived.Lib.QuietBelow
import Derived.IntWalk
import Derived.Deep.OwnRows
import Derived.Laws.MakeOwn
import Derived.Laws.Externs
import Derived.Laws.IdiomCopy
import Derived.Lib.AppendStr
import Derived.Lib.Builder
import Derived.Lib.UnsafeStr

/-
  The document's At of chains.
-/
namespace Go.Proofs.Ytpeifijcpemjeaa
open Go.RowKit

/-- The place of the version that is there. -/
def AtTo (l : List Vr) (a : Int) (t : Nat) (s : Value) : Prop :=
  (s = .int .i64 (-1) ∧ atC a (l.take t) = none) ∨ ∃ (j : Nat) (u : Vr), s = .int .i64 (j : Nat) ∧ j < t ∧ l[j]? = some u ∧ atC a (l.take t) = some u
theorem atC_snoc (a : Int) (l : List Vr) (v : Vr) : atC a (l ++ [v]) = stepA a (atC a l) v := by rw [atC, List.foldl_append]; rfl
theorem atC_next {l : List Vr} {t : Nat} {v : Vr} (a : Int) (h : l[t]? = some v) : atC a (l.take (t + 1)) = stepA a (atC a (l.take t)) v := by
  rw [List.take_add_one, h, Option.toList_some, atC_snoc]

set_option maxHeartbeats 4000000 in
set_option maxRecDepth 10000 in
theorem datc_any (w : World) (a : Int) (u : Value) (l : List Vr) (hl : VersL w u l) (hn : l.length ≤ 100000) :
    Ret 16 #[.int .i64 a, u] w (.tuple #[vv ((atC a l).getD noV), .bool (atC a l).isSome]) := by
  obtain ⟨⟨A, c, rfl, hA, hc, hnc⟩, hVF⟩ := hl
  have HA := Lib.hid hA
  obtain ⟨n, hnm⟩ : ∃ n, l.length = n := ⟨_, rfl⟩
  rw [hnm] at hn hc ⊢
  have HN := Lib.hid hnm
  clear hA hc hnc hVF hnm
  have HD := Lib.hid (holdV_new w noV)
  have HW0 := Lib.hid ((bl w).alloc (Nat.le_refl _) (ocV noV))
  go_enter Try.func16, Try.ntmps16
  go_wp2_with fail
  go_loopw [6, 7] (fun s i wr => ∃ t : Nat, t ≤ n ∧ i = .int .i64 t ∧ AtTo l a t s ∧ Below (w.alloc (ocV noV)).heap.size (w.alloc (ocV noV)) wr) (fun _ i _ => n - (intOf i).toNat)
  case atStart => exact ⟨0, Nat.zero_le _, rfl, .inl ⟨rfl, rfl⟩, bl _⟩
  case round =>
    obtain ⟨t, ht, rfl, hs, hW⟩ := hrel
    have HW := Lib.hid hW
    clear hW
    by_cases hlt : t < n
    · have hlt' : (t : Int) < (n : Int) := by omega
      obtain ⟨v, hx⟩ : ∃ v, l[t]? = some v := ⟨_, List.getElem?_eq_getElem (by have := HN.out; omega)⟩
      obtain ⟨g, off, rfl, hX⟩ := ((HA.out.below HW0.out).below HW.out).cells7 hx
      have NX := Lib.hid (atC_next a hx)
      have HV := Lib.hid hx
      obtain ⟨z0, z1, z2, z3, z4, z5, z6⟩ := hX
      clear hx
      rcases hs with ⟨rfl, hno⟩ | ⟨j, u, rfl, hj, hu, hat⟩
      · rw [hno] at NX
        clear hno
        by_cases h1 : v.st ≤ a
        · have h1' : decide (v.st ≤ a) = true := by simpa using h1
          have HS := Lib.hid (show AtTo l a (t + 1) (.int .i64 (t : Nat)) from .inr ⟨t, v, rfl, by omega, HV.out, by rw [NX.out, stepA, if_pos ⟨h1, fun u hu => by cases hu⟩]⟩)
          go_wp2_with fail
          go_region
          go_wp2_with fail
          exact ⟨⟨t + 1, by omega, by go_num, HS.out, belowN HW.out _⟩, by simp [intOf] <;> omega⟩
        · have h1' : decide (v.st ≤ a) = false := by simpa using h1
          have HS := Lib.hid (show AtTo l a (t + 1) (.int .i64 (-1)) from .inl ⟨rfl, by rw [NX.out, stepA, if_neg (fun h => h1 h.1)]⟩)
          go_wp2_with fail
          go_region
          go_wp2_with fail
          exact ⟨⟨t + 1, by omega, by go_num, HS.out, belowN HW.out _⟩, by simp [intOf] <;> omega⟩
      · rw [hat] at NX
        clear hat
        have hj0 : ¬ (j : Int) < 0 := by omega
        have hj0' : decide ((j : Int) < 0) = false := by simp
        have hjn : (j : Int) < (n : Int) := by omega
        obtain ⟨g', off', he, hU⟩ := ((HA.out.below HW0.out).below HW.out).cells7 hu
        injection he with he
        injection he with e1 e2 _
        subst e1 e2
        obtain ⟨y0, y1, y2, y3, y4, y5, y6⟩ := hU
        have HU := Lib.hid hu
        clear hu
        by_cases h1 : v.st ≤ a
        · have h1' : decide (v.st ≤ a) = true := by simpa using h1
          by_cases h2 : u.st ≤ v.st
          · have h2' : decide (u.st ≤ v.st) = true := by simpa using h2
            have HS := Lib.hid (show AtTo l a (t + 1) (.int .i64 (t : Nat)) from .inr ⟨t, v, rfl, by omega, HV.out, by rw [NX.out, stepA, if_pos ⟨h1, fun u hu => by injection hu with hu; subst hu; exact h2⟩]⟩)
            go_wp2_with fail
            go_region
            go_wp2_with fail
            exact ⟨⟨t + 1, by omega, by go_num, HS.out, belowN HW.out _⟩, by simp [intOf] <;> omega⟩
          · have h2' : decide (u.st ≤ v.st) = false := by simpa using h2
            have HS := Lib.hid (show AtTo l a (t + 1) (.int .i64 (j : Nat)) from .inr ⟨j, u, rfl, by omega, HU.out, by rw [NX.out, stepA, if_neg (fun h => h2 (h.2 u rfl))]⟩)
            go_wp2_with fail
            go_region
            go_wp2_with fail
            exact ⟨⟨t + 1, by omega, by go_num, HS.out, belowN HW.out _⟩, by simp [intOf] <;> omega⟩
        · have h1' : decide (v.st ≤ a) = false := by simpa using h1
          have HS := Lib.hid (show AtTo l a (t + 1) (.int .i64 (j : Nat)) from .inr ⟨j, u, rfl, by omega, HU.out, by rw [NX.out, stepA, if_neg (fun h => h1 h.1)]⟩)
          go_wp2_with fail
          go_region
          go_wp2_with fail
          exact ⟨⟨t + 1, by omega, by go_num, HS.out, belowN HW.out _⟩, by simp [intOf] <;> omega⟩
    · obtain rfl : t = n := by omega
      have hlt' : ¬ (t : Int) < (t : Int) := by omega
      obtain ⟨⟨k0, k1, k2, k3, k4, k5, k6⟩, ⟨f0, f1, f2, f3, f4, f5, f6⟩⟩ := HD.out.below HW.out
      have hall : l.take t = l := List.take_of_length_le (by have := HN.out; omega)
      rcases hs with ⟨rfl, hno⟩ | ⟨j, u, rfl, hj, hu, hat⟩
      · rw [hall] at hno
        have HNO := Lib.hid hno
        clear hno hall
        go_wp2_with fail
        obtain ⟨q0, q1, q2, q3, q4, q5, q6⟩ := seven_store (.int .i64 0) (.int .i64 0) (.string ⟨#[]⟩) (.int .i64 0) (.int .i64 0) (.slice none 0 0) (.bool false) k0 k1 k2 k3 k4 k5 k6
        refine bodyPost_ret (v := .tuple #[vv noV, .bool false]) (by simp [results, Try.results16, go_sem, q0, q1, q2, q3, q4, q5, q6, noV]) rfl ⟨by rw [HNO.out]; rfl, ?_⟩
        exact seven_below (HW0.out.trans (HW.out.mono HW0.out.size)) (Nat.le_refl _)
      · rw [hall] at hat
        obtain ⟨g, off, rfl, hU⟩ := ((HA.out.below HW0.out).below HW.out).cells7 hu
        have hj0 : ¬ (j : Int) < 0 := by omega
        have hjn : (j : Int) < (t : Int) := by omega
        have HAT := Lib.hid hat
        obtain ⟨y0, y1, y2, y3, y4, y5, y6⟩ := hU
        clear hat hall hu
        go_wp2_with fail
        obtain ⟨q0, q1, q2, q3, q4, q5, q6⟩ := seven_store (.int .i64 u.id) (.int .i64 u.st) (.string u.ent) (.int .i64 u.sf) (.int .i64 u.se) (.slice u.fa u.fs.length u.fc) (.bool u.gone) k0 k1 k2 k3 k4 k5 k6
        refine bodyPost_ret (v := .tuple #[vv u, .bool true]) (by simp [results, Try.results16, go_sem, q0, q1, q2, q3, q4, q5, q6]) rfl ⟨by rw [HAT.out]; rfl, ?_⟩
        exact seven_below (HW0.out.trans (HW.out.mono HW0.out.size)) (Nat.le_refl _)

end Go.Proofs.Ytpeifijcpemjeaa

/-
  Plain facts on lists of numbers: numbers put in one by one, each once, rising; and the pieces of a span that is cut at sorted times.
-/
namespace Go.Proofs.Ytpeifijcpemjeaa.Co

/-- Put a number where it belongs, unless it is there. -/
def insU (x : Int) : List Int → List Int
  | [] => [x]
  | y :: ys => if y < x then y :: insU x ys else if y = x then y :: ys else x :: y :: ys
/-- The numbers of a list, each once, rising. -/
def riseL (l : List Int) : List Int := l.foldl (fun o x => insU x o) []

theorem mem_insU (x y : Int) : ∀ l : List Int, y ∈ insU x l ↔ y = x ∨ y ∈ l
  | [] => by simp [insU]
  | z :: zs => by
    unfold insU
    split
    · simp only [List.mem_cons, mem_insU x y zs]
      constructor
      · rintro (h | h | h) <;> simp [h]
      · rintro (h | h | h) <;> simp [h]
    · split
      · rename_i h
        subst h
        simp
      · simp
theorem insU_pw (x : Int) : ∀ l : List Int, l.Pairwise (· < ·) → (insU x l).Pairwise (· < ·)
  | [], _ => by simp [insU]
  | z :: zs, h => by
    obtain ⟨h1, h2⟩ := List.pairwise_cons.1 h
    unfold insU
    split
    · refine List.pairwise_cons.2 ⟨fun y hy => ?_, insU_pw x zs h2⟩
      rcases (mem_insU x y zs).1 hy with rfl | hy
      · assumption
      · exact h1 y hy
    · split
      · exact h
      · refine List.pairwise_cons.2 ⟨fun y hy => ?_, h⟩
        rcases List.mem_cons.1 hy with rfl | hy
        · omega
        · have := h1 y hy
          omega
theorem fold_mem (l : List Int) : ∀ (o : List Int) (y : Int), y ∈ l.foldl (fun o x => insU x o) o ↔ y ∈ o ∨ y ∈ l := by
  induction l with
  | nil => simp
  | cons x l ih =>
    intro o y
    rw [List.foldl_cons, ih, mem_insU, List.mem_cons]
    constructor
    · rintro ((h | h) | h) <;> simp [h]
    · rintro (h | h | h) <;> simp [h]
theorem fold_pw (l : List Int) : ∀ o : List Int, o.Pairwise (· < ·) → (l.foldl (fun o x => insU x o) o).Pairwise (· < ·) := by
  induction l with
  | nil => exact fun _ h => h
  | cons x l ih => exact fun o h => ih _ (insU_pw x o h)
theorem mem_riseL (l : List Int) (y : Int) : y ∈ riseL l ↔ y ∈ l := by simp [riseL, fold_mem]
theorem riseL_pw (l : List Int) : (riseL l).Pairwise (· < ·) := fold_pw l [] List.Pairwise.nil
theorem riseL_snoc (l : List Int) (x : Int) : riseL (l ++ [x]) = insU x (riseL l) := by simp [riseL]
theorem insU_length (x : Int) : ∀ l : List Int, (insU x l).length ≤ l.length + 1
  | [] => by simp [insU]
  | z :: zs => by
    have := insU_length x zs
    unfold insU
    split
    · simp; omega
    · split <;> simp
theorem fold_length (l : List Int) : ∀ o : List Int, (l.foldl (fun o x => insU x o) o).length ≤ o.length + l.length := by
  induction l with
  | nil => simp
  | cons x l ih =>
    intro o
    have h1 := ih (insU x o)
    have h2 := insU_length x o
    simp only [List.foldl_cons, List.length_cons]
    omega
theorem riseL_length (l : List Int) : (riseL l).length ≤ l.length := by simpa [riseL] using fold_length l []

/-- All numbers ahead of place k are less, the one there is not: so the number belongs there. -/
theorem insU_at {x : Int} : ∀ {l : List Int} {k : Nat}, (∀ j y, j < k → l[j]? = some y → y < x) → k ≤ l.length → (∀ y, l[k]? = some y → x < y) → insU x l = l.take k ++ x :: l.drop k
  | [], k, _, hk, _ => by
    obtain rfl : k = 0 := by simpa using hk
    simp [insU]
  | z :: zs, 0, _, _, h => by
    have := h z (by simp)
    unfold insU
    rw [if_neg (by omega), if_neg (by omega)]
    simp
  | z :: zs, k + 1, h, hk, hg => by
    have := h 0 z (by omega) (by simp)
    unfold insU
    rw [if_pos this, insU_at (k := k) (fun j y hj hy => h (j + 1) y (by omega) (by simpa using hy)) (by simpa using hk) (fun y hy => hg y (by simpa using hy))]
    simp
theorem insU_same {x : Int} : ∀ {l : List Int} {k : Nat}, (∀ j y, j < k → l[j]? = some y → y < x) → l[k]? = some x → insU x l = l
  | [], k, _, h => by simp at h
  | z :: zs, 0, _, h => by
    obtain rfl : z = x := by simpa using h
    unfold insU
    rw [if_neg (by omega), if_pos rfl]
  | z :: zs, k + 1, h, hx => by
    have := h 0 z (by omega) (by simp)
    unfold insU
    rw [if_pos this, insU_same (k := k) (fun j y hj hy => h (j + 1) y (by omega) (by simpa using hy)) (by simpa using hx)]

/-- Two rising lists with the same numbers are one. -/
theorem pw_ext : ∀ l m : List Int, l.Pairwise (· < ·) → m.Pairwise (· < ·) → (∀ x, x ∈ l ↔ x ∈ m) → l = m
  | [], [], _, _, _ => rfl
  | [], y :: ys, _, _, h => by have := (h y).2 (by simp); simp at this
  | x :: xs, [], _, _, h => by have := (h x).1 (by simp); simp at this
  | x :: xs, y :: ys, hl, hm, h => by
    obtain ⟨h1, h2⟩ := List.pairwise_cons.1 hl
    obtain ⟨h3, h4⟩ := List.pairwise_cons.1 hm
    have hxy : x = y := by
      rcases List.mem_cons.1 ((h x).1 (by simp)) with e | e
      · exact e
      · rcases List.mem_cons.1 ((h y).2 (by simp)) with e' | e'
        · exact e'.symm
        · have := h3 x e
          have := h1 y e'
          omega
    subst hxy
    rw [pw_ext xs ys h2 h4 fun z => ⟨fun hz => ?_, fun hz => ?_⟩]
    · have := h1 z hz
      rcases List.mem_cons.1 ((h z).1 (by simp [hz])) with e | e
      · omega
      · exact e
    · have := h3 z hz
      rcases List.mem_cons.1 ((h z).2 (by simp [hz])) with e | e
      · omega
      · exact e

/-- Of a sorted list, what is above f, each once. -/
def uniqF : Int → List Int → List Int
  | _, [] => []
  | f, t :: ts => if f < t then t :: uniqF t ts else uniqF f ts

theorem mem_uniqF : ∀ (l : List Int) (f y : Int), l.Pairwise (· ≤ ·) → (y ∈ uniqF f l ↔ y ∈ l ∧ f < y)
  | [], f, y, _ => by simp [uniqF]
  | t :: ts, f, y, h => by
    obtain ⟨h1, h2⟩ := List.pairwise_cons.1 h
    unfold uniqF
    split
    · rw [List.mem_cons, mem_uniqF ts t y h2, List.mem_cons]
      constructor
      · rintro (rfl | ⟨h3, h4⟩)
        · exact ⟨.inl rfl, by assumption⟩
        · exact ⟨.inr h3, by omega⟩
      · rintro ⟨rfl | h3, h4⟩
        · exact .inl rfl
        · have := h1 y h3
          by_cases e : y = t
          · exact .inl e
          · exact .inr ⟨h3, by omega⟩
    · rw [mem_uniqF ts f y h2, List.mem_cons]
      constructor
      · rintro ⟨h3, h4⟩
        exact ⟨.inr h3, h4⟩
      · rintro ⟨rfl | h3, h4⟩
        · omega
        · exact ⟨h3, h4⟩
theorem uniqF_pw : ∀ (l : List Int) (f : Int), l.Pairwise (· ≤ ·) → (uniqF f l).Pairwise (· < ·)
  | [], f, _ => by simp [uniqF]
  | t :: ts, f, h => by
    obtain ⟨h1, h2⟩ := List.pairwise_cons.1 h
    unfold uniqF
    split
    · exact List.pairwise_cons.2 ⟨fun y hy => ((mem_uniqF ts t y h2).1 hy).2, uniqF_pw ts t h2⟩
    · exact uniqF_pw ts f h2

/-- The pieces from f on, each one up to the next of the times. -/
def pieces : Int → List Int → List (Int × Int)
  | _, [] => []
  | f, t :: ts => (f, t) :: pieces t ts
theorem pieces_snoc : ∀ (l : List Int) (f t : Int), pieces f (l ++ [t]) = pieces f l ++ [((l.getLast?).getD f, t)]
  | [], f, t => by simp [pieces]
  | x :: xs, f, t => by
    rw [List.cons_append, pieces, pieces_snoc xs x t, pieces]
    rcases xs with _ | ⟨y, ys⟩ <;> simp [List.getLast?_cons]
theorem pieces_length : ∀ (l : List Int) (f : Int), (pieces f l).length = l.length
  | [], f => rfl
  | t :: ts, f => by simp [pieces, pieces_length ts t]

end Go.Proofs.Ytpeifijcpemjeaa.Co

/-
  append of numbers onto a list of the call's own, whatever the source: what it leaves, also as one step of a statement whose order is open.
-/
namespace Go.Proofs.Ytpeifijcpemjeaa.Co
open Go.RowKit

abbrev ownI (w : World) (base : Nat) (v : Value) (ts : List Int) : Prop := w.ownsRow base 3 1 v ts.length (ts.map (Value.int .i64))

set_option maxRecDepth 100000 in
theorem run_app (w : World) {base : Nat} {v : Value} {ts : List Int} (hown : ownI w base v ts) (B : Option Addr) (c : Nat) (xs : List Int) (hx : Ints w B xs) (hc : B = none → c = 0)
    (hl : ts.length + xs.length ≤ 1000000) (hbase : base ≤ w.heap.size) (ty : TypeId) :
    ∃ v' w', (Builtin.append_ #[79, 79] ty #[v, .slice B xs.length c]).run Try.prog w = .ok v' w' ∧ ownI w' base v' (ts ++ xs) ∧ w.grownBy w' v.ownBlock ∧ (v'.ownBlock = v.ownBlock ∨ v'.ownBlock = some w.heap.size) := by
  obtain ⟨i0, hi, hz0, hz1, hz2⟩ := info_parts Try.infoInt
  rcases B with _ | ad
  · obtain rfl : xs = [] := by
      rcases xs with _ | ⟨x, xs⟩
      · rfl
      · obtain ⟨_, _, h, _⟩ := hx 0 x (by simp)
        cases h
    obtain rfl := hc rfl
    exact ⟨v, w, run_append_owned_none (P := Try.prog) w base 79 ty 3 i0 1 Try.underlying79 hi v _ _ hown, by simpa [ownI] using hown, World.grownBy.refl _ _, .inl rfl⟩
  · have hcell : ∀ j u, (xs.map (Value.int .i64))[j]? = some u → w.cell? (ad.add j) = some u := fun j u hu => by
      rw [List.getElem?_map] at hu
      rcases hq : xs[j]? with _ | x
      · simp [hq] at hu
      · obtain ⟨g, off, h, hcl⟩ := hx j x hq
        injection h with h
        subst h
        obtain rfl : Value.int .i64 x = u := by simpa [hq] using hu
        rw [Go.WideShapes.add_plain]
        exact hcl
    obtain ⟨v', w', hrun, h2, h3, _, h5⟩ := run_append_own_at (P := Try.prog) w base 79 ty 3 i0 (.int .i64 0) 1 8 Try.underlying79 hi hz0 hz1 hz2 rfl (by decide) v _ _ hown ad xs.length c (xs.map (Value.int .i64)) (by simp) hcell
      (fun u hu => by obtain ⟨x, _, rfl⟩ := List.mem_map.1 hu; simp [Value.oneCell']) (by unfold maxLen; omega) (by omega) hbase
    exact ⟨v', w', hrun, by simpa [ownI] using h2, h3, h5⟩

set_option maxRecDepth 100000 in
theorem step_app {ops : Array Oper} {o : Oper} {a : Act} {w : World} {K : Act → World → Prop} {Q : Exit → Act → World → Prop} {E : Prop} (hgd : o.guard = none) (s x : Operand)
    (ho : o.op = .call { callee := .builtin .append, args := #[s, x], argTypes := #[79, 79] })
    {base : Nat} {v : Value} {ts : List Int} (hs : a.eval s = v) (hown : ownI w base v ts) {B : Option Addr} {c m : Nat} {xs : List Int} (hv : a.eval x = .slice B m c) (hm : m = xs.length) (hx : Ints w B xs) (hc : B = none → c = 0)
    (hl : ts.length + xs.length ≤ 1000000) (hbase : base ≤ w.heap.size)
    (h : ∀ v' w', ownI w' base v' (ts ++ xs) → w.grownBy w' v.ownBlock → (v'.ownBlock = v.ownBlock ∨ v'.ownBlock = some w.heap.size) → K (a.put o.dst v') w') :
    if Region.wanted o (yielded ops a.tmps) = true then Oper.wp Try.prog o a w K Q else E := by
  subst hm
  have hw : Region.wanted o (yielded ops a.tmps) = true := by simp [Region.wanted, hgd]
  rw [if_pos hw]
  obtain ⟨v', w', hrun, h2, h3, h4⟩ := run_app w hown B c xs hx hc hl hbase o.type
  unfold Oper.wp execOp
  simp only [ho, resolve, invoke, builtin, Sem.run_bind, Sem.run_pure, Result.andThen_ok, List.map_toArray, List.map_cons, List.map_nil, hs, hv, hrun]
  exact h v' w' h2 h3 h4

end Go.Proofs.Ytpeifijcpemjeaa.Co

/-
  What the document's Rise gives back for any numbers: each once, rising.
-/
namespace Go.Proofs.Ytpeifijcpemjeaa.Co
open Go.RowKit

/-- What holds at the head of each outer round. -/
def RiseRel (w : World) (o : List Int) (v : Value) (wr : World) : Prop := ownI wr w.heap.size v o ∧ Below w.heap.size w wr
/-- All that stand ahead of place k are less than x. -/
def Less (o : List Int) (x : Int) (k : Nat) : Prop := ∀ j y, j < k → o[j]? = some y → y < x
theorem Less.next {o : List Int} {x y : Int} {k : Nat} (h : Less o x k) (hy : o[k]? = some y) (hlt : y < x) : Less o x (k + 1) := fun j z hj hz => by
  rcases Nat.lt_or_ge j k with h1 | h1
  · exact h j z h1 hz
  · obtain rfl : j = k := by omega
    rw [hy] at hz
    injection hz with hz
    omega

theorem belowN' {B : Nat} {a w : World} (h : Below B a w) (n : Nat) : Below B a (w.drewN n) := ⟨h.os, h.tape, h.output, h.size, h.block⟩
theorem own_le {w : World} {base : Nat} {A : Option Addr} {c : Nat} {l : List Int} (h : ownI w base (.slice A l.length c) l) : l.length ≤ c := by
  rcases h.2 with ⟨hv, h0⟩ | ⟨g, cap, cur, hv, _, _, hn, _⟩
  · omega
  · injection hv with _ _ hc
    omega

theorem abstract_world {P : Program} {code : Code} {Q : Exit → Act → World → Prop} {a : Act} {w : World} (R : World → Prop) (h0 : R w) (h : ∀ W, R W → Code.wp P code Q a W) : Code.wp P code Q a w := h w h0
theorem Ints.take {w : World} {A : Option Addr} {l : List Int} (h : Ints w A l) (k : Nat) : Ints w A (l.take k) := fun i x hx => by
  rcases Nat.lt_or_ge i k with hi | hi
  · rw [List.getElem?_take_of_lt hi] at hx
    exact h i x hx
  · rw [List.getElem?_take_eq_none hi] at hx
    cases hx
theorem Ints.drop {w : World} {g off : Nat} {l : List Int} (h : Ints w (some ⟨g, off, none⟩) l) (k : Nat) : Ints w (some ⟨g, off + k, none⟩) (l.drop k) := fun i x hx => by
  rw [List.getElem?_drop] at hx
  obtain ⟨g', off', e, hc⟩ := h (k + i) x hx
  injection e with e
  injection e with e1 e2
  subst e1 e2
  exact ⟨g, off + k, rfl, by rw [Nat.add_assoc]; exact hc⟩
theorem below_grown {a w w1 : World} {row : Option Nat} (h : Below a.heap.size a w) (hg : w.grownBy w1 row) (hr : ∀ r, row = some r → a.heap.size ≤ r) : Below a.heap.size a w1 := h.grown hg h.size hr
theorem own_empty {w : World} {b base : Nat} (h : w.heap[b]? = some (.cells #[] 3 (0, 0))) (hb : base ≤ b) : ownI w base (.slice (some ⟨b, 0, none⟩) 0 0) [] :=
  ⟨by simp, .inr ⟨b, 0, #[], rfl, hb, h, by simp, by simp [maxLen], by simp, by simp⟩⟩
theorem own_e1 (W : World) : ownI (W.alloc (.cells #[] 3)).drew W.heap.size (.slice (some ⟨W.heap.size, 0, none⟩) 0 0) [] := own_empty (heap_alloc_new W _) (Nat.le_refl _)
theorem own_e2 (W : World) (x : Int) : ownI ((W.alloc (.cells #[] 3)).alloc (.cells #[.int .i64 x] 3)).drew W.heap.size (.slice (some ⟨W.heap.size, 0, none⟩) 0 0) [] :=
  own_empty ((Below.heap_alloc (W.alloc (.cells #[] 3)) _ W.heap.size (by simp)).trans (heap_alloc_new W _)) (Nat.le_refl _)
theorem own_e3 (W : World) (x : Int) : ownI ((W.alloc (.cells #[.int .i64 x] 3)).alloc (.cells #[] 3)).drew W.heap.size (.slice (some ⟨W.heap.size + 1, 0, none⟩) 0 0) [] :=
  own_empty (w := ((W.alloc (.cells #[.int .i64 x] 3)).alloc (.cells #[] 3))) (by have := heap_alloc_new (W.alloc (.cells #[.int .i64 x] 3)) (.cells #[] 3); simpa using this) (by omega)
theorem ints_one (w : World) (x : Int) (t : TypeId) : Ints (w.alloc (.cells #[.int .i64 x] t)) (some ⟨w.heap.size, 0, none⟩) [x] := fun i y hy => by
  rcases i with _ | i
  · obtain rfl : x = y := by simpa using hy
    exact ⟨_, _, rfl, by simp [go_sem]⟩
  · simp at hy
theorem ints_cell {w : World} {b : Nat} {x : Int} (h : w.cell? ⟨b, 0, none⟩ = some (.int .i64 x)) : Ints w (some ⟨b, 0, none⟩) [x] := fun i y hy => by
  rcases i with _ | i
  · obtain rfl : x = y := by simpa using hy
    exact ⟨_, _, rfl, h⟩
  · simp at hy
theorem x_e2 {W w1 : World} {x : Int} (hg : ((W.alloc (.cells #[] 3)).alloc (.cells #[.int .i64 x] 3)).drew.grownBy w1 (Value.slice (some ⟨W.heap.size, 0, none⟩) 0 0).ownBlock) : Ints w1 (some ⟨W.heap.size + 1, 0, none⟩) [x] :=
  ints_cell (hg.cell (by simp [go_sem]) (by simp [Value.ownBlock]))
theorem x_e3 {W w1 : World} {x : Int} (hg : ((W.alloc (.cells #[.int .i64 x] 3)).alloc (.cells #[] 3)).drew.grownBy w1 (Value.slice (some ⟨W.heap.size + 1, 0, none⟩) 0 0).ownBlock) : Ints w1 (some ⟨W.heap.size, 0, none⟩) [x] :=
  ints_cell (hg.cell (by simp [go_sem]) (by simp [Value.ownBlock]))
theorem rise_own {w : World} {b b' : Nat} {v : Value} {ts : List Int} (hb : b ≤ b') (h : ownI w b' v ts) : ownI w b v ts := by
  refine ⟨h.1, ?_⟩
  rcases h.2 with h2 | ⟨g, cap, cur, hv, hg, r⟩
  · exact .inl h2
  · exact .inr ⟨g, cap, cur, hv, by omega, r⟩
theorem own_nil_cap {w : World} {base : Nat} {A : Option Addr} {c : Nat} {l : List Int} (h : ownI w base (.slice A l.length c) l) : A = none → c = 0 := by
  rintro rfl
  rcases h.2 with ⟨hv, h0⟩ | ⟨g, cap, cur, hv, _⟩
  · injection hv
  · injection hv with h
    cases h

set_option maxHeartbeats 4000000 in
theorem rise_any (A : Option Addr) (c : Nat) (zs : List Int) (w : World) (hz : Ints w A zs) (hn : zs.length ≤ 1000) :
    Calls Try.prog 61 #[.slice A zs.length c] w fun e w' => ∃ v, e = .returned v ∧ ownI w' w.heap.size v (riseL zs) ∧ Below w.heap.size w w' := by
  have HZ := Lib.hid hz
  clear hz
  obtain ⟨n, hnm⟩ : ∃ n, n = zs.length := ⟨_, rfl⟩
  rw [← hnm]
  have hn' : n ≤ 1000 := by omega
  have HN := Lib.hid hnm
  clear hnm hn
  go_enter Try.func61, Try.ntmps61
  go_wp2_with fail
  go_loopw [3, 4] (fun v i wr => ∃ k : Nat, k ≤ n ∧ i = .int .i64 k ∧ RiseRel w (riseL (zs.take k)) v wr) (fun _ i _ => n - (intOf i).toNat)
  case atStart => exact ⟨0, Nat.zero_le _, rfl, World.ownsRow_nil _ _ _ _, Below.refl _ _⟩
  case round =>
    obtain ⟨i, hi, rfl, hown, hB⟩ := hrel
    obtain ⟨o, ho⟩ : ∃ o, riseL (zs.take i) = o := ⟨_, rfl⟩
    have hol : o.length ≤ 1000 := by rw [← ho]; have := riseL_length (zs.take i); have := List.length_take_le i zs; omega
    rw [ho] at hown
    have HO := Lib.hid ho
    clear ho
    obtain ⟨wo, hwo⟩ : ∃ wo : World, wo = wr := ⟨_, rfl⟩
    subst hwo
    by_cases hlt : i < n
    · obtain ⟨x, hx⟩ : ∃ x, zs[i]? = some x := ⟨_, List.getElem?_eq_getElem (by have := HN.out; omega)⟩
      obtain ⟨g, off, rfl, c0⟩ := HZ.out i x hx
      have hg := lt_of_cell c0
      have c1 : wo.cell? ⟨g, off + i, none⟩ = some (.int .i64 x) := (hB.cell (p := ⟨g, off + i, none⟩) hg).trans c0
      have hnx : riseL (zs.take (i + 1)) = insU x o := by rw [List.take_add_one, hx, Option.toList_some, riseL_snoc, HO.out]
      have HNX := Lib.hid hnx
      clear hnx hx c0
      obtain ⟨B, cb, rfl, hoi⟩ := own_ints hown
      have HOI := Lib.hid hoi
      have HOWN := Lib.hid hown
      clear hoi hown
      go_wp2_with fail
      go_loopw [5] (fun kk wr => ∃ k : Nat, k ≤ o.length ∧ kk = .int .i64 k ∧ Less o x k ∧ ∃ q, wr = wo.drewN q) (fun kk _ => o.length - (intOf kk).toNat)
      case atStart => exact ⟨0, Nat.zero_le _, rfl, fun j y hj => absurd hj (by omega), 0, rfl⟩
      case round =>
        obtain ⟨k, hk, rfl, hless, q, rfl⟩ := hrel
        have HLS := Lib.hid hless
        clear hless
        by_cases hko : k < o.length
        · obtain ⟨y, hy⟩ : ∃ y, o[k]? = some y := ⟨_, List.getElem?_eq_getElem hko⟩
          obtain ⟨g', off', rfl, d0⟩ := HOI.out k y hy
          have HY := Lib.hid hy
          clear hy
          by_cases hyx : y < x
          · go_wp2_with fail
            go_quiet (fail)
            go_wp2_with fail
            go_roundw
            case rel => exact ⟨k + 1, by omega, by go_num, HLS.out.next HY.out hyx, _, rfl⟩
            case measure => simp [intOf]; omega
          · have hd : decide (y < x) = false := by simpa using hyx
            by_cases hxy : y = x
            · have hq : (y == x) = true := by simpa using hxy
              go_wp2_with fail
              go_quiet (fail)
              go_wp2_with fail
              go_quiet (fail)
              go_wp2_with fail
              go_roundw
              case rel => exact ⟨i + 1, by omega, by go_num, by rw [HNX.out, insU_same HLS.out (by rw [HY.out, hxy])]; exact HOWN.out, belowN' hB _⟩
              case measure => simp [intOf]; omega
            · have hq : (y == x) = false := by simpa using hxy
              go_wp2_with fail
              go_quiet (fail)
              go_wp2_with fail
              go_quiet (fail)
              go_wp2_with fail
              have hge : ∀ z, o[k]? = some z → x < z := fun z hz => by rw [HY.out] at hz; injection hz with hz; omega
              have HGE := Lib.hid hge
              clear hge
              refine abstract_world (fun W => Below w.heap.size w W ∧ Ints W (some ⟨g', off', none⟩) o ∧ W.cell? ⟨g, off + i, none⟩ = some (.int .i64 x)) ⟨belowN' (belowN' (belowN' hB _) _) _, HOI.out, c1⟩ ?_
              rintro W ⟨hBW, hOW, cW⟩
              have hcap := own_le HOWN.out
              have k0 : (0 : Int) ≤ (k : Int) := by omega
              have k1 : (k : Int) ≤ (o.length : Int) := by omega
              have k2 : (o.length : Int) ≤ (cb : Int) := by omega
              have k3 : (k : Int) ≤ (cb : Int) := by omega
              have hkc : ¬ cb = k := by omega
              have hcn : some (⟨g', off', none⟩ : Addr) = none → cb = 0 := by simp
              have hcn' : some (⟨g', off' + k, none⟩ : Addr) = none → cb - k = 0 := by simp
              have hT : Ints W (some ⟨g', off' + k, none⟩) (o.drop k) := hOW.drop k
              have mk : ∀ w', Below W.heap.size W w' → (Below W.heap.size W w' ∧ w'.cell? ⟨g, off + i, none⟩ = some (.int .i64 x)) := fun w' h => ⟨h, (h.cell (p := ⟨g, off + i, none⟩) (lt_of_cell cW)).trans cW⟩
              have MK := Lib.hid mk
              clear mk
              have HHD := Lib.hid (hOW.take k)
              have HTL := Lib.hid hT
              clear hOW hT
              go_region_held3 (fun w' => Below W.heap.size W w' ∧ w'.cell? ⟨g, off + i, none⟩ = some (.int .i64 x))
                (first | exact MK.out _ ((Below.refl _ _).drew) | exact MK.out _ hb3 | exact MK.out _ hb2 | exact MK.out _ (hb1.alloc hb1.size _) | exact MK.out _ hb1 | exact MK.out _ (by go_grown))
                (first
                  | (refine step_app rfl (.tmp 44) (.tmp 47) rfl (base := W.heap.size) rfl (own_e1 W) rfl (List.length_take_of_le hk).symm (HHD.out.below (by go_split_ands; assumption)) hcn (by simp; omega) (by simp) ?_; intro v1 w1 hown1 hg1 hat1; have hb1 : Below W.heap.size W w1 := below_grown (by go_split_ands; assumption) hg1 (fun r hr => ((own_e1 W).lt r hr).1))
                  | (refine step_app rfl (.tmp 44) (.tmp 47) rfl (base := W.heap.size) rfl (own_e2 W x) rfl (List.length_take_of_le hk).symm (HHD.out.below (by go_split_ands; assumption)) hcn (by simp; omega) (by simp; omega) ?_; intro v1 w1 hown1 hg1 hat1; have hb1 : Below W.heap.size W w1 := below_grown (by go_split_ands; assumption) hg1 (fun r hr => ((own_e2 W x).lt r hr).1); have HX1 := Lib.hid (x_e2 hg1))
                  | (refine step_app rfl (.tmp 44) (.tmp 47) rfl (base := W.heap.size) rfl (own_e3 W x) rfl (List.length_take_of_le hk).symm (HHD.out.below (by go_split_ands; assumption)) hcn (by simp; omega) (by simp; omega) ?_; intro v1 w1 hown1 hg1 hat1; have hb1 : Below W.heap.size W w1 := below_grown (by go_split_ands; assumption) hg1 (fun r hr => ((own_e3 W x).lt r hr).1); have HX1 := Lib.hid (x_e3 hg1))
                  | (refine step_app rfl (.tmp 48) (.tmp 53) rfl (base := W.heap.size) rfl (World.ownsRow.alloc hown1 _) rfl rfl (ints_one w1 x _) (by simp) (by simp; omega) (by have := hb1.size; simp; omega) ?_; intro v2 w2 hown2 hg2 hat2; have hb2 : Below W.heap.size W w2 := below_grown (hb1.alloc hb1.size _) hg2 (fun r hr => (hown1.lt r hr).1))
                  | (refine step_app rfl (.tmp 48) (.tmp 53) rfl (base := W.heap.size) rfl hown1 rfl rfl HX1.out (by simp) (by simp; omega) hb1.size ?_; intro v2 w2 hown2 hg2 hat2; have hb2 : Below W.heap.size W w2 := below_grown hb1 hg2 (fun r hr => (hown1.lt r hr).1))
                  | (refine step_app rfl (.tmp 54) (.tmp 57) rfl (base := W.heap.size) rfl hown2 rfl (List.length_drop ..).symm (HTL.out.below hb2) hcn' (by simp; omega) hb2.size ?_; intro v3 w3 hown3 hg3 hat3; have hb3 : Below W.heap.size W w3 := below_grown hb2 hg3 (fun r hr => (hown2.lt r hr).1)))
              all_goals
                go_wp2_with fail
                go_roundw
                case rel => exact ⟨i + 1, by omega, by go_num, by rw [HNX.out, insU_at HLS.out hk HGE.out]; exact rise_own hBW.size (by rw [show o.take k ++ x :: o.drop k = [] ++ o.take k ++ [x] ++ o.drop k from by simp]; exact hown3), hBW.trans (hb3.mono hBW.size)⟩
                case measure => simp [intOf]; omega
        · obtain rfl : k = o.length := by omega
          have hge : ∀ z, o[o.length]? = some z → x < z := fun z hz => by simp at hz
          have HGE := Lib.hid hge
          clear hge
          have hd : decide (o.length < o.length) = false := by simp
          go_wp2_with fail
          go_quiet (fail)
          go_wp2_with fail
          go_quiet (fail)
          go_wp2_with fail
          refine abstract_world (fun W => Below w.heap.size w W ∧ Ints W B o ∧ W.cell? ⟨g, off + i, none⟩ = some (.int .i64 x)) ⟨belowN' (belowN' (belowN' hB _) _) _, HOI.out, c1⟩ ?_
          rintro W ⟨hBW, hOW, cW⟩
          have hcap := own_le HOWN.out
          have hcn := own_nil_cap HOWN.out
          have HCN := Lib.hid hcn
          clear hcn
          have k0 : (0 : Int) ≤ (o.length : Int) := by omega
          have k2 : (o.length : Int) ≤ (cb : Int) := by omega
          by_cases hkc : cb = o.length
          · subst hkc
            have hT : Ints W B ([] : List Int) := Ints.nil _ _
            have hcn' : B = none → o.length - o.length = 0 := fun _ => by omega
            have mk : ∀ w', Below W.heap.size W w' → (Below W.heap.size W w' ∧ w'.cell? ⟨g, off + i, none⟩ = some (.int .i64 x)) := fun w' h => ⟨h, (h.cell (p := ⟨g, off + i, none⟩) (lt_of_cell cW)).trans cW⟩
            have MK := Lib.hid mk
            clear mk
            have HHD := Lib.hid (hOW.take o.length)
            have HTL := Lib.hid hT
            clear hOW hT
            go_region_held3 (fun w' => Below W.heap.size W w' ∧ w'.cell? ⟨g, off + i, none⟩ = some (.int .i64 x))
              (first | exact MK.out _ ((Below.refl _ _).drew) | exact MK.out _ hb3 | exact MK.out _ hb2 | exact MK.out _ (hb1.alloc hb1.size _) | exact MK.out _ hb1 | exact MK.out _ (by go_grown))
              (first
                | (refine step_app rfl (.tmp 44) (.tmp 47) rfl (base := W.heap.size) rfl (own_e1 W) rfl (List.length_take_of_le hk).symm (HHD.out.below (by go_split_ands; assumption)) HCN.out (by simp; omega) (by simp) ?_; intro v1 w1 hown1 hg1 hat1; have hb1 : Below W.heap.size W w1 := below_grown (by go_split_ands; assumption) hg1 (fun r hr => ((own_e1 W).lt r hr).1))
                | (refine step_app rfl (.tmp 44) (.tmp 47) rfl (base := W.heap.size) rfl (own_e2 W x) rfl (List.length_take_of_le hk).symm (HHD.out.below (by go_split_ands; assumption)) HCN.out (by simp; omega) (by simp; omega) ?_; intro v1 w1 hown1 hg1 hat1; have hb1 : Below W.heap.size W w1 := below_grown (by go_split_ands; assumption) hg1 (fun r hr => ((own_e2 W x).lt r hr).1); have HX1 := Lib.hid (x_e2 hg1))
                | (refine step_app rfl (.tmp 44) (.tmp 47) rfl (base := W.heap.size) rfl (own_e3 W x) rfl (List.length_take_of_le hk).symm (HHD.out.below (by go_split_ands; assumption)) HCN.out (by simp; omega) (by simp; omega) ?_; intro v1 w1 hown1 hg1 hat1; have hb1 : Below W.heap.size W w1 := below_grown (by go_split_ands; assumption) hg1 (fun r hr => ((own_e3 W x).lt r hr).1); have HX1 := Lib.hid (x_e3 hg1))
                | (refine step_app rfl (.tmp 48) (.tmp 53) rfl (base := W.heap.size) rfl (World.ownsRow.alloc hown1 _) rfl rfl (ints_one w1 x _) (by simp) (by simp; omega) (by have := hb1.size; simp; omega) ?_; intro v2 w2 hown2 hg2 hat2; have hb2 : Below W.heap.size W w2 := below_grown (hb1.alloc hb1.size _) hg2 (fun r hr => (hown1.lt r hr).1))
                | (refine step_app rfl (.tmp 48) (.tmp 53) rfl (base := W.heap.size) rfl hown1 rfl rfl HX1.out (by simp) (by simp; omega) hb1.size ?_; intro v2 w2 hown2 hg2 hat2; have hb2 : Below W.heap.size W w2 := below_grown hb1 hg2 (fun r hr => (hown1.lt r hr).1))
                | (refine step_app rfl (.tmp 54) (.tmp 57) rfl (base := W.heap.size) rfl hown2 rfl rfl (Ints.nil _ _) (by simp) (by simp; omega) hb2.size ?_; intro v3 w3 hown3 hg3 hat3; have hb3 : Below W.heap.size W w3 := below_grown hb2 hg3 (fun r hr => (hown2.lt r hr).1)))
            all_goals
              go_wp2_with fail
              go_roundw
              case rel => exact ⟨i + 1, by omega, by go_num, by rw [HNX.out, insU_at HLS.out hk HGE.out]; exact rise_own hBW.size (by rw [show o.take o.length ++ x :: o.drop o.length = [] ++ o.take o.length ++ [x] ++ [] from by simp]; exact hown3), hBW.trans (hb3.mono hBW.size)⟩
              case measure => simp [intOf]; omega
          · have hT : Ints W (B.map (·.add o.length)) ([] : List Int) := Ints.nil _ _
            have hcn' : B.map (·.add o.length) = none → cb - o.length = 0 := fun e => by
              have := HCN.out (by simpa using e)
              omega
            have mk : ∀ w', Below W.heap.size W w' → (Below W.heap.size W w' ∧ w'.cell? ⟨g, off + i, none⟩ = some (.int .i64 x)) := fun w' h => ⟨h, (h.cell (p := ⟨g, off + i, none⟩) (lt_of_cell cW)).trans cW⟩
            have MK := Lib.hid mk
            clear mk
            have HHD := Lib.hid (hOW.take o.length)
            have HTL := Lib.hid hT
            clear hOW hT
            go_region_held3 (fun w' => Below W.heap.size W w' ∧ w'.cell? ⟨g, off + i, none⟩ = some (.int .i64 x))
              (first | exact MK.out _ ((Below.refl _ _).drew) | exact MK.out _ hb3 | exact MK.out _ hb2 | exact MK.out _ (hb1.alloc hb1.size _) | exact MK.out _ hb1 | exact MK.out _ (by go_grown))
              (first
                | (refine step_app rfl (.tmp 44) (.tmp 47) rfl (base := W.heap.size) rfl (own_e1 W) rfl (List.length_take_of_le hk).symm (HHD.out.below (by go_split_ands; assumption)) HCN.out (by simp; omega) (by simp) ?_; intro v1 w1 hown1 hg1 hat1; have hb1 : Below W.heap.size W w1 := below_grown (by go_split_ands; assumption) hg1 (fun r hr => ((own_e1 W).lt r hr).1))
                | (refine step_app rfl (.tmp 44) (.tmp 47) rfl (base := W.heap.size) rfl (own_e2 W x) rfl (List.length_take_of_le hk).symm (HHD.out.below (by go_split_ands; assumption)) HCN.out (by simp; omega) (by simp; omega) ?_; intro v1 w1 hown1 hg1 hat1; have hb1 : Below W.heap.size W w1 := below_grown (by go_split_ands; assumption) hg1 (fun r hr => ((own_e2 W x).lt r hr).1); have HX1 := Lib.hid (x_e2 hg1))
                | (refine step_app rfl (.tmp 44) (.tmp 47) rfl (base := W.heap.size) rfl (own_e3 W x) rfl (List.length_take_of_le hk).symm (HHD.out.below (by go_split_ands; assumption)) HCN.out (by simp; omega) (by simp; omega) ?_; intro v1 w1 hown1 hg1 hat1; have hb1 : Below W.heap.size W w1 := below_grown (by go_split_ands; assumption) hg1 (fun r hr => ((own_e3 W x).lt r hr).1); have HX1 := Lib.hid (x_e3 hg1))
                | (refine step_app rfl (.tmp 48) (.tmp 53) rfl (base := W.heap.size) rfl (World.ownsRow.alloc hown1 _) rfl rfl (ints_one w1 x _) (by simp) (by simp; omega) (by have := hb1.size; simp; omega) ?_; intro v2 w2 hown2 hg2 hat2; have hb2 : Below W.heap.size W w2 := below_grown (hb1.alloc hb1.size _) hg2 (fun r hr => (hown1.lt r hr).1))
                | (refine step_app rfl (.tmp 48) (.tmp 53) rfl (base := W.heap.size) rfl hown1 rfl rfl HX1.out (by simp) (by simp; omega) hb1.size ?_; intro v2 w2 hown2 hg2 hat2; have hb2 : Below W.heap.size W w2 := below_grown hb1 hg2 (fun r hr => (hown1.lt r hr).1))
                | (refine step_app rfl (.tmp 54) (.tmp 57) rfl (base := W.heap.size) rfl hown2 rfl rfl (Ints.nil _ _) hcn' (by simp; omega) hb2.size ?_; intro v3 w3 hown3 hg3 hat3; have hb3 : Below W.heap.size W w3 := below_grown hb2 hg3 (fun r hr => (hown2.lt r hr).1)))
            all_goals
              go_wp2_with fail
              go_roundw
              case rel => exact ⟨i + 1, by omega, by go_num, by rw [HNX.out, insU_at HLS.out hk HGE.out]; exact rise_own hBW.size (by rw [show o.take o.length ++ x :: o.drop o.length = [] ++ o.take o.length ++ [x] ++ [] from by simp]; exact hown3), hBW.trans (hb3.mono hBW.size)⟩
              case measure => simp [intOf]; omega
    · have hall : riseL zs = o := by rw [← HO.out, List.take_of_length_le (by have := HN.out; omega)]
      have HALL := Lib.hid hall
      clear hall
      go_wp2_with fail
      go_ret
      exact ⟨_, rfl, by rw [HALL.out]; exact hown, hB⟩

end Go.Proofs.Ytpeifijcpemjeaa.Co

/-
  Make: the cover that has just the times that the list has.
-/
namespace Go.Proofs.Ytpeifijcpemjeaa.Co
open Go.RowKit Go.Sort Go.Shelf

theorem own_block {w : World} {base e size n g cap : Nat} {xs : List Value} (h : w.ownsRow base e size (.slice (some ⟨g, 0, none⟩) n cap) n xs) : ∃ cur, w.heap[g]? = some (.cells cur e (0, 0)) ∧ n ≤ cap ∧ cap ≤ maxLen ∧ cur.size = cap * size ∧ cur.toList.take (n * size) = xs ∧ base ≤ g := by
  rcases h.2 with ⟨hv, _⟩ | ⟨g', cap', cur, hv, h1, h2, h3⟩
  · cases hv
  · injection hv with e1 e2 e3
    injection e1 with e1
    injection e1 with e1
    subst e1 e3
    exact ⟨cur, h2, h3.1, h3.2.1, h3.2.2.1, h3.2.2.2, h1⟩
theorem own_frozen {w : World} {base e size n g cap : Nat} {xs : List Value} (h : w.ownsRow base e size (.slice (some ⟨g, 0, none⟩) n cap) n xs) (o : Nat) : w.frozen? ⟨g, o, none⟩ = false := by
  obtain ⟨cur, hb, _⟩ := own_block h
  simp [World.frozen?, hb]
/-- One cell of a row of the call's own is stored. -/
theorem own_set {w : World} {base e size n g cap : Nat} {xs : List Value} (h : w.ownsRow base e size (.slice (some ⟨g, 0, none⟩) n cap) n xs) (j : Nat) (u : Value) : (w.setCell ⟨g, j, none⟩ u).ownsRow base e size (.slice (some ⟨g, 0, none⟩) n cap) n (xs.set j u) := by
  obtain ⟨cur, hb, h1, h2, h3, h4, h5⟩ := own_block h
  refine ⟨by rw [List.length_set]; exact h.1, .inr ⟨g, cap, cur.setIfInBounds j u, rfl, h5, ?_, h1, h2, by simpa using h3, ?_⟩⟩
  · simp [World.setCell, Array.getElem?_modify, hb]
  · rw [← h4, Array.toList_setIfInBounds, List.take_set]
theorem flat_length (l : List Sp) : (flat l).length = l.length * 2 := by
  induction l with
  | nil => rfl
  | cons p l ih =>
    have e : flat (p :: l) = .int .i64 p.1 :: .int .i64 p.2 :: flat l := by simp [flat]
    rw [e]
    simp only [List.length_cons, ih]
    omega
theorem flat_set (m : List Sp) (a b y : Int) : (flat (m ++ [(a, b)])).set (m.length * 2 + 1) (.int .i64 y) = flat (m ++ [(a, y)]) := by
  rw [flat_snoc, flat_snoc, List.set_append_right _ _ (by rw [flat_length]; omega), flat_length]
  rw [show m.length * 2 + 1 - m.length * 2 = 1 from by omega]
  rfl
theorem SpRel.set {W wr : World} {m : List Sp} {a b y : Int} {g c : Nat} (h : SpRel W (m ++ [(a, b)]) (.slice (some ⟨g, 0, none⟩) (m ++ [(a, b)]).length c) wr) : SpRel W (m ++ [(a, y)]) (.slice (some ⟨g, 0, none⟩) (m ++ [(a, b)]).length c) (wr.setCell ⟨g, m.length * 2 + 1, none⟩ (.int .i64 y)) := by
  have h1 := own_set h.1 (m.length * 2 + 1) (.int .i64 y)
  rw [flat_set] at h1
  obtain ⟨cur, _, _, _, _, _, h5⟩ := own_block h.1
  exact ⟨by simpa using h1, h.2.setCell (p := ⟨g, _, none⟩) h5 _⟩

/-- A cover comes back, in a list of its own. -/
def CovPost (S : Int → Prop) (K : Nat) (w : World) (e : Ending) (w' : World) : Prop :=
  ∃ A c m, e = .returned (.slice A m.length c) ∧ Spans w' A m ∧ CovOf m S ∧ m.length ≤ K ∧ Below w.heap.size w w' ∧ (m.length ≤ c ∧ (A = none → c = 0))
theorem take_snoc {s : List Sp} {k : Nat} {p : Sp} (h : s[k]? = some p) : s.take (k + 1) = s.take k ++ [p] := by rw [List.take_add_one, h]; rfl
theorem take_le {s : List Sp} (hs : ∀ (i j : Nat) (p q : Sp), i < j → s[i]? = some p → s[j]? = some q → p.1 ≤ q.1) {k : Nat} {a : Sp} (h : s[k]? = some a) : ∀ p ∈ s.take k, p.1 ≤ a.1 := fun p hp => by
  obtain ⟨i, hi⟩ := List.getElem?_of_mem hp
  rw [List.getElem?_take] at hi
  split at hi
  · exact hs i k p a (by omega) hi h
  · cases hi
/-- A cover comes back, and the call owns its list. -/
def MakePost (S : Int → Prop) (K : Nat) (w : World) (e : Ending) (w' : World) : Prop :=
  ∃ v m, e = .returned v ∧ SpRel w m v w' ∧ CovOf m S ∧ m.length ≤ K
theorem own_lower {w : World} {b b' e size n : Nat} {v : Value} {xs : List Value} (hb : b ≤ b') (h : w.ownsRow b' e size v n xs) : w.ownsRow b e size v n xs := by
  refine ⟨h.1, ?_⟩
  rcases h.2 with h2 | ⟨g, cap, cur, hv, hg, r⟩
  · exact .inl h2
  · exact .inr ⟨g, cap, cur, hv, by omega, r⟩
/-- What holds at the head of each round of Make. -/
def MkRel (W : World) (s m : List Sp) (k : Nat) (v : Value) (wr : World) : Prop := Made m (s.take k) ∧ SpRel W m v wr

set_option maxHeartbeats 4000000 in
theorem make_own (w : World) (A : Option Addr) (c : Nat) (l : List Sp) (hl : Spans w A l) (hn : l.length ≤ 1000000) :
    Calls Try.prog 29 #[.slice A l.length c] w (MakePost (Mem l) l.length w) := by
  obtain ⟨i0, hi, hz0, hz1, hz2⟩ := info_parts Try.infoSpan
  go_enter Try.func29, Try.ntmps29
  go_wp2_with (go_at_call 42; refine (rising_any _ _ _ _ hl hn).mono ?_; rintro e w1 ⟨A1, c1, s, rfl, hsp, hpm, hso, hb1⟩)
  have hsn : s.length ≤ l.length := by rw [hpm.length_eq]; exact List.length_filter_le _ _
  obtain ⟨n, hnm⟩ : ∃ n, n = s.length := ⟨_, rfl⟩
  rw [← hnm]
  have hn' : n ≤ 1000000 := by omega
  have HN := Lib.hid hnm
  have HSP := Lib.hid hsp
  have HPM := Lib.hid hpm
  have HSO := Lib.hid hso
  have HB1 := Lib.hid hb1
  have HSN := Lib.hid hsn
  clear hnm hsp hpm hso hb1 hsn hn hl
  go_wp2_with fail
  go_loopw [3, 10] (fun v i wr => ∃ k : Nat, k ≤ n ∧ i = .int .i64 k ∧ ∃ m, MkRel w1 s m k v wr) (fun _ i _ => n - (intOf i).toNat)
  case atStart => exact ⟨0, Nat.zero_le _, rfl, [], by simpa using Made.nil, SpRel.nil w1⟩
  case round =>
    obtain ⟨k, hk, rfl, m, hM, hR⟩ := hrel
    have HM := Lib.hid hM
    have HR := Lib.hid hR
    have hsz := hR.2.size
    have hle : m.length ≤ k := by have h1 := hM.len; have h2 := List.length_take_le k s; omega
    clear hM hR
    by_cases hlt : k < n
    · obtain ⟨⟨f, t⟩, hp⟩ : ∃ p, s[k]? = some p := ⟨_, List.getElem?_eq_getElem (by have := HN.out; omega)⟩
      obtain ⟨g, off, rfl, c0, c1⟩ := HSP.out.at hp
      have d0 := keepc HR.out.2 c0
      have d1 := keepc HR.out.2 c1
      have hr : rightB f t = true := by
        have := HPM.out.mem_iff.1 (List.mem_of_getElem? hp)
        simpa using (List.mem_filter.1 this).2
      have HP := Lib.hid hp
      have TL := Lib.hid (take_le HSO.out hp)
      clear c0 c1 hp
      have HY := Lib.hid (show Below wr.heap.size wr (wr.alloc (.cells #[.int .i64 f, .int .i64 t] 35)) from (bl _).alloc (Nat.le_refl _) _)
      rcases List.eq_nil_or_concat m with rfl | ⟨m', ⟨q1, q2⟩, hmq⟩
      · obtain ⟨A3, c3, rfl, _⟩ := own_spans HR.out.1
        have HS := Lib.hid (HR.out.step HY.out)
        have hown1 := HS.out.1
        simp only [List.length_nil] at hown1 ⊢
        go_wp2_with fail
        go_quiet (fail)
        have HQ := Lib.hid (SpRel.step HS.out (belowN (bl _) nq))
        have a0 : ((wr.alloc (.cells #[.int .i64 f, .int .i64 t] 35)).drewN nq).cell? ⟨wr.heap.size, 0, none⟩ = some (.int .i64 f) := by simp [go_sem]
        have a1 : ((wr.alloc (.cells #[.int .i64 f, .int .i64 t] 35)).drewN nq).cell? ⟨wr.heap.size, 1, none⟩ = some (.int .i64 t) := by simp [go_sem]
        obtain ⟨w2, hw2⟩ : ∃ W, (wr.alloc (.cells #[.int .i64 f, .int .i64 t] 35)).drewN nq = W := ⟨_, rfl⟩
        rw [hw2] at a0 a1 HQ ⊢
        clear hw2
        have hown2 := HQ.out.1
        have hsz2 := HQ.out.2.size
        simp only [List.length_nil] at hown2
        go_wp2_with (at_builtin; refine wpList_append_lies _ rfl (.tmp 41) (.tmp 43) 44 rfl w1.heap.size 35 i0 (.agg #[.int .i64 0, .int .i64 0]) 2 16 Try.underlying44 hi hz0 hz1 hz2 rfl (by decide) _ 0 (flat []) rfl (World.ownsRow.alloc hown2 _) ⟨w2.heap.size, 0, none⟩ 1 1 [.int .i64 f, .int .i64 t] rfl rfl (news_two w2 f t _) (by simp [Value.oneCell']) (by decide) (by unfold maxLen; omega) (by omega) (by simp; omega) _ rfl ?_; intro g3 cap3 w3 hown3 hg3 hat3 hlt3; have NX := Lib.hid (SpRel.app (l := []) HQ.out hg3 hown3))
        go_roundw
        case rel => exact ⟨k + 1, by omega, by go_num, [] ++ [(f, t)], by rw [take_snoc HP.out]; exact HM.out.adds hr (by simp), NX.out⟩
        case measure => simp [intOf]; omega
      · obtain rfl : m = m' ++ [(q1, q2)] := by rw [hmq]; simp
        clear hmq
        obtain ⟨g3, c3, rfl, hat, hg1, hg2⟩ := own_spansAt HR.out.1 (by simp)
        obtain ⟨x0, x1⟩ := hat m'.length (q1, q2) (by simp)
        have hfz := own_frozen HR.out.1 (m'.length * 2 + 1)
        simp only [List.length_append, List.length_cons, List.length_nil, Nat.zero_add] at hle HR ⊢ x0 x1
        have LEN : m'.length + 1 ≤ 1000000 := by omega
        obtain ⟨z, hz⟩ : ∃ z, m'.length = z := ⟨_, rfl⟩
        rw [hz] at x0 x1 hfz LEN HR ⊢
        clear hat
        have HS := Lib.hid (HR.out.step HY.out)
        have y1 : (wr.alloc (.cells #[.int .i64 f, .int .i64 t] 35)).cell? ⟨g3, z * 2 + 1, none⟩ = some (.int .i64 q2) := keepc HY.out x1
        have b0 : (wr.alloc (.cells #[.int .i64 f, .int .i64 t] 35)).cell? ⟨wr.heap.size, 0, none⟩ = some (.int .i64 f) := by simp [go_sem]
        have b1 : (wr.alloc (.cells #[.int .i64 f, .int .i64 t] 35)).cell? ⟨wr.heap.size, 1, none⟩ = some (.int .i64 t) := by simp [go_sem]
        have yf : (wr.alloc (.cells #[.int .i64 f, .int .i64 t] 35)).frozen? ⟨g3, z * 2 + 1, none⟩ = false := (HY.out.frozen (p := ⟨g3, z * 2 + 1, none⟩) hg2).trans hfz
        have HZ := Lib.hid hz
        clear hz x0 x1 hfz
        by_cases hjoin : f ≤ q2
        · go_wp2_with fail
          go_quiet (fail)
          have HQ := Lib.hid (SpRel.step HS.out (belowN (bl _) nq))
          obtain ⟨w2, hw2⟩ : ∃ W, (wr.alloc (.cells #[.int .i64 f, .int .i64 t] 35)).drewN nq = W := ⟨_, rfl⟩
          have a0 : w2.cell? ⟨wr.heap.size, 0, none⟩ = some (.int .i64 f) := by rw [← hw2]; exact b0
          have a1 : w2.cell? ⟨wr.heap.size, 1, none⟩ = some (.int .i64 t) := by rw [← hw2]; exact b1
          have v1 : w2.cell? ⟨g3, z * 2 + 1, none⟩ = some (.int .i64 q2) := by rw [← hw2]; exact y1
          have vf : w2.frozen? ⟨g3, z * 2 + 1, none⟩ = false := by rw [← hw2]; exact yf
          rw [hw2] at HQ ⊢
          clear hw2 b0 b1 y1 yf
          go_wp2_with fail
          go_region
          all_goals
            have NX := Lib.hid (SpRel.step (SpRel.set (y := max q2 t) (by rw [List.length_append, HZ.out]; exact HQ.out)) ((bl _).drew))
            rw [HZ.out] at NX
            go_wp2_with fail
            go_roundw
            case rel => exact ⟨k + 1, by omega, by go_num, m' ++ [(q1, max q2 t)], by rw [take_snoc HP.out]; exact HM.out.joins (a := (f, t)) hr TL.out hjoin, by have h := NX.out; simp only [List.length_append, List.length_cons, List.length_nil, Nat.zero_add, HZ.out] at h; exact h⟩
            case measure => simp [intOf]; omega
        · have hj2 : q2 < f := by omega
          have hj3 : decide (f ≤ q2) = false := by simpa using hjoin
          have HJ := Lib.hid hj2
          go_wp2_with fail
          go_quiet (fail)
          clear hjoin hj2 hj3
          have HQ := Lib.hid (SpRel.step HS.out (belowN (bl _) nq))
          obtain ⟨w2, hw2⟩ : ∃ W, (wr.alloc (.cells #[.int .i64 f, .int .i64 t] 35)).drewN nq = W := ⟨_, rfl⟩
          have a0 : w2.cell? ⟨wr.heap.size, 0, none⟩ = some (.int .i64 f) := by rw [← hw2]; exact b0
          have a1 : w2.cell? ⟨wr.heap.size, 1, none⟩ = some (.int .i64 t) := by rw [← hw2]; exact b1
          rw [hw2] at HQ ⊢
          clear hw2 b0 b1 y1 yf
          have hown2 := HQ.out.1
          have hsz2 := HQ.out.2.size
          simp only [List.length_append, List.length_cons, List.length_nil, Nat.zero_add, HZ.out] at hown2
          clear HS HY TL
          go_wp2_with (at_builtin; refine wpList_append_lies _ rfl (.tmp 41) (.tmp 43) 44 rfl w1.heap.size 35 i0 (.agg #[.int .i64 0, .int .i64 0]) 2 16 Try.underlying44 hi hz0 hz1 hz2 rfl (by decide) _ (z + 1) (flat (m' ++ [(q1, q2)])) rfl (World.ownsRow.alloc hown2 _) ⟨w2.heap.size, 0, none⟩ 1 1 [.int .i64 f, .int .i64 t] rfl rfl (news_two w2 f t _) (by simp [Value.oneCell']) (by decide) (by unfold maxLen; omega) (by omega) (by simp; omega) _ rfl ?_; intro g4 cap3 w3 hown3 hg3 hat3 hlt3; have NX := Lib.hid (SpRel.app (l := m' ++ [(q1, q2)]) HQ.out hg3 (by simpa [HZ.out] using hown3)); clear hown3)
          go_roundw
          case rel => exact ⟨k + 1, by omega, by go_num, m' ++ [(q1, q2)] ++ [(f, t)], by rw [take_snoc HP.out]; exact HM.out.adds hr (HM.out.cov.ends HJ.out), NX.out⟩
          case measure => simp [intOf]; omega
    · go_wp2_with fail
      go_ret
      have hM := HM.out
      rw [List.take_of_length_le (by have := HN.out; omega)] at hM
      exact ⟨_, m, rfl, ⟨own_lower HB1.out.size HR.out.1, chain HB1.out HR.out.2⟩, ⟨hM.cov, fun x => by rw [hM.mem x, mem_perm HPM.out, mem_filter]⟩, by have h1 := hM.len; have h2 := HSN.out; omega⟩

theorem make_any (w : World) (A : Option Addr) (c : Nat) (l : List Sp) (hl : Spans w A l) (hn : l.length ≤ 1000000) :
    Calls Try.prog 29 #[.slice A l.length c] w (CovPost (Mem l) l.length w) := by
  refine (make_own w A c l hl hn).mono ?_
  rintro e w1 ⟨v, m, rfl, hR, hc, hm⟩
  obtain ⟨A3, c3, rfl, hsp3, hcc⟩ := own_spans2 hR.1
  exact ⟨A3, c3, m, rfl, hsp3, hc, hm, hR.2, hcc⟩

end Go.Proofs.Ytpeifijcpemjeaa.Co

/-
  The document's ends: all ends of a list's right spans, each once, rising.
-/
namespace Go.Proofs.Ytpeifijcpemjeaa.Co
open Go.RowKit

theorem ends_yes {l : List Sp} {k : Nat} {f t : Int} (hp : l[k]? = some (f, t)) (h : rightB f t = true) : endsOf (l.take (k + 1)) = endsOf (l.take k) ++ [f, t] := by
  rw [List.take_add_one, hp, Option.toList_some, ends_append]
  simp [endsOf, h]
theorem ends_no {l : List Sp} {k : Nat} {f t : Int} (hp : l[k]? = some (f, t)) (h : rightB f t = false) : endsOf (l.take (k + 1)) = endsOf (l.take k) := by
  rw [List.take_add_one, hp, Option.toList_some, ends_append]
  simp [endsOf, h]
theorem ends_le (l : List Sp) (k : Nat) : (endsOf (l.take k)).length ≤ 2 * k := by
  have h1 := ends_length (l.take k)
  have h2 := List.length_take_le k l
  omega
/-- What holds at the head of each round. -/
def EndRel (W : World) (ts : List Int) (v : Value) (wr : World) : Prop := ownI wr W.heap.size v ts ∧ Below W.heap.size W wr
theorem EndRel.app {W wr w1 : World} {ts : List Int} {v v1 : Value} {o : Obj} {f t : Int} (h : EndRel W ts v wr) (hg : (wr.drew.alloc o).grownBy w1 v.ownBlock) (hown : ownI w1 W.heap.size v1 (ts ++ [f, t])) : EndRel W (ts ++ [f, t]) v1 w1 :=
  ⟨hown, below_app (w := wr.drew) (belowN' h.2 1) hg h.2.size (fun k hk => (h.1.lt k hk).1)⟩

theorem ints_two (w : World) (x y : Int) (t : TypeId) : Ints (w.alloc (.cells #[.int .i64 x, .int .i64 y] t)) (some ⟨w.heap.size, 0, none⟩) [x, y] := fun i p hp => by
  refine ⟨_, _, rfl, ?_⟩
  rcases i with _ | _ | i
  · obtain rfl : x = p := by simpa using hp
    simp [go_sem]
  · obtain rfl : y = p := by simpa using hp
    simp [go_sem]
  · simp at hp
/-- What ends leaves. -/
def EndsPost (l : List Sp) (w : World) (e : Ending) (w' : World) : Prop := ∃ v, e = .returned v ∧ ownI w' w.heap.size v (riseL (endsOf l)) ∧ Below w.heap.size w w'

set_option maxHeartbeats 4000000 in
set_option maxRecDepth 4000 in
theorem ends_any (w : World) (A : Option Addr) (c : Nat) (l : List Sp) (hl : Spans w A l) (hn : l.length ≤ 400) :
    Calls Try.prog 52 #[.slice A l.length c] w (EndsPost l w) := by
  obtain ⟨i0, hi, hz0, hz1, hz2⟩ := info_parts Try.infoInt
  have HL := Lib.hid hl
  clear hl
  obtain ⟨n, hnm⟩ : ∃ n, n = l.length := ⟨_, rfl⟩
  rw [← hnm]
  have hn' : n ≤ 400 := by omega
  have HN := Lib.hid hnm
  clear hnm hn
  go_enter Try.func52, Try.ntmps52
  go_wp2_with fail
  go_loopw [3, 4] (fun v i wr => ∃ k : Nat, k ≤ n ∧ i = .int .i64 k ∧ EndRel w (endsOf (l.take k)) v wr) (fun _ i _ => n - (intOf i).toNat)
  case atStart => exact ⟨0, Nat.zero_le _, rfl, World.ownsRow_nil _ _ _ _, bl _⟩
  case round =>
    obtain ⟨k, hk, rfl, hR⟩ := hrel
    have HR := Lib.hid hR
    have hsz := hR.2.size
    have hle := ends_le l k
    clear hR
    by_cases hlt : k < n
    · obtain ⟨⟨f, t⟩, hp⟩ : ∃ p, l[k]? = some p := ⟨_, List.getElem?_eq_getElem (by have := HN.out; omega)⟩
      obtain ⟨g, off, rfl, c0, c1⟩ := HL.out.at hp
      have d0 := keepc HR.out.2 c0
      have d1 := keepc HR.out.2 c1
      have HP := Lib.hid hp
      clear hp
      cases hr : rightB f t
      · clear c0 c1
        go_wp2_with (go_at_call 36; refine (dright_any _ _ _).mono ?_; rintro e w1 ⟨rfl, hb1⟩)
        go_roundw
        case rel => exact ⟨k + 1, by omega, by go_num, by rw [ends_no HP.out hr]; exact ⟨own_below HR.out.1 hb1, chain HR.out.2 hb1⟩⟩
        case measure => simp [intOf]; omega
      · go_wp2_with fail
        (go_at_call 36; refine (dright_any _ _ _).mono ?_; rintro e w1 ⟨rfl, hb1⟩)
        have e0 := keepc hb1 d0
        have e1 := keepc hb1 d1
        have HS := Lib.hid (show EndRel w (endsOf (l.take k)) u3 w1 from ⟨own_below HR.out.1 hb1, chain HR.out.2 hb1⟩)
        have hown1 : w1.drew.ownsRow w.heap.size 3 1 u3 (endsOf (l.take k)).length ((endsOf (l.take k)).map (Value.int .i64)) := own_below HS.out.1 (belowN' (bl _) 1)
        have hsz1 := HS.out.2.size
        clear hb1
        go_upto_region 6 with fail
        have mk : ∀ w', Below w.heap.size w w' → (Below w.heap.size w w' ∧ w'.cell? ⟨g, off + k * 2, none⟩ = some (.int .i64 f) ∧ w'.cell? ⟨g, off + k * 2 + 1, none⟩ = some (.int .i64 t)) := fun w' h => ⟨h, keepc h c0, keepc h c1⟩
        have MK := Lib.hid mk
        clear mk c0 c1 d0 d1
        go_region_held3 (fun w' => Below w.heap.size w w' ∧ w'.cell? ⟨g, off + k * 2, none⟩ = some (.int .i64 f) ∧ w'.cell? ⟨g, off + k * 2 + 1, none⟩ = some (.int .i64 t))
          (first | exact MK.out _ (belowN' HS.out.2 1) | exact MK.out _ ((belowN' HS.out.2 1).alloc hsz1 _) | exact MK.out _ hb3 | fail)
          (first
            | (refine step_app rfl (.tmp 16) (.tmp 27) rfl (base := w.heap.size) rfl (World.ownsRow.alloc hown1 _) rfl rfl (ints_two w1.drew f t _) (by simp) (by simp; omega) (by simp; omega) ?_; intro v' w2 hown2 hg2 hat2; have NX := Lib.hid (EndRel.app HS.out hg2 hown2); have hb3 := NX.out.2))
        go_wp2_with fail
        go_roundw
        case rel => exact ⟨k + 1, by omega, by go_num, by rw [ends_yes HP.out hr]; exact NX.out⟩
        case measure => simp [intOf]; omega
    · obtain ⟨Ai, ci, hv, hin⟩ := own_ints HR.out.1
      subst hv
      have HIN := Lib.hid hin
      have hall : endsOf (l.take k) = endsOf l := by rw [List.take_of_length_le (by have := HN.out; omega)]
      rw [hall] at HIN hle
      have HB := Lib.hid HR.out.2
      rw [hall]
      clear hin hall HR
      go_wp2_with (go_at_call 61; refine (rise_any _ _ _ _ HIN.out (by omega)).mono ?_; rintro e w2 ⟨v2, rfl, hown2, hb2⟩)
      go_ret
      exact ⟨_, rfl, rise_own hsz hown2, HB.out.trans (hb2.mono hsz)⟩

end Go.Proofs.Ytpeifijcpemjeaa.Co

/-
  The document's put: a span behind a list of the call's own; it is joined to the last one where that ends as it begins.
-/
namespace Go.Proofs.Ytpeifijcpemjeaa.Co
open Go.RowKit Go.Sort Go.Shelf

/-- What put leaves. -/
def PutPost (W : World) (l : List Sp) (e : Ending) (w' : World) : Prop := ∃ v, e = .returned v ∧ SpRel W l v w'

set_option maxHeartbeats 4000000 in
theorem put_nil (W w : World) (v : Value) (f t : Int) (h : SpRel W [] v w) :
    Calls Try.prog 54 #[v, sp f t] w (PutPost W [(f, t)]) := by
  obtain ⟨i0, hi, hz0, hz1, hz2⟩ := info_parts Try.infoSpan
  have HR := Lib.hid h
  have hsz := h.2.size
  obtain ⟨A3, c3, rfl, _⟩ := own_spans h.1
  clear h
  have HS := Lib.hid (HR.out.step ((bl w).alloc (Nat.le_refl _) (.cells #[.int .i64 f, .int .i64 t] 35)))
  have hown1 := HS.out.1
  simp only [List.length_nil] at hown1 ⊢
  go_enter Try.func54, Try.ntmps54
  go_wp2_with fail
  go_quiet (fail)
  have HQ := Lib.hid (SpRel.step HS.out (belowN (bl _) nq))
  have a0 : ((w.alloc (.cells #[.int .i64 f, .int .i64 t] 35)).drewN nq).cell? ⟨w.heap.size, 0, none⟩ = some (.int .i64 f) := by simp [go_sem]
  have a1 : ((w.alloc (.cells #[.int .i64 f, .int .i64 t] 35)).drewN nq).cell? ⟨w.heap.size, 1, none⟩ = some (.int .i64 t) := by simp [go_sem]
  obtain ⟨w2, hw2⟩ : ∃ W, (w.alloc (.cells #[.int .i64 f, .int .i64 t] 35)).drewN nq = W := ⟨_, rfl⟩
  rw [hw2] at a0 a1 HQ ⊢
  clear hw2
  have hown2 := HQ.out.1
  have hsz2 := HQ.out.2.size
  simp only [List.length_nil] at hown2
  go_wp2_with (at_builtin; refine wpList_append_lies _ rfl (.tmp 28) (.tmp 30) 44 rfl W.heap.size 35 i0 (.agg #[.int .i64 0, .int .i64 0]) 2 16 Try.underlying44 hi hz0 hz1 hz2 rfl (by decide) _ 0 (flat []) rfl (World.ownsRow.alloc hown2 _) ⟨w2.heap.size, 0, none⟩ 1 1 [.int .i64 f, .int .i64 t] rfl rfl (news_two w2 f t _) (by simp [Value.oneCell']) (by decide) (by unfold maxLen; omega) (by omega) (by simp; omega) _ rfl ?_; intro g3 cap3 w3 hown3 hg3 hat3 hlt3; have NX := Lib.hid (SpRel.app (l := []) HQ.out hg3 hown3))
  go_ret
  exact ⟨_, rfl, NX.out⟩

set_option maxHeartbeats 4000000 in
theorem put_more (W w : World) (v : Value) (m : List Sp) (q1 q2 f t : Int) (h : SpRel W (m ++ [(q1, q2)]) v w) (hn : m.length + 1 ≤ 1000000) :
    Calls Try.prog 54 #[v, sp f t] w (PutPost W (if q2 = f then m ++ [(q1, t)] else m ++ [(q1, q2)] ++ [(f, t)])) := by
  obtain ⟨L, hL⟩ : ∃ L, (if q2 = f then m ++ [(q1, t)] else m ++ [(q1, q2)] ++ [(f, t)]) = L := ⟨_, rfl⟩
  rw [hL]
  have HLL := Lib.hid hL
  clear hL
  obtain ⟨i0, hi, hz0, hz1, hz2⟩ := info_parts Try.infoSpan
  have HR := Lib.hid h
  have hsz := h.2.size
  clear h
  have HY := Lib.hid (show Below w.heap.size w (w.alloc (.cells #[.int .i64 f, .int .i64 t] 35)) from (bl _).alloc (Nat.le_refl _) _)
  obtain ⟨g3, c3, rfl, hat, hg1, hg2⟩ := own_spansAt HR.out.1 (by simp)
  obtain ⟨x0, x1⟩ := hat m.length (q1, q2) (by simp)
  have hfz := own_frozen HR.out.1 (m.length * 2 + 1)
  simp only [List.length_append, List.length_cons, List.length_nil, Nat.zero_add] at HR ⊢ x0 x1
  obtain ⟨z, hz⟩ : ∃ z, m.length = z := ⟨_, rfl⟩
  rw [hz] at x0 x1 hfz hn HR ⊢
  clear hat
  have HS := Lib.hid (HR.out.step HY.out)
  have y1 : (w.alloc (.cells #[.int .i64 f, .int .i64 t] 35)).cell? ⟨g3, z * 2 + 1, none⟩ = some (.int .i64 q2) := keepc HY.out x1
  have b0 : (w.alloc (.cells #[.int .i64 f, .int .i64 t] 35)).cell? ⟨w.heap.size, 0, none⟩ = some (.int .i64 f) := by simp [go_sem]
  have b1 : (w.alloc (.cells #[.int .i64 f, .int .i64 t] 35)).cell? ⟨w.heap.size, 1, none⟩ = some (.int .i64 t) := by simp [go_sem]
  have yf : (w.alloc (.cells #[.int .i64 f, .int .i64 t] 35)).frozen? ⟨g3, z * 2 + 1, none⟩ = false := (HY.out.frozen (p := ⟨g3, z * 2 + 1, none⟩) hg2).trans hfz
  have HZ := Lib.hid hz
  clear hz x0 x1 hfz
  by_cases hjoin : q2 = f
  · have e0 : (q2 == f) = true := by simpa using hjoin
    have HJ := Lib.hid hjoin
    clear hjoin
    go_enter Try.func54, Try.ntmps54
    go_wp2_with fail
    go_quiet (fail)
    have HQ := Lib.hid (SpRel.step HS.out (belowN (bl _) nq))
    obtain ⟨w2, hw2⟩ : ∃ W, (w.alloc (.cells #[.int .i64 f, .int .i64 t] 35)).drewN nq = W := ⟨_, rfl⟩
    have a1 : w2.cell? ⟨w.heap.size, 1, none⟩ = some (.int .i64 t) := by rw [← hw2]; exact b1
    have v1 : w2.cell? ⟨g3, z * 2 + 1, none⟩ = some (.int .i64 q2) := by rw [← hw2]; exact y1
    have vf : w2.frozen? ⟨g3, z * 2 + 1, none⟩ = false := by rw [← hw2]; exact yf
    rw [hw2] at HQ ⊢
    clear hw2 b0 b1 y1 yf
    have NX := Lib.hid (SpRel.set (y := t) (by rw [List.length_append, HZ.out]; exact HQ.out))
    rw [HZ.out] at NX
    go_wp2_with fail
    go_ret
    exact ⟨_, rfl, by rw [← HLL.out, if_pos HJ.out]; have h := NX.out; simp only [List.length_append, List.length_cons, List.length_nil, Nat.zero_add, HZ.out] at h; exact h⟩
  · have e0 : (q2 == f) = false := by simpa using hjoin
    have HJ := Lib.hid hjoin
    clear hjoin
    go_enter Try.func54, Try.ntmps54
    go_wp2_with fail
    go_quiet (fail)
    have HQ := Lib.hid (SpRel.step HS.out (belowN (bl _) nq))
    obtain ⟨w2, hw2⟩ : ∃ W, (w.alloc (.cells #[.int .i64 f, .int .i64 t] 35)).drewN nq = W := ⟨_, rfl⟩
    have a0 : w2.cell? ⟨w.heap.size, 0, none⟩ = some (.int .i64 f) := by rw [← hw2]; exact b0
    have a1 : w2.cell? ⟨w.heap.size, 1, none⟩ = some (.int .i64 t) := by rw [← hw2]; exact b1
    rw [hw2] at HQ ⊢
    clear hw2 b0 b1 y1 yf
    have hown2 := HQ.out.1
    have hsz2 := HQ.out.2.size
    simp only [List.length_append, List.length_cons, List.length_nil, Nat.zero_add, HZ.out] at hown2
    clear HS HY
    go_wp2_with (at_builtin; refine wpList_append_lies _ rfl (.tmp 28) (.tmp 30) 44 rfl W.heap.size 35 i0 (.agg #[.int .i64 0, .int .i64 0]) 2 16 Try.underlying44 hi hz0 hz1 hz2 rfl (by decide) _ (z + 1) (flat (m ++ [(q1, q2)])) rfl (World.ownsRow.alloc hown2 _) ⟨w2.heap.size, 0, none⟩ 1 1 [.int .i64 f, .int .i64 t] rfl rfl (news_two w2 f t _) (by simp [Value.oneCell']) (by decide) (by unfold maxLen; omega) (by omega) (by simp; omega) _ rfl ?_; intro g4 cap3 w3 hown3 hg3 hat3 hlt3; have NX := Lib.hid (SpRel.app (l := m ++ [(q1, q2)]) HQ.out hg3 (by simpa [HZ.out] using hown3)); clear hown3)
    go_ret
    exact ⟨_, rfl, by rw [← HLL.out, if_neg HJ.out]; exact NX.out⟩

end Go.Proofs.Ytpeifijcpemjeaa.Co

/-
  append of a list of spans onto a list of the call's own, whatever the source: what it leaves.
-/
namespace Go.Proofs.Ytpeifijcpemjeaa.Co
open Go.RowKit
set_option maxRecDepth 100000

abbrev ownS (w : World) (base : Nat) (v : Value) (l : List Sp) : Prop := w.ownsRow base 35 2 v l.length (flat l)

theorem flat_cell {w : World} {g off : Nat} {l : List Sp} (h : Spans w (some ⟨g, off, none⟩) l) {j : Nat} {u : Value} (hu : (flat l)[j]? = some u) : w.cell? ((⟨g, off, none⟩ : Addr).add j) = some u := by
  have hj : j < l.length * 2 := by
    rcases Nat.lt_or_ge j (flat l).length with h1 | h1
    · rw [flat_length] at h1; exact h1
    · rw [List.getElem?_eq_none h1] at hu; cases hu
  obtain ⟨p, hp⟩ : ∃ p, l[j / 2]? = some p := ⟨_, List.getElem?_eq_getElem (by omega)⟩
  obtain ⟨e0, e1⟩ := flat_get l (j / 2) p hp
  obtain ⟨g', off', he, c0, c1⟩ := h _ _ hp
  injection he with he
  injection he with he1 he2
  subst he1 he2
  rw [Go.WideShapes.add_plain]
  rcases Nat.mod_two_eq_zero_or_one j with h2 | h2
  · rw [show j / 2 * 2 = j from by omega] at e0 c0
    rw [e0] at hu
    injection hu with hu
    rw [← hu]; exact c0
  · rw [show j / 2 * 2 + 1 = j from by omega] at e1
    rw [Nat.add_assoc, show j / 2 * 2 + 1 = j from by omega] at c1
    rw [e1] at hu
    injection hu with hu
    rw [← hu]; exact c1
theorem flat_one (l : List Sp) : ∀ u ∈ flat l, u.oneCell' = true := fun u hu => by
  unfold flat at hu
  obtain ⟨p, _, hp⟩ := List.mem_flatMap.1 hu
  simp at hp
  rcases hp with rfl | rfl <;> rfl
theorem flat_append (l m : List Sp) : flat (l ++ m) = flat l ++ flat m := by simp [flat]

theorem run_apps (w : World) {base : Nat} {v : Value} {ts : List Sp} (hown : ownS w base v ts) (B : Option Addr) (c : Nat) (xs : List Sp) (hx : Spans w B xs) (hc : B = none → c = 0)
    (hl : ts.length + xs.length ≤ 1000000) (hbase : base ≤ w.heap.size) (ty : TypeId) :
    ∃ v' w', (Builtin.append_ #[44, 44] ty #[v, .slice B xs.length c]).run Try.prog w = .ok v' w' ∧ ownS w' base v' (ts ++ xs) ∧ w.grownBy w' v.ownBlock ∧ (v'.ownBlock = v.ownBlock ∨ v'.ownBlock = some w.heap.size) := by
  obtain ⟨i0, hi, hz0, hz1, hz2⟩ := info_parts Try.infoSpan
  rcases B with _ | ad
  · obtain rfl : xs = [] := by
      rcases xs with _ | ⟨x, xs⟩
      · rfl
      · obtain ⟨_, _, h, _⟩ := hx 0 x (by simp)
        cases h
    obtain rfl := hc rfl
    exact ⟨v, w, run_append_owned_none (P := Try.prog) w base 44 ty 35 i0 2 Try.underlying44 hi v _ _ hown, by simpa [ownS] using hown, World.grownBy.refl _ _, .inl rfl⟩
  · have hcell : ∀ j u, (flat xs)[j]? = some u → w.cell? (ad.add j) = some u := fun j u hu => by
      rcases xs with _ | ⟨p, xs⟩
      · simp [flat] at hu
      · obtain ⟨g, off, he, _⟩ := hx 0 p (by simp)
        injection he with he
        subst he
        exact flat_cell hx hu
    obtain ⟨v', w', hrun, h2, h3, _, h5⟩ := run_append_own_at (P := Try.prog) w base 44 ty 35 i0 (.agg #[.int .i64 0, .int .i64 0]) 2 16 Try.underlying44 hi hz0 hz1 hz2 rfl (by decide) v _ _ hown ad xs.length c (flat xs) (flat_length xs) hcell
      (flat_one xs) (by unfold maxLen; omega) (by omega) hbase
    exact ⟨v', w', hrun, by unfold ownS; rw [flat_append, List.length_append]; exact h2, h3, h5⟩

theorem wpList_apps {ops : Array Oper} {rest : List Oper} {o : Oper} {a : Act} {w : World} {Q : Exit → Act → World → Prop} (hgd : o.guard = none) (s x : Operand)
    (ho : o.op = .call { callee := .builtin .append, args := #[s, x], argTypes := #[44, 44] })
    {base : Nat} {v : Value} {ts : List Sp} (hs : a.eval s = v) (hown : ownS w base v ts) {B : Option Addr} {c m : Nat} {xs : List Sp} (hv : a.eval x = .slice B m c) (hm : m = xs.length) (hx : Spans w B xs) (hc : B = none → c = 0)
    (hl : ts.length + xs.length ≤ 1000000) (hbase : base ≤ w.heap.size)
    (h : ∀ v' w', ownS w' base v' (ts ++ xs) → w.grownBy w' v.ownBlock → wpList Try.prog ops Q rest (a.put o.dst v') w') : wpList Try.prog ops Q (o :: rest) a w := by
  subst hm
  obtain ⟨v', w', hrun, h2, h3, h4⟩ := run_apps w hown B c xs hx hc hl hbase o.type
  refine wpList_plain hgd fun _ hK => ?_
  unfold Oper.wp execOp
  simp only [ho, resolve, invoke, builtin, Sem.run_bind, Sem.run_pure, Result.andThen_ok, List.map_toArray, List.map_cons, List.map_nil, hs, hv, hrun]
  exact hK _ _ (h v' w' h2 h3)

end Go.Proofs.Ytpeifijcpemjeaa.Co

/-
  The document's Kept: is the list a cover? The document's Has: has the list the time?
-/
namespace Go.Proofs.Ytpeifijcpemjeaa.Co
open Go.RowKit Go.Sort

theorem below_of_regrown {w w' : World} (h : ∃ p : Regrown, w' = grow (redrawn w p.d) p.os) : Below w.heap.size w w' := by
  obtain ⟨p, rfl⟩ := h
  exact below_regrown w p.d p.os

/-- Has none of the spans ahead of place k the time? -/
theorem mem_take_succ {l : List Sp} {k : Nat} {p : Sp} (hp : l[k]? = some p) (x : Int) : memB (l.take (k + 1)) x = (memB (l.take k) x || (rightB p.1 p.2 && hasB p.1 p.2 x)) := by
  rw [List.take_add_one, hp]
  simp [memB]
theorem mem_found {l : List Sp} {k : Nat} {f t : Int} (hp : l[k]? = some (f, t)) {x : Int} (h1 : rightB f t = true) (h2 : hasB f t x = true) : memB l x = true := by
  unfold memB
  rw [List.any_eq_true]
  exact ⟨_, List.mem_of_getElem? hp, by simp [h1, h2]⟩

set_option maxHeartbeats 4000000 in
theorem dhasl_any (w : World) (A : Option Addr) (c : Nat) (l : List Sp) (x : Int) (hl : Spans w A l) (hn : l.length ≤ 9223372036854775806) :
    Calls Try.prog 53 #[.slice A l.length c, .int .i64 x] w fun e w' => e = .returned (.bool (memB l x)) ∧ Below w.heap.size w w' := by
  have HL := Lib.hid hl
  clear hl
  obtain ⟨n, hnm⟩ : ∃ n, n = l.length := ⟨_, rfl⟩
  rw [← hnm]
  have hn' : n ≤ 9223372036854775806 := by omega
  have HN := Lib.hid hnm
  clear hnm hn
  go_enter Try.func53, Try.ntmps53
  go_wp2_with fail
  go_loopw [5] (fun i wr => ∃ k : Nat, k ≤ n ∧ i = .int .i64 k ∧ memB (l.take k) x = false ∧ Below w.heap.size w wr) (fun i _ => n - (intOf i).toNat)
  case atStart => exact ⟨0, Nat.zero_le _, rfl, by simp [memB], bl _⟩
  case round =>
    obtain ⟨k, hk, rfl, hc, hB⟩ := hrel
    have HC := Lib.hid hc
    have HB := Lib.hid hB
    clear hc hB
    by_cases hlt : k < n
    · obtain ⟨⟨f, t⟩, hp⟩ : ∃ p, l[k]? = some p := ⟨_, List.getElem?_eq_getElem (by have := HN.out; omega)⟩
      obtain ⟨g, off, rfl, c0, c1⟩ := HL.out.at hp
      have d0 := keepc HB.out c0
      have d1 := keepc HB.out c1
      have HP := Lib.hid hp
      have NX := Lib.hid (mem_take_succ hp x)
      clear c0 c1 hp
      cases hr : rightB f t
      · go_wp2_with (go_at_call 36; refine (dright_any _ _ _).mono ?_; rintro e w1 ⟨rfl, hb1⟩)
        go_roundw
        case rel => exact ⟨k + 1, by omega, by go_num, by rw [NX.out, HC.out]; simp [hr], chain HB.out hb1⟩
        case measure => simp [intOf]; omega
      · cases hh : hasB f t x
        all_goals
          go_wp2_with fail
          (go_at_call 36; refine (dright_any _ _ _).mono ?_; rintro e w1 ⟨rfl, hb1⟩)
          have e0 := keepc hb1 d0
          have e1 := keepc hb1 d1
          go_wp2_with (go_at_call 37; refine (dhas_any _ _ _ _).mono ?_; rintro e w2 ⟨rfl, hb2⟩)
        · go_roundw
          case rel => exact ⟨k + 1, by omega, by go_num, by rw [NX.out, HC.out]; simp [hr, hh], chain HB.out (chain hb1 hb2)⟩
          case measure => simp [intOf]; omega
        · go_ret
          exact ⟨ret_bool (by rw [mem_found HP.out hr hh]), chain HB.out (chain hb1 hb2)⟩
    · go_wp2_with fail
      go_ret
      exact ⟨ret_bool (by have := HC.out; rw [List.take_of_length_le (by have := HN.out; omega)] at this; rw [this]), HB.out⟩

end Go.Proofs.Ytpeifijcpemjeaa.Co

/-
  The document's Of: the cover of the times of two lists that count.
-/
namespace Go.Proofs.Ytpeifijcpemjeaa.Co
open Go.RowKit

/-- What put makes of what is out. -/
theorem OutTo.put_nil {a b : List Sp} {kind : Int} {ts : List Int} {i : Nat} (h : OutTo a b kind ts i []) (ha : ∀ y ∈ endsOf a, y ∈ ts) (hb : ∀ y ∈ endsOf b, y ∈ ts) (hp : ts.Pairwise (· < ·)) (hbd : ∀ y ∈ ts, -1099511627776 ≤ y ∧ y ≤ 1099511627776) {f t : Int} (hf : ts[i]? = some f) (ht : ts[i + 1]? = some t) (hn : kindB kind (memB a f) (memB b f) = true) : OutTo a b kind ts (i + 1) [(f, t)] := by
  have hft : f < t := by
    obtain ⟨li, ei⟩ := List.getElem?_eq_some_iff.1 hf
    obtain ⟨lj, ej⟩ := List.getElem?_eq_some_iff.1 ht
    have := List.pairwise_iff_getElem.1 hp i (i + 1) li lj (by omega)
    rwa [ei, ej] at this
  have h1 := hbd f (List.mem_of_getElem? hf)
  have h2 := hbd t (List.mem_of_getElem? ht)
  obtain ⟨c1, c2⟩ := put_adds (m := []) (f := f) (t := t) Cov.nil (by simp) (by simp [rightB]; omega)
  exact h.next ha hb hp hf ht hn c1 c2 (by simp) (by simp)
theorem OutTo.put_more {a b : List Sp} {kind : Int} {ts : List Int} {i : Nat} {m : List Sp} {q1 q2 : Int} (h : OutTo a b kind ts i (m ++ [(q1, q2)])) (ha : ∀ y ∈ endsOf a, y ∈ ts) (hb : ∀ y ∈ endsOf b, y ∈ ts) (hp : ts.Pairwise (· < ·)) (hbd : ∀ y ∈ ts, -1099511627776 ≤ y ∧ y ≤ 1099511627776) {f t : Int} (hf : ts[i]? = some f) (ht : ts[i + 1]? = some t) (hn : kindB kind (memB a f) (memB b f) = true) : OutTo a b kind ts (i + 1) (if q2 = f then m ++ [(q1, t)] else m ++ [(q1, q2)] ++ [(f, t)]) := by
  have hft : f < t := by
    obtain ⟨li, ei⟩ := List.getElem?_eq_some_iff.1 hf
    obtain ⟨lj, ej⟩ := List.getElem?_eq_some_iff.1 ht
    have := List.pairwise_iff_getElem.1 hp i (i + 1) li lj (by omega)
    rwa [ei, ej] at this
  have h1 := hbd f (List.mem_of_getElem? hf)
  have h2 := hbd t (List.mem_of_getElem? ht)
  have h3 := h.ends (q1, q2) (by simp) f hf
  simp only at h3
  split
  · rename_i e
    obtain ⟨c1, c2⟩ := put_joins (t := t) h.cov (by simp only; omega) h2.2
    simp only [e] at c2
    refine h.next ha hb hp hf ht hn c1 ?_ (fun p hp' => ?_) (by simp)
    · simpa [e] using c2
    · rcases List.mem_append.1 hp' with h4 | h4
      · exact .inl (List.mem_append_left _ h4)
      · obtain rfl := List.mem_singleton.1 h4
        exact .inr rfl
  · rename_i e
    obtain ⟨c1, c2⟩ := put_adds (f := f) (t := t) h.cov (h.cov.ends (x := f) (by simp only; omega)) (by simp [rightB]; omega)
    refine h.next ha hb hp hf ht hn c1 c2 (fun p hp' => ?_) (by simp)
    rcases List.mem_append.1 hp' with h4 | h4
    · exact .inl h4
    · obtain rfl := List.mem_singleton.1 h4
      exact .inr rfl

theorem own_emptyS {w : World} {b base : Nat} (h : w.heap[b]? = some (.cells #[] 35 (0, 0))) (hb : base ≤ b) : ownS w base (.slice (some ⟨b, 0, none⟩) 0 0) [] :=
  ⟨by simp [flat], .inr ⟨b, 0, #[], rfl, hb, h, by simp, by simp [maxLen], by simp, by simp [flat]⟩⟩

/-- What holds at the head of each round. -/
def OfRel (W : World) (a b : List Sp) (kind : Int) (ts : List Int) (k : Nat) (v : Value) (wr : World) : Prop :=
  (k = 0 ∨ k < ts.length) ∧ ∃ o, OutTo a b kind ts k o ∧ SpRel W o v wr

set_option maxHeartbeats 8000000 in
set_option maxRecDepth 10000 in
theorem of_any (w : World) (A B : Option Addr) (c d : Nat) (a b : List Sp) (kind : Int) (hk : kind = 0 ∨ kind = 1 ∨ kind = 2) (ha : Spans w A a) (hb : Spans w B b) (hA : A = none → c = 0) (hB : B = none → d = 0) (hn : a.length + b.length ≤ 400) :
    Calls Try.prog 43 #[.slice A a.length c, .slice B b.length d, .int .i64 kind] w (CovPost (KindP kind a b) 1000 w) := by
  have HA := Lib.hid ha
  have HB := Lib.hid hb
  have HK := Lib.hid hk
  clear ha hb hk
  obtain ⟨n, hnm⟩ : ∃ n, n = a.length := ⟨_, rfl⟩
  obtain ⟨n', hnm'⟩ : ∃ n, n = b.length := ⟨_, rfl⟩
  rw [← hnm, ← hnm'] at hn ⊢
  have HN := Lib.hid hnm
  have HN' := Lib.hid hnm'
  clear hnm hnm'
  have hown0 : ownS (w.alloc (.cells #[] 35)) w.heap.size (.slice (some ⟨w.heap.size, 0, none⟩) 0 0) [] := own_emptyS (heap_alloc_new w _) (Nat.le_refl _)
  have hbel0 : Below w.heap.size w (w.alloc (.cells #[] 35)) := (bl w).alloc (Nat.le_refl _) _
  have hlt0 := hown0.lt w.heap.size rfl
  go_enter Try.func43, Try.ntmps43
  go_wp2_with (first
    | (at_builtin; refine wpList_apps rfl (.tmp 12) (.tmp 13) rfl (base := w.heap.size) (ts := []) (xs := a) rfl hown0 rfl HN.out (HA.out.below hbel0) hA (by have := HN.out; simp; omega) (by simp) ?_; intro v1 w1 hown1 hg1; have hbel1 : Below w.heap.size w w1 := below_grown hbel0 hg1 (fun r hr => (hown0.lt r hr).1); clear hown0 hbel0 hg1 hlt0)
    | (at_builtin; refine wpList_apps rfl (.tmp 14) (.tmp 15) rfl (base := w.heap.size) (ts := [] ++ a) (xs := b) rfl hown1 rfl HN'.out (HB.out.below hbel1) hB (by have := HN.out; have := HN'.out; simp; omega) hbel1.size ?_; intro v2 w2 hown2 hg2; have hbel2 : Below w.heap.size w w2 := below_grown hbel1 hg2 (fun r hr => (hown1.lt r hr).1); clear hown1 hbel1 hg2)
    | fail)
  simp only [List.nil_append] at hown2
  obtain ⟨A2, c2, rfl, hsp2⟩ := own_spans hown2
  go_wp2_with (go_at_call 52; refine (ends_any _ _ _ _ hsp2 (by have := HN.out; have := HN'.out; simp; omega)).mono ?_; rintro e w3 ⟨v3, rfl, hown3, hb3⟩)
  clear hsp2 hown2
  obtain ⟨ts, hts⟩ : ∃ ts, riseL (endsOf (a ++ b)) = ts := ⟨_, rfl⟩
  rw [hts] at hown3
  have htl : ts.length ≤ 800 := by
    rw [← hts]
    have h1 := riseL_length (endsOf (a ++ b))
    have h2 := ends_length (a ++ b)
    have := HN.out
    have := HN'.out
    simp at h2
    omega
  have EA := Lib.hid (show ∀ y ∈ endsOf a, y ∈ ts from fun y hy => by rw [← hts, mem_riseL, ends_append]; exact List.mem_append_left _ hy)
  have EB := Lib.hid (show ∀ y ∈ endsOf b, y ∈ ts from fun y hy => by rw [← hts, mem_riseL, ends_append]; exact List.mem_append_right _ hy)
  have EP := Lib.hid (show ts.Pairwise (· < ·) from by rw [← hts]; exact riseL_pw _)
  have ED := Lib.hid (show ∀ y ∈ ts, -1099511627776 ≤ y ∧ y ≤ 1099511627776 from fun y hy => by rw [← hts, mem_riseL] at hy; exact ends_bounds hy)
  clear hts
  obtain ⟨At, ct, rfl, hin3⟩ := own_ints hown3
  have HIN := Lib.hid hin3
  have HB3 := Lib.hid (hbel2.trans (hb3.mono hbel2.size))
  have HA3 := Lib.hid (HA.out.below HB3.out)
  have HBB3 := Lib.hid (HB.out.below HB3.out)
  clear hin3 hown3 hbel2 hb3
  obtain ⟨N, hN⟩ : ∃ N, N = ts.length := ⟨_, rfl⟩
  rw [← hN] at htl ⊢
  have HT := Lib.hid hN
  clear hN
  go_wp2_with fail
  go_loopw [8, 9] (fun v i wr => ∃ k : Nat, k ≤ N ∧ i = .int .i64 k ∧ OfRel w3 a b kind ts k v wr) (fun _ i _ => N - (intOf i).toNat)
  case atStart => exact ⟨0, Nat.zero_le _, rfl, .inl rfl, [], OutTo.start EA.out EB.out EP.out, SpRel.nil w3⟩
  case round =>
    obtain ⟨k, hkN, rfl, hk0, o, hO, hR⟩ := hrel
    have HO := Lib.hid hO
    have HR := Lib.hid hR
    have HK0 := Lib.hid hk0
    have hsz := hR.2.size
    have hle := hO.len
    clear hO hR hk0
    by_cases hlt : k + 1 < N
    · obtain ⟨f, hf⟩ : ∃ f, ts[k]? = some f := ⟨_, List.getElem?_eq_getElem (by have := HT.out; omega)⟩
      obtain ⟨t, ht⟩ : ∃ t, ts[k + 1]? = some t := ⟨_, List.getElem?_eq_getElem (by have := HT.out; omega)⟩
      obtain ⟨g, off, rfl, c0⟩ := HIN.out k f hf
      obtain ⟨g', off', he, c1⟩ := HIN.out (k + 1) t ht
      injection he with he
      injection he with e1 e2 _
      subst e1 e2
      have HF := Lib.hid hf
      have HTT := Lib.hid ht
      have d0 := keepc HR.out.2 c0
      have d1 := keepc HR.out.2 c1
      have hltI : (k : Int) + 1 < (N : Int) := by omega
      have hkI : (k : Int) < (N : Int) := by omega
      have hk0' : (0 : Int) ≤ (k : Int) := by omega
      have hkS : (0 : Int) ≤ (k : Int) + 1 := by omega
      have hkT : ((k : Int) + 1).toNat = k + 1 := by omega
      have hkW : IntKind.i64.wrap ((k : Int) + 1) = (k : Int) + 1 := IntWalk.i64_in _ (by omega)
      clear hf ht
      obtain ⟨X, hX⟩ : ∃ X, memB a f = X := ⟨_, rfl⟩
      obtain ⟨Y, hY⟩ : ∃ Y, memB b f = Y := ⟨_, rfl⟩
      have CA : ∀ w4, Spans w4 A a → Calls Try.prog 53 #[.slice A n c, .int .i64 f] w4 (fun e w' => e = .returned (.bool X) ∧ Below w4.heap.size w4 w') := fun w4 h => by
        rw [HN.out, ← hX]; exact dhasl_any _ _ _ a f h (by have := HN.out; omega)
      have CB : ∀ w4, Spans w4 B b → Calls Try.prog 53 #[.slice B n' d, .int .i64 f] w4 (fun e w' => e = .returned (.bool Y) ∧ Below w4.heap.size w4 w') := fun w4 h => by
        rw [HN'.out, ← hY]; exact dhasl_any _ _ _ b f h (by have := HN'.out; omega)
      go_wp2_with fail
      go_at_call 53
      refine (CA _ (HA3.out.below HR.out.2)).mono ?_
      rintro e w4 ⟨rfl, hb4⟩
      have HR4 := Lib.hid (HR.out.step hb4)
      have d0 := keepc HR4.out.2 c0
      go_wp2_with fail
      go_at_call 53
      refine (CB _ (HBB3.out.below HR4.out.2)).mono ?_
      rintro e w5 ⟨rfl, hb5⟩
      have HR5 := Lib.hid (HR4.out.step hb5)
      have d0 := keepc HR5.out.2 c0
      have d1 := keepc HR5.out.2 c1
      clear CA CB
      have HX := Lib.hid hX
      have HY := Lib.hid hY
      have hsz5 := HR5.out.2.size
      clear hX hY hb4 hb5 HR HR4
      have HN1 := Lib.hid (show k + 1 = 0 ∨ k + 1 < ts.length from .inr (by have := HT.out; omega))
      have HD := Lib.hid (SpRel.step HR5.out (belowN (bl w5) 1))
      have b0 : w5.drew.cell? ⟨g, off + k, none⟩ = some (.int .i64 f) := d0
      have b1 : w5.drew.cell? ⟨g, off + (k + 1), none⟩ = some (.int .i64 t) := d1
      have HKB := Lib.hid (show ∀ r, kindB kind X Y = r → kindB kind (memB a f) (memB b f) = r from fun r h => by rw [HX.out, HY.out]; exact h)
      rcases HK.out with rfl | rfl | rfl
      all_goals
        cases X
        all_goals
          cases Y
          all_goals
            first
              | (have hkb := HKB.out false rfl
                 have NX := Lib.hid (HO.out.skip EA.out EB.out EP.out HF.out HTT.out hkb)
                 clear hkb
                 go_wp2_with fail
                 go_roundw
                 case rel => exact ⟨k + 1, by omega, by go_num, HN1.out, o, NX.out, HR5.out⟩
                 case measure => simp [intOf]; omega)
              | (have hkb := HKB.out true rfl
                 rcases List.eq_nil_or_concat o with rfl | ⟨m, ⟨q1, q2⟩, hmq⟩
                 · have NX := Lib.hid (HO.out.put_nil EA.out EB.out EP.out ED.out HF.out HTT.out hkb)
                   clear hkb
                   go_wp2_with fail
                   go_still_tail 11, (by kernel_rfl)
                   change wpList _ _ _ _ _ w5.drew
                   go_wp2_with (go_at_call 54; refine (put_nil w3 _ _ f t HD.out).mono ?_; rintro e w6 ⟨v6, rfl, h6⟩; have HP := Lib.hid h6; clear h6)
                   go_roundw
                   case rel => exact ⟨k + 1, by omega, by go_num, HN1.out, _, NX.out, HP.out⟩
                   case measure => simp [intOf]; omega
                 · obtain rfl : o = m ++ [(q1, q2)] := by rw [hmq]; simp
                   clear hmq
                   have NX := Lib.hid (HO.out.put_more EA.out EB.out EP.out ED.out HF.out HTT.out hkb)
                   simp only [List.length_append, List.length_cons, List.length_nil] at hle
                   clear hkb
                   go_wp2_with fail
                   go_still_tail 11, (by kernel_rfl)
                   change wpList _ _ _ _ _ w5.drew
                   go_wp2_with (go_at_call 54; refine (put_more w3 _ _ m q1 q2 f t HD.out (by omega)).mono ?_; rintro e w6 ⟨v6, rfl, h6⟩; have HP := Lib.hid h6; clear h6)
                   go_roundw
                   case rel => exact ⟨k + 1, by omega, by go_num, HN1.out, _, NX.out, HP.out⟩
                   case measure => simp [intOf]; omega)
    · go_wp2_with fail
      obtain ⟨A3, c3, rfl, hsp3, hcc3⟩ := own_spans2 HR.out.1
      have HSP3 := Lib.hid hsp3
      have HCC3 := Lib.hid hcc3
      clear hsp3 hcc3
      go_wp2_with fail
      go_ret
      exact ⟨A3, c3, o, rfl, HSP3.out, HO.out.stop EA.out EB.out EP.out (by have := HT.out; omega) (by have := HK0.out; have := HT.out; omega), by omega, chain HB3.out HR.out.2, HCC3.out⟩

end Go.Proofs.Ytpeifijcpemjeaa.Co

/-
  The document's Make, Gaps and Long.
-/
namespace Go.Proofs.Ytpeifijcpemjeaa.Co
open Go.RowKit

theorem kind_make (l : List Sp) (x : Int) : KindP 0 l [] x ↔ Mem l x := by simp [KindP, kindB, memB_iff, show memB [] x = false from rfl]

theorem CovPost.weaken {S T : Int → Prop} {K : Nat} {w w0 : World} {e : Ending} {w' : World} (h : CovPost S K w e w') (hs : ∀ x, S x ↔ T x) (hb : Below w0.heap.size w0 w) : CovPost T K w0 e w' := by
  obtain ⟨A, c, m, he, hsp, hc, hl, hb', hcc⟩ := h
  exact ⟨A, c, m, he, hsp, ⟨hc.1, fun x => (hc.2 x).trans (hs x)⟩, hl, chain hb hb', hcc⟩

set_option maxHeartbeats 1000000 in
theorem dmake_any (w : World) (A : Option Addr) (c : Nat) (l : List Sp) (hl : Spans w A l) (hA : A = none → c = 0) (hn : l.length ≤ 400) :
    Calls Try.prog 31 #[.slice A l.length c] w (CovPost (Mem l) 1000 w) := by
  have C := of_any w A none c 0 l [] 0 (.inl rfl) hl (Spans.nil _ _) hA (fun _ => rfl) (by simpa using hn)
  simp only [List.length_nil] at C
  go_enter Try.func31, Try.ntmps31
  go_wp2_with (go_at_call 43; refine C.mono ?_; rintro e w1 hp; obtain ⟨A1, c1, m, rfl, hsp, hc, hl1, hb, hcc⟩ := hp)
  go_ret
  exact ⟨A1, c1, m, rfl, hsp, ⟨hc.1, fun x => (hc.2 x).trans (kind_make l x)⟩, hl1, hb, hcc⟩

theorem spans_one {w : World} {f t : Int} (ty : TypeId) : Spans (w.alloc (.cells #[.int .i64 f, .int .i64 t] ty)) (some ⟨w.heap.size, 0, none⟩) [(f, t)] := fun i p hp => by
  rcases i with _ | i
  · obtain rfl : (f, t) = p := by simpa using hp
    exact ⟨_, _, rfl, by simp [go_sem], by simp [go_sem]⟩
  · simp at hp

theorem Cov.take {l : List Sp} (h : Cov l) (k : Nat) : Cov (l.take k) := ⟨fun p hp => h.1 p (List.mem_of_mem_take hp), h.2.sublist (List.take_sublist _ _)⟩
/-- What a loop has added up. -/
theorem lens_next {m : List Sp} (h : Cov m) {k : Nat} {f t : Int} (hp : m[k]? = some (f, t)) : lens (m.take (k + 1)) = lens (m.take k) + (t - f) ∧ rightB f t = true ∧ 0 ≤ lens (m.take (k + 1)) ∧ lens (m.take (k + 1)) ≤ 2199023255552 := by
  refine ⟨?_, h.1 _ (List.mem_of_getElem? hp), (lens_nonneg (h.take (k + 1))).1, (lens_nonneg (h.take (k + 1))).2⟩
  rw [take_snoc hp, lens_snoc]

/-- What Long leaves. -/
def LongPost (S : Int → Prop) (w : World) (e : Ending) (w' : World) : Prop := ∃ m, CovOf m S ∧ e = .returned (.int .i64 (lens m)) ∧ Below w.heap.size w w'

end Go.Proofs.Ytpeifijcpemjeaa.Co

/-
  Has and Long of cover: has the list the time; how many times it has.
-/
namespace Go.Proofs.Ytpeifijcpemjeaa.Co
open Go.RowKit Go.Sort Go.Shelf

set_option maxHeartbeats 2000000 in
theorem hasf_any (w : World) (b : Nat) (f t x : Int) (hb : w.cell? ⟨b, 0, none⟩ = some (.int .i64 x)) :
    Calls Try.prog 33 #[sp f t, .pointer (some ⟨b, 0, none⟩)] w fun e w' => e = .returned (.bool (rightB f t && hasB f t x)) ∧ Below w.heap.size w w' := by
  have hx0 := keepc ((bl w).alloc (Nat.le_refl _) (.cells #[.int .i64 f, .int .i64 t] 35)) hb
  have HY := Lib.hid (show Below w.heap.size w (w.alloc (.cells #[.int .i64 f, .int .i64 t] 35)) from (bl _).alloc (Nat.le_refl _) _)
  cases hr : rightB f t
  · go_enter Try.func33, Try.ntmps33
    go_wp2_with (go_at_call 34; refine (right_any _ _ _).mono ?_; rintro e w1 ⟨rfl, hb1⟩)
    go_ret
    exact ⟨rfl, chain HY.out hb1⟩
  · go_enter Try.func33, Try.ntmps33
    go_wp2_with fail
    (go_at_call 34; refine (right_any _ _ _).mono ?_; rintro e w1 ⟨rfl, hb1⟩)
    have a0 : w1.cell? ⟨w.heap.size, 0, none⟩ = some (.int .i64 f) := keepc hb1 (by simp [go_sem])
    have a1 : w1.cell? ⟨w.heap.size, 1, none⟩ = some (.int .i64 t) := keepc hb1 (by simp [go_sem])
    have a2 := keepc hb1 hx0
    go_wp2_with (go_at_call 35; refine (has_any _ _ _ _).mono ?_; rintro e w2 ⟨rfl, hb2⟩)
    go_ret
    exact ⟨rfl, chain HY.out (chain hb1 hb2)⟩

/-- What IndexFunc leaves. -/
def IdxPost (l : List Sp) (x : Int) (w : World) (e : Ending) (w' : World) : Prop := ∃ r : Int, e = .returned (.int .i64 r) ∧ decide (0 ≤ r) = memB l x ∧ Below w.heap.size w w'

set_option maxHeartbeats 4000000 in
theorem indexf_any (w : World) (A : Option Addr) (c b : Nat) (l : List Sp) (x : Int) (hb : w.cell? ⟨b, 0, none⟩ = some (.int .i64 x)) (hl : Spans w A l) (hn : l.length ≤ 9223372036854775806) :
    Calls Try.prog 44 #[.slice A l.length c, .func (.func 33) #[] #[.pointer (some ⟨b, 0, none⟩)]] w (IdxPost l x w) := by
  have HL := Lib.hid hl
  clear hl
  obtain ⟨n, hnm⟩ : ∃ n, n = l.length := ⟨_, rfl⟩
  rw [← hnm]
  have hn' : n ≤ 9223372036854775806 := by omega
  have HN := Lib.hid hnm
  clear hnm hn
  go_enter Try.func44, Try.ntmps44
  go_wp2_with fail
  go_loopw [8] (fun i wr => ∃ k : Nat, k ≤ n ∧ i = .int .i64 k ∧ memB (l.take k) x = false ∧ Below w.heap.size w wr) (fun i _ => n - (intOf i).toNat)
  case atStart => exact ⟨0, Nat.zero_le _, rfl, by simp [memB], bl _⟩
  case round =>
    obtain ⟨k, hk, rfl, hc, hB⟩ := hrel
    have HC := Lib.hid hc
    have HB := Lib.hid hB
    clear hc hB
    by_cases hlt : k < n
    · obtain ⟨⟨f, t⟩, hp⟩ : ∃ p, l[k]? = some p := ⟨_, List.getElem?_eq_getElem (by have := HN.out; omega)⟩
      obtain ⟨g, off, rfl, c0, c1⟩ := HL.out.at hp
      have d0 := keepc HB.out c0
      have d1 := keepc HB.out c1
      have d2 := keepc HB.out hb
      have NX := Lib.hid (mem_take_succ hp x)
      have HP := Lib.hid hp
      clear c0 c1 hp
      have CF := hasf_any wr b f t x d2
      cases hr : (rightB f t && hasB f t x)
      · rw [hr] at CF
        go_wp2_with (go_at_call 33; refine CF.mono ?_; rintro e w1 ⟨rfl, hb1⟩)
        go_roundw
        case rel => exact ⟨k + 1, by omega, by go_num, by rw [NX.out, HC.out]; simpa using hr, chain HB.out hb1⟩
        case measure => simp [intOf]; omega
      · rw [hr] at CF
        go_wp2_with (go_at_call 33; refine CF.mono ?_; rintro e w1 ⟨rfl, hb1⟩)
        go_ret
        have hr2 : rightB f t = true ∧ hasB f t x = true := by simpa using hr
        exact ⟨k, rfl, by rw [mem_found HP.out hr2.1 hr2.2]; simp, chain HB.out hb1⟩
    · go_wp2_with fail
      go_ret
      exact ⟨-1, rfl, by have := HC.out; rw [List.take_of_length_le (by have := HN.out; omega)] at this; rw [this]; rfl, HB.out⟩

set_option maxHeartbeats 1000000 in
theorem hasl_any (w : World) (A : Option Addr) (c : Nat) (l : List Sp) (x : Int) (hl : Spans w A l) (hn : l.length ≤ 9223372036854775806) :
    Calls Try.prog 21 #[.slice A l.length c, .int .i64 x] w fun e w' => e = .returned (.bool (memB l x)) ∧ Below w.heap.size w w' := by
  have hb0 : Below w.heap.size w (w.alloc (.cells #[.int .i64 x] 3)) := (bl _).alloc (Nat.le_refl _) _
  have hcl : (w.alloc (.cells #[.int .i64 x] 3)).cell? ⟨w.heap.size, 0, none⟩ = some (.int .i64 x) := by simp [go_sem]
  have CI : Calls Try.prog 32 #[.slice A l.length c, .func (.func 33) #[] #[.pointer (some ⟨w.heap.size, 0, none⟩)]] (w.alloc (.cells #[.int .i64 x] 3)) fun e w' => e = .returned (.bool (memB l x)) ∧ Below w.heap.size w w' := by
    go_enter Try.func32, Try.ntmps32
    go_wp2_with (go_at_call 44; refine (indexf_any _ _ _ _ l x hcl (hl.below hb0) hn).mono ?_; rintro e w1 ⟨r, rfl, hr, hb1⟩)
    go_ret
    exact ⟨rfl, chain hb0 hb1⟩
  clear hb0 hcl hl hn
  go_enter Try.func21, Try.ntmps21
  go_wp2_with (go_at_call 32; refine CI.mono ?_; rintro e w1 ⟨rfl, hb1⟩)
  go_ret
  exact ⟨rfl, hb1⟩

end Go.Proofs.Ytpeifijcpemjeaa.Co

/-
  Lists of spans as lists of elements; the cover of spans as a function.
-/
namespace Go.Proofs.Ytpeifijcpemjeaa
open Go.RowKit

def ESp : El (Int × Int) where
  s := 44
  e := 35
  sz := 2
  bys := 16
  z := .agg #[.int .i64 0, .int .i64 0]
  cells := fun p => [.int .i64 p.1, .int .i64 p.2]
  pos := by decide
  few := by decide
  len := fun _ => rfl
  one := fun x u hu => by
    simp only [List.mem_cons, List.not_mem_nil, or_false] at hu
    rcases hu with rfl | rfl <;> rfl
  und := Try.underlying44
  info := by kernel_rfl
  zs := rfl
theorem row_spans {w : World} {A : Option Addr} {l : List (Int × Int)} (h : RowE ESp w A l) : Co.Spans w A l := fun i p hp => by
  obtain ⟨g, off, rfl, hc⟩ := h i p hp
  exact ⟨g, off, rfl, hc 0 _ rfl, hc 1 _ rfl⟩
theorem spans_row {w : World} {A : Option Addr} {l : List (Int × Int)} (h : Co.Spans w A l) : RowE ESp w A l := fun i p hp => by
  obtain ⟨g, off, rfl, h0, h1⟩ := h i p hp
  refine ⟨g, off, rfl, fun j u hu => ?_⟩
  match j, hu with
  | 0, hu => obtain rfl : _ = u := by simpa [ESp] using hu
             exact h0
  | 1, hu => obtain rfl : _ = u := by simpa [ESp] using hu
             exact h1
  | j + 2, hu => simp [ESp] at hu
/-- The cover of the times of some spans. -/
noncomputable def covL (l : List (Int × Int)) : List (Int × Int) := open Classical in if h : ∃ m, Co.CovOf m (Co.Mem l) then Classical.choose h else []
theorem covL_of {l m : List (Int × Int)} (h : Co.CovOf m (Co.Mem l)) : covL l = m := by
  have hx : ∃ m, Co.CovOf m (Co.Mem l) := ⟨m, h⟩
  rw [covL, dif_pos hx]
  exact (Classical.choose_spec hx).eq h fun _ => Iff.rfl
theorem covL_nil : covL [] = [] := covL_of ⟨Co.Cov.nil, fun _ => Iff.rfl⟩
theorem covL_ext {l m : List (Int × Int)} (h : ∀ p, p ∈ l ↔ p ∈ m) : covL l = covL m := by
  have e : Co.Mem l = Co.Mem m := by
    funext x
    unfold Co.Mem
    simp only [h]
  unfold covL
  rw [e]
theorem pmake_cov (w : World) (v : Value) (l : List (Int × Int)) (hl : ListE ESp w v l) (hn : l.length ≤ 1000000) :
    Calls Try.prog 29 #[v] w fun e w' => ∃ x, e = .returned x ∧ ListE ESp w' x (covL l) ∧ Co.CovOf (covL l) (Co.Mem l) ∧ (covL l).length ≤ l.length ∧ Below w.heap.size w w' := by
  obtain ⟨A, c, rfl, hr, hc, hnc⟩ := hl
  refine (Co.make_any w A c l (row_spans hr) hn).mono ?_
  rintro e w1 ⟨A1, c1, m, rfl, hsp, hcov, hm, hb, h1, h2⟩
  have he := covL_of hcov
  subst he
  exact ⟨_, rfl, ⟨A1, c1, rfl, spans_row hsp, h1, h2⟩, hcov, hm, hb⟩
theorem dmake_cov (w : World) (v : Value) (l : List (Int × Int)) (hl : ListE ESp w v l) (hn : l.length ≤ 400) :
    Calls Try.prog 31 #[v] w fun e w' => ∃ x, e = .returned x ∧ ListE ESp w' x (covL l) ∧ Co.CovOf (covL l) (Co.Mem l) ∧ (covL l).length ≤ 1000 ∧ Below w.heap.size w w' := by
  obtain ⟨A, c, rfl, hr, hc, hnc⟩ := hl
  refine (Co.dmake_any w A c l (row_spans hr) hnc hn).mono ?_
  rintro e w1 ⟨A1, c1, m, rfl, hsp, hcov, hm, hb, h1, h2⟩
  have he := covL_of hcov
  subst he
  exact ⟨_, rfl, ⟨A1, c1, rfl, spans_row hsp, h1, h2⟩, hcov, hm, hb⟩
theorem dsames_any (w : World) (u v : Value) (l m : List (Int × Int)) (hl : ListE ESp w u l) (hm : ListE ESp w v m) (hn : l.length ≤ 9223372036854775807) :
    Ret 19 #[u, v] w (.bool (decide (l = m))) := by
  obtain ⟨A, c, rfl, hr, _, _⟩ := hl
  obtain ⟨B, d, rfl, hr2, _, _⟩ := hm
  exact Co.same_any w A B c d l m (row_spans hr) (row_spans hr2) hn
theorem phass_any (w : World) (v : Value) (l : List (Int × Int)) (x : Int) (hl : ListE ESp w v l) (hn : l.length ≤ 9223372036854775806) :
    Ret 21 #[v, .int .i64 x] w (.bool (Co.memB l x)) := by
  obtain ⟨A, c, rfl, hr, _, _⟩ := hl
  exact Co.hasl_any w A c l x (row_spans hr) hn

end Go.Proofs.Ytpeifijcpemjeaa

/-
  The document's Changed of chains.
-/
namespace Go.Proofs.Ytpeifijcpemjeaa
open Go.RowKit

/-- How the two versions that are there stand. -/
theorem like_eq (x y : Option Vr) : likeC x y = ((x.isSome == y.isSome) && (!x.isSome || ((x.getD noV).st == (y.getD noV).st))) := by
  cases x <;> cases y <;> simp [likeC]
  rw [Bool.eq_iff_iff]; simp

set_option maxHeartbeats 4000000 in
set_option maxRecDepth 100000 in
theorem dchgc_any (w : World) (a b : Int) (u : Value) (l : List Vr) (hl : VersL w u l) (hn : l.length ≤ 100000) :
    Calls Try.prog 20 #[.int .i64 a, .int .i64 b, u] w fun e w' => ∃ x, e = .returned x ∧ ListE ESp w' x (covL (chgC a b l)) ∧ Below w.heap.size w w' := by
  have CA := Lib.hid (fun w' (h : Below w.heap.size w w') => datc_any w' a u l (hl.below h) hn)
  have CB := Lib.hid (fun w' (h : Below w.heap.size w w') => datc_any w' b u l (hl.below h) hn)
  obtain ⟨x, hx⟩ : ∃ x, atC a l = x := ⟨_, rfl⟩
  obtain ⟨y, hy⟩ : ∃ y, atC b l = y := ⟨_, rfl⟩
  have HC := Lib.hid (show chgC a b l = if likeC x y then [] else spansO x ++ spansO y by rw [chgC, hx, hy])
  rw [hx] at CA
  rw [hy] at CB
  generalize chgC a b l = R at *
  clear hx hy hl hn
  cases hlk : likeC x y with
  | true =>
    rw [hlk] at HC
    have HR := Lib.hid (show covL R = [] by rw [HC.out, if_pos rfl]; exact covL_nil)
    rcases x with _ | x
    · rcases y with _ | y
      · go_enter Try.func20, Try.ntmps20
        go_wp2_with (first
          | (go_at_call 16; (with_reducible refine (CA.out _ (bl _)).mono ?_); rintro e w1 ⟨rfl, hb1⟩; have hc1 : Below w.heap.size w (w1.alloc (ocV noV)) := hb1.alloc hb1.size _)
          | (go_at_call 16; (with_reducible refine (CB.out _ hc1).mono ?_); rintro e w2 ⟨rfl, hb2⟩; have hc2 : Below w.heap.size w (w2.alloc (ocV noV)) := (chain hc1 hb2).alloc (chain hc1 hb2).size _))
        go_ret
        exact ⟨_, rfl, by rw [HR.out]; exact ListE.nil _, hc2⟩
      · simp [likeC] at hlk
    · rcases y with _ | y
      · simp [likeC] at hlk
      · have hst : x.st = y.st := by simpa [likeC] using hlk
        have hst2 : (x.st == y.st) = true := by simpa using hst
        have HST := Lib.hid hst
        clear hst hlk
        go_enter Try.func20, Try.ntmps20
        go_wp2_with (first
          | (go_at_call 16; (with_reducible refine (CA.out _ (bl _)).mono ?_); rintro e w1 ⟨rfl, hb1⟩; have hc1 : Below w.heap.size w (w1.alloc (ocV x)) := hb1.alloc hb1.size _; have hx1 := Lib.hid (holdV_new w1 x).c)
          | (go_at_call 16; (with_reducible refine (CB.out _ hc1).mono ?_); rintro e w2 ⟨rfl, hb2⟩; have hc2 : Below w.heap.size w (w2.alloc (ocV y)) := (chain hc1 hb2).alloc (chain hc1 hb2).size _; have hs1 : w1.heap.size ≠ w2.heap.size := by (have := hb2.size; simp at this; omega); obtain ⟨x0, x1, x2, x3, x4, x5, x6⟩ := (hx1.out.below hb2).below ((bl w2).alloc (Nat.le_refl _) (ocV y)); obtain ⟨y0, y1, y2, y3, y4, y5, y6⟩ := (holdV_new w2 y).c))
        go_at_call 16
        with_reducible refine (CB.out _ hc1).mono ?_
        rintro e w2 ⟨rfl, hb2⟩
        have hc2 : Below w.heap.size w (w2.alloc (ocV y)) := (chain hc1 hb2).alloc (chain hc1 hb2).size _
        have hs1 : w1.heap.size ≠ w2.heap.size := by (have := hb2.size; simp at this; omega)
        obtain ⟨x0, x1, x2, x3, x4, x5, x6⟩ := (hx1.out.below hb2).below ((bl w2).alloc (Nat.le_refl _) (ocV y))
        obtain ⟨y0, y1, y2, y3, y4, y5, y6⟩ := (holdV_new w2 y).c
        go_wp2_with fail
        go_ret
        exact ⟨_, rfl, by rw [HR.out]; exact ListE.nil _, hc2⟩
  | false =>
    rw [hlk] at HC
    have HRR := Lib.hid (show R = spansO x ++ spansO y by rw [HC.out]; rfl)
    rcases x with _ | x
    · rcases y with _ | y
      · simp [likeC] at hlk
      · clear hlk
        cases hgy : y.gone with
        | true =>
          have HS := Lib.hid (show R = [] ++ [] by rw [HRR.out]; simp [spansO, hgy])
          have HGY := Lib.hid hgy
          clear hgy
          go_enter Try.func20, Try.ntmps20
          go_wp2_with (go_at_call 16; (with_reducible refine (CA.out _ (bl _)).mono ?_); rintro e w1 ⟨rfl, hb1⟩; have hc1 : Below w.heap.size w (w1.alloc (ocV noV)) := hb1.alloc hb1.size _; have hx1 := Lib.hid (holdV_new w1 noV).c)
          go_at_call 16
          with_reducible refine (CB.out _ hc1).mono ?_
          rintro e w2 ⟨rfl, hb2⟩
          have hc2 : Below w.heap.size w (w2.alloc (ocV y)) := (chain hc1 hb2).alloc (chain hc1 hb2).size _
          have hX2 := Lib.hid ((hx1.out.below hb2).below ((bl w2).alloc (Nat.le_refl _) (ocV y)))
          have hY2 := Lib.hid (holdV_new w2 y).c
          obtain ⟨y0, y1, y2, y3, y4, y5, y6⟩ := hY2.out
          rw [HGY.out] at y6
          have HC2 := Lib.hid hc2
          have HO := Lib.hid (OE.nil (E := ESp) (w2.alloc (ocV y)))
          go_wp2_with (go_at_call 31; (with_reducible refine (dmake_cov _ _ _ HO.out.list (by simp)).mono ?_); rintro e w6 ⟨u6, rfl, hl6, _, _, hb6⟩)
          go_ret
          exact ⟨_, rfl, by rw [HS.out]; exact hl6, chain (chain HC2.out HO.out.bel) hb6⟩
        | false =>
          have HS := Lib.hid (show R = [] ++ [(y.sf, y.se)] by rw [HRR.out]; simp [spansO, hgy])
          have HGY := Lib.hid hgy
          clear hgy
          go_enter Try.func20, Try.ntmps20
          go_wp2_with (go_at_call 16; (with_reducible refine (CA.out _ (bl _)).mono ?_); rintro e w1 ⟨rfl, hb1⟩; have hc1 : Below w.heap.size w (w1.alloc (ocV noV)) := hb1.alloc hb1.size _; have hx1 := Lib.hid (holdV_new w1 noV).c)
          go_at_call 16
          with_reducible refine (CB.out _ hc1).mono ?_
          rintro e w2 ⟨rfl, hb2⟩
          have hc2 : Below w.heap.size w (w2.alloc (ocV y)) := (chain hc1 hb2).alloc (chain hc1 hb2).size _
          have hX2 := Lib.hid ((hx1.out.below hb2).below ((bl w2).alloc (Nat.le_refl _) (ocV y)))
          have hY2 := Lib.hid (holdV_new w2 y).c
          obtain ⟨y0, y1, y2, y3, y4, y5, y6⟩ := hY2.out
          rw [HGY.out] at y6
          have HC2 := Lib.hid hc2
          have HO := Lib.hid (OE.nil (E := ESp) (w2.alloc (ocV y)))
          go_upto_region 9 with fail
          have hO := HO.out
          generalize Value.slice none 0 0 = v0 at hO ⊢
          have HOO := Lib.hid hO
          clear hO
          go_wp2_with (first
              | (at_builtin; refine wpList_appE (E := ESp) (xs := [(y.sf, y.se)]) rfl (.tmp 55) (.tmp 58) rfl rfl (base := (w2.alloc (ocV y)).heap.size) rfl (World.ownsRow.alloc HOO.out.own _) rfl rfl (by have hrow := rowE_one (E := ESp) (w2.alloc (ocV y)) (y.sf, y.se) #[.int .i64 y.sf, .int .i64 y.se] rfl 35; first | exact hrow | (simp at hrow ⊢; exact hrow)) (by simp) (by simp) (by have hsz := HOO.out.bel.size; first | omega | (simp; done) | (simp; omega) | (simp at hsz ⊢; omega)) ?_; intro v5 w5 hown5 hg5; have HO5 := Lib.hid ((HOO.out.below ((bl _).alloc (Nat.le_refl _) _)).grown hg5 hown5))
              | (go_at_call 31; (with_reducible refine (dmake_cov _ _ _ HO5.out.list (by simp)).mono ?_); rintro e w6 ⟨u6, rfl, hl6, _, _, hb6⟩))
          go_ret
          exact ⟨_, rfl, by rw [HS.out]; exact hl6, chain (chain HC2.out HO5.out.bel) hb6⟩
    · rcases y with _ | y
      · clear hlk
        cases hgx : x.gone with
        | true =>
          have HS := Lib.hid (show R = [] ++ [] by rw [HRR.out]; simp [spansO, hgx])
          have HGX := Lib.hid hgx
          clear hgx
          go_enter Try.func20, Try.ntmps20
          go_wp2_with (go_at_call 16; (with_reducible refine (CA.out _ (bl _)).mono ?_); rintro e w1 ⟨rfl, hb1⟩; have hc1 : Below w.heap.size w (w1.alloc (ocV x)) := hb1.alloc hb1.size _; have hx1 := Lib.hid (holdV_new w1 x).c)
          go_at_call 16
          with_reducible refine (CB.out _ hc1).mono ?_
          rintro e w2 ⟨rfl, hb2⟩
          have hc2 : Below w.heap.size w (w2.alloc (ocV noV)) := (chain hc1 hb2).alloc (chain hc1 hb2).size _
          have hX2 := Lib.hid ((hx1.out.below hb2).below ((bl w2).alloc (Nat.le_refl _) (ocV noV)))
          have hY2 := Lib.hid (holdV_new w2 noV).c
          obtain ⟨x0, x1, x2, x3, x4, x5, x6⟩ := hX2.out
          rw [HGX.out] at x6
          have HC2 := Lib.hid hc2
          have HO := Lib.hid (OE.nil (E := ESp) (w2.alloc (ocV noV)))
          go_wp2_with (go_at_call 31; (with_reducible refine (dmake_cov _ _ _ HO.out.list (by simp)).mono ?_); rintro e w6 ⟨u6, rfl, hl6, _, _, hb6⟩)
          go_ret
          exact ⟨_, rfl, by rw [HS.out]; exact hl6, chain (chain HC2.out HO.out.bel) hb6⟩
        | false =>
          have HS := Lib.hid (show R = [(x.sf, x.se)] ++ [] by rw [HRR.out]; simp [spansO, hgx])
          have HGX := Lib.hid hgx
          clear hgx
          go_enter Try.func20, Try.ntmps20
          go_wp2_with (go_at_call 16; (with_reducible refine (CA.out _ (bl _)).mono ?_); rintro e w1 ⟨rfl, hb1⟩; have hc1 : Below w.heap.size w (w1.alloc (ocV x)) := hb1.alloc hb1.size _; have hx1 := Lib.hid (holdV_new w1 x).c)
          go_at_call 16
          with_reducible refine (CB.out _ hc1).mono ?_
          rintro e w2 ⟨rfl, hb2⟩
          have hc2 : Below w.heap.size w (w2.alloc (ocV noV)) := (chain hc1 hb2).alloc (chain hc1 hb2).size _
          have hX2 := Lib.hid ((hx1.out.below hb2).below ((bl w2).alloc (Nat.le_refl _) (ocV noV)))
          have hY2 := Lib.hid (holdV_new w2 noV).c
          obtain ⟨x0, x1, x2, x3, x4, x5, x6⟩ := hX2.out
          rw [HGX.out] at x6
          have HC2 := Lib.hid hc2
          have HO := Lib.hid (OE.nil (E := ESp) (w2.alloc (ocV noV)))
          go_upto_region 7 with fail
          have hO := HO.out
          generalize Value.slice none 0 0 = v0 at hO ⊢
          have HOO := Lib.hid hO
          clear hO
          go_wp2_with (first
              | (at_builtin; refine wpList_appE (E := ESp) (xs := [(x.sf, x.se)]) rfl (.tmp 44) (.tmp 47) rfl rfl (base := (w2.alloc (ocV noV)).heap.size) rfl (World.ownsRow.alloc HOO.out.own _) rfl rfl (by have hrow := rowE_one (E := ESp) (w2.alloc (ocV noV)) (x.sf, x.se) #[.int .i64 x.sf, .int .i64 x.se] rfl 35; first | exact hrow | (simp at hrow ⊢; exact hrow)) (by simp) (by simp) (by simp) ?_; intro v4 w4 hown4 hg4; have HO4 := Lib.hid ((HOO.out.below ((bl _).alloc (Nat.le_refl _) _)).grown hg4 hown4))
              | (go_at_call 31; (with_reducible refine (dmake_cov _ _ _ HO4.out.list (by simp)).mono ?_); rintro e w6 ⟨u6, rfl, hl6, _, _, hb6⟩))
          go_ret
          exact ⟨_, rfl, by rw [HS.out]; exact hl6, chain (chain HC2.out HO4.out.bel) hb6⟩
      · have hst : ¬ x.st = y.st := by simpa [likeC] using hlk
        clear hlk
        cases hgx : x.gone with
        | true =>
          cases hgy : y.gone with
          | true =>
            have HS := Lib.hid (show R = [] ++ [] by rw [HRR.out]; simp [spansO, hgx, hgy])
            have HGX := Lib.hid hgx
            have HGY := Lib.hid hgy
            clear hgx hgy
            have hne : (x.st == y.st) = false := by simpa using hst
            go_enter Try.func20, Try.ntmps20
            go_wp2_with (go_at_call 16; (with_reducible refine (CA.out _ (bl _)).mono ?_); rintro e w1 ⟨rfl, hb1⟩; have hc1 : Below w.heap.size w (w1.alloc (ocV x)) := hb1.alloc hb1.size _; have hx1 := Lib.hid (holdV_new w1 x).c)
            go_at_call 16
            with_reducible refine (CB.out _ hc1).mono ?_
            rintro e w2 ⟨rfl, hb2⟩
            have hc2 : Below w.heap.size w (w2.alloc (ocV y)) := (chain hc1 hb2).alloc (chain hc1 hb2).size _
            have hX2 := Lib.hid ((hx1.out.below hb2).below ((bl w2).alloc (Nat.le_refl _) (ocV y)))
            have hY2 := Lib.hid (holdV_new w2 y).c
            obtain ⟨x0, x1, x2, x3, x4, x5, x6⟩ := hX2.out
            rw [HGX.out] at x6
            obtain ⟨y0, y1, y2, y3, y4, y5, y6⟩ := hY2.out
            rw [HGY.out] at y6
            have HC2 := Lib.hid hc2
            have HO := Lib.hid (OE.nil (E := ESp) (w2.alloc (ocV y)))
            go_wp2_with (go_at_call 31; (with_reducible refine (dmake_cov _ _ _ HO.out.list (by simp)).mono ?_); rintro e w6 ⟨u6, rfl, hl6, _, _, hb6⟩)
            go_ret
            exact ⟨_, rfl, by rw [HS.out]; exact hl6, chain (chain HC2.out HO.out.bel) hb6⟩
          | false =>
            have HS := Lib.hid (show R = [] ++ [(y.sf, y.se)] by rw [HRR.out]; simp [spansO, hgx, hgy])
            have HGX := Lib.hid hgx
            have HGY := Lib.hid hgy
            clear hgx hgy
            have hne : (x.st == y.st) = false := by simpa using hst
            go_enter Try.func20, Try.ntmps20
            go_wp2_with (go_at_call 16; (with_reducible refine (CA.out _ (bl _)).mono ?_); rintro e w1 ⟨rfl, hb1⟩; have hc1 : Below w.heap.size w (w1.alloc (ocV x)) := hb1.alloc hb1.size _; have hx1 := Lib.hid (holdV_new w1 x).c)
            go_at_call 16
            with_reducible refine (CB.out _ hc1).mono ?_
            rintro e w2 ⟨rfl, hb2⟩
            have hc2 : Below w.heap.size w (w2.alloc (ocV y)) := (chain hc1 hb2).alloc (chain hc1 hb2).size _
            have hX2 := Lib.hid ((hx1.out.below hb2).below ((bl w2).alloc (Nat.le_refl _) (ocV y)))
            have hY2 := Lib.hid (holdV_new w2 y).c
            obtain ⟨x0, x1, x2, x3, x4, x5, x6⟩ := hX2.out
            rw [HGX.out] at x6
            obtain ⟨y0, y1, y2, y3, y4, y5, y6⟩ := hY2.out
            rw [HGY.out] at y6
            have HC2 := Lib.hid hc2
            have HO := Lib.hid (OE.nil (E := ESp) (w2.alloc (ocV y)))
            go_upto_region 9 with fail
            have hO := HO.out
            generalize Value.slice none 0 0 = v0 at hO ⊢
            have HOO := Lib.hid hO
            clear hO
            go_wp2_with (first
                | (at_builtin; refine wpList_appE (E := ESp) (xs := [(y.sf, y.se)]) rfl (.tmp 55) (.tmp 58) rfl rfl (base := (w2.alloc (ocV y)).heap.size) rfl (World.ownsRow.alloc HOO.out.own _) rfl rfl (by have hrow := rowE_one (E := ESp) (w2.alloc (ocV y)) (y.sf, y.se) #[.int .i64 y.sf, .int .i64 y.se] rfl 35; first | exact hrow | (simp at hrow ⊢; exact hrow)) (by simp) (by simp) (by have hsz := HOO.out.bel.size; first | omega | (simp; done) | (simp; omega) | (simp at hsz ⊢; omega)) ?_; intro v5 w5 hown5 hg5; have HO5 := Lib.hid ((HOO.out.below ((bl _).alloc (Nat.le_refl _) _)).grown hg5 hown5))
                | (go_at_call 31; (with_reducible refine (dmake_cov _ _ _ HO5.out.list (by simp)).mono ?_); rintro e w6 ⟨u6, rfl, hl6, _, _, hb6⟩))
            go_ret
            exact ⟨_, rfl, by rw [HS.out]; exact hl6, chain (chain HC2.out HO5.out.bel) hb6⟩
        | false =>
          cases hgy : y.gone with
          | true =>
            have HS := Lib.hid (show R = [(x.sf, x.se)] ++ [] by rw [HRR.out]; simp [spansO, hgx, hgy])
            have HGX := Lib.hid hgx
            have HGY := Lib.hid hgy
            clear hgx hgy
            have hne : (x.st == y.st) = false := by simpa using hst
            go_enter Try.func20, Try.ntmps20
            go_wp2_with (go_at_call 16; (with_reducible refine (CA.out _ (bl _)).mono ?_); rintro e w1 ⟨rfl, hb1⟩; have hc1 : Below w.heap.size w (w1.alloc (ocV x)) := hb1.alloc hb1.size _; have hx1 := Lib.hid (holdV_new w1 x).c)
            go_at_call 16
            with_reducible refine (CB.out _ hc1).mono ?_
            rintro e w2 ⟨rfl, hb2⟩
            have hc2 : Below w.heap.size w (w2.alloc (ocV y)) := (chain hc1 hb2).alloc (chain hc1 hb2).size _
            have hX2 := Lib.hid ((hx1.out.below hb2).below ((bl w2).alloc (Nat.le_refl _) (ocV y)))
            have hY2 := Lib.hid (holdV_new w2 y).c
            obtain ⟨x0, x1, x2, x3, x4, x5, x6⟩ := hX2.out
            rw [HGX.out] at x6
            obtain ⟨y0, y1, y2, y3, y4, y5, y6⟩ := hY2.out
            rw [HGY.out] at y6
            have HC2 := Lib.hid hc2
            have HO := Lib.hid (OE.nil (E := ESp) (w2.alloc (ocV y)))
            go_upto_region 7 with fail
            have hO := HO.out
            generalize Value.slice none 0 0 = v0 at hO ⊢
            have HOO := Lib.hid hO
            clear hO
            go_wp2_with (first
                | (at_builtin; refine wpList_appE (E := ESp) (xs := [(x.sf, x.se)]) rfl (.tmp 44) (.tmp 47) rfl rfl (base := (w2.alloc (ocV y)).heap.size) rfl (World.ownsRow.alloc HOO.out.own _) rfl rfl (by have hrow := rowE_one (E := ESp) (w2.alloc (ocV y)) (x.sf, x.se) #[.int .i64 x.sf, .int .i64 x.se] rfl 35; first | exact hrow | (simp at hrow ⊢; exact hrow)) (by simp) (by simp) (by simp) ?_; intro v4 w4 hown4 hg4; have HO4 := Lib.hid ((HOO.out.below ((bl _).alloc (Nat.le_refl _) _)).grown hg4 hown4); obtain ⟨yy0, yy1, yy2, yy3, yy4, yy5, yy6⟩ := hY2.out.below HO4.out.bel; rw [HGY.out] at yy6)
                | (go_at_call 31; (with_reducible refine (dmake_cov _ _ _ HO4.out.list (by simp)).mono ?_); rintro e w6 ⟨u6, rfl, hl6, _, _, hb6⟩))
            go_ret
            exact ⟨_, rfl, by rw [HS.out]; exact hl6, chain (chain HC2.out HO4.out.bel) hb6⟩
          | false =>
            have HS := Lib.hid (show R = [(x.sf, x.se)] ++ [(y.sf, y.se)] by rw [HRR.out]; simp [spansO, hgx, hgy])
            have HGX := Lib.hid hgx
            have HGY := Lib.hid hgy
            clear hgx hgy
            have hne : (x.st == y.st) = false := by simpa using hst
            go_enter Try.func20, Try.ntmps20
            go_wp2_with (go_at_call 16; (with_reducible refine (CA.out _ (bl _)).mono ?_); rintro e w1 ⟨rfl, hb1⟩; have hc1 : Below w.heap.size w (w1.alloc (ocV x)) := hb1.alloc hb1.size _; have hx1 := Lib.hid (holdV_new w1 x).c)
            go_at_call 16
            with_reducible refine (CB.out _ hc1).mono ?_
            rintro e w2 ⟨rfl, hb2⟩
            have hc2 : Below w.heap.size w (w2.alloc (ocV y)) := (chain hc1 hb2).alloc (chain hc1 hb2).size _
            have hX2 := Lib.hid ((hx1.out.below hb2).below ((bl w2).alloc (Nat.le_refl _) (ocV y)))
            have hY2 := Lib.hid (holdV_new w2 y).c
            obtain ⟨x0, x1, x2, x3, x4, x5, x6⟩ := hX2.out
            rw [HGX.out] at x6
            obtain ⟨y0, y1, y2, y3, y4, y5, y6⟩ := hY2.out
            rw [HGY.out] at y6
            have HC2 := Lib.hid hc2
            have HO := Lib.hid (OE.nil (E := ESp) (w2.alloc (ocV y)))
            go_upto_region 7 with fail
            have hO := HO.out
            generalize Value.slice none 0 0 = v0 at hO ⊢
            have HOO := Lib.hid hO
            clear hO
            go_wp2_with (first
                | (at_builtin; refine wpList_appE (E := ESp) (xs := [(x.sf, x.se)]) rfl (.tmp 44) (.tmp 47) rfl rfl (base := (w2.alloc (ocV y)).heap.size) rfl (World.ownsRow.alloc HOO.out.own _) rfl rfl (by have hrow := rowE_one (E := ESp) (w2.alloc (ocV y)) (x.sf, x.se) #[.int .i64 x.sf, .int .i64 x.se] rfl 35; first | exact hrow | (simp at hrow ⊢; exact hrow)) (by simp) (by simp) (by simp) ?_; intro v4 w4 hown4 hg4; have HO4 := Lib.hid ((HOO.out.below ((bl _).alloc (Nat.le_refl _) _)).grown hg4 hown4); obtain ⟨yy0, yy1, yy2, yy3, yy4, yy5, yy6⟩ := hY2.out.below HO4.out.bel; rw [HGY.out] at yy6)
                | (at_builtin; refine wpList_appE (E := ESp) (xs := [(y.sf, y.se)]) rfl (.tmp 55) (.tmp 58) rfl rfl (base := (w2.alloc (ocV y)).heap.size) rfl (World.ownsRow.alloc HO4.out.own _) rfl rfl (by have hrow := rowE_one (E := ESp) w4 (y.sf, y.se) #[.int .i64 y.sf, .int .i64 y.se] rfl 35; first | exact hrow | (simp at hrow ⊢; exact hrow)) (by simp) (by simp) (by have hsz := HO4.out.bel.size; first | omega | (simp; done) | (simp; omega) | (simp at hsz ⊢; omega)) ?_; intro v5 w5 hown5 hg5; have HO5 := Lib.hid ((HO4.out.below ((bl _).alloc (Nat.le_refl _) _)).grown hg5 hown5))
                | (go_at_call 31; (with_reducible refine (dmake_cov _ _ _ HO5.out.list (by simp)).mono ?_); rintro e w6 ⟨u6, rfl, hl6, _, _, hb6⟩))
            go_ret
            exact ⟨_, rfl, by rw [HS.out]; exact hl6, chain (chain HC2.out HO5.out.bel) hb6⟩

end Go.Proofs.Ytpeifijcpemjeaa

/-
  Spans that are not right do not count; the program's valid.
-/
namespace Go.Proofs.Ytpeifijcpemjeaa
open Go.RowKit

theorem like_both (x y : Option Vr) : likeC x y = ((x.isSome == y.isSome) && ((x.getD noV).st == (y.getD noV).st)) := by
  cases x <;> cases y <;> simp [likeC, noV]
  rw [Bool.eq_iff_iff]; simp

/-- The span of a version, that of none being the zero one. -/
def validS (v : Vr) : List (Int × Int) := if v.gone then [] else [(v.sf, v.se)]
theorem validS_length (v : Vr) : (validS v).length ≤ 1 := by unfold validS; split <;> simp
theorem covL_mem {l m : List (Int × Int)} (h : ∀ t, Co.Mem l t ↔ Co.Mem m t) : covL l = covL m := by
  have e : Co.Mem l = Co.Mem m := funext fun t => propext (h t)
  unfold covL
  rw [e]
theorem mem_append (l m : List (Int × Int)) (t : Int) : Co.Mem (l ++ m) t ↔ Co.Mem l t ∨ Co.Mem m t := by
  constructor
  · rintro ⟨p, hp, h⟩
    rcases List.mem_append.1 hp with hp | hp
    · exact .inl ⟨p, hp, h⟩
    · exact .inr ⟨p, hp, h⟩
  · rintro (⟨p, hp, h⟩ | ⟨p, hp, h⟩)
    · exact ⟨p, List.mem_append.2 (.inl hp), h⟩
    · exact ⟨p, List.mem_append.2 (.inr hp), h⟩
theorem mem_valid (x : Option Vr) (t : Int) : Co.Mem (validS (x.getD noV)) t ↔ Co.Mem (spansO x) t := by
  cases x with
  | none =>
    constructor
    · rintro ⟨p, hp, hr, h1, h2⟩
      have hp : p ∈ [((0 : Int), (0 : Int))] := hp
      obtain rfl := List.mem_singleton.1 hp
      have h1 : (0 : Int) ≤ t := h1
      have h2 : t < (0 : Int) := h2
      omega
    · rintro ⟨p, hp, _⟩
      simp [spansO] at hp
  | some v => rfl
theorem chg_valid {a b : Int} {l : List Vr} (h : likeC (atC a l) (atC b l) = false) (t : Int) : Co.Mem (validS ((atC a l).getD noV) ++ validS ((atC b l).getD noV)) t ↔ Co.Mem (chgC a b l) t := by
  rw [chgC, h, mem_append, mem_valid, mem_valid]
  simp only [Bool.false_eq_true, if_false]
  rw [mem_append]

theorem ownE_at {α : Type} {E : El α} {w : World} {base g cap : Nat} {cur : Array Value} {L : List α} (hb : w.heap[g]? = some (.cells cur E.e (0, 0))) (hbase : base ≤ g) (hr : RowE E w (some ⟨g, 0, none⟩) L) (hn : L.length ≤ cap) (hm : cap ≤ maxLen) (hs : cur.size = cap * E.sz) : ownE E w base (.slice (some ⟨g, 0, none⟩) L.length cap) L := by
  refine ⟨flatE_length L, .inr ⟨g, cap, cur, rfl, hbase, hb, hn, hm, hs, ?_⟩⟩
  apply List.ext_getElem?
  intro j
  by_cases hj : j < L.length * E.sz
  · obtain ⟨u, hu⟩ : ∃ u, (flatE E L)[j]? = some u := ⟨_, List.getElem?_eq_getElem (by rw [flatE_length]; exact hj)⟩
    have c := flatE_cell hr hu
    rw [List.getElem?_take_of_lt hj, hu]
    simp only [Go.WideShapes.add_plain, Nat.zero_add] at c
    rw [cell_of_row w g j cur E.e (0, 0) hb] at c
    rw [Array.getElem?_toList]
    exact c
  · rw [List.getElem?_take_eq_none (by omega), List.getElem?_eq_none (by rw [flatE_length]; omega)]

set_option maxHeartbeats 1000000 in
set_option maxRecDepth 10000 in
theorem pvalid_any (v : Vr) (w : World) : Calls Try.prog 30 #[vv v] w fun e w' => ∃ x, e = .returned x ∧ OE ESp w (validS v) x w' := by
  obtain ⟨id, st, ent, sf, se, fa, fc, fs, gone⟩ := v
  have HB := Lib.hid (show Below w.heap.size w (w.alloc (ocV ⟨id, st, ent, sf, se, fa, fc, fs, gone⟩)) from (bl w).alloc (Nat.le_refl _) _)
  generalize fs.length = n at *
  cases gone with
  | true =>
    go_enter Try.func30, Try.ntmps30
    go_wp2_with fail
    go_ret
    exact ⟨_, rfl, (OE.nil w).below HB.out⟩
  | false =>
    have HN := Lib.hid (show OE ESp w [(sf, se)] (.slice (some ⟨w.heap.size + 1, 0, none⟩) 1 1) ((w.alloc (ocV ⟨id, st, ent, sf, se, fa, fc, fs, false⟩)).alloc (.cells #[.int .i64 sf, .int .i64 se] 35)) from by
      have hr := rowE_one (E := ESp) (w.alloc (ocV ⟨id, st, ent, sf, se, fa, fc, fs, false⟩)) (sf, se) #[.int .i64 sf, .int .i64 se] rfl 35
      have hh := heap_alloc_new (w.alloc (ocV ⟨id, st, ent, sf, se, fa, fc, fs, false⟩)) (.cells #[.int .i64 sf, .int .i64 se] 35)
      rw [show (w.alloc (ocV ⟨id, st, ent, sf, se, fa, fc, fs, false⟩)).heap.size = w.heap.size + 1 by simp] at hr hh
      exact ⟨ownE_at (E := ESp) (L := [(sf, se)]) (cap := 1) hh (by omega) hr (by simp) (by simp [maxLen]) (by simp [ESp]), HB.out.alloc HB.out.size _⟩)
    go_enter Try.func30, Try.ntmps30
    go_wp2_with fail
    go_ret
    exact ⟨_, rfl, HN.out⟩

end Go.Proofs.Ytpeifijcpemjeaa

/-
  The program's Changed.
-/
namespace Go.Proofs.Ytpeifijcpemjeaa
open Go.RowKit

theorem OE.from {α : Type} {E : El α} {W w w' : World} {l : List α} {v : Value} (hb : Below W.heap.size W w) (h : OE E w l v w') : OE E W l v w' := ⟨ownE_lower hb.size h.own, chain hb h.bel⟩

set_option maxHeartbeats 4000000 in
set_option maxRecDepth 100000 in
theorem pchgc_any (w : World) (a b : Int) (u : Value) (l : List Vr) (hl : VersL w u l) (hn : l.length ≤ 1000) :
    Calls Try.prog 18 #[.int .i64 a, .int .i64 b, u] w fun e w' => ∃ x, e = .returned x ∧ ListE ESp w' x (covL (chgC a b l)) ∧ Co.CovOf (covL (chgC a b l)) (Co.Mem (chgC a b l)) ∧ (covL (chgC a b l)).length ≤ 2 ∧ Below w.heap.size w w' := by
  have CA := Lib.hid (fun w' (h : Below w.heap.size w w') => pstand_any w' a u l (hl.below h) hn)
  have CB := Lib.hid (fun w' (h : Below w.heap.size w w') => pstand_any w' b u l (hl.below h) hn)
  have HLK := like_both (atC a l) (atC b l)
  have HCV := fun h : likeC (atC a l) (atC b l) = false => chg_valid (a := a) (b := b) (l := l) h
  have HNO := Lib.hid (show likeC (atC a l) (atC b l) = true → chgC a b l = [] from fun h => by rw [chgC, if_pos h])
  generalize likeC (atC a l) (atC b l) = k at *
  generalize (atC a l).getD noV = V at *
  generalize (atC b l).getD noV = U at *
  generalize (atC a l).isSome = sa at *
  generalize (atC b l).isSome = sb at *
  generalize chgC a b l = C at *
  have CV1 := Lib.hid (fun w => pvalid_any V w)
  have CV2 := Lib.hid (fun w => pvalid_any U w)
  have HMK := Lib.hid (fun (h : k = false) w' v (hv : ListE ESp w' v (validS V ++ validS U)) => show Calls Try.prog 29 #[v] w' fun e w'' => ∃ x, e = .returned x ∧ ListE ESp w'' x (covL C) ∧ Co.CovOf (covL C) (Co.Mem C) ∧ (covL C).length ≤ 2 ∧ Below w'.heap.size w' w'' by
    have e1 : covL (validS V ++ validS U) = covL C := covL_mem (HCV h)
    have e2 : Co.Mem (validS V ++ validS U) = Co.Mem C := funext fun t => propext (HCV h t)
    have hlen : (validS V ++ validS U).length ≤ 2 := by
      have h1 := validS_length V
      have h2 := validS_length U
      rw [List.length_append]; omega
    refine (pmake_cov w' v _ hv (by omega)).mono ?_
    rintro e w'' ⟨x, he, hx, hc, hz, hb⟩
    rw [e1] at hx hc hz
    rw [e2] at hc
    exact ⟨x, he, hx, hc, by omega, hb⟩)
  clear hl hn HCV
  have HKK := Lib.hid HLK
  clear HLK
  have HRET := Lib.hid (fun h : k = true => show (∀ w', ListE ESp w' (.slice none 0 0) (covL C)) ∧ Co.CovOf (covL C) (Co.Mem C) ∧ (covL C).length ≤ 2 by
    rw [HNO.out h, covL_nil]
    exact ⟨fun w' => ListE.nil _, ⟨Co.Cov.nil, fun _ => Iff.rfl⟩, by simp⟩)
  have HRET0 := HRET
  by_cases hst : V.st = U.st
  · have hst2 : (V.st == U.st) = true := by simpa using hst
    rw [hst2] at HKK
    have HST := Lib.hid hst
    clear hst
    cases sa <;> cases sb
    · have HRET := Lib.hid (HRET0.out (by rw [HKK.out]; rfl))
      clear HRET0
      go_enter Try.func18, Try.ntmps18
      go_upto_region 3 with (first
        | (go_at_call 27; (with_reducible refine (CA.out _ (bl _)).mono ?_); rintro e w1 ⟨rfl, hb1⟩; have hc1 : Below w.heap.size w (w1.alloc (ocV V)) := hb1.alloc hb1.size _)
        | (go_at_call 27; (with_reducible refine (CB.out _ hc1).mono ?_); rintro e w2 ⟨rfl, hb2⟩; have hc2 : Below w.heap.size w (w2.alloc (ocV U)) := (chain hc1 hb2).alloc (chain hc1 hb2).size _; have hx2 := ((boxV_new w1 V).below hb2).below ((bl w2).alloc (Nat.le_refl _) (ocV U))))
      refine abstract_worldW (fun W => Below w.heap.size w W ∧ BoxV W w1.heap.size V ∧ BoxV W w2.heap.size U) ⟨hc2, hx2, boxV_new w2 U⟩ ?_
      rintro W ⟨hW, hX, hY⟩
      have HW := Lib.hid hW
      have MK := Lib.hid (show ∀ w', Below W.heap.size W w' → (Below W.heap.size W w' ∧ BoxV w' w1.heap.size V ∧ BoxV w' w2.heap.size U) from fun w' h => ⟨h, hX.below h, hY.below h⟩)
      obtain ⟨x0, x1, x2, x3, x4, x5, x6⟩ := hX
      obtain ⟨y0, y1, y2, y3, y4, y5, y6⟩ := hY
      clear hW hc2 hx2 hc1 hb1 hb2
      go_wp2_with fail
      go_ret
      exact ⟨_, rfl, HRET.out.1 _, HRET.out.2.1, HRET.out.2.2, HW.out⟩
    · have hk : k = false := by rw [HKK.out]; rfl
      go_enter Try.func18, Try.ntmps18
      go_upto_region 3 with (first
        | (go_at_call 27; (with_reducible refine (CA.out _ (bl _)).mono ?_); rintro e w1 ⟨rfl, hb1⟩; have hc1 : Below w.heap.size w (w1.alloc (ocV V)) := hb1.alloc hb1.size _)
        | (go_at_call 27; (with_reducible refine (CB.out _ hc1).mono ?_); rintro e w2 ⟨rfl, hb2⟩; have hc2 : Below w.heap.size w (w2.alloc (ocV U)) := (chain hc1 hb2).alloc (chain hc1 hb2).size _; have hx2 := ((boxV_new w1 V).below hb2).below ((bl w2).alloc (Nat.le_refl _) (ocV U))))
      refine abstract_worldW (fun W => Below w.heap.size w W ∧ BoxV W w1.heap.size V ∧ BoxV W w2.heap.size U) ⟨hc2, hx2, boxV_new w2 U⟩ ?_
      rintro W ⟨hW, hX, hY⟩
      have HW := Lib.hid hW
      have MK := Lib.hid (show ∀ w', Below W.heap.size W w' → (Below W.heap.size W w' ∧ BoxV w' w1.heap.size V ∧ BoxV w' w2.heap.size U) from fun w' h => ⟨h, hX.below h, hY.below h⟩)
      obtain ⟨x0, x1, x2, x3, x4, x5, x6⟩ := hX
      obtain ⟨y0, y1, y2, y3, y4, y5, y6⟩ := hY
      clear hW hc2 hx2 hc1 hb1 hb2
      go_upto_region 5 with fail
      clear x0 x1 x2 x3 x4 x5 x6 y0 y1 y2 y3 y4 y5 y6
      first
        | (go_region_held3 (fun w' => Below W.heap.size W w' ∧ BoxV w' w1.heap.size V ∧ BoxV w' w2.heap.size U)
            (first | exact MK.out _ ((bl W).drew) | exact MK.out _ hb7 | exact MK.out _ hb6 | exact MK.out _ hb5 | exact MK.out _ hb4 | fail)
            (first
              | (go_at_call 30; (with_reducible refine (CV1.out _).mono ?_); (rintro e w4 ⟨v4, rfl, hO3⟩); (have hO4 := OE.from (by go_split_ands; assumption) hO3); (have hb4 := hO4.bel); clear hO3)
              | (go_at_call 30; (with_reducible refine (CV2.out _).mono ?_); (rintro e w5 ⟨v5, rfl, hO5⟩); (obtain ⟨B5, d5, rfl, hr5, hd5, hn5⟩ := hO5.list); (have hb5 := chain hb4 hO5.bel); (have hO45 := hO4.below hO5.bel); clear hO5 hO4)
              | (refine step_appE (E := ESp) rfl (.tmp 34) (.tmp 36) rfl rfl rfl hO45.own rfl rfl hr5 hn5 (by have h1 := validS_length V; have h2 := validS_length U; omega) hO45.bel.size ?_; intro v6 w6 hown6 hg6 _; (have hO6 := hO45.grown hg6 hown6); (have hb6 := hO6.bel))
              | (go_at_call 29; (with_reducible refine (HMK.out hk _ _ hO6.list).mono ?_); (rintro e w7 ⟨v7, rfl, hx7, hc7, hz7, hb0⟩); (have hb7 := chain hb6 hb0); clear hb0)
              | fail))
        | fail
      go_wp2_with fail
      go_ret
      exact ⟨_, rfl, hx7, hc7, hz7, chain HW.out hb7⟩
    · have hk : k = false := by rw [HKK.out]; rfl
      go_enter Try.func18, Try.ntmps18
      go_upto_region 3 with (first
        | (go_at_call 27; (with_reducible refine (CA.out _ (bl _)).mono ?_); rintro e w1 ⟨rfl, hb1⟩; have hc1 : Below w.heap.size w (w1.alloc (ocV V)) := hb1.alloc hb1.size _)
        | (go_at_call 27; (with_reducible refine (CB.out _ hc1).mono ?_); rintro e w2 ⟨rfl, hb2⟩; have hc2 : Below w.heap.size w (w2.alloc (ocV U)) := (chain hc1 hb2).alloc (chain hc1 hb2).size _; have hx2 := ((boxV_new w1 V).below hb2).below ((bl w2).alloc (Nat.le_refl _) (ocV U))))
      refine abstract_worldW (fun W => Below w.heap.size w W ∧ BoxV W w1.heap.size V ∧ BoxV W w2.heap.size U) ⟨hc2, hx2, boxV_new w2 U⟩ ?_
      rintro W ⟨hW, hX, hY⟩
      have HW := Lib.hid hW
      have MK := Lib.hid (show ∀ w', Below W.heap.size W w' → (Below W.heap.size W w' ∧ BoxV w' w1.heap.size V ∧ BoxV w' w2.heap.size U) from fun w' h => ⟨h, hX.below h, hY.below h⟩)
      obtain ⟨x0, x1, x2, x3, x4, x5, x6⟩ := hX
      obtain ⟨y0, y1, y2, y3, y4, y5, y6⟩ := hY
      clear hW hc2 hx2 hc1 hb1 hb2
      go_upto_region 5 with fail
      clear x0 x1 x2 x3 x4 x5 x6 y0 y1 y2 y3 y4 y5 y6
      first
        | (go_region_held3 (fun w' => Below W.heap.size W w' ∧ BoxV w' w1.heap.size V ∧ BoxV w' w2.heap.size U)
            (first | exact MK.out _ ((bl W).drew) | exact MK.out _ hb7 | exact MK.out _ hb6 | exact MK.out _ hb5 | exact MK.out _ hb4 | fail)
            (first
              | (go_at_call 30; (with_reducible refine (CV1.out _).mono ?_); (rintro e w4 ⟨v4, rfl, hO3⟩); (have hO4 := OE.from (by go_split_ands; assumption) hO3); (have hb4 := hO4.bel); clear hO3)
              | (go_at_call 30; (with_reducible refine (CV2.out _).mono ?_); (rintro e w5 ⟨v5, rfl, hO5⟩); (obtain ⟨B5, d5, rfl, hr5, hd5, hn5⟩ := hO5.list); (have hb5 := chain hb4 hO5.bel); (have hO45 := hO4.below hO5.bel); clear hO5 hO4)
              | (refine step_appE (E := ESp) rfl (.tmp 34) (.tmp 36) rfl rfl rfl hO45.own rfl rfl hr5 hn5 (by have h1 := validS_length V; have h2 := validS_length U; omega) hO45.bel.size ?_; intro v6 w6 hown6 hg6 _; (have hO6 := hO45.grown hg6 hown6); (have hb6 := hO6.bel))
              | (go_at_call 29; (with_reducible refine (HMK.out hk _ _ hO6.list).mono ?_); (rintro e w7 ⟨v7, rfl, hx7, hc7, hz7, hb0⟩); (have hb7 := chain hb6 hb0); clear hb0)
              | fail))
        | fail
      go_wp2_with fail
      go_ret
      exact ⟨_, rfl, hx7, hc7, hz7, chain HW.out hb7⟩
    · have HRET := Lib.hid (HRET0.out (by rw [HKK.out]; rfl))
      clear HRET0
      go_enter Try.func18, Try.ntmps18
      go_upto_region 3 with (first
        | (go_at_call 27; (with_reducible refine (CA.out _ (bl _)).mono ?_); rintro e w1 ⟨rfl, hb1⟩; have hc1 : Below w.heap.size w (w1.alloc (ocV V)) := hb1.alloc hb1.size _)
        | (go_at_call 27; (with_reducible refine (CB.out _ hc1).mono ?_); rintro e w2 ⟨rfl, hb2⟩; have hc2 : Below w.heap.size w (w2.alloc (ocV U)) := (chain hc1 hb2).alloc (chain hc1 hb2).size _; have hx2 := ((boxV_new w1 V).below hb2).below ((bl w2).alloc (Nat.le_refl _) (ocV U))))
      refine abstract_worldW (fun W => Below w.heap.size w W ∧ BoxV W w1.heap.size V ∧ BoxV W w2.heap.size U) ⟨hc2, hx2, boxV_new w2 U⟩ ?_
      rintro W ⟨hW, hX, hY⟩
      have HW := Lib.hid hW
      have MK := Lib.hid (show ∀ w', Below W.heap.size W w' → (Below W.heap.size W w' ∧ BoxV w' w1.heap.size V ∧ BoxV w' w2.heap.size U) from fun w' h => ⟨h, hX.below h, hY.below h⟩)
      obtain ⟨x0, x1, x2, x3, x4, x5, x6⟩ := hX
      obtain ⟨y0, y1, y2, y3, y4, y5, y6⟩ := hY
      clear hW hc2 hx2 hc1 hb1 hb2
      go_wp2_with fail
      go_ret
      exact ⟨_, rfl, HRET.out.1 _, HRET.out.2.1, HRET.out.2.2, HW.out⟩
  · have hst2 : (V.st == U.st) = false := by simpa using hst
    rw [hst2, Bool.and_false] at HKK
    have hk := HKK.out
    cases sa <;> cases sb
    all_goals
      go_enter Try.func18, Try.ntmps18
      go_upto_region 3 with (first
        | (go_at_call 27; (with_reducible refine (CA.out _ (bl _)).mono ?_); rintro e w1 ⟨rfl, hb1⟩; have hc1 : Below w.heap.size w (w1.alloc (ocV V)) := hb1.alloc hb1.size _)
        | (go_at_call 27; (with_reducible refine (CB.out _ hc1).mono ?_); rintro e w2 ⟨rfl, hb2⟩; have hc2 : Below w.heap.size w (w2.alloc (ocV U)) := (chain hc1 hb2).alloc (chain hc1 hb2).size _; have hx2 := ((boxV_new w1 V).below hb2).below ((bl w2).alloc (Nat.le_refl _) (ocV U))))
      refine abstract_worldW (fun W => Below w.heap.size w W ∧ BoxV W w1.heap.size V ∧ BoxV W w2.heap.size U) ⟨hc2, hx2, boxV_new w2 U⟩ ?_
      rintro W ⟨hW, hX, hY⟩
      have HW := Lib.hid hW
      have MK := Lib.hid (show ∀ w', Below W.heap.size W w' → (Below W.heap.size W w' ∧ BoxV w' w1.heap.size V ∧ BoxV w' w2.heap.size U) from fun w' h => ⟨h, hX.below h, hY.below h⟩)
      obtain ⟨x0, x1, x2, x3, x4, x5, x6⟩ := hX
      obtain ⟨y0, y1, y2, y3, y4, y5, y6⟩ := hY
      clear hW hc2 hx2 hc1 hb1 hb2
      go_upto_region 5 with fail
      clear x0 x1 x2 x3 x4 x5 x6 y0 y1 y2 y3 y4 y5 y6
      first
        | (go_region_held3 (fun w' => Below W.heap.size W w' ∧ BoxV w' w1.heap.size V ∧ BoxV w' w2.heap.size U)
            (first | exact MK.out _ ((bl W).drew) | exact MK.out _ hb7 | exact MK.out _ hb6 | exact MK.out _ hb5 | exact MK.out _ hb4 | fail)
            (first
              | (go_at_call 30; (with_reducible refine (CV1.out _).mono ?_); (rintro e w4 ⟨v4, rfl, hO3⟩); (have hO4 := OE.from (by go_split_ands; assumption) hO3); (have hb4 := hO4.bel); clear hO3)
              | (go_at_call 30; (with_reducible refine (CV2.out _).mono ?_); (rintro e w5 ⟨v5, rfl, hO5⟩); (obtain ⟨B5, d5, rfl, hr5, hd5, hn5⟩ := hO5.list); (have hb5 := chain hb4 hO5.bel); (have hO45 := hO4.below hO5.bel); clear hO5 hO4)
              | (refine step_appE (E := ESp) rfl (.tmp 34) (.tmp 36) rfl rfl rfl hO45.own rfl rfl hr5 hn5 (by have h1 := validS_length V; have h2 := validS_length U; omega) hO45.bel.size ?_; intro v6 w6 hown6 hg6 _; (have hO6 := hO45.grown hg6 hown6); (have hb6 := hO6.bel))
              | (go_at_call 29; (with_reducible refine (HMK.out hk _ _ hO6.list).mono ?_); (rintro e w7 ⟨v7, rfl, hx7, hc7, hz7, hb0⟩); (have hb7 := chain hb6 hb0); clear hb0)
              | fail))
        | fail
      go_wp2_with fail
      go_ret
      exact ⟨_, rfl, hx7, hc7, hz7, chain HW.out hb7⟩

end Go.Proofs.Ytpeifijcpemjeaa

/-
  ChainAts, ChainChanges and ChainAhead give back true for any versions and numbers.
-/
namespace Go.Proofs.Ytpeifijcpemjeaa
open Go.RowKit

theorem vf_at {w : World} {l : List Vr} (a : Int) (h : ∀ v ∈ l, VF w v) : VF w ((atC a l).getD noV) := by
  cases hx : atC a l with
  | none => exact ⟨Fields.nil _ _, Nat.le_refl _, fun _ => rfl⟩
  | some v => exact h v (atC_mem hx).1
theorem fs_at {l : List Vr} (a : Int) (h : ∀ v ∈ l, v.fs.length ≤ 1000) : ((atC a l).getD noV).fs.length ≤ 1000 := by
  cases hx : atC a l with
  | none => exact Nat.zero_le _
  | some v => exact h v (atC_mem hx).1

set_option maxHeartbeats 4000000 in
set_option maxRecDepth 10000 in
theorem ats_walk (x : Int) (u : Value) (l : List Vr) (w : World) (hl : VersL w u l) (hn : l.length ≤ 9223372036854775807) : Ret 4 #[.int .i64 x, u] w (.bool true) := by
  have CAL := Lib.hid alive10_any
  have CF := Lib.hid (fun w' (h : Below w.heap.size w w') => dfew_any w' u l 100 (hl.below h).1 hn)
  cases hf : fewB l 100 with
  | false =>
    rw [hf] at CF
    have CF0 := Lib.hid (CF.out w (bl w))
    clear CF hf hl hn
    go_enter Try.func4, Try.ntmps4
    go_wp2_with (first
      | (go_at_call 8; (with_reducible refine CF0.out.mono ?_); rintro e w1 ⟨rfl, rfl⟩)
      | (go_at_call 9; (with_reducible refine (CAL.out _).mono ?_); rintro e w2 ⟨rfl, hb⟩))
    go_ret
    exact ⟨rfl, hb⟩
  | true =>
    have hfew := few_of hf (by decide)
    rw [hf] at CF
    have CF0 := Lib.hid (CF.out w (bl w))
    have h1 : l.length ≤ 1000 := by have := hfew.1; omega
    have C1 := Lib.hid (fun w' (h : Below w.heap.size w w') => patc_any w' x u l (hl.below h) h1 (fun v hv => by have := hfew.2 v hv; omega))
    have C2 := Lib.hid (fun w' (h : Below w.heap.size w w') => datc_any w' x u l (hl.below h) (by omega))
    have hfs := fs_at x (fun v hv => show v.fs.length ≤ 1000 by have := hfew.2 v hv; omega)
    have HV := Lib.hid (vf_at x hl.2)
    generalize (atC x l).getD noV = v at *
    generalize (atC x l).isSome = is at *
    have CO := Lib.hid (fun w' A c (h : Below w.heap.size w w') (k : VF w' (twin v A c)) => show Ret 17 #[vv (twin v A c), vv v] w' (.bool true) by
      have := done_v (twin v A c) v w' k (HV.out.below h) (by show v.fs.length ≤ _; omega) (by omega)
      rwa [twin_same] at this)
    clear CF hf hl hn hfew h1 hfs
    go_enter Try.func4, Try.ntmps4
    go_upto_region 5 with (first
      | (go_at_call 8; (with_reducible refine CF0.out.mono ?_); rintro e w1 ⟨rfl, hw1⟩; obtain rfl := hw1.symm)
      | (go_at_call 15; (with_reducible refine (C1.out _ (bl _)).mono ?_); rintro e w2 ⟨A2, c2, rfl, hv2, hb2⟩; have hc2 := hb2.alloc hb2.size (ocV (twin v A2 c2)))
      | (go_at_call 16; (with_reducible refine (C2.out _ hc2).mono ?_); rintro e w3 ⟨rfl, hb3⟩; have hc3 := chain hc2 hb3; have hd3 := hc3.alloc hc3.size (ocV v); have hx3 := ((boxV_new w2 (twin v A2 c2)).below hb3).below ((bl w3).alloc (Nat.le_refl _) (ocV v)); have hv3 := ((hv2.below ((bl w2).alloc (Nat.le_refl _) (ocV (twin v A2 c2)))).below hb3).below ((bl w3).alloc (Nat.le_refl _) (ocV v))))
    refine abstract_worldW (fun W => Below w.heap.size w W ∧ BoxV W w2.heap.size (twin v A2 c2) ∧ BoxV W w3.heap.size v ∧ VF W (twin v A2 c2)) ⟨hd3, hx3, boxV_new w3 v, hv3⟩ ?_
    rintro W ⟨hd4, ⟨q0, q1, q2, q3, q4, q5, q6⟩, ⟨p0, p1, p2, p3, p4, p5, p6⟩, hv4⟩
    have HV4 := Lib.hid hv4
    clear hd3 hx3 hv3 hv4 hv2
    go_wp2_with (first
      | (go_at_call 17; (with_reducible refine (CO.out _ _ _ hd4 HV4.out).mono ?_); rintro e w4 ⟨rfl, hb4⟩; have hc4 := chain hd4 hb4)
      | (go_at_call 9; (with_reducible refine (CAL.out _).mono ?_); rintro e w9 ⟨rfl, hb9⟩; have hc9 := chain hc4 hb9))
    go_ret
    exact ⟨rfl, hc9⟩

set_option maxHeartbeats 4000000 in
set_option maxRecDepth 10000 in
theorem changes10_walk (a b : Int) (u : Value) (l : List Vr) (w : World) (hl : VersL w u l) (hn : l.length ≤ 9223372036854775807) : Ret 5 #[.int .i64 a, .int .i64 b, u] w (.bool true) := by
  have CAL := Lib.hid alive10_any
  have CF := Lib.hid (fun w' (h : Below w.heap.size w w') => dfew_any w' u l 100 (hl.below h).1 hn)
  cases hf : fewB l 100 with
  | false =>
    rw [hf] at CF
    have CF0 := Lib.hid (CF.out w (bl w))
    clear CF hf hl hn
    go_enter Try.func5, Try.ntmps5
    go_wp2_with (first
      | (go_at_call 8; (with_reducible refine CF0.out.mono ?_); rintro e w1 ⟨rfl, rfl⟩)
      | (go_at_call 9; (with_reducible refine (CAL.out _).mono ?_); rintro e w2 ⟨rfl, hb⟩))
    go_ret
    exact ⟨rfl, hb⟩
  | true =>
    have hfew := few_of hf (by decide)
    rw [hf] at CF
    have CF0 := Lib.hid (CF.out w (bl w))
    have h1 : l.length ≤ 1000 := by have := hfew.1; omega
    have C1 := Lib.hid (fun w' (h : Below w.heap.size w w') => pchgc_any w' a b u l (hl.below h) h1)
    have C2 := Lib.hid (fun w' (h : Below w.heap.size w w') => dchgc_any w' a b u l (hl.below h) (by omega))
    have C3 := Lib.hid (show ∀ w', Below w.heap.size w w' → Calls Try.prog 18 #[.int .i64 b, .int .i64 a, u] w' fun e w'' => ∃ x, e = .returned x ∧ ListE ESp w'' x (covL (chgC a b l)) ∧ Below w'.heap.size w' w'' from fun w' h => (pchgc_any w' b a u l (hl.below h) h1).mono fun e w'' ⟨x, he, hx, _, _, hb⟩ => ⟨x, he, by rw [covL_ext (chgC_mem a b l)]; exact hx, hb⟩)
    have C4 := Lib.hid (show ∀ w', Below w.heap.size w w' → Calls Try.prog 18 #[.int .i64 a, .int .i64 a, u] w' fun e w'' => ∃ A c, e = .returned (.slice A 0 c) ∧ Below w'.heap.size w' w'' from fun w' h => (pchgc_any w' a a u l (hl.below h) h1).mono fun e w'' ⟨x, he, hx, _, _, hb⟩ => by
      rw [chgC_self, covL_nil] at hx
      obtain ⟨A, c, rfl, _⟩ := hx
      exact ⟨A, c, he, hb⟩)
    have hsz : (covL (chgC a b l)).length ≤ 1000000 ∨ True := .inr trivial
    generalize hL : covL (chgC a b l) = L at *
    clear hsz CF hf hl hn hfew hL
    have CS := Lib.hid (fun w' u v (h : ListE ESp w' u L) (k : ListE ESp w' v L) (hl : L.length ≤ 2) => show Ret 19 #[u, v] w' (.bool true) by
      have := dsames_any w' u v L L h k (by omega)
      rwa [decide_eq_true rfl] at this)
    clear h1
    go_enter Try.func5, Try.ntmps5
    go_wp2_with (first
      | (go_at_call 8; (with_reducible refine CF0.out.mono ?_); rintro e w1 ⟨rfl, rfl⟩)
      | (go_at_call 18; (with_reducible refine (C1.out _ (bl _)).mono ?_); rintro e w2 ⟨u2, rfl, hl2, _, hz2, hb2⟩)
      | (go_at_call 20; (with_reducible refine (C2.out _ hb2).mono ?_); rintro e w3 ⟨u3, rfl, hl3, hb3⟩; have hc3 := chain hb2 hb3; have hk3 := hl2.below hb3)
      | (go_at_call 19; (with_reducible refine (CS.out _ _ _ hk3 hl3 hz2).mono ?_); rintro e w4 ⟨rfl, hb4⟩; have hc4 := chain hc3 hb4; have hk4 := hk3.below hb4)
      | (go_at_call 18; (with_reducible refine (C3.out _ hc4).mono ?_); rintro e w5 ⟨u5, rfl, hl5, hb5⟩; have hc5 := chain hc4 hb5; have hk5 := hk4.below hb5)
      | (go_at_call 19; (with_reducible refine (CS.out _ _ _ hl5 hk5 hz2).mono ?_); rintro e w6 ⟨rfl, hb6⟩; have hc6 := chain hc5 hb6)
      | (go_at_call 18; (with_reducible refine (C4.out _ hc6).mono ?_); rintro e w7 ⟨A7, c7, rfl, hb7⟩; have hc7 := chain hc6 hb7)
      | (go_at_call 9; (with_reducible refine (CAL.out _).mono ?_); rintro e w8 ⟨rfl, hb8⟩; have hc8 := chain hc7 hb8))
    go_ret
    exact ⟨rfl, hc8⟩

theorem vers_take {w : World} {A : Option Addr} {c : Nat} {l : List Vr} (h : RowE EV w A l) (hc : l.length ≤ c) (hnc : A = none → c = 0) (hv : ∀ v ∈ l, VF w v) {k : Nat} (hk : k ≤ l.length) : VersL w (.slice A k c) (l.take k) :=
  ⟨⟨A, c, by rw [List.length_take, Nat.min_eq_left hk], h.take k, by rw [List.length_take]; omega, hnc⟩, fun v hx => hv v (List.mem_of_mem_take hx)⟩

set_option maxHeartbeats 4000000 in
set_option maxRecDepth 10000 in
theorem ahead_walk (u : Value) (l : List Vr) (k x : Int) (w : World) (hl : VersL w u l) (hok : ∀ v ∈ l, okF v.fs) (hn : l.length ≤ 9223372036854775807) (hz : ∀ v ∈ l, v.ent.size ≤ 9223372036854775807) : Ret 7 #[u, .int .i64 k, .int .i64 x] w (.bool true) := by
  have CAL := Lib.hid alive10_any
  have CF := Lib.hid (fun w' (h : Below w.heap.size w w') => dfew_any w' u l 100 (hl.below h).1 hn)
  have HL0 := Lib.hid hl
  obtain ⟨⟨A, c, rfl, hA, hc, hnc⟩, hVF⟩ := hl
  have HL := Lib.hid HL0.out
  clear HL0
  have HA := Lib.hid hA
  have HVF := Lib.hid hVF
  cases hf : fewB l 100 with
  | false =>
    rw [hf] at CF
    have CF0 := Lib.hid (CF.out w (bl w))
    clear CF hf hok hn hA hc hnc hVF hz
    generalize l.length = n at *
    go_enter Try.func7, Try.ntmps7
    go_wp2_with (first
      | (go_at_call 8; (with_reducible refine CF0.out.mono ?_); rintro e w1 ⟨rfl, rfl⟩)
      | (go_at_call 9; (with_reducible refine (CAL.out _).mono ?_); rintro e w2 ⟨rfl, hb⟩))
    go_ret
    exact ⟨rfl, hb⟩
  | true =>
    have hfew := few_of hf (by decide)
    rw [hf] at CF
    have CF0 := Lib.hid (CF.out w (bl w))
    have h1 : l.length ≤ 1000 := by have := hfew.1; omega
    have h2 : ∀ v ∈ l, v.fs.length ≤ 1000 := fun v hv => by have := hfew.2 v hv; omega
    have CC := Lib.hid (fun w' (h : Below w.heap.size w w') => pchkc_any w' _ l (HL.out.below h) hok h1 h2 hz)
    have SL := Lib.hid (fun (j : Nat) (hj : j ≤ l.length) => slice_ahead (E := EV) (A := A) (n := l.length) (c := c) hj hc)
    have HCC := Lib.hid hc
    have HNC := Lib.hid hnc
    by_cases hk1 : k < 1
    · clear CF hf hok hn hA hc hnc hVF hz hfew h1 h2
      generalize l.length = n at *
      go_enter Try.func7, Try.ntmps7
      go_wp2_with (first
        | (go_at_call 8; (with_reducible refine CF0.out.mono ?_); rintro e w1 ⟨rfl, rfl⟩)
        | (go_at_call 9; (with_reducible refine (CAL.out _).mono ?_); rintro e w2 ⟨rfl, hb⟩))
      go_ret
      exact ⟨rfl, hb⟩
    by_cases hkn : (l.length : Int) ≤ k
    · clear CF hf hok hn hA hc hnc hVF hz hfew h1 h2
      generalize l.length = n at *
      go_enter Try.func7, Try.ntmps7
      go_wp2_with (first
        | (go_at_call 8; (with_reducible refine CF0.out.mono ?_); rintro e w1 ⟨rfl, rfl⟩)
        | (go_at_call 9; (with_reducible refine (CAL.out _).mono ?_); rintro e w2 ⟨rfl, hb⟩))
      go_ret
      exact ⟨rfl, hb⟩
    obtain ⟨j, rfl⟩ : ∃ j : Nat, k = (j : Int) := ⟨k.toNat, by omega⟩
    by_cases hz0 : chkL l = 0
    · have hj1 : 1 ≤ j := by omega
      have hjl : j < l.length := by omega
      obtain ⟨y, hy⟩ : ∃ y, l[j]? = some y := ⟨_, List.getElem?_eq_getElem hjl⟩
      obtain ⟨hr, _, _⟩ := chk_rising hz0
      have htk := chk_take hz0 hj1
      have mem : ∀ v ∈ l.take j, v ∈ l := fun v hv => List.mem_of_mem_take hv
      have HT := Lib.hid (fun w' (h : Below w.heap.size w w') => vers_take (hA.below h) hc hnc (fun v hv => (hVF v hv).below h) (Nat.le_of_lt hjl))
      have CT := Lib.hid (fun w' (h : Below w.heap.size w w') => show Ret 12 #[.slice A j c] w' (.int .i64 0) by
        have := pchkc_any w' _ (l.take j) (HT.out w' h) (fun v hv => hok v (mem v hv)) (by rw [List.length_take]; omega) (fun v hv => h2 v (mem v hv)) (fun v hv => hz v (mem v hv))
        rwa [htk] at this)
      have CA1 := Lib.hid (fun w' (h : Below w.heap.size w w') => patc_any w' x _ (l.take j) (HT.out w' h) (by rw [List.length_take]; omega) (fun v hv => h2 v (mem v hv)))
      have CA2 := Lib.hid (fun w' (h : Below w.heap.size w w') => patc_any w' x _ l (HL.out.below h) h1 h2)
      have hrun := SL.out j (Nat.le_of_lt hjl)
      have e0 : EV.s = 22 := rfl
      rw [e0] at hrun
      obtain ⟨g, off, rfl, hY⟩ := hA.cells7 hy
      rw [hz0] at CC
      have HY := Lib.hid hY
      have hfs := fs_at x h2
      have hfs1 := fs_at (l := l.take j) x (fun v hv => h2 v (mem v hv))
      have HV := Lib.hid (vf_at x hVF)
      have HV1 := Lib.hid (vf_at (l := l.take j) x (fun v hv => hVF v (mem v hv)))
      by_cases hxy : y.st ≤ x
      · have hxy' : y.st ≤ x := hxy
        generalize (atC x l).getD noV = V2 at *
        generalize (atC x (l.take j)).getD noV = V1 at *
        generalize (atC x l).isSome = b2 at *
        generalize (atC x (l.take j)).isSome = b1 at *
        have hd1 : decide ((j : Int) < 1) = false := decide_eq_false (by omega)
        have hd2 : decide (l.length ≤ j) = false := decide_eq_false (by omega)
        have hd3 : (j : Int) < (l.length : Int) := by omega
        clear CF hf hok hn hA hc hnc hVF hz hfew h1 h2 hk1 hkn hz0 hj1 hjl hy hr htk mem hfs hfs1 hY
        generalize l.length = n at *
        go_enter Try.func7, Try.ntmps7
        go_upto_region 7 with (first
          | (go_at_call 8; (with_reducible refine CF0.out.mono ?_); rintro e w1 ⟨rfl, hw1⟩; obtain rfl := hw1.symm)
          | (go_at_call 12; (with_reducible refine (CC.out _ (bl _)).mono ?_); rintro e w2 ⟨rfl, hb2⟩)
          | (go_at_call 12; (with_reducible refine (CT.out _ hb2).mono ?_); rintro e w3 ⟨rfl, hb3⟩; have hc3 := chain hb2 hb3)
          | (go_at_call 15; (with_reducible refine (CA1.out _ hc3).mono ?_); rintro e w4 ⟨A4, c4, rfl, hv4, hb4⟩; have hc4 := chain hc3 hb4; have hd4 := hc4.alloc hc4.size (ocV (twin V1 A4 c4)))
          | (go_at_call 15; (with_reducible refine (CA2.out _ hd4).mono ?_); rintro e w5 ⟨A5, c5, rfl, hv5, hb5⟩; have hc5 := chain hd4 hb5; have hd5 := hc5.alloc hc5.size (ocV (twin V2 A5 c5)); have hx5 := ((boxV_new w4 (twin V1 A4 c4)).below hb5).below ((bl w5).alloc (Nat.le_refl _) (ocV (twin V2 A5 c5)))))
        refine abstract_worldW (fun W => Below w.heap.size w W ∧ BoxV W w4.heap.size (twin V1 A4 c4) ∧ BoxV W w5.heap.size (twin V2 A5 c5) ∧ Cells7 W g (off + j * 7) y) ⟨hd5, hx5, boxV_new w5 (twin V2 A5 c5), HY.out.below hd5⟩ ?_
        rintro W ⟨hd6, ⟨q0, q1, q2, q3, q4, q5, q6⟩, ⟨p0, p1, p2, p3, p4, p5, p6⟩, ⟨z0, z1, z2, z3, z4, z5, z6⟩⟩
        clear hd5 hx5 hd4
        go_wp2_with (go_at_call 9; (with_reducible refine (CAL.out _).mono ?_); rintro e w9 ⟨rfl, hb9⟩; have hc9 := chain hd6 hb9)
        go_ret
        exact ⟨rfl, hc9⟩
      · have hxd : decide (y.st ≤ x) = false := decide_eq_false hxy
        have hq := atC_ahead hr hy (by omega : x < y.st)
        rw [hq] at CA1
        generalize hV2 : (atC x l).getD noV = V2 at *
        generalize (atC x l).isSome = b2 at *
        have CO := Lib.hid (fun w' A c B d (h : VF w' (twin V2 A c)) (k : VF w' (twin V2 B d)) => show Ret 17 #[vv (twin V2 A c), vv (twin V2 B d)] w' (.bool true) by
          have := done_v (twin V2 A c) (twin V2 B d) w' h k (by show V2.fs.length ≤ _; omega) (by show V2.fs.length ≤ _; omega)
          rwa [twin_sameV] at this)
        clear hq hV2
        clear HV1 HV
        have hd1 : decide ((j : Int) < 1) = false := decide_eq_false (by omega)
        have hd2 : decide (l.length ≤ j) = false := decide_eq_false (by omega)
        have hd3 : (j : Int) < (l.length : Int) := by omega
        clear CF hf hok hn hA hc hnc hVF hz hfew h1 h2 hk1 hkn hz0 hj1 hjl hy hr htk mem hfs hfs1 hY
        generalize l.length = n at *
        go_enter Try.func7, Try.ntmps7
        go_upto_region 7 with (first
          | (go_at_call 8; (with_reducible refine CF0.out.mono ?_); rintro e w1 ⟨rfl, hw1⟩; obtain rfl := hw1.symm)
          | (go_at_call 12; (with_reducible refine (CC.out _ (bl _)).mono ?_); rintro e w2 ⟨rfl, hb2⟩)
          | (go_at_call 12; (with_reducible refine (CT.out _ hb2).mono ?_); rintro e w3 ⟨rfl, hb3⟩; have hc3 := chain hb2 hb3)
          | (go_at_call 15; (with_reducible refine (CA1.out _ hc3).mono ?_); rintro e w4 ⟨A4, c4, rfl, hv4, hb4⟩; have hc4 := chain hc3 hb4; have hd4 := hc4.alloc hc4.size (ocV (twin V2 A4 c4)))
          | (go_at_call 15; (with_reducible refine (CA2.out _ hd4).mono ?_); rintro e w5 ⟨A5, c5, rfl, hv5, hb5⟩; have hc5 := chain hd4 hb5; have hd5 := hc5.alloc hc5.size (ocV (twin V2 A5 c5)); have hx5 := ((boxV_new w4 (twin V2 A4 c4)).below hb5).below ((bl w5).alloc (Nat.le_refl _) (ocV (twin V2 A5 c5))); have hv45 := ((hv4.below ((bl w4).alloc (Nat.le_refl _) (ocV (twin V2 A4 c4)))).below hb5).below ((bl w5).alloc (Nat.le_refl _) (ocV (twin V2 A5 c5))); have hv55 := hv5.below ((bl w5).alloc (Nat.le_refl _) (ocV (twin V2 A5 c5)))))
        refine abstract_worldW (fun W => Below w.heap.size w W ∧ BoxV W w4.heap.size (twin V2 A4 c4) ∧ BoxV W w5.heap.size (twin V2 A5 c5) ∧ Cells7 W g (off + j * 7) y ∧ VF W (twin V2 A4 c4) ∧ VF W (twin V2 A5 c5)) ⟨hd5, hx5, boxV_new w5 (twin V2 A5 c5), HY.out.below hd5, hv45, hv55⟩ ?_
        rintro W ⟨hd6, ⟨q0, q1, q2, q3, q4, q5, q6⟩, ⟨p0, p1, p2, p3, p4, p5, p6⟩, ⟨z0, z1, z2, z3, z4, z5, z6⟩, hva, hvb⟩
        have HVA := Lib.hid hva
        have HVB := Lib.hid hvb
        clear hd5 hx5 hd4 hv4 hv5 hv45 hv55 hva hvb
        go_wp2_with (first
          | (go_at_call 17; (with_reducible refine (CO.out _ _ _ _ _ HVA.out HVB.out).mono ?_); rintro e w8 ⟨rfl, hb8⟩; have hc8 := chain hd6 hb8)
          | (go_at_call 9; (with_reducible refine (CAL.out _).mono ?_); rintro e w9 ⟨rfl, hb9⟩; have hc9 := chain hc8 hb9))
        go_ret
        exact ⟨rfl, hc9⟩
    · have hz1 : ¬ ((chkL l : Nat) : Int) = 0 := by omega
      have hj1 : ¬ (j : Int) < 1 := hk1
      have hjl : ¬ (l.length : Int) ≤ (j : Int) := hkn
      generalize chkL l = z at *
      have hd1 : decide ((j : Int) < 1) = false := decide_eq_false hj1
      have hd2 : decide (l.length ≤ j) = false := decide_eq_false (by omega)
      clear CF hf hok hn hA hc hnc hVF hz hfew h1 h2 hk1 hkn hz0
      generalize l.length = n at *
      go_enter Try.func7, Try.ntmps7
      go_wp2_with (first
        | (go_at_call 8; (with_reducible refine CF0.out.mono ?_); rintro e w1 ⟨rfl, hw1⟩; obtain rfl := hw1.symm)
        | (go_at_call 12; (with_reducible refine (CC.out _ (bl _)).mono ?_); rintro e w3 ⟨rfl, hb3⟩)
        | (go_at_call 9; (with_reducible refine (CAL.out _).mono ?_); rintro e w2 ⟨rfl, hb⟩; have hb2 := chain hb3 hb))
      go_ret
      exact ⟨rfl, hb2⟩

end Go.Proofs.Ytpeifijcpemjeaa
