/-
  Texts joined into one: what the program's and the document's calls give back, piece by piece.
-/
import Derived.Test.YtmhddpgeiijhgaaMg1
import Derived.Test.YtmhddpgeiijhgaaMg2
import Derived.Test.YtmhddpgeiijhgaaMg3
import Derived.Test.YtmhddpgeiijhgaaRows
import Derived.BigQuiet
import Derived.ChangeAlike
import Derived.Deep.AppendLies
import Derived.Deep.QuietTactic
import Derived.Deep.RegionHeld3
import Derived.Deep.RegionLaw
import Derived.Handy
import Derived.Lib.Hide
import Derived.Lib.SmallJoins
import Derived.OneCell
import Derived.ProofKit
import Derived.RegionTactic
import Derived.WalkKit
import Derived.WalkLawsBesides
import Derived.WalkSpells
import Derived.Laws.OwnMore
import Derived.Maps.AppendAt
import Derived.ChangeKeysEq
import Derived.Deep.CutBlock
import Derived.Deep.CutRange
import Derived.Deep.Light
import Derived.Laws.BytesArg
import Derived.Laws.Strings
import Derived.Laws.StructEq
import Derived.OwnWalk
import Derived.StillTailTactics
import Derived.WalkArith
import Derived.Deep.OwnRows
import Derived.Test.YtmhddpgeiijhgaaChecked
import Derived.ChangeMaps5
import Derived.Deep.SlicePairs
import Derived.DeepKeys4
import Derived.Lib.Bytealg
import Derived.Maps.OwnSet
import Derived.Maps.RangeWalk
import Derived.OpenShut
import Derived.RangeFuncOwn
import Derived.SizedLaws

/-
  Lists of numbers in memory; what the call owns stays owned over a call that makes new blocks alone.
-/
namespace Go.Proofs.Ytmhddpgeiijhgaa.Co
open Go.RowKit

theorem Try.infoInt : (Try.prog.info? 3).map (fun i => (i.zero, i.size, i.bytes)) = some (some (.int .i64 0), 1, 8) := by kernel_rfl

/-- From A on the numbers of l lie, one behind the other. -/
def Ints (w : World) (A : Option Addr) (l : List Int) : Prop := ∀ i x, l[i]? = some x → ∃ g off, A = some ⟨g, off, none⟩ ∧ w.cell? ⟨g, off + i, none⟩ = some (.int .i64 x)

theorem lt_of_cell {w : World} {g o : Nat} {u : Value} (h : w.cell? ⟨g, o, none⟩ = some u) : g < w.heap.size := by
  rcases Nat.lt_or_ge g w.heap.size with hlt | hge
  · exact hlt
  · simp [World.cell?, Array.getElem?_eq_none hge] at h
theorem Ints.below {w w' : World} {A : Option Addr} {l : List Int} (h : Ints w A l) (hb : Below w.heap.size w w') : Ints w' A l := fun i x hx => by
  obtain ⟨g, off, rfl, c0⟩ := h i x hx
  exact ⟨g, off, rfl, (hb.cell (p := ⟨g, _, none⟩) (lt_of_cell c0)).trans c0⟩
theorem Ints.nil (w : World) (A : Option Addr) : Ints w A [] := fun i p h => by simp at h
theorem own_ints {w : World} {base : Nat} {v : Value} {l : List Int} (h : w.ownsRow base 3 1 v l.length (l.map (Value.int .i64))) : ∃ A c, v = .slice A l.length c ∧ Ints w A l := by
  rcases Nat.eq_zero_or_pos l.length with h0 | h0
  · obtain rfl := List.eq_nil_of_length_eq_zero h0
    rcases h.2 with ⟨hv, _⟩ | ⟨g, cap, cur, hv, _⟩
    · exact ⟨_, _, hv, Ints.nil _ _⟩
    · exact ⟨_, _, hv, Ints.nil _ _⟩
  · obtain ⟨g, cap, rfl, _, _⟩ := h.form h0
    refine ⟨_, _, rfl, fun i x hx => ⟨g, 0, rfl, ?_⟩⟩
    have add : ∀ n, (⟨g, 0, none⟩ : Addr).add n = ⟨g, 0 + n, none⟩ := fun n => by unfold Addr.add; split <;> simp_all
    have c0 := h.cells (g := g) rfl i (.int .i64 x) (by simp [hx])
    rwa [add] at c0
/-- What the call owns stays owned over a call that makes new blocks alone. -/
theorem own_below {w w' : World} {base e size n : Nat} {v : Value} {xs : List Value} (h : w.ownsRow base e size v n xs) (hb : Below w.heap.size w w') : w'.ownsRow base e size v n xs :=
  h.kept (row := none) ⟨hb.os, hb.tape, hb.output, hb.size, fun k hk _ => hb.block k hk⟩ (by cases v.ownBlock <;> simp)

theorem news_one (w : World) (x : Int) (ty : TypeId) : ∀ j u, [Value.int .i64 x][j]? = some u → (w.alloc (.cells #[.int .i64 x] ty)).cell? ((⟨w.heap.size, 0, none⟩ : Addr).add j) = some u :=
  World.news_of_block (cs := #[.int .i64 x]) (heap_alloc_new w _)

end Go.Proofs.Ytmhddpgeiijhgaa.Co

/-
  append of numbers onto a list of the call's own, whatever the source: what it leaves, also as one step of a statement whose order is open.
-/
namespace Go.Proofs.Ytmhddpgeiijhgaa.Co
open Go.RowKit

abbrev ownI (w : World) (base : Nat) (v : Value) (ts : List Int) : Prop := w.ownsRow base 3 1 v ts.length (ts.map (Value.int .i64))

set_option maxRecDepth 100000 in
theorem run_app (w : World) {base : Nat} {v : Value} {ts : List Int} (hown : ownI w base v ts) (B : Option Addr) (c : Nat) (xs : List Int) (hx : Ints w B xs) (hc : B = none → c = 0)
    (hl : ts.length + xs.length ≤ 1000000) (hbase : base ≤ w.heap.size) (ty : TypeId) :
    ∃ v' w', (Builtin.append_ #[32, 32] ty #[v, .slice B xs.length c]).run Try.prog w = .ok v' w' ∧ ownI w' base v' (ts ++ xs) ∧ w.grownBy w' v.ownBlock ∧ (v'.ownBlock = v.ownBlock ∨ v'.ownBlock = some w.heap.size) := by
  obtain ⟨i0, hi, hz0, hz1, hz2⟩ := info_parts Try.infoInt
  rcases B with _ | ad
  · obtain rfl : xs = [] := by
      rcases xs with _ | ⟨x, xs⟩
      · rfl
      · obtain ⟨_, _, h, _⟩ := hx 0 x (by simp)
        cases h
    obtain rfl := hc rfl
    exact ⟨v, w, run_append_owned_none (P := Try.prog) w base 32 ty 3 i0 1 Try.underlying32 hi v _ _ hown, by simpa [ownI] using hown, World.grownBy.refl _ _, .inl rfl⟩
  · have hcell : ∀ j u, (xs.map (Value.int .i64))[j]? = some u → w.cell? (ad.add j) = some u := fun j u hu => by
      rw [List.getElem?_map] at hu
      rcases hq : xs[j]? with _ | x
      · simp [hq] at hu
      · obtain ⟨g, off, h, hcl⟩ := hx j x hq
        injection h with h
        subst h
        obtain rfl : Value.int .i64 x = u := by simpa [hq] using hu
        rw [Go.WideShapes.add_plain]
        exact hcl
    obtain ⟨v', w', hrun, h2, h3, _, h5⟩ := run_append_own_at (P := Try.prog) w base 32 ty 3 i0 (.int .i64 0) 1 8 Try.underlying32 hi hz0 hz1 hz2 rfl (by decide) v _ _ hown ad xs.length c (xs.map (Value.int .i64)) (by simp) hcell
      (fun u hu => by obtain ⟨x, _, rfl⟩ := List.mem_map.1 hu; simp [Value.oneCell']) (by unfold maxLen; omega) (by omega) hbase
    exact ⟨v', w', hrun, by simpa [ownI] using h2, h3, h5⟩

set_option maxRecDepth 100000 in
theorem step_app {ops : Array Oper} {o : Oper} {a : Act} {w : World} {K : Act → World → Prop} {Q : Exit → Act → World → Prop} {E : Prop} (hgd : o.guard = none) (s x : Operand)
    (ho : o.op = .call { callee := .builtin .append, args := #[s, x], argTypes := #[32, 32] })
    {base : Nat} {v : Value} {ts : List Int} (hs : a.eval s = v) (hown : ownI w base v ts) {B : Option Addr} {c m : Nat} {xs : List Int} (hv : a.eval x = .slice B m c) (hm : m = xs.length) (hx : Ints w B xs) (hc : B = none → c = 0)
    (hl : ts.length + xs.length ≤ 1000000) (hbase : base ≤ w.heap.size)
    (h : ∀ v' w', ownI w' base v' (ts ++ xs) → w.grownBy w' v.ownBlock → (v'.ownBlock = v.ownBlock ∨ v'.ownBlock = some w.heap.size) → K (a.put o.dst v') w') :
    if Region.wanted o (yielded ops a.tmps) = true then Oper.wp Try.prog o a w K Q else E := by
  subst hm
  have hw : Region.wanted o (yielded ops a.tmps) = true := by simp [Region.wanted, hgd]
  rw [if_pos hw]
  obtain ⟨v', w', hrun, h2, h3, h4⟩ := run_app w hown B c xs hx hc hl hbase o.type
  unfold Oper.wp execOp
  simp only [ho, resolve, invoke, builtin, Sem.run_bind, Sem.run_pure, Result.andThen_ok, List.map_toArray, List.map_cons, List.map_nil, hs, hv, hrun]
  exact h v' w' h2 h3 h4

end Go.Proofs.Ytmhddpgeiijhgaa.Co

/-
  What the document's Rise gives back for any numbers: each once, rising.
-/
namespace Go.Proofs.Ytmhddpgeiijhgaa.Co
open Go.RowKit

/-- What holds at the head of each outer round. -/
def RiseRel (w : World) (o : List Int) (v : Value) (wr : World) : Prop := ownI wr w.heap.size v o ∧ Below w.heap.size w wr
/-- All that stand ahead of place k are less than x. -/
def Less (o : List Int) (x : Int) (k : Nat) : Prop := ∀ j y, j < k → o[j]? = some y → y < x
theorem Less.next {o : List Int} {x y : Int} {k : Nat} (h : Less o x k) (hy : o[k]? = some y) (hlt : y < x) : Less o x (k + 1) := fun j z hj hz => by
  rcases Nat.lt_or_ge j k with h1 | h1
  · exact h j z h1 hz
  · obtain rfl : j = k := by omega
    rw [hy] at hz
    injection hz with hz
    omega

theorem belowN' {B : Nat} {a w : World} (h : Below B a w) (n : Nat) : Below B a (w.drewN n) := ⟨h.os, h.tape, h.output, h.size, h.block⟩
theorem own_le {w : World} {base : Nat} {A : Option Addr} {c : Nat} {l : List Int} (h : ownI w base (.slice A l.length c) l) : l.length ≤ c := by
  rcases h.2 with ⟨hv, h0⟩ | ⟨g, cap, cur, hv, _, _, hn, _⟩
  · omega
  · injection hv with _ _ hc
    omega

theorem abstract_world {P : Program} {code : Code} {Q : Exit → Act → World → Prop} {a : Act} {w : World} (R : World → Prop) (h0 : R w) (h : ∀ W, R W → Code.wp P code Q a W) : Code.wp P code Q a w := h w h0
theorem Ints.take {w : World} {A : Option Addr} {l : List Int} (h : Ints w A l) (k : Nat) : Ints w A (l.take k) := fun i x hx => by
  rcases Nat.lt_or_ge i k with hi | hi
  · rw [List.getElem?_take_of_lt hi] at hx
    exact h i x hx
  · rw [List.getElem?_take_eq_none hi] at hx
    cases hx
theorem Ints.drop {w : World} {g off : Nat} {l : List Int} (h : Ints w (some ⟨g, off, none⟩) l) (k : Nat) : Ints w (some ⟨g, off + k, none⟩) (l.drop k) := fun i x hx => by
  rw [List.getElem?_drop] at hx
  obtain ⟨g', off', e, hc⟩ := h (k + i) x hx
  injection e with e
  injection e with e1 e2
  subst e1 e2
  exact ⟨g, off + k, rfl, by rw [Nat.add_assoc]; exact hc⟩
theorem below_grown {a w w1 : World} {row : Option Nat} (h : Below a.heap.size a w) (hg : w.grownBy w1 row) (hr : ∀ r, row = some r → a.heap.size ≤ r) : Below a.heap.size a w1 := h.grown hg h.size hr
theorem own_empty {w : World} {b base : Nat} (h : w.heap[b]? = some (.cells #[] 3 (0, 0))) (hb : base ≤ b) : ownI w base (.slice (some ⟨b, 0, none⟩) 0 0) [] :=
  ⟨by simp, .inr ⟨b, 0, #[], rfl, hb, h, by simp, by simp [maxLen], by simp, by simp⟩⟩
theorem own_e1 (W : World) : ownI (W.alloc (.cells #[] 3)).drew W.heap.size (.slice (some ⟨W.heap.size, 0, none⟩) 0 0) [] := own_empty (heap_alloc_new W _) (Nat.le_refl _)
theorem own_e2 (W : World) (x : Int) : ownI ((W.alloc (.cells #[] 3)).alloc (.cells #[.int .i64 x] 3)).drew W.heap.size (.slice (some ⟨W.heap.size, 0, none⟩) 0 0) [] :=
  own_empty ((Below.heap_alloc (W.alloc (.cells #[] 3)) _ W.heap.size (by simp)).trans (heap_alloc_new W _)) (Nat.le_refl _)
theorem own_e3 (W : World) (x : Int) : ownI ((W.alloc (.cells #[.int .i64 x] 3)).alloc (.cells #[] 3)).drew W.heap.size (.slice (some ⟨W.heap.size + 1, 0, none⟩) 0 0) [] :=
  own_empty (w := ((W.alloc (.cells #[.int .i64 x] 3)).alloc (.cells #[] 3))) (by have := heap_alloc_new (W.alloc (.cells #[.int .i64 x] 3)) (.cells #[] 3); simpa using this) (by omega)
theorem ints_one (w : World) (x : Int) (t : TypeId) : Ints (w.alloc (.cells #[.int .i64 x] t)) (some ⟨w.heap.size, 0, none⟩) [x] := fun i y hy => by
  rcases i with _ | i
  · obtain rfl : x = y := by simpa using hy
    exact ⟨_, _, rfl, by simp [go_sem]⟩
  · simp at hy
theorem ints_cell {w : World} {b : Nat} {x : Int} (h : w.cell? ⟨b, 0, none⟩ = some (.int .i64 x)) : Ints w (some ⟨b, 0, none⟩) [x] := fun i y hy => by
  rcases i with _ | i
  · obtain rfl : x = y := by simpa using hy
    exact ⟨_, _, rfl, h⟩
  · simp at hy
theorem x_e2 {W w1 : World} {x : Int} (hg : ((W.alloc (.cells #[] 3)).alloc (.cells #[.int .i64 x] 3)).drew.grownBy w1 (Value.slice (some ⟨W.heap.size, 0, none⟩) 0 0).ownBlock) : Ints w1 (some ⟨W.heap.size + 1, 0, none⟩) [x] :=
  ints_cell (hg.cell (by simp [go_sem]) (by simp [Value.ownBlock]))
theorem x_e3 {W w1 : World} {x : Int} (hg : ((W.alloc (.cells #[.int .i64 x] 3)).alloc (.cells #[] 3)).drew.grownBy w1 (Value.slice (some ⟨W.heap.size + 1, 0, none⟩) 0 0).ownBlock) : Ints w1 (some ⟨W.heap.size, 0, none⟩) [x] :=
  ints_cell (hg.cell (by simp [go_sem]) (by simp [Value.ownBlock]))
theorem rise_own {w : World} {b b' : Nat} {v : Value} {ts : List Int} (hb : b ≤ b') (h : ownI w b' v ts) : ownI w b v ts := by
  refine ⟨h.1, ?_⟩
  rcases h.2 with h2 | ⟨g, cap, cur, hv, hg, r⟩
  · exact .inl h2
  · exact .inr ⟨g, cap, cur, hv, by omega, r⟩
theorem own_nil_cap {w : World} {base : Nat} {A : Option Addr} {c : Nat} {l : List Int} (h : ownI w base (.slice A l.length c) l) : A = none → c = 0 := by
  rintro rfl
  rcases h.2 with ⟨hv, h0⟩ | ⟨g, cap, cur, hv, _⟩
  · injection hv
  · injection hv with h
    cases h

end Go.Proofs.Ytmhddpgeiijhgaa.Co

/-
  The document's One and Same of versions.
-/
namespace Go.Proofs.Ytmhddpgeiijhgaa
open Go.RowKit

theorem Try.noGuardSpan : Try.prog.eqGuardType Try.prog.depth 26 = false := by kernel_rfl
set_option maxRecDepth 100000 in
theorem run_eql_span (a b c d : Int) (w : World) : (binOp .eql 26 (.agg #[.int .i64 a, .int .i64 b]) (.agg #[.int .i64 c, .int .i64 d])).run Try.prog w = .ok (.bool (decide (a = c ∧ b = d))) w := by
  rw [run_eql_struct, run_equalIn_struct w 9999 26 _ _ Try.underlying26 (by kernel_rfl)]
  have h3 := Try.underlying3
  have a3 : ∀ w, (isAgg 3).run Try.prog w = .ok false w := Try.isAgg3
  have c3 : Try.prog.cellsOf 3 = 1 := by kernel_rfl
  simp [Op.eqFields, Program.fieldsOf, Try.underlying26, part, a3, run_equalIn_int w 9998 _ .i64 .i64 _ _ h3]
  by_cases h1 : a = c
  · by_cases h2 : b = d <;> simp [h1, h2]
  · simp [h1]

end Go.Proofs.Ytmhddpgeiijhgaa

/-
  The chapter's example of buckets.
-/
namespace Go.Proofs.Ytmhddpgeiijhgaa
open Go.RowKit

theorem eql_spanB (a b : Int) : ∀ w, (binOp .eql 26 (.agg #[.int .i64 a, .int .i64 b]) (.agg #[.int .i64 a, .int .i64 b])).run Try.prog w = .ok (.bool true) w := fun w => by rw [run_eql_span, decide_eq_true ⟨rfl, rfl⟩]
set_option maxHeartbeats 4000000 in
set_option maxRecDepth 100000 in
theorem alive13_any (w : World) : Ret 12 #[] w (.bool true) := by
  have CF := Lib.hid (fun w => pbfloor_any (-1) 10 w)
  have CS := Lib.hid (fun w => pbspan_any (-1) 10 w)
  have e1 : floorV (-1) 10 = -1 ∧ floorE (-1) 10 = 0 := by decide
  have e2 : (spanV (-1) 10).1 = -10 ∧ (spanV (-1) 10).2 = 0 ∧ spanB (-1) 10 = true := by decide
  rw [e1.1, e1.2] at CF
  rw [e2.1, e2.2.1, e2.2.2] at CS
  have h' := eql_spanB (-10) 0
  clear e1 e2
  go_enter Try.func12, Try.ntmps12
  go_wp2_with (first
    | (go_at_call 8; (with_reducible refine (CF.out _).mono ?_); rintro e w2 ⟨rfl, hb2⟩)
    | (go_at_call 10; (with_reducible refine (CS.out _).mono ?_); rintro e w3 ⟨rfl, hb3⟩))
  go_ret
  exact ⟨rfl, (chain hb2 hb3).alloc (chain hb2 hb3).size _⟩

end Go.Proofs.Ytmhddpgeiijhgaa

/-
  The statement of what is put and dropped again, walked.
-/
namespace Go.Proofs.Ytmhddpgeiijhgaa
open Go.RowKit

theorem few13 {l : List Vr} {m : Int} (h : fewB l m = true) : (l.length : Int) ≤ m ∧ ∀ v ∈ l, v.fs.length ≤ 20 := by
  unfold fewB at h
  rw [Bool.and_eq_true, decide_eq_true_eq, List.all_eq_true] at h
  exact ⟨h.1, fun v hv => by simpa using h.2 v hv⟩
theorem below_turn13 {base : Nat} {W w w' : World} {M : Nat} (h : Below base W w) (hg : w.grownBy w' (some M)) (hM : base ≤ M) (hb : base ≤ w.heap.size) : Below base W w' :=
  ⟨hg.os.trans h.os, hg.tape.trans h.tape, hg.output.trans h.output, Nat.le_trans h.size hg.size, fun k hk => (hg.block k (by omega) (fun e => by injection e with e; omega)).trans (h.block k hk)⟩
set_option maxHeartbeats 8000000 in
set_option maxRecDepth 100000 in
theorem back13_walk (u : Value) (l : List Vr) (x n : Int) (W : World) (hl : VersL W u l) (hw : ∀ v ∈ l, okF v.fs) (hn : l.length ≤ 9223372036854775807) : Ret 7 #[u, .int .i64 x, .int .i64 n] W (.bool true) := by
  have CA := Lib.hid (fun w => alive13_any w)
  have CW := Lib.hid (dwidth13_any x)
  have CAN := Lib.hid pall13_nil
  have CPN := Lib.hid pput13_nil
  have CDN := Lib.hid pdrop13_nil
  have HL := Lib.hid hl
  obtain ⟨⟨A, c, rfl, hA, hc, h0⟩, hv⟩ := hl
  cases hwx : widthB x with
  | false =>
    rw [hwx] at CW
    have CN := Lib.hid (fun w => pnew13_bad x w hwx)
    clear hwx hv hA hw
    go_enter Try.func7, Try.ntmps7
    go_wp2_with (first
      | (go_at_call 26; (with_reducible refine (CAN.out _).mono ?_); rintro e w1 ⟨rfl, rfl⟩)
      | (go_at_call 21; (with_reducible refine (CPN.out _ _ _ _).mono ?_); rintro e w2 ⟨rfl, rfl⟩)
      | (go_at_call 20; (with_reducible refine (CDN.out _ _ _ _).mono ?_); rintro e w3 ⟨rfl, rfl⟩)
      | (go_at_call 17; (with_reducible refine (CN.out _).mono ?_); rintro e w4 ⟨rfl, rfl⟩)
      | (go_at_call 18; (with_reducible refine (CW.out _).mono ?_); rintro e w5 ⟨rfl, rfl⟩)
      | (go_at_call 12; (with_reducible refine (CA.out _).mono ?_); rintro e w7 ⟨rfl, hb7⟩))
    go_ret
    exact ⟨rfl, hb7⟩
  | true =>
    rw [hwx] at CW
    have hx := (widthB_iff x).1 hwx
    have CN := Lib.hid (fun w => pnew13_any x w hwx)
    have CF := Lib.hid (fun w' (h : Below W.heap.size W w') => dfew_any w' (.slice A l.length c) l 100 (HL.out.below h).1 hn)
    clear hwx
    by_cases hl0 : l.length = 0
    · have hl1 : (l.length : Int) = 0 := by omega
      have hl2 : ((l.length : Int) == 0) = true := by simpa using hl0
      generalize l.length = nl at *
      subst hl0
      clear hv hA hw
      go_enter Try.func7, Try.ntmps7
      go_wp2_with (first
        | (go_at_call 26; (with_reducible refine (CAN.out _).mono ?_); rintro e w1 ⟨rfl, rfl⟩)
        | (go_at_call 21; (with_reducible refine (CPN.out _ _ _ _).mono ?_); rintro e w2 ⟨rfl, rfl⟩)
        | (go_at_call 20; (with_reducible refine (CDN.out _ _ _ _).mono ?_); rintro e w3 ⟨rfl, rfl⟩)
        | (go_at_call 18; (with_reducible refine (CW.out _).mono ?_); rintro e w5 ⟨rfl, rfl⟩)
        | (go_at_call 19; (with_reducible refine (CF.out _ HB4.out).mono ?_); rintro e w6 ⟨rfl, rfl⟩)
        | (go_at_call 12; (with_reducible refine (CA.out _).mono ?_); rintro e w7 ⟨rfl, hb7⟩)
        | (go_at_call 17; (with_reducible refine (CN.out _).mono ?_); rintro e w4 ⟨S, M, D, rfl, hs4, hS4, hM4, hb4⟩; have HS4 := Lib.hid hs4; have HM4 := Lib.hid hM4; have HB4 := Lib.hid hb4; clear hs4 hS4 hM4 hb4))
      go_ret
      exact ⟨rfl, chain HB4.out hb7⟩
    · have hl1 : ¬ (l.length : Int) = 0 := by omega
      have hl2 : ((l.length : Int) == 0) = false := by simpa using hl0
      cases hf : fewB l 100 with
      | false =>
        rw [hf] at CF
        clear hv hA hw hf
        generalize l.length = nl at *
        go_enter Try.func7, Try.ntmps7
        go_wp2_with (first
          | (go_at_call 26; (with_reducible refine (CAN.out _).mono ?_); rintro e w1 ⟨rfl, rfl⟩)
          | (go_at_call 21; (with_reducible refine (CPN.out _ _ _ _).mono ?_); rintro e w2 ⟨rfl, rfl⟩)
          | (go_at_call 20; (with_reducible refine (CDN.out _ _ _ _).mono ?_); rintro e w3 ⟨rfl, rfl⟩)
          | (go_at_call 18; (with_reducible refine (CW.out _).mono ?_); rintro e w5 ⟨rfl, rfl⟩)
          | (go_at_call 19; (with_reducible refine (CF.out _ HB4.out).mono ?_); rintro e w6 ⟨rfl, rfl⟩)
          | (go_at_call 12; (with_reducible refine (CA.out _).mono ?_); rintro e w7 ⟨rfl, hb7⟩)
          | (go_at_call 17; (with_reducible refine (CN.out _).mono ?_); rintro e w4 ⟨S, M, D, rfl, hs4, hS4, hM4, hb4⟩; have HS4 := Lib.hid hs4; have HM4 := Lib.hid hM4; have HB4 := Lib.hid hb4; clear hs4 hS4 hM4 hb4))
        go_ret
        exact ⟨rfl, chain HB4.out hb7⟩
      | true =>
        rw [hf] at CF
        obtain ⟨hn100, hfs⟩ := few13 hf
        obtain ⟨nl, hnl⟩ : ∃ nl, l.length = nl := ⟨_, rfl⟩
        rw [hnl] at hl1 hl2 hn100 hc CF hl0 ⊢
        have hfn : ∀ v ∈ l, ∀ f ∈ v.fs, f.n.size ≤ maxLen := fun v hv f hf => by have := hw v hv f hf; unfold maxLen; omega
        obtain ⟨P, hP⟩ : ∃ P, n.tmod (nl : Int) = P := ⟨_, rfl⟩
        have hP1 : P < nl := by rw [← hP]; exact Int.tmod_lt_of_pos n (by omega)
        have hP2 : -(nl : Int) < P := by rw [← hP]; exact Int.lt_tmod_of_pos n (by omega)
        obtain ⟨kk, hkk, hkl⟩ : ∃ kk : Nat, (P + (nl : Int)).tmod (nl : Int) = (kk : Int) ∧ kk < nl := by
          have h1 := Int.tmod_lt_of_pos (P + (nl : Int)) (show (0 : Int) < nl by omega)
          have h2 := Int.tmod_nonneg (nl : Int) (show (0 : Int) ≤ P + (nl : Int) by omega)
          exact ⟨((P + (nl : Int)).tmod (nl : Int)).toNat, by omega, by omega⟩
        have q1 : wrap64 P = P := IntWalk.wrap64_in _ (by omega)
        have vP : Value.int .i64 (n.tmod (nl : Int)) = .int .i64 P := by rw [hP]
        have vP2 : Value.int .i64 (wrap64 (n.tmod (nl : Int))) = .int .i64 P := by rw [hP, q1]
        clear hP
        have q2 : wrap64 (P + (nl : Int)) = P + (nl : Int) := IntWalk.wrap64_in _ (by omega)
        have q3 : wrap64 (kk : Int) = (kk : Int) := IntWalk.wrap64_in _ (by omega)
        have vK : Value.int .i64 ((P + (nl : Int)).tmod (nl : Int)) = .int .i64 (kk : Int) := by rw [hkk]
        have vK2 : Value.int .i64 (wrap64 ((P + (nl : Int)).tmod (nl : Int))) = .int .i64 (kk : Int) := by rw [hkk, q3]
        clear hkk
        have hl1' : (nl : Int) ≠ 0 := hl1
        have hkl' : kk ≤ nl := Nat.le_of_lt hkl
        obtain ⟨B, hrun1, hrow1, hB0⟩ := slice_from (E := EV) (A := A) (n := nl) (c := c) (k := kk) hkl' hc h0
        have hrun1 : ∀ w, (Instr.slice 43 (.slice A nl c) (some (.int .i64 (kk : Int))) none none).run Try.prog w = .ok (.slice B (nl - kk) (c - kk)) w := hrun1
        have hrun2 : ∀ w, (Instr.slice 43 (.slice A nl c) none (some (.int .i64 (kk : Int))) none).run Try.prog w = .ok (.slice A kk c) w := slice_ahead (E := EV) (A := A) (n := nl) (c := c) (k := kk) hkl' hc
        have hd13 : (l.drop kk).length = nl - kk := by rw [List.length_drop, hnl]
        have ht13 : (l.take kk).length = kk := by rw [List.length_take, hnl]; exact Nat.min_eq_left hkl'
        have HV1 := Lib.hid (show ∀ w', Below W.heap.size W w' → VersL w' (.slice B (nl - kk) (c - kk)) (l.drop kk) from fun w' h =>
          ⟨⟨B, c - kk, by rw [hd13], hrow1 w' l (RowE.below hA h) hnl, by rw [hd13]; exact Nat.sub_le_sub_right hc kk, hB0⟩, fun v hvv => (hv v (List.mem_of_mem_drop hvv)).below h⟩)
        have HV2 := Lib.hid (show ∀ w', Below W.heap.size W w' → VersL w' (.slice A kk c) (l.take kk) from fun w' h =>
          ⟨⟨A, c, by rw [ht13], (RowE.below hA h).take kk, by rw [ht13]; exact Nat.le_trans hkl' hc, h0⟩, fun v hvv => (hv v (List.mem_of_mem_take hvv)).below h⟩)
        have HV0 := Lib.hid (show ∀ w', Below W.heap.size W w' → VersL w' (.slice A nl c) l from fun w' h => by
          have := HL.out.below h
          rwa [hnl] at this)
        have b0 : l.length ≤ 1000 := by omega
        have b1 : (l.drop kk).length ≤ 1000 := by omega
        have b2 : (l.take kk).length ≤ 1000 := by omega
        have CP := Lib.hid (fun w' S M D (hs : St13 w' S M x 0 D []) (h : Below W.heap.size W w') => pput13_any hs hx _ l (HV0.out w' h) hfn hfs b0 (Nat.zero_le _))
        have CD1 := Lib.hid (fun w' S M m D L (hs : St13 w' S M x m D L) (hm : m ≤ 2000) (h : Below W.heap.size W w') => pdrop13_any hs hx _ (l.drop kk) (HV1.out w' h) (fun v hvv => hfn v (List.mem_of_mem_drop hvv)) (fun v hvv => hfs v (List.mem_of_mem_drop hvv)) b1 (Nat.le_trans hm (by decide)))
        have CD2 := Lib.hid (fun w' S M m D L (hs : St13 w' S M x m D L) (hm : m ≤ 4000) (h : Below W.heap.size W w') => pdrop13_any hs hx _ (l.take kk) (HV2.out w' h) (fun v hvv => hfn v (List.mem_of_mem_take hvv)) (fun v hvv => hfs v (List.mem_of_mem_take hvv)) b2 (Nat.le_trans hm (by decide)))
        have CAL := Lib.hid (fun w' S M m D L (hs : St13 w' S M x m D L) (hm : m ≤ 6000) => pall13_any hs hx.1 (Nat.le_trans hm (by decide)))
        have HNL := Lib.hid (And.intro hnl hn100)
        have HBN := Lib.hid (back_none l x kk)
        clear hv hA hw hf hfs hfn hrow1 hB0 hP1 hP2 hl0 hnl hn100
        go_enter Try.func7, Try.ntmps7
        go_wp2_with (first
          | (go_at_call 26; (with_reducible refine (CAN.out _).mono ?_); rintro e w1 ⟨rfl, rfl⟩)
          | (go_at_call 21; (with_reducible refine (CPN.out _ _ _ _).mono ?_); rintro e w2 ⟨rfl, rfl⟩)
          | (go_at_call 20; (with_reducible refine (CDN.out _ _ _ _).mono ?_); rintro e w3 ⟨rfl, rfl⟩)
          | (go_at_call 19; (with_reducible refine (CF.out _ HB4.out).mono ?_); rintro e w6 ⟨rfl, rfl⟩)
          | (go_at_call 17; (with_reducible refine (CN.out _).mono ?_); rintro e w4 ⟨S, M, D, rfl, hs4, hS4, hM4, hb4⟩; have HS4 := Lib.hid hs4; have HM4 := Lib.hid hM4; have HB4 := Lib.hid hb4; clear hs4 hS4 hM4 hb4)
          | (go_at_call 21; (with_reducible refine (CP.out _ _ _ _ HS4.out HB4.out).mono ?_); rintro e w5 ⟨rfl, ⟨m5, D5, hm5, hs5⟩, hg5⟩; have HS5 := Lib.hid hs5; have HM5 := Lib.hid (show m5 ≤ 2000 by have := HNL.out; omega); have HB5 := Lib.hid (below_turn13 HB4.out hg5 HM4.out HB4.out.size); clear hs5 hm5 hg5)
          | (go_at_call 20; (with_reducible refine (CD1.out _ _ _ _ _ _ HS5.out HM5.out HB5.out).mono ?_); rintro e w8 ⟨rfl, ⟨m8, D8, hm8, hs8⟩, hg8⟩; have HS8 := Lib.hid hs8; have HM8 := Lib.hid (show m8 ≤ 4000 by have := HNL.out; have := HM5.out; rw [List.length_drop] at hm8; omega); have HB8 := Lib.hid (below_turn13 HB5.out hg8 HM4.out HB5.out.size); clear hs8 hm8 hg8)
          | (go_at_call 20; (with_reducible refine (CD2.out _ _ _ _ _ _ HS8.out HM8.out HB8.out).mono ?_); rintro e w9 ⟨rfl, ⟨m9, D9, hm9, hs9⟩, hg9⟩; have HM9 := Lib.hid (show m9 ≤ 6000 by have := HNL.out; have := HM8.out; rw [List.length_take] at hm9; omega); have HB9 := Lib.hid (below_turn13 HB8.out hg9 HM4.out HB8.out.size); rw [HBN.out] at hs9; have HS9 := Lib.hid hs9; clear hs9 hm9 hg9)
          | (go_at_call 26; (with_reducible refine (CAL.out _ _ _ _ _ _ HS9.out HM9.out).mono ?_); rintro e wa ⟨ua, rfl, ⟨Aa, ca, rfl, _⟩, hba⟩; have HBA := Lib.hid (chain HB9.out hba); clear hba)
          | (go_at_call 12; (with_reducible refine (CA.out _).mono ?_); rintro e w7 ⟨rfl, hb7⟩))
        go_ret
        exact ⟨rfl, chain HBA.out hb7⟩
end Go.Proofs.Ytmhddpgeiijhgaa

/-
  The law's same: both sides' totals held against each other.
-/
namespace Go.Proofs.Ytmhddpgeiijhgaa
open Go.RowKit

abbrev cells4_13 (w : World) (g o : Nat) (t : Tt) : Prop := w.cell? ⟨g, o, none⟩ = some (.string t.n) ∧ w.cell? ⟨g, o + 1, none⟩ = some (.int .i64 t.k) ∧ w.cell? ⟨g, o + 2, none⟩ = some (.int .i64 t.c) ∧ w.cell? ⟨g, o + 3, none⟩ = some (.int .i64 t.s)
theorem cellsP13t {w : World} {A : Option Addr} {l : List Tt} (h : RowE ETp w A l) {j : Nat} {t : Tt} (hv : l[j]? = some t) : ∃ g off, A = some ⟨g, off, none⟩ ∧ cells4_13 w g (off + j * 4) t := by
  obtain ⟨g, off, rfl, hc⟩ := h j t hv
  exact ⟨g, off, rfl, hc 0 _ rfl, hc 1 _ rfl, hc 2 _ rfl, hc 3 _ rfl⟩
set_option maxRecDepth 100000 in
theorem run_neq_tt13 (t : Tt) (w : World) : (binOp .neq 77 (ttv t) (ttv t)).run Try.prog w = .ok (.bool false) w := by
  rw [run_neq_struct, run_equalIn_struct w 9999 77 _ _ Try.underlying77 (by kernel_rfl)]
  have h3 := Try.underlying3
  have h9 := Try.underlying9
  have a3 : ∀ w, (isAgg 3).run Try.prog w = .ok false w := Try.isAgg3
  have a9 : ∀ w, (isAgg 9).run Try.prog w = .ok false w := Try.isAgg9
  simp [Op.eqFields, Program.fieldsOf, Try.underlying77, part, a3, a9, run_equalIn_int w 9998 _ .i64 .i64 _ _ h3, run_equalIn_string w 9998 _ _ _ h9]
set_option maxHeartbeats 4000000 in
set_option maxRecDepth 100000 in
theorem same13_any (w : World) (A B : Option Addr) (c d : Nat) (l : List Tt) (hl : RowE ETp w A l) (hm : RowE ETr w B l) (hn : l.length ≤ 9223372036854775807) :
    Ret 25 #[.slice A l.length c, .slice B l.length d] w (.bool true) := by
  have HL := Lib.hid hl
  have HM := Lib.hid hm
  clear hl hm
  obtain ⟨n, hnm⟩ : ∃ n, l.length = n := ⟨_, rfl⟩
  rw [hnm] at hn ⊢
  have HN := Lib.hid hnm
  clear hnm
  go_enter Try.func25, Try.ntmps25
  go_wp2_with fail
  go_loopw [13] (fun i wr => ∃ j : Nat, j ≤ n ∧ i = .int .i64 j ∧ Below w.heap.size w wr) (fun i _ => n - (intOf i).toNat)
  case atStart => exact ⟨0, Nat.zero_le _, rfl, bl w⟩
  case round =>
    obtain ⟨j, hj, rfl, hB⟩ := hrel
    have HB := Lib.hid hB
    by_cases hlt : j < n
    · have hlt' : (j : Int) < (n : Int) := by omega
      obtain ⟨t, ht⟩ : ∃ t, l[j]? = some t := ⟨_, List.getElem?_eq_getElem (by have := HN.out; omega)⟩
      obtain ⟨g, o, rfl, c0, c1, c2, c3⟩ := cellsP13t (HL.out.below hB) ht
      obtain ⟨g', o', rfl, d0, d1, d2, d3⟩ := RowE.cellsT (HM.out.below hB) ht
      have hq := run_neq_tt13 t
      clear ht hB
      go_wp2_with fail
      go_quiet (fail)
      go_wp2_with fail
      exact ⟨⟨j + 1, by omega, by go_num, belowN HB.out _⟩, by simp [intOf]; omega⟩
    · obtain rfl : j = n := by omega
      have hlt' : ¬ (j : Int) < (j : Int) := by omega
      go_wp2_with fail
      go_ret
      exact ⟨rfl, HB.out⟩
theorem samel13t_any (w : World) (u v : Value) (l : List Tt) (hl : ListE ETp w u l) (hm : ListE ETr w v l) (hn : l.length ≤ 9223372036854775807) : Ret 25 #[u, v] w (.bool true) := by
  obtain ⟨A, c, rfl, h1, _⟩ := hl
  obtain ⟨B, d, rfl, h2, _⟩ := hm
  exact same13_any w A B c d l h1 h2 hn
end Go.Proofs.Ytmhddpgeiijhgaa

/-
  The statement of whatever is put and dropped, walked.
-/
namespace Go.Proofs.Ytmhddpgeiijhgaa
open Go.RowKit

theorem putT_len (L : List Tt) (v : Vr) (x sg : Int) : (putT L v x sg).length ≤ L.length + v.fs.length := by
  by_cases h : countsB v = true
  · rw [putT_counts h]; exact putsT_len _ _ _ _
  · rw [putT_not (by simpa using h)]; omega
theorem putVs_len (L : List Tt) (x sg : Int) : ∀ l : List Vr, (∀ v ∈ l, v.fs.length ≤ 20) → (putVs L l x sg).length ≤ L.length + 20 * l.length := fun l => by
  induction l generalizing L with
  | nil => intro _; exact Nat.le_refl _
  | cons v l ih =>
    intro h
    have h1 := ih (putT L v x sg) (fun v hv => h v (by simp [hv]))
    have h2 := putT_len L v x sg
    have h3 := h v (by simp)
    show (putVs (putT L v x sg) l x sg).length ≤ _
    rw [List.length_cons]
    omega
abbrev oA13 (q : Ac13) : Obj := .cells #[.bool q.d, .slice q.la q.l.length q.lc, .string q.n, .int .i64 q.k] 45
theorem cellsA13t {w : World} {A : Option Addr} {l : List Ac13} (h : RowE EA13 w A l) {j : Nat} {q : Ac13} (hv : l[j]? = some q) : ∃ g off, A = some ⟨g, off, none⟩ ∧ w.cell? ⟨g, off + j * 4, none⟩ = some (.bool q.d) ∧ w.cell? ⟨g, off + j * 4 + 1, none⟩ = some (.slice q.la q.l.length q.lc) ∧ w.cell? ⟨g, off + j * 4 + 2, none⟩ = some (.string q.n) ∧ w.cell? ⟨g, off + j * 4 + 3, none⟩ = some (.int .i64 q.k) := by
  obtain ⟨g, off, rfl, hc⟩ := h j q hv
  exact ⟨g, off, rfl, hc 0 _ rfl, hc 1 _ rfl, hc 2 _ rfl, hc 3 _ rfl⟩
theorem listM13 {α : Type} {E : El α} {w w' : World} {S M : Nat} {x : Int} {m : Nat} {D : DataW Value} {L : List Tt} {u : Value} {l : List α} (hl : ListE E w u l) (h : St13 w S M x m D L) (hg : w.grownBy w' (some M)) : ListE E w' u l := by
  obtain ⟨A, c, e, hr, hc, hn⟩ := hl
  exact ⟨A, c, e, rowM13 hr h hg, hc, hn⟩
set_option maxHeartbeats 8000000 in
set_option maxRecDepth 100000 in
theorem plays13_walk (x : Int) (u : Value) (l : List Ac13) (W : World) (hl : ActsL13 W u l) (hok : ∀ q ∈ l, okA13 q) (hn : l.length ≤ 9223372036854775807) : Ret 6 #[.int .i64 x, u] W (.bool true) := by
  have CA := Lib.hid (fun w => alive13_any w)
  have CW := Lib.hid (dwidth13_any x)
  have HL := Lib.hid hl
  have HOK := Lib.hid hok
  obtain ⟨⟨A, c, rfl, hA, _⟩, hq⟩ := hl
  obtain ⟨n, hnl⟩ : ∃ n, l.length = n := ⟨_, rfl⟩
  rw [hnl] at hn ⊢
  have HN := Lib.hid hnl
  have HA := Lib.hid hA
  have HQ := Lib.hid hq
  clear hok hnl hA hq
  cases hwx : widthB x with
  | false =>
    rw [hwx] at CW
    have CN := Lib.hid (fun w => pnew13_bad x w hwx)
    clear hwx
    go_enter Try.func6, Try.ntmps6
    go_wp2_with (first
      | (go_at_call 17; (with_reducible refine (CN.out _).mono ?_); rintro e w4 ⟨rfl, rfl⟩)
      | (go_at_call 18; (with_reducible refine (CW.out _).mono ?_); rintro e w5 ⟨rfl, rfl⟩)
      | (go_at_call 12; (with_reducible refine (CA.out _).mono ?_); rintro e w7 ⟨rfl, hb7⟩))
    go_ret
    exact ⟨rfl, hb7⟩
  | true =>
    rw [hwx] at CW
    have hx := (widthB_iff x).1 hwx
    have CN := Lib.hid (fun w => pnew13_any x w hwx)
    clear hwx
    by_cases h30 : 30 < n
    · have h30' : (30 : Int) < (n : Int) := by omega
      have h30'' : decide ((30 : Int) < (n : Int)) = true := by simpa using h30'
      go_enter Try.func6, Try.ntmps6
      go_wp2_with (first
        | (go_at_call 17; (with_reducible refine (CN.out _).mono ?_); rintro e w4 ⟨S, M, D, rfl, hs4, hS4, hM4, hb4⟩; have HB4 := Lib.hid hb4; clear hs4 hS4 hM4 hb4)
        | (go_at_call 18; (with_reducible refine (CW.out _).mono ?_); rintro e w5 ⟨rfl, rfl⟩)
        | (go_at_call 12; (with_reducible refine (CA.out _).mono ?_); rintro e w7 ⟨rfl, hb7⟩))
      go_ret
      exact ⟨rfl, chain HB4.out hb7⟩
    · have h30' : ¬ (30 : Int) < (n : Int) := by omega
      have h30'' : decide ((30 : Int) < (n : Int)) = false := by simpa using h30'
      go_enter Try.func6, Try.ntmps6
      go_wp2_with (first
        | (go_at_call 17; (with_reducible refine (CN.out _).mono ?_); rintro e w4 ⟨S, M, D, rfl, hs4, hS4, hM4, hb4⟩; have HS4 := Lib.hid hs4; have HM4 := Lib.hid hM4; have HB4 := Lib.hid hb4; clear hs4 hS4 hM4 hb4)
        | (go_at_call 18; (with_reducible refine (CW.out _).mono ?_); rintro e w5 ⟨rfl, rfl⟩))
      go_loopw [7, 56] (fun tl i wr => ∃ (j m : Nat) (D' : DataW Value) (L : List Tt), j ≤ n ∧ i = .int .i64 (j : Nat) ∧ m ≤ 400 * j ∧ L.length ≤ 400 * j ∧ St13 wr S M x m D' L ∧ ListE ETr wr tl L ∧ Below W.heap.size W wr) (fun _ i _ => n - (intOf i).toNat)
      case atStart => exact ⟨0, 0, D, [], Nat.zero_le _, rfl, Nat.le_refl _, Nat.le_refl _, HS4.out, ListE.nil _, HB4.out⟩
      case round =>
        obtain ⟨j, m, D', L, hj, rfl, hm, hLl, hs, hlt0, hb⟩ := hrel
        have HS := Lib.hid hs
        have HB := Lib.hid hb
        have HLT := Lib.hid hlt0
        have HM := Lib.hid (And.intro hm hLl)
        by_cases hlt : j < n
        · have hlt' : (j : Int) < (n : Int) := by omega
          obtain ⟨q, hq⟩ : ∃ q, l[j]? = some q := ⟨_, List.getElem?_eq_getElem (by have := HN.out; omega)⟩
          have hqm := List.mem_of_getElem? hq
          obtain ⟨hqn, hqk, hqf, hql⟩ := HOK.out q hqm
          have hqv := HQ.out q hqm
          obtain ⟨g, off, rfl, z0, z1, z2, z3⟩ := cellsA13t (HA.out.below hb) hq
          obtain ⟨d, la, lc, lv, an, ak⟩ := q
          have HQV := Lib.hid (show ∀ w', Below W.heap.size W w' → VersL w' (.slice la lv.length lc) lv from fun w' h => VersL.below hqv h)
          have HQF := Lib.hid (show ∀ v ∈ lv, ∀ f ∈ v.fs, f.n.size ≤ maxLen from fun v hv f hf => by have := hqf v hv f hf; unfold maxLen; omega)
          have HQN := Lib.hid (show an.size ≤ maxLen ∧ okI13 ak from ⟨hqn, hqk⟩)
          have HBX := Lib.hid (show ∀ o, Below wr.heap.size wr (wr.alloc o) from fun o => (bl wr).alloc (Nat.le_refl _) o)
          obtain ⟨nv, hnv⟩ : ∃ nv, lv.length = nv := ⟨_, rfl⟩
          have HNV := Lib.hid hnv
          have CF := Lib.hid (fun w' (h : Below W.heap.size W w') => dfew_any w' (.slice la lv.length lc) lv 20 (VersL.below hqv h).1 hql)
          simp only at z0 z1 z2 z3
          rw [hnv] at z1 CF
          clear hqm hqn hqk hqf hql hqv hq hm hLl hs hlt0 hb hnv
          cases hfw : fewB lv 20 with
          | false =>
            rw [hfw] at CF
            clear hfw
            go_wp2_with (first
              | (go_at_call 19; (with_reducible refine (CF.out _ (chain HB.out (HBX.out _))).mono ?_); rintro e w6 ⟨rfl, rfl⟩)
              | (go_at_call 12; (with_reducible refine (CA.out _).mono ?_); rintro e w7 ⟨rfl, hb7⟩))
            go_ret
            exact ⟨rfl, chain HB.out (chain (HBX.out _) hb7)⟩
          | true =>
            rw [hfw] at CF
            obtain ⟨hf20, hfs⟩ := few13 hfw
            have HFS := Lib.hid hfs
            have hnv20 : nv ≤ 20 := by have := HNV.out; omega
            clear hfw hf20 hfs
            cases d with
            | false =>
              have HSX := Lib.hid (show St13 (wr.alloc (.cells #[.bool false, .slice la nv lc, .string an, .int .i64 ak] 45)) S M x m D' L from HS.out.below (HBX.out _))
              have HBW := Lib.hid (show Below W.heap.size W (wr.alloc (.cells #[.bool false, .slice la nv lc, .string an, .int .i64 ak] 45)) from chain HB.out (HBX.out _))
              have HLX := Lib.hid (show ListE ETr (wr.alloc (.cells #[.bool false, .slice la nv lc, .string an, .int .i64 ak] 45)) u7 L from ListE.below HLT.out (HBX.out _))
              have CT := Lib.hid (pput13_any HSX.out hx (.slice la nv lc) lv (by have := HQV.out _ HBW.out; rwa [HNV.out] at this) HQF.out HFS.out (by have := HNV.out; omega) (by have := HM.out.1; omega))
              have HKX := Lib.hid (show ∀ w', (wr.alloc (.cells #[.bool false, .slice la nv lc, .string an, .int .i64 ak] 45)).grownBy w' (some M) → w'.cell? ⟨wr.heap.size, 1, none⟩ = some (.slice la nv lc) ∧ w'.cell? ⟨wr.heap.size, 2, none⟩ = some (.string an) ∧ w'.cell? ⟨wr.heap.size, 3, none⟩ = some (.int .i64 ak) from fun w' h => ⟨cellM13 HSX.out h (by simp [go_sem]), cellM13 HSX.out h (by simp [go_sem]), cellM13 HSX.out h (by simp [go_sem])⟩)
              go_wp2_with (first
                | (go_at_call 19; (with_reducible refine (CF.out _ HBW.out).mono ?_); rintro e w6 ⟨rfl, rfl⟩)
                | (go_at_call 21; (with_reducible refine CT.out.mono ?_); rintro e w5 ⟨rfl, ⟨m5, D5, hm5, hs5⟩, hg5⟩; have HS5 := Lib.hid hs5; have HM5 := Lib.hid hm5; have HG5 := Lib.hid hg5; obtain ⟨y1, y2, y3⟩ := HKX.out _ hg5; clear hs5 hm5 hg5))
              have HB5 := Lib.hid (below_turn13 HBW.out HG5.out HM4.out HBW.out.size)
              have hl5 := listM13 HLX.out HSX.out HG5.out
              have HL5 := Lib.hid hl5
              clear hl5 CT HKX CF
              go_loopw [7, 81] (fun tl i wi => ∃ (k : Nat) (L' : List Tt), k ≤ nv ∧ i = .int .i64 (k : Nat) ∧ L' = putVs L (lv.take k) x 1 ∧ ListE ETr wi tl L' ∧ Below w5.heap.size w5 wi) (fun _ i _ => nv - (intOf i).toNat)
              case atStart => exact ⟨0, L, Nat.zero_le _, rfl, rfl, HL5.out, bl w5⟩
              case round =>
                obtain ⟨k, L', hk, rfl, hL', htl, hbi⟩ := hrel
                have HBI := Lib.hid hbi
                have HTL := Lib.hid htl
                have HLE := Lib.hid hL'
                have y1i := keepc hbi y1
                by_cases hlk : k < nv
                · have hlk' : (k : Int) < (nv : Int) := by omega
                  obtain ⟨v, hv⟩ : ∃ v, lv[k]? = some v := ⟨_, List.getElem?_eq_getElem (by have := HNV.out; omega)⟩
                  have HNX := Lib.hid (putVs_next (L := L) (x := x) (sg := 1) hv)
                  have hvm := List.mem_of_getElem? hv
                  obtain ⟨⟨A2, c2, he, hr, _⟩, hvf⟩ := HQV.out wr (chain HB5.out hbi)
                  injection he with he1 he2 he3
                  rw [← he1] at hr
                  obtain ⟨b2, o2, hla, hX⟩ := RowE.cells7 hr hv
                  obtain ⟨x0, x1, x2, x3, x4, x5, x6⟩ := hX
                  have hlen : L'.length + v.fs.length ≤ 100000 := by
                    have h1 := putVs_len L x 1 (lv.take k) (fun v hv => HFS.out v (List.mem_of_mem_take hv))
                    have h2 := HFS.out v hvm
                    have h3 := HM.out.2
                    rw [← hL', List.length_take] at h1
                    omega
                  have CP := Lib.hid (dput13_any wr _ L' v x 1 htl (hvf v hvm) hlen (IntWalk.wrap64_in _ (by decide)))
                  clear he1 he2 he3 hr hvf hvm hv hlen hbi htl hL'
                  subst hla
                  go_wp2_with (first
                    | (go_at_call 22; (with_reducible refine CP.out.mono ?_); rintro e w8 ⟨u8, rfl, hl8, hb8⟩; have HL8 := Lib.hid hl8; have HB8 := Lib.hid hb8; clear hl8 hb8))
                  exact ⟨⟨k + 1, _, by omega, by go_num, by rw [HNX.out, ← HLE.out], HL8.out, chain HBI.out HB8.out⟩, by simp [intOf]; omega⟩
                · obtain rfl : k = nv := by omega
                  have hlk' : ¬ (k : Int) < (k : Int) := by omega
                  rw [List.take_of_length_le (by have := HNV.out; omega)] at hL'
                  have hlen : L'.length ≤ 400 * (j + 1) := by
                    have h1 := putVs_len L x 1 lv HFS.out
                    have h3 := HM.out.2
                    rw [← hL'] at h1
                    have := HNV.out
                    omega
                  have HSI := Lib.hid (show St13 wr S M x m5 D5 L' from by rw [hL']; exact HS5.out.below hbi)
                  obtain ⟨At, ct, rfl, hrt, hct, hnt⟩ := htl
                  have y2i := keepc hbi y2
                  have y3i := keepc hbi y3
                  have HRT := Lib.hid hrt
                  have HLEN := Lib.hid hlen
                  have CG := Lib.hid (pget13_any HSI.out hx.1 an ak HQN.out.1 HQN.out.2)
                  have DG := Lib.hid (show ∀ w', Below wr.heap.size wr w' → Ret 24 #[.slice At L'.length ct, .string an, .int .i64 ak] w' (.tuple #[.int .i64 (getT L' an ak).1, .int .i64 (getT L' an ak).2]) from fun w' h => dget13_any w' At ct L' an ak (RowE.below HRT.out h) (by have := HLEN.out; omega))
                  have CL := Lib.hid (show ∀ w', Below wr.heap.size wr w' → Calls Try.prog 26 #[.pointer (some ⟨S, 0, none⟩)] w' (All13Post L' w') from fun w' h => pall13_any (HSI.out.below h) hx.1 (by have := HM5.out; have := HM.out.1; have := HNV.out; omega))
                  have CSM := Lib.hid (show ∀ w' ua, Below wr.heap.size wr w' → ListE ETp w' ua L' → Ret 25 #[ua, .slice At L'.length ct] w' (.bool true) from fun w' ua h k => samel13t_any w' ua _ L' k (ListE.below HTL.out h) (by have := HLEN.out; omega))
                  generalize getT L' an ak = gp at *
                  obtain ⟨g1, g2⟩ := gp
                  simp only at CG DG
                  clear hbi hL' hrt hct hnt hlen
                  go_wp2_with (first
                    | (go_at_call 23; (with_reducible refine CG.out.mono ?_); rintro e w8 ⟨rfl, hb8⟩; have HB8 := Lib.hid hb8; have k2 := keepc hb8 y2i; have k3 := keepc hb8 y3i; clear hb8)
                    | (go_at_call 24; (with_reducible refine (DG.out _ HB8.out).mono ?_); rintro e w9 ⟨rfl, hb9⟩; have HB9 := Lib.hid (chain HB8.out hb9); clear hb9)
                    | (go_at_call 26; (with_reducible refine (CL.out _ HB9.out).mono ?_); rintro e wa ⟨ua, rfl, hla, hba⟩; have HLA := Lib.hid hla; have HBA := Lib.hid (chain HB9.out hba); clear hla hba)
                    | (go_at_call 25; (with_reducible refine (CSM.out _ _ HBA.out HLA.out).mono ?_); rintro e wb ⟨rfl, hbb⟩; have HBB := Lib.hid (chain HBA.out hbb); clear hbb))
                  exact ⟨⟨j + 1, m5, D5, L', by omega, by go_num, by have := HM5.out; have := HM.out.1; have := HNV.out; omega, HLEN.out, HSI.out.below HBB.out, ListE.below HTL.out HBB.out, chain HB5.out (chain HBI.out HBB.out)⟩, by simp [intOf]; omega⟩
            | true =>
              have HSX := Lib.hid (show St13 (wr.alloc (.cells #[.bool true, .slice la nv lc, .string an, .int .i64 ak] 45)) S M x m D' L from HS.out.below (HBX.out _))
              have HBW := Lib.hid (show Below W.heap.size W (wr.alloc (.cells #[.bool true, .slice la nv lc, .string an, .int .i64 ak] 45)) from chain HB.out (HBX.out _))
              have HLX := Lib.hid (show ListE ETr (wr.alloc (.cells #[.bool true, .slice la nv lc, .string an, .int .i64 ak] 45)) u7 L from ListE.below HLT.out (HBX.out _))
              have CT := Lib.hid (pdrop13_any HSX.out hx (.slice la nv lc) lv (by have := HQV.out _ HBW.out; rwa [HNV.out] at this) HQF.out HFS.out (by have := HNV.out; omega) (by have := HM.out.1; omega))
              have HKX := Lib.hid (show ∀ w', (wr.alloc (.cells #[.bool true, .slice la nv lc, .string an, .int .i64 ak] 45)).grownBy w' (some M) → w'.cell? ⟨wr.heap.size, 1, none⟩ = some (.slice la nv lc) ∧ w'.cell? ⟨wr.heap.size, 2, none⟩ = some (.string an) ∧ w'.cell? ⟨wr.heap.size, 3, none⟩ = some (.int .i64 ak) from fun w' h => ⟨cellM13 HSX.out h (by simp [go_sem]), cellM13 HSX.out h (by simp [go_sem]), cellM13 HSX.out h (by simp [go_sem])⟩)
              go_wp2_with (first
                | (go_at_call 19; (with_reducible refine (CF.out _ HBW.out).mono ?_); rintro e w6 ⟨rfl, rfl⟩)
                | (go_at_call 20; (with_reducible refine CT.out.mono ?_); rintro e w5 ⟨rfl, ⟨m5, D5, hm5, hs5⟩, hg5⟩; have HS5 := Lib.hid hs5; have HM5 := Lib.hid hm5; have HG5 := Lib.hid hg5; obtain ⟨y1, y2, y3⟩ := HKX.out _ hg5; clear hs5 hm5 hg5))
              have HB5 := Lib.hid (below_turn13 HBW.out HG5.out HM4.out HBW.out.size)
              have hl5 := listM13 HLX.out HSX.out HG5.out
              have HL5 := Lib.hid hl5
              clear hl5 CT HKX CF
              go_loopw [7, 81] (fun tl i wi => ∃ (k : Nat) (L' : List Tt), k ≤ nv ∧ i = .int .i64 (k : Nat) ∧ L' = putVs L (lv.take k) x (-1) ∧ ListE ETr wi tl L' ∧ Below w5.heap.size w5 wi) (fun _ i _ => nv - (intOf i).toNat)
              case atStart => exact ⟨0, L, Nat.zero_le _, rfl, rfl, HL5.out, bl w5⟩
              case round =>
                obtain ⟨k, L', hk, rfl, hL', htl, hbi⟩ := hrel
                have HBI := Lib.hid hbi
                have HTL := Lib.hid htl
                have HLE := Lib.hid hL'
                have y1i := keepc hbi y1
                by_cases hlk : k < nv
                · have hlk' : (k : Int) < (nv : Int) := by omega
                  obtain ⟨v, hv⟩ : ∃ v, lv[k]? = some v := ⟨_, List.getElem?_eq_getElem (by have := HNV.out; omega)⟩
                  have HNX := Lib.hid (putVs_next (L := L) (x := x) (sg := (-1)) hv)
                  have hvm := List.mem_of_getElem? hv
                  obtain ⟨⟨A2, c2, he, hr, _⟩, hvf⟩ := HQV.out wr (chain HB5.out hbi)
                  injection he with he1 he2 he3
                  rw [← he1] at hr
                  obtain ⟨b2, o2, hla, hX⟩ := RowE.cells7 hr hv
                  obtain ⟨x0, x1, x2, x3, x4, x5, x6⟩ := hX
                  have hlen : L'.length + v.fs.length ≤ 100000 := by
                    have h1 := putVs_len L x (-1) (lv.take k) (fun v hv => HFS.out v (List.mem_of_mem_take hv))
                    have h2 := HFS.out v hvm
                    have h3 := HM.out.2
                    rw [← hL', List.length_take] at h1
                    omega
                  have CP := Lib.hid (dput13_any wr _ L' v x (-1) htl (hvf v hvm) hlen (IntWalk.wrap64_in _ (by decide)))
                  clear he1 he2 he3 hr hvf hvm hv hlen hbi htl hL'
                  subst hla
                  go_wp2_with (first
                    | (go_at_call 22; (with_reducible refine CP.out.mono ?_); rintro e w8 ⟨u8, rfl, hl8, hb8⟩; have HL8 := Lib.hid hl8; have HB8 := Lib.hid hb8; clear hl8 hb8))
                  exact ⟨⟨k + 1, _, by omega, by go_num, by rw [HNX.out, ← HLE.out], HL8.out, chain HBI.out HB8.out⟩, by simp [intOf]; omega⟩
                · obtain rfl : k = nv := by omega
                  have hlk' : ¬ (k : Int) < (k : Int) := by omega
                  rw [List.take_of_length_le (by have := HNV.out; omega)] at hL'
                  have hlen : L'.length ≤ 400 * (j + 1) := by
                    have h1 := putVs_len L x (-1) lv HFS.out
                    have h3 := HM.out.2
                    rw [← hL'] at h1
                    have := HNV.out
                    omega
                  have HSI := Lib.hid (show St13 wr S M x m5 D5 L' from by rw [hL']; exact HS5.out.below hbi)
                  obtain ⟨At, ct, rfl, hrt, hct, hnt⟩ := htl
                  have y2i := keepc hbi y2
                  have y3i := keepc hbi y3
                  have HRT := Lib.hid hrt
                  have HLEN := Lib.hid hlen
                  have CG := Lib.hid (pget13_any HSI.out hx.1 an ak HQN.out.1 HQN.out.2)
                  have DG := Lib.hid (show ∀ w', Below wr.heap.size wr w' → Ret 24 #[.slice At L'.length ct, .string an, .int .i64 ak] w' (.tuple #[.int .i64 (getT L' an ak).1, .int .i64 (getT L' an ak).2]) from fun w' h => dget13_any w' At ct L' an ak (RowE.below HRT.out h) (by have := HLEN.out; omega))
                  have CL := Lib.hid (show ∀ w', Below wr.heap.size wr w' → Calls Try.prog 26 #[.pointer (some ⟨S, 0, none⟩)] w' (All13Post L' w') from fun w' h => pall13_any (HSI.out.below h) hx.1 (by have := HM5.out; have := HM.out.1; have := HNV.out; omega))
                  have CSM := Lib.hid (show ∀ w' ua, Below wr.heap.size wr w' → ListE ETp w' ua L' → Ret 25 #[ua, .slice At L'.length ct] w' (.bool true) from fun w' ua h k => samel13t_any w' ua _ L' k (ListE.below HTL.out h) (by have := HLEN.out; omega))
                  generalize getT L' an ak = gp at *
                  obtain ⟨g1, g2⟩ := gp
                  simp only at CG DG
                  clear hbi hL' hrt hct hnt hlen
                  go_wp2_with (first
                    | (go_at_call 23; (with_reducible refine CG.out.mono ?_); rintro e w8 ⟨rfl, hb8⟩; have HB8 := Lib.hid hb8; have k2 := keepc hb8 y2i; have k3 := keepc hb8 y3i; clear hb8)
                    | (go_at_call 24; (with_reducible refine (DG.out _ HB8.out).mono ?_); rintro e w9 ⟨rfl, hb9⟩; have HB9 := Lib.hid (chain HB8.out hb9); clear hb9)
                    | (go_at_call 26; (with_reducible refine (CL.out _ HB9.out).mono ?_); rintro e wa ⟨ua, rfl, hla, hba⟩; have HLA := Lib.hid hla; have HBA := Lib.hid (chain HB9.out hba); clear hla hba)
                    | (go_at_call 25; (with_reducible refine (CSM.out _ _ HBA.out HLA.out).mono ?_); rintro e wb ⟨rfl, hbb⟩; have HBB := Lib.hid (chain HBA.out hbb); clear hbb))
                  exact ⟨⟨j + 1, m5, D5, L', by omega, by go_num, by have := HM5.out; have := HM.out.1; have := HNV.out; omega, HLEN.out, HSI.out.below HBB.out, ListE.below HTL.out HBB.out, chain HB5.out (chain HBI.out HBB.out)⟩, by simp [intOf]; omega⟩
        · obtain rfl : j = n := by omega
          have hlt' : ¬ (j : Int) < (j : Int) := by omega
          clear hs hlt0 hb
          go_wp2_with (go_at_call 12; (with_reducible refine (CA.out _).mono ?_); rintro e w7 ⟨rfl, hb7⟩)
          go_ret
          exact ⟨rfl, chain HB.out hb7⟩
end Go.Proofs.Ytmhddpgeiijhgaa
