/-
  A map from names to values: what is asked at a name is what fields said last; its entries, gone over in whatever order.
-/
import Derived.Test.YtjpkeadnccodjaaGpsort
import Derived.Maps.RangeWalk
import Derived.Sort.KeysCollected
namespace Go.Proofs.Ytjpkeadnccodjaa
open Go.RowKit
open Go.Maps (Keyed)

abbrev MT : TypeId := 58
abbrev KT : TypeId := 9
abbrev VT : TypeId := 3
theorem keyS : Keyed Try.prog KT := Maps.string_keyed Try.underlying9
/-- How a value of a map reads. -/
def anyI (v : Value) : Option (DataW Unit × List MemPlace) :=
  match v with
  | .int .i64 a => some (.lit (.int .i64 a), [])
  | _ => none
theorem anyI_inv (v : Value) (y : DataW Unit × List MemPlace) (h : anyI v = some y) : ∃ c, v = .int .i64 c := by
  unfold anyI at h
  split at h
  · exact ⟨_, rfl⟩
  · cases h
theorem keyS_inv (key : Value) (kl : Lit) (h : keyOf Try.prog KT key = some kl) : ∃ x : ByteArray, key = .string x := by
  obtain ⟨x, hx, _⟩ := Maps.keyOf_str Try.underlying9 h
  exact ⟨_, hx⟩
set_option maxRecDepth 100000 in
theorem keyS_lit {x : ByteArray} {kl : Lit} (h : keyOf Try.prog KT (.string x) = some kl) : kl = .string x.data.toList := by
  obtain ⟨y, hy, hk, _⟩ := Maps.keyOf_str Try.underlying9 h
  injection hy with hy
  rw [hk, hy]
abbrev MapF (w : World) (B n : Nat) (D : DataW Unit) : Prop := w.ownsMap Try.prog KT anyI B n D
/-- What is asked at a name is what the fields say last. -/
def Says (D : DataW Unit) (l : List Fd) : Prop := Maps.IsMap D ∧ ∀ (s : ByteArray) (zd : DataW Unit), D.atKey (.string s.data.toList) zd = match lastL l s with | some v => .lit (.int .i64 v) | none => zd
theorem Says.nil : Says (.map []) [] := ⟨Maps.isMap_empty, fun _ _ => rfl⟩
theorem key_ne {a b : ByteArray} (h : nats a ≠ nats b) : (Lit.string a.data.toList) ≠ .string b.data.toList := fun e => by
  injection e with e
  exact h (by unfold nats; rw [e])
theorem keyLit (l : List UInt8) : Go.WideAt.IsKeyLit (.string l) := by trivial
theorem Says.put {D : DataW Unit} {l : List Fd} {f : Fd} (h : Says D l) : Says (D.put (.string f.n.data.toList) (.lit (.int .i64 f.v))) (l ++ [f]) := by
  refine ⟨h.1.put _ _, fun s zd => ?_⟩
  rw [lastL_append, lastL, lastL]
  by_cases e : nats f.n = nats s
  · have e2 := nats_inj e
    rw [if_pos e, ← e2, Maps.atKey_put_same h.1 (keyLit _)]
  · rw [if_neg e, Maps.atKey_put_other (key_ne (fun e' => e e'.symm)), h.2]
theorem Says.has {D : DataW Unit} {l : List Fd} (h : Says D l) (s : ByteArray) : Maps.has D (.string s.data.toList) = (lastL l s).isSome := by
  cases e : lastL l s with
  | some v => exact Maps.has_true_of_atKey (y := .lit (.int .i64 v)) (fun z => by rw [h.2, e])
  | none => exact Maps.has_false_of_atKey (fun z => by rw [h.2, e])
/-- The fields that have come of those that are said. -/
def Got (all : List Fd) (left : Lit → Bool) (acc : List Fd) : Prop := Apart acc ∧ ∀ s : ByteArray, getL acc s = if left (.string s.data.toList) = true then none else lastL all s
theorem Got.start {D : DataW Unit} {all : List Fd} (h : Says D all) : Got all (Maps.has D) [] := by
  refine ⟨List.Pairwise.nil, fun s => ?_⟩
  rw [h.has, getL]
  cases lastL all s <;> rfl
theorem getL_append : ∀ (l m : List Fd) (s : ByteArray), getL (l ++ m) s = match getL l s with | some v => some v | none => getL m s
  | [], _, _ => rfl
  | f :: l, m, s => by
    rw [List.cons_append, getL, getL]
    by_cases h : nats f.n = nats s
    · rw [if_pos h, if_pos h]
    · rw [if_neg h, if_neg h, getL_append l m s]
theorem Got.step {D : DataW Unit} {all acc : List Fd} {left : Lit → Bool} {x : ByteArray} {c : Int} (hg : Got all left acc) (h : Says D all) (hlk : left (.string x.data.toList) = true) (hat : ∀ zd, D.atKey (.string x.data.toList) zd = .lit (.int .i64 c)) :
    Got all (fun z => left z && !z.sameKey (.string x.data.toList)) (acc ++ [⟨x, c⟩]) := by
  have hx : getL acc x = none := by rw [hg.2, if_pos hlk]
  have hc : lastL all x = some c := by
    have := h.2 x .nil
    rw [hat] at this
    cases e : lastL all x with
    | none => rw [e] at this; cases this
    | some v =>
      rw [e] at this
      injection this with this
      injection this with _ this
      rw [this]
  refine ⟨apart_snoc hg.1 (fun g hgm e => ?_), fun s => ?_⟩
  · have := getL_mem hg.1 hgm
    rw [nats_inj e, hx] at this
    cases this
  · rw [getL_append, hg.2 s, getL, getL]
    by_cases e : nats x = nats s
    · have e2 := nats_inj e
      subst e2
      rw [if_pos hlk, if_pos rfl, if_neg (by simp [Lit.sameKey]), hc]
    · have k := Maps.sameKey_ne (key_ne (fun e' => e e'.symm) : (Lit.string s.data.toList) ≠ .string x.data.toList)
      simp only [k, if_neg e]
      cases left (.string s.data.toList)
      · simp
        cases lastL all s <;> rfl
      · simp
theorem Got.done {all acc m : List Fd} {left : Lit → Bool} (hg : Got all left acc) (hl : ∀ kl, left kl = false) (hp : acc.Perm m) (hs : m.Pairwise (fun x y => aheadB y.n x.n = false)) : m = overL all := by
  apply rises_ext _ _ (rises_of m hs (hg.1.perm hp)) (overL_rises _)
  intro s
  rw [overL_get, ← getL_perm hg.1 hp, hg.2, hl, if_neg (by simp)]
theorem map_size {w : World} {B n : Nat} {D : DataW Unit} (h : MapF w B n D) : Maps.size D ≤ n := by
  obtain ⟨es, clock, _, _, hs, rfl⟩ := h
  show (List.foldr DataW.insert [] _).length ≤ n
  rw [length_sorted, List.length_map, Array.length_toList]
  exact hs
/-- The map that the call made: block B, what it says of the fields that have been put. -/
structure OM (W : World) (l : List Fd) (D : DataW Unit) (w : World) : Prop where
  map : MapF w W.heap.size l.length D
  says : Says D l
  bel : Below W.heap.size W w
theorem OM.nil (W : World) : OM W [] (.map []) (W.alloc (.map #[] 0)) := ⟨World.ownsMap_made _ _ _ _, Says.nil, (bl W).alloc (Nat.le_refl _) _⟩
theorem OM.alloc {W w : World} {l : List Fd} {D : DataW Unit} (h : OM W l D w) (o : Obj) : OM W l D (w.alloc o) := ⟨h.map.alloc o, h.says, h.bel.alloc h.bel.size _⟩
theorem OM.put {W w w' : World} {l : List Fd} {D : DataW Unit} {f : Fd} (h : OM W l D w) (hm : w'.ownsMap Try.prog KT anyI W.heap.size (l.length + 1) (D.put (.string f.n.data.toList) (.lit (.int .i64 f.v)))) (hg : w.grownBy w' (some W.heap.size)) :
    OM W (l ++ [f]) (D.put (.string f.n.data.toList) (.lit (.int .i64 f.v))) w' :=
  ⟨by rw [List.length_append, List.length_singleton]; exact hm, h.says.put, h.bel.grown hg h.bel.size (fun j hj => by cases hj; exact Nat.le_refl _)⟩
theorem ne_iter {w : World} {base B r n cnt : Nat} {v : Value} {l : List Fd} {D : DataW Unit} {left : Lit → Bool} (h : ownF w base v l) (hr : w.ranges Try.prog KT anyI B r n D left cnt) : v.ownBlock ≠ some r ∧ v.ownBlock ≠ some B := by
  obtain ⟨es, clock, since, seen, c0, hb, _, _, _, hr, _⟩ := hr
  rcases h.2 with ⟨rfl, _⟩ | ⟨g, cap, cur, rfl, _, hg, _⟩
  · exact ⟨fun e => (by cases e), fun e => (by cases e)⟩
  · refine ⟨fun e => ?_, fun e => ?_⟩
    · obtain rfl := Option.some.inj e
      rw [hg] at hr; cases hr
    · obtain rfl := Option.some.inj e
      rw [hg] at hb; cases hb
/-- A block that is not the list's own is turned. -/
theorem OF.other {W w w' : World} {l : List Fd} {v : Value} {row : Option Nat} (h : OF W l v w) (hg : w.grownBy w' row) (hne : v.ownBlock ≠ row) (hr : ∀ j, row = some j → W.heap.size ≤ j) : OF W l v w' :=
  ⟨h.own.kept hg (by cases hv : v.ownBlock with
    | none => exact Or.inl rfl
    | some b => exact Or.inr (hv ▸ hne)), h.bel.grown hg h.bel.size hr⟩

end Go.Proofs.Ytjpkeadnccodjaa
