/-
  Lists of parts of the call's own; the law's own (parts for the document, and how long they are).
-/
import Derived.Test.YthbnaomhgmokkaaScmp
namespace Go.Proofs.Ythbnaomhgmokkaa
open Go.RowKit

theorem Try.infoPart : (Try.prog.info? 51).map (fun i => (i.zero, i.size, i.bytes)) = some (some (.agg #[.bool false, .int .i64 0, .string ⟨#[]⟩]), 3, 32) := by kernel_rfl
/-- The cells of parts. -/
def flatP : List Prt → List Value
  | [] => []
  | p :: l => .bool p.i :: .int .i64 p.n :: .string p.s :: flatP l
theorem flatP_length : ∀ l : List Prt, (flatP l).length = l.length * 3
  | [] => rfl
  | p :: l => by have := flatP_length l; simp [flatP]; omega
theorem flatP_append : ∀ l m : List Prt, flatP (l ++ m) = flatP l ++ flatP m
  | [], _ => rfl
  | p :: l, m => by rw [List.cons_append, flatP, flatP, flatP_append l m]; rfl
theorem flatP_get : ∀ (l : List Prt) (i : Nat) (p : Prt), l[i]? = some p → (flatP l)[i * 3]? = some (.bool p.i) ∧ (flatP l)[i * 3 + 1]? = some (.int .i64 p.n) ∧ (flatP l)[i * 3 + 2]? = some (.string p.s)
  | [], _, _, h => by simp at h
  | q :: l, 0, p, h => by
    obtain rfl : q = p := by simpa using h
    exact ⟨rfl, rfl, rfl⟩
  | q :: l, i + 1, p, h => by
    have ih := flatP_get l i p (by simpa using h)
    rw [show (i + 1) * 3 = i * 3 + 3 from by omega]
    exact ih
abbrev ownP (w : World) (base : Nat) (v : Value) (l : List Prt) : Prop := w.ownsRow base 51 3 v l.length (flatP l)
theorem own_parts {w : World} {base : Nat} {v : Value} {l : List Prt} (h : ownP w base v l) : ∃ A c, v = .slice A l.length c ∧ Parts w A l ∧ (A = none → c = 0) := by
  rcases h.2 with ⟨hv, h0⟩ | ⟨g, cap, cur, hv, _⟩
  · obtain rfl : l = [] := List.eq_nil_of_length_eq_zero h0
    exact ⟨_, _, hv, Parts.nil _ _, fun _ => rfl⟩
  · refine ⟨_, _, hv, fun i p hp => ?_, fun h => by cases h⟩
    have add : ∀ n, (⟨g, 0, none⟩ : Addr).add n = ⟨g, 0 + n, none⟩ := fun n => by unfold Addr.add; split <;> simp_all
    obtain ⟨f0, f1, f2⟩ := flatP_get l i p hp
    have c0 := h.cells (g := g) (by rw [hv]; rfl) _ _ f0
    have c1 := h.cells (g := g) (by rw [hv]; rfl) _ _ f1
    have c2 := h.cells (g := g) (by rw [hv]; rfl) _ _ f2
    rw [add] at c0 c1 c2
    exact ⟨g, 0, rfl, c0, by rw [Nat.add_assoc]; exact c1, by rw [Nat.add_assoc]; exact c2⟩
theorem own_below {w w' : World} {base e size n : Nat} {v : Value} {xs : List Value} (h : w.ownsRow base e size v n xs) (hb : Below w.heap.size w w') : w'.ownsRow base e size v n xs :=
  h.kept (row := none) ⟨hb.os, hb.tape, hb.output, hb.size, fun k hk _ => hb.block k hk⟩ (by cases v.ownBlock <;> simp)
theorem news_three (w : World) (p : Prt) (ty : TypeId) : ∀ j u, [Value.bool p.i, .int .i64 p.n, .string p.s][j]? = some u → (w.alloc (.cells #[.bool p.i, .int .i64 p.n, .string p.s] ty)).cell? ((⟨w.heap.size, 0, none⟩ : Addr).add j) = some u :=
  World.news_of_block (cs := #[.bool p.i, .int .i64 p.n, .string p.s]) (heap_alloc_new w _)
/-- v is a list of the call's own, with the parts l. -/
structure OP (W : World) (l : List Prt) (v : Value) (wr : World) : Prop where
  own : ownP wr W.heap.size v l
  bel : Below W.heap.size W wr
theorem OP.nil (W : World) : OP W [] (.slice none 0 0) W := ⟨World.ownsRow_nil _ _ _ _, bl W⟩
theorem OP.below {W w w' : World} {l : List Prt} {v : Value} (h : OP W l v w) (hb : Below w.heap.size w w') : OP W l v w' := ⟨own_below h.own hb, chain h.bel hb⟩
theorem OP.app {W wr w2 : World} {l : List Prt} {v v' : Value} {p : Prt} {ty : TypeId} {o : Option Nat} (h : OP W l v wr) (ho : o = v.ownBlock) (hg : (wr.alloc (.cells #[.bool p.i, .int .i64 p.n, .string p.s] ty)).grownBy w2 o)
    (hown : w2.ownsRow W.heap.size 51 3 v' (l.length + 1) (flatP l ++ [.bool p.i, .int .i64 p.n, .string p.s])) : OP W (l ++ [p]) v' w2 := by
  subst ho
  refine ⟨by simpa [ownP, flatP_append, flatP] using hown, (h.bel.alloc h.bel.size _).grown hg (by have := h.bel.size; simp; omega) fun r hr => (h.own.lt r hr).1⟩

theorem Parts.at {w : World} {g off k : Nat} {p : Prt} {l : List Prt} (h : Parts w (some ⟨g, off, none⟩) l) (hp : l[k]? = some p) : w.cell? ⟨g, off + k * 3, none⟩ = some (.bool p.i) ∧ w.cell? ⟨g, off + k * 3 + 1, none⟩ = some (.int .i64 p.n) ∧ w.cell? ⟨g, off + k * 3 + 2, none⟩ = some (.string p.s) := by
  obtain ⟨g', off', e, c0, c1, c2⟩ := h k p hp
  injection e with e
  injection e with e1 e2
  subst e1 e2
  exact ⟨c0, c1, c2⟩
/-- What own leaves. -/
def OwnPost (l : List Prt) (w : World) (e : Ending) (w' : World) : Prop :=
  ∃ v m N, e = .returned (.tuple #[v, .int .i64 ((N : Nat) : Int)]) ∧ OP w m v w' ∧ N ≤ 5000 ∧ (N < 2000 → m = l ∧ (∀ p ∈ l, p.s.size < 2000) ∧ 10 * l.length ≤ N)
theorem ret_vi {u v : Value} {a b : Int} (h : u = v) (k : a = b) : Ending.returned (.tuple #[u, .int .i64 a]) = .returned (.tuple #[v, .int .i64 b]) := by rw [h, k]

set_option maxHeartbeats 4000000 in
set_option maxRecDepth 10000 in
theorem own_any (w : World) (A : Option Addr) (c : Nat) (l : List Prt) (hl : Parts w A l) (hs : ∀ p ∈ l, p.s.size ≤ 9223372036854775807) (hn : l.length ≤ 9223372036854775807) :
    Calls Try.prog 19 #[.slice A l.length c] w (OwnPost l w) := by
  obtain ⟨i0, hi, hz0, hz1, hz2⟩ := info_parts Try.infoPart
  have HL := Lib.hid hl
  have HS := Lib.hid hs
  obtain ⟨n, hnm⟩ : ∃ n, l.length = n := ⟨_, rfl⟩
  rw [hnm] at hn ⊢
  have HN := Lib.hid hnm
  clear hl hs hnm
  go_enter Try.func19, Try.ntmps19
  go_wp2_with fail
  go_loopw [4, 5, 6] (fun v a i wr => ∃ k N : Nat, k ≤ n ∧ i = .int .i64 k ∧ a = .int .i64 (N : Int) ∧ OP w (l.take k) v wr ∧ 10 * k ≤ N ∧ N ≤ 5000 ∧ ((∀ p ∈ l.take k, p.s.size < 2000) ∨ 2000 ≤ N)) (fun _ _ i _ => n - (intOf i).toNat)
  case atStart => exact ⟨0, 0, Nat.zero_le _, rfl, rfl, OP.nil w, Nat.le_refl _, by omega, .inl (by intro p hp; simp at hp)⟩
  case round =>
    obtain ⟨k, N, hk, rfl, rfl, hO, h10, h50, hor⟩ := hrel
    have HO := Lib.hid hO
    have HR := Lib.hid hor
    clear hO hor
    by_cases hlt : k < n
    · have hlt1 : (k : Int) < (n : Int) := by omega
      by_cases hN : N < 2000
      · have hN' : (N : Int) < 2000 := by omega
        obtain ⟨p, hp⟩ : ∃ p, l[k]? = some p := ⟨_, List.getElem?_eq_getElem (by have := HN.out; omega)⟩
        have hps := HS.out p (List.mem_of_getElem? hp)
        obtain ⟨g, off, rfl, c0, c1, c2⟩ := (HL.out.below HO.out.bel) k p hp
        have hown := HO.out.own
        have hsb := HO.out.bel.size
        have hlen : (l.take k).length = k := by rw [List.length_take, HN.out]; omega
        have TS := Lib.hid (take_snocP hp)
        obtain ⟨z, hz⟩ : ∃ z : Nat, min p.s.size 2000 = z := ⟨_, rfl⟩
        have hmin : min (p.s.size : Int) 2000 = (z : Int) := by omega
        have hz2' : (z : Int) ≤ 2000 := by omega
        have HZ := Lib.hid hz
        have HP := Lib.hid hp
        clear hp hz
        go_wp2_with (at_builtin; refine wpList_append_own _ rfl (.tmp 17) (.tmp 22) 36 rfl w.heap.size 51 i0 (.agg #[.bool false, .int .i64 0, .string ⟨#[]⟩]) 3 32 Try.underlying36 hi hz0 hz1 hz2 rfl (by decide) _ _ _ rfl (World.ownsRow.alloc hown _) ⟨wr.heap.size, 0, none⟩ 1 1 [.bool p.i, .int .i64 p.n, .string p.s] rfl rfl (news_three wr p _) (by simp [Value.oneCell']) (by unfold maxLen; omega) (by omega) (by simp; omega) ?_; intro v' w2 hown2 hgrow2 _; have NO := Lib.hid (HO.out.app rfl hgrow2 hown2); have d2 := ((HL.out.below NO.out.bel).at HP.out).2.2; clear hown2 hgrow2)
        have hzz := HZ.out
        refine ⟨⟨k + 1, N + 10 + z, by omega, by go_num, ?_, by rw [TS.out]; exact NO.out, by omega, by omega, ?_⟩, by simp [intOf] <;> omega⟩
        · refine congrArg (Value.int .i64) ?_
          split <;> omega
        · by_cases hp2 : p.s.size < 2000
          · rcases HR.out with h | h
            · refine .inl fun q hq => ?_
              rw [TS.out] at hq
              rcases List.mem_append.1 hq with h' | h'
              · exact h q h'
              · obtain rfl := List.mem_singleton.1 h'; exact hp2
            · exact .inr (by omega)
          · exact .inr (by omega)
      · have hN' : ¬ (N : Int) < 2000 := by omega
        go_wp2_with fail
        go_ret2
        exact ⟨_, _, N, rfl, HO.out, h50, fun h => absurd h hN⟩
    · obtain rfl : k = n := by omega
      have hlt' : ¬ (k : Int) < (k : Int) := by omega
      have hall : l.take k = l := List.take_of_length_le (by have := HN.out; omega)
      go_wp2_with fail
      go_ret2
      refine ⟨_, _, N, rfl, HO.out, h50, fun h => ⟨hall, ?_, by rw [HN.out]; exact h10⟩⟩
      rcases HR.out with h' | h'
      · rw [hall] at h'; exact h'
      · omega

end Go.Proofs.Ythbnaomhgmokkaa
