/-
  rising: the right spans of a list in order, in a list of its own.
-/
import Derived.Test.YtmfkcbanjlmmhaaCsort
import Derived.Test.YtmfkcbanjlmmhaaCints
namespace Go.Proofs.Ytmfkcbanjlmmhaa
open Go.RowKit Go.Sort Go.Shelf

/-- What lies while spans are gathered. -/
def SpRel (W : World) (l : List (Int × Int)) (v : Value) (wr : World) : Prop := wr.ownsRow W.heap.size 36 2 v l.length (flat l) ∧ Below W.heap.size W wr
theorem SpRel.nil (W : World) : SpRel W [] (.slice none 0 0) W := ⟨World.ownsRow_nil _ _ _ _, bl _⟩
theorem SpRel.step {W wr w1 : World} {l : List (Int × Int)} {v : Value} (h : SpRel W l v wr) (hb : Below wr.heap.size wr w1) : SpRel W l v w1 := ⟨own_below h.1 hb, chain h.2 hb⟩
theorem SpRel.app {W wr w1 : World} {l : List (Int × Int)} {v v1 : Value} {o : Obj} {f t : Int} (h : SpRel W l v wr) (hg : (wr.alloc o).grownBy w1 v.ownBlock) (hown : w1.ownsRow W.heap.size 36 2 v1 (l.length + 1) (flat l ++ [.int .i64 f, .int .i64 t])) : SpRel W (l ++ [(f, t)]) v1 w1 :=
  ⟨by rw [flat_snoc, List.length_append]; exact hown, below_app h.2 hg h.2.size (fun k hk => (h.1.lt k hk).1)⟩

/-- Of the first k spans those that are right. -/
def rights (l : List Sp) (k : Nat) : List Sp := (l.take k).filter fun p => rightB p.1 p.2
theorem rights_yes {l : List Sp} {k : Nat} {f t : Int} (hp : l[k]? = some (f, t)) (h : rightB f t = true) : rights l (k + 1) = rights l k ++ [(f, t)] := by
  simp [rights, List.take_add_one, hp, List.filter_append, h]
theorem rights_no {l : List Sp} {k : Nat} {f t : Int} (hp : l[k]? = some (f, t)) (h : rightB f t = false) : rights l (k + 1) = rights l k := by
  simp [rights, List.take_add_one, hp, List.filter_append, h]
theorem rights_le (l : List Sp) (k : Nat) : (rights l k).length ≤ k := Nat.le_trans (List.length_filter_le _ _) (List.length_take_le _ _)
theorem rights_all {l : List Sp} {k : Nat} (h : l.length ≤ k) : rights l k = l.filter fun p => rightB p.1 p.2 := by rw [rights, List.take_of_length_le h]

/-- What rising leaves. -/
def RisePost (l : List Sp) (w : World) (e : Ending) (w' : World) : Prop :=
  ∃ A c s, e = .returned (.slice A s.length c) ∧ Spans w' A s ∧ s.Perm (l.filter fun p => rightB p.1 p.2) ∧ (∀ (i j : Nat) (p q : Sp), i < j → s[i]? = some p → s[j]? = some q → p.1 ≤ q.1) ∧ Below w.heap.size w w'

set_option maxHeartbeats 2000000 in
theorem rising_any (w : World) (A : Option Addr) (c : Nat) (l : List Sp) (hl : Spans w A l) (hn : l.length ≤ 1000000) :
    Calls Try.prog 28 #[.slice A l.length c] w (RisePost l w) := by
  obtain ⟨i0, hi, hz0, hz1, hz2⟩ := info_parts Try.infoSpan
  have HL := Lib.hid hl
  clear hl
  obtain ⟨n, hnm⟩ : ∃ n, n = l.length := ⟨_, rfl⟩
  rw [← hnm]
  have hn' : n ≤ 1000000 := by omega
  have HN := Lib.hid hnm
  clear hnm hn
  go_enter Try.func28, Try.ntmps28
  go_wp2_with fail
  go_loopw [3, 8] (fun v i wr => ∃ k : Nat, k ≤ n ∧ i = .int .i64 k ∧ SpRel w (rights l k) v wr) (fun _ i _ => n - (intOf i).toNat)
  case atStart => exact ⟨0, Nat.zero_le _, rfl, SpRel.nil w⟩
  case round =>
    obtain ⟨k, hk, rfl, hR⟩ := hrel
    have HR := Lib.hid hR
    have hsz := hR.2.size
    have hle := rights_le l k
    clear hR
    by_cases hlt : k < n
    · obtain ⟨⟨f, t⟩, hp⟩ : ∃ p, l[k]? = some p := ⟨_, List.getElem?_eq_getElem (by have := HN.out; omega)⟩
      obtain ⟨g, off, rfl, c0, c1⟩ := HL.out.at hp
      have d0 := keepc HR.out.2 c0
      have d1 := keepc HR.out.2 c1
      have HP := Lib.hid hp
      clear c0 c1 hp
      have HY := Lib.hid (show Below wr.heap.size wr (wr.alloc (.cells #[.int .i64 f, .int .i64 t] 36)) from (bl _).alloc (Nat.le_refl _) _)
      cases hr : rightB f t
      · go_wp2_with (go_at_call 29; refine (right_any _ _ _).mono ?_; rintro e w1 ⟨rfl, hb1⟩)
        go_roundw
        case rel => exact ⟨k + 1, by omega, by go_num, by rw [rights_no HP.out hr]; exact HR.out.step (chain HY.out hb1)⟩
        case measure => simp [intOf]; omega
      · go_wp2_with fail
        (go_at_call 29; refine (right_any _ _ _).mono ?_; rintro e w1 ⟨rfl, hb1⟩)
        have a0 : w1.cell? ⟨wr.heap.size, 0, none⟩ = some (.int .i64 f) := keepc hb1 (by simp [go_sem])
        have a1 : w1.cell? ⟨wr.heap.size, 1, none⟩ = some (.int .i64 t) := keepc hb1 (by simp [go_sem])
        have HS := Lib.hid (HR.out.step (chain HY.out hb1))
        have hown1 := HS.out.1
        have hsz1 := HS.out.2.size
        have HB1 := Lib.hid hb1
        clear hb1
        go_wp2_with (at_builtin; refine wpList_append_lies _ rfl (.tmp 14) (.tmp 16) 22 rfl w.heap.size 36 i0 (.agg #[.int .i64 0, .int .i64 0]) 2 16 Try.underlying22 hi hz0 hz1 hz2 rfl (by decide) _ (rights l k).length (flat (rights l k)) rfl (World.ownsRow.alloc hown1 _) ⟨w1.heap.size, 0, none⟩ 1 1 [.int .i64 f, .int .i64 t] rfl rfl (news_two w1 f t _) (by simp [Value.oneCell']) (by decide) (by unfold maxLen; omega) (by omega) (by simp; omega) _ rfl ?_; intro g3 cap3 w3 hown3 hg3 hat3 hlt3; have NX := Lib.hid (SpRel.app HS.out hg3 hown3))
        go_roundw
        case rel => exact ⟨k + 1, by omega, by go_num, by rw [rights_yes HP.out hr]; have h := NX.out; exact h⟩
        case measure => simp [intOf]; omega
    · have hown := HR.out.1
      have HB := Lib.hid HR.out.2
      have hall := rights_all (l := l) (k := k) (by have := HN.out; omega)
      have HA := Lib.hid hall
      clear hall HR
      go_wp2_with (go_at_call 44; refine (sort_spans _ hown (by omega) hsz).mono ?_; rintro e w2 ⟨rfl, A2, c2, s, hv, hpm, hs, hsp, hb2, _⟩)
      go_ret
      refine ⟨A2, c2, s, by rw [hpm.length_eq]; rfl, hsp, by rw [← HA.out]; exact hpm, fun i j p q hij hi hj => ?_, HB.out.trans hb2⟩
      have := hs i j p q hij hi hj
      rw [ltS] at this
      simp at this
      omega

end Go.Proofs.Ytmfkcbanjlmmhaa
