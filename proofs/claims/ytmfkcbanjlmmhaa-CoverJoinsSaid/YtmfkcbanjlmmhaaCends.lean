/-
  The document's ends: all ends of a list's right spans, each once, rising.
-/
import Derived.Test.YtmfkcbanjlmmhaaCrise
import Derived.StillTailTactics
import Derived.Deep.CutRange
namespace Go.Proofs.Ytmfkcbanjlmmhaa
open Go.RowKit

theorem ends_yes {l : List Sp} {k : Nat} {f t : Int} (hp : l[k]? = some (f, t)) (h : rightB f t = true) : endsOf (l.take (k + 1)) = endsOf (l.take k) ++ [f, t] := by
  rw [List.take_add_one, hp, Option.toList_some, ends_append]
  simp [endsOf, h]
theorem ends_no {l : List Sp} {k : Nat} {f t : Int} (hp : l[k]? = some (f, t)) (h : rightB f t = false) : endsOf (l.take (k + 1)) = endsOf (l.take k) := by
  rw [List.take_add_one, hp, Option.toList_some, ends_append]
  simp [endsOf, h]
theorem ends_le (l : List Sp) (k : Nat) : (endsOf (l.take k)).length ≤ 2 * k := by
  have h1 := ends_length (l.take k)
  have h2 := List.length_take_le k l
  omega
/-- What holds at the head of each round. -/
def EndRel (W : World) (ts : List Int) (v : Value) (wr : World) : Prop := ownI wr W.heap.size v ts ∧ Below W.heap.size W wr
theorem EndRel.app {W wr w1 : World} {ts : List Int} {v v1 : Value} {o : Obj} {f t : Int} (h : EndRel W ts v wr) (hg : (wr.drew.alloc o).grownBy w1 v.ownBlock) (hown : ownI w1 W.heap.size v1 (ts ++ [f, t])) : EndRel W (ts ++ [f, t]) v1 w1 :=
  ⟨hown, below_app (w := wr.drew) (belowN' h.2 1) hg h.2.size (fun k hk => (h.1.lt k hk).1)⟩

theorem ints_two (w : World) (x y : Int) (t : TypeId) : Ints (w.alloc (.cells #[.int .i64 x, .int .i64 y] t)) (some ⟨w.heap.size, 0, none⟩) [x, y] := fun i p hp => by
  refine ⟨_, _, rfl, ?_⟩
  rcases i with _ | _ | i
  · obtain rfl : x = p := by simpa using hp
    simp [go_sem]
  · obtain rfl : y = p := by simpa using hp
    simp [go_sem]
  · simp at hp
/-- What ends leaves. -/
def EndsPost (l : List Sp) (w : World) (e : Ending) (w' : World) : Prop := ∃ v, e = .returned v ∧ ownI w' w.heap.size v (riseL (endsOf l)) ∧ Below w.heap.size w w'

set_option maxHeartbeats 4000000 in
set_option maxRecDepth 4000 in
theorem ends_any (w : World) (A : Option Addr) (c : Nat) (l : List Sp) (hl : Spans w A l) (hn : l.length ≤ 400) :
    Calls Try.prog 33 #[.slice A l.length c] w (EndsPost l w) := by
  obtain ⟨i0, hi, hz0, hz1, hz2⟩ := info_parts Try.infoInt
  have HL := Lib.hid hl
  clear hl
  obtain ⟨n, hnm⟩ : ∃ n, n = l.length := ⟨_, rfl⟩
  rw [← hnm]
  have hn' : n ≤ 400 := by omega
  have HN := Lib.hid hnm
  clear hnm hn
  go_enter Try.func33, Try.ntmps33
  go_wp2_with fail
  go_loopw [3, 4] (fun v i wr => ∃ k : Nat, k ≤ n ∧ i = .int .i64 k ∧ EndRel w (endsOf (l.take k)) v wr) (fun _ i _ => n - (intOf i).toNat)
  case atStart => exact ⟨0, Nat.zero_le _, rfl, World.ownsRow_nil _ _ _ _, bl _⟩
  case round =>
    obtain ⟨k, hk, rfl, hR⟩ := hrel
    have HR := Lib.hid hR
    have hsz := hR.2.size
    have hle := ends_le l k
    clear hR
    by_cases hlt : k < n
    · obtain ⟨⟨f, t⟩, hp⟩ : ∃ p, l[k]? = some p := ⟨_, List.getElem?_eq_getElem (by have := HN.out; omega)⟩
      obtain ⟨g, off, rfl, c0, c1⟩ := HL.out.at hp
      have d0 := keepc HR.out.2 c0
      have d1 := keepc HR.out.2 c1
      have HP := Lib.hid hp
      clear hp
      cases hr : rightB f t
      · clear c0 c1
        go_wp2_with (go_at_call 30; refine (dright_any _ _ _).mono ?_; rintro e w1 ⟨rfl, hb1⟩)
        go_roundw
        case rel => exact ⟨k + 1, by omega, by go_num, by rw [ends_no HP.out hr]; exact ⟨own_below HR.out.1 hb1, chain HR.out.2 hb1⟩⟩
        case measure => simp [intOf]; omega
      · go_wp2_with fail
        (go_at_call 30; refine (dright_any _ _ _).mono ?_; rintro e w1 ⟨rfl, hb1⟩)
        have e0 := keepc hb1 d0
        have e1 := keepc hb1 d1
        have HS := Lib.hid (show EndRel w (endsOf (l.take k)) u3 w1 from ⟨own_below HR.out.1 hb1, chain HR.out.2 hb1⟩)
        have hown1 : w1.drew.ownsRow w.heap.size 3 1 u3 (endsOf (l.take k)).length ((endsOf (l.take k)).map (Value.int .i64)) := own_below HS.out.1 (belowN' (bl _) 1)
        have hsz1 := HS.out.2.size
        clear hb1
        go_upto_region 6 with fail
        have mk : ∀ w', Below w.heap.size w w' → (Below w.heap.size w w' ∧ w'.cell? ⟨g, off + k * 2, none⟩ = some (.int .i64 f) ∧ w'.cell? ⟨g, off + k * 2 + 1, none⟩ = some (.int .i64 t)) := fun w' h => ⟨h, keepc h c0, keepc h c1⟩
        have MK := Lib.hid mk
        clear mk c0 c1 d0 d1
        go_region_held3 (fun w' => Below w.heap.size w w' ∧ w'.cell? ⟨g, off + k * 2, none⟩ = some (.int .i64 f) ∧ w'.cell? ⟨g, off + k * 2 + 1, none⟩ = some (.int .i64 t))
          (first | exact MK.out _ (belowN' HS.out.2 1) | exact MK.out _ ((belowN' HS.out.2 1).alloc hsz1 _) | exact MK.out _ hb3 | fail)
          (first
            | (refine step_app rfl (.tmp 16) (.tmp 27) rfl (base := w.heap.size) rfl (World.ownsRow.alloc hown1 _) rfl rfl (ints_two w1.drew f t _) (by simp) (by simp; omega) (by simp; omega) ?_; intro v' w2 hown2 hg2 hat2; have NX := Lib.hid (EndRel.app HS.out hg2 hown2); have hb3 := NX.out.2))
        go_wp2_with fail
        go_roundw
        case rel => exact ⟨k + 1, by omega, by go_num, by rw [ends_yes HP.out hr]; exact NX.out⟩
        case measure => simp [intOf]; omega
    · obtain ⟨Ai, ci, hv, hin⟩ := own_ints HR.out.1
      subst hv
      have HIN := Lib.hid hin
      have hall : endsOf (l.take k) = endsOf l := by rw [List.take_of_length_le (by have := HN.out; omega)]
      rw [hall] at HIN hle
      have HB := Lib.hid HR.out.2
      rw [hall]
      clear hin hall HR
      go_wp2_with (go_at_call 47; refine (rise_any _ _ _ _ HIN.out (by omega)).mono ?_; rintro e w2 ⟨v2, rfl, hown2, hb2⟩)
      go_ret
      exact ⟨_, rfl, rise_own hsz hown2, HB.out.trans (hb2.mono hsz)⟩

end Go.Proofs.Ytmfkcbanjlmmhaa
