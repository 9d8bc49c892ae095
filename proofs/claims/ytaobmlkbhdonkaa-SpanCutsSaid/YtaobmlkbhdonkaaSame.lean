/-
  Lists of spans in memory; the document's Same tells of any two whether they are one.
-/
import Derived.Test.YtaobmlkbhdonkaaMeet
import Derived.RegionTactic
import Derived.ChangeAlike
namespace Go.Proofs.Ytaobmlkbhdonkaa
open Go.RowKit

/-- From A on the spans of l lie, one behind the other. -/
def Spans (w : World) (A : Option Addr) (l : List (Int × Int)) : Prop :=
  ∀ i p, l[i]? = some p → ∃ g off, A = some ⟨g, off, none⟩ ∧ w.cell? ⟨g, off + i * 2, none⟩ = some (.int .i64 p.1) ∧ w.cell? ⟨g, off + i * 2 + 1, none⟩ = some (.int .i64 p.2)

theorem ret_bool {a b : Bool} (h : a = b) : Ending.returned (.bool a) = .returned (.bool b) := by rw [h]
/-- As far as k both are one. -/
def SameTo (l m : List (Int × Int)) (k : Nat) : Prop := ∀ j, j < k → l[j]? = m[j]?

theorem SameTo.next {l m : List (Int × Int)} {k : Nat} (h : SameTo l m k) (he : l[k]? = m[k]?) : SameTo l m (k + 1) := fun j hj => by
  rcases Nat.lt_or_ge j k with hlt | hge
  · exact h j hlt
  · obtain rfl : j = k := by omega
    exact he
theorem SameTo.not {l m : List (Int × Int)} {k : Nat} {p q : Int × Int} (hp : l[k]? = some p) (hq : m[k]? = some q) (hne : p ≠ q) : decide (l = m) = false := by
  simp only [decide_eq_false_iff_not]
  rintro rfl
  rw [hp] at hq
  exact hne (by injection hq)
theorem SameTo.all {l m : List (Int × Int)} {k : Nat} (h : SameTo l m k) (hl : l.length ≤ k) (hm : m.length ≤ k) : decide (l = m) = true := by
  simp only [decide_eq_true_eq]
  apply List.ext_getElem?
  intro i
  rcases Nat.lt_or_ge i k with hlt | hge
  · exact h i hlt
  · rw [List.getElem?_eq_none (by omega), List.getElem?_eq_none (by omega)]

set_option maxHeartbeats 800000 in
theorem same_any (w : World) (A B : Option Addr) (c d : Nat) (l m : List (Int × Int)) (hl : Spans w A l) (hm : Spans w B m) (hn : l.length ≤ 9223372036854775807) :
    Calls Try.prog 20 #[.slice A l.length c, .slice B m.length d] w fun e w' => e = .returned (.bool (decide (l = m))) ∧ Below w.heap.size w w' := by
  by_cases hlen : l.length = m.length
  · have HL := Lib.hid hl
    have HM := Lib.hid hm
    clear hl hm
    obtain ⟨n, hnm⟩ : ∃ n, n = l.length := ⟨_, rfl⟩
    rw [← hlen, ← hnm]
    have HN := Lib.hid hnm
    have HLEN := Lib.hid hlen
    have hn' : n ≤ 9223372036854775807 := by omega
    clear hnm hlen hn
    go_enter Try.func20, Try.ntmps20
    go_wp2
    go_loopw [5] (fun i wr => ∃ k : Nat, k ≤ n ∧ i = .int .i64 k ∧ SameTo l m k ∧ ∃ q, wr = w.drewN q) (fun i _ => n - (intOf i).toNat)
    case atStart => exact ⟨0, Nat.zero_le _, rfl, fun j hj => absurd hj (by omega), 0, rfl⟩
    case round =>
      obtain ⟨k, hk, rfl, hs, q, rfl⟩ := hrel
      have HS := Lib.hid hs
      clear hs
      by_cases hlt : k < n
      · obtain ⟨⟨x, y⟩, hx⟩ : ∃ p, l[k]? = some p := ⟨_, List.getElem?_eq_getElem (by have := HN.out; omega)⟩
        obtain ⟨⟨u, v⟩, hu⟩ : ∃ p, m[k]? = some p := ⟨_, List.getElem?_eq_getElem (by have := HN.out; have := HLEN.out; omega)⟩
        obtain ⟨g, off, rfl, c0, c1⟩ := HL.out k _ hx
        obtain ⟨g', off', rfl, d0, d1⟩ := HM.out k _ hu
        have HX := Lib.hid hx
        have HU := Lib.hid hu
        clear hx hu
        simp only at c0 c1 d0 d1
        by_cases h0 : x = u
        · subst h0
          by_cases h1 : y = v
          · subst h1
            have e0 : (x == x) = true := by simp
            have e1 : (y == y) = true := by simp
            go_wp2
            go_quiet (fail)
            go_wp2
            go_roundw
            case rel => exact ⟨k + 1, by omega, by go_num, SameTo.next HS.out (HX.out.trans HU.out.symm), _, rfl⟩
            case measure => simp [intOf]; omega
          · have e0 : (x == x) = true := by simp
            have e1 : (y == v) = false := by simpa using h1
            go_wp2
            go_quiet (fail)
            go_wp2
            go_ret
            exact ⟨ret_bool (SameTo.not HX.out HU.out (by simpa using h1)).symm, ⟨rfl, rfl, rfl, Nat.le_refl _, fun _ _ => rfl⟩⟩
        · have e0 : (x == u) = false := by simpa using h0
          go_wp2
          go_quiet (fail)
          go_wp2
          go_ret
          exact ⟨ret_bool (SameTo.not HX.out HU.out (by simp [h0])).symm, ⟨rfl, rfl, rfl, Nat.le_refl _, fun _ _ => rfl⟩⟩
      · go_wp2
        go_ret
        exact ⟨ret_bool (SameTo.all HS.out (by have := HN.out; omega) (by have := HN.out; have := HLEN.out; omega)).symm, ⟨rfl, rfl, rfl, Nat.le_refl _, fun _ _ => rfl⟩⟩
  · go_enter Try.func20, Try.ntmps20
    go_wp2
    go_ret
    exact ⟨ret_bool (by simp only [Eq.comm (a := false), decide_eq_false_iff_not]; rintro rfl; exact hlen rfl), Below.refl _ _⟩

end Go.Proofs.Ytaobmlkbhdonkaa
