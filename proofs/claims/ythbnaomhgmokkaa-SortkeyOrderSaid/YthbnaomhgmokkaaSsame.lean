/-
  Lists of parts compared, by the law's same.
-/
import Derived.Test.YthbnaomhgmokkaaSown
import Derived.Laws.StructEq
namespace Go.Proofs.Ythbnaomhgmokkaa
open Go.RowKit

theorem Try.noGuardPart : Try.prog.eqGuardType Try.prog.depth 51 = false := by kernel_rfl
/-- A part is the same as itself. -/
theorem run_neq_part (p : Prt) (w : World) : (binOp .neq 51 (pv p) (pv p)).run Try.prog w = .ok (.bool false) w := by
  rw [run_neq_struct, run_equalIn_struct w 9999 51 _ _ Try.underlying51 (by kernel_rfl)]
  have h3 := Try.underlying3
  have h4 := Try.underlying4
  have h9 := Try.underlying9
  have c3 : Try.prog.cellsOf 3 = 1 := by kernel_rfl
  have c4 : Try.prog.cellsOf 4 = 1 := by kernel_rfl
  have c9 : Try.prog.cellsOf 9 = 1 := by kernel_rfl
  have a3 : ∀ w, (isAgg 3).run Try.prog w = .ok false w := Try.isAgg3
  have a4 : ∀ w, (isAgg 4).run Try.prog w = .ok false w := Try.isAgg4
  have a9 : ∀ w, (isAgg 9).run Try.prog w = .ok false w := Try.isAgg9
  simp [Op.eqFields, Program.fieldsOf, Try.underlying51, part, a3, a4, a9, c3, c4, c9, run_equalIn_bool' w 9998 _ _ _ h4, run_equalIn_int w 9998 _ .i64 .i64 _ _ h3, run_equalIn_string w 9998 _ _ _ h9]

set_option maxHeartbeats 2000000 in
theorem same_any (w : World) (A B : Option Addr) (c d : Nat) (l : List Prt) (ha : Parts w A l) (hb : Parts w B l) (hn : l.length ≤ 1048576) :
    Ret 26 #[.slice A l.length c, .slice B l.length d] w (.bool true) := by
  have HA := Lib.hid ha
  have HB := Lib.hid hb
  obtain ⟨n, hnm⟩ : ∃ n, l.length = n := ⟨_, rfl⟩
  rw [hnm] at hn ⊢
  have HN := Lib.hid hnm
  clear ha hb hnm
  have hm := Try.noGuardPart
  go_enter Try.func26, Try.ntmps26
  go_wp2_with fail
  go_loopw [13] (fun i wr => ∃ k : Nat, k ≤ n ∧ i = .int .i64 k ∧ Below w.heap.size w wr) (fun i _ => n - (intOf i).toNat)
  case atStart => exact ⟨0, Nat.zero_le _, rfl, bl w⟩
  case round =>
    obtain ⟨k, hk, rfl, hW⟩ := hrel
    have HW := Lib.hid hW
    clear hW
    by_cases hlt : k < n
    · have hlt' : (k : Int) < (n : Int) := by omega
      obtain ⟨p, hp⟩ : ∃ p, l[k]? = some p := ⟨_, List.getElem?_eq_getElem (by have := HN.out; omega)⟩
      obtain ⟨g, off, rfl, c0, c1, c2⟩ := (HA.out.below HW.out) k p hp
      obtain ⟨g', off', rfl, d0, d1, d2⟩ := (HB.out.below HW.out) k p hp
      have hq := run_neq_part p
      clear hp
      go_wp2_with fail
      go_quiet (fail)
      go_wp2_with fail
      first
        | exact ⟨⟨k + 1, by omega, by go_num, belowN HW.out _⟩, by simp [intOf] <;> omega⟩
        | (go_roundw
           case rel => exact ⟨k + 1, by omega, by go_num, belowN HW.out _⟩
           case measure => simp [intOf] <;> omega)
    · obtain rfl : k = n := by omega
      have hlt' : ¬ (k : Int) < (k : Int) := by omega
      go_wp2_with fail
      go_ret
      exact ⟨rfl, HW.out⟩

end Go.Proofs.Ythbnaomhgmokkaa
