/-
  The relations' names, as the program and the document tell them; the chapter's examples.
-/
import Derived.Test.YtegmegapkfbkeaaDoorCompose
namespace Go.Proofs.YtegmegapkfbkeaaDoor
open Go.RowKit

def nameOf (n : Int) : ByteArray := if relB n then nameL.getD n.toNat ⟨#[]⟩ else ⟨#[]⟩
theorem ret_str {a b : ByteArray} (h : a = b) : Ending.returned (.string a) = .returned (.string b) := by rw [h]

theorem name_any (n : Int) (w : World) (hT : Tab w) : Same 12 #[.int .i64 n] w (.string (nameOf n)) := by
  cases kr : relB n
  · go_enter Tryd.func12, Tryd.ntmps12
    go_wp2_with fail
    refine (known_any _ _).mono ?_; rintro e w1 ⟨rfl, rfl⟩
    rw [kr]
    go_wp2_with fail
    go_ret
    exact ⟨ret_str (by simp [nameOf, kr]), rfl⟩
  · have hr : 0 ≤ n ∧ n ≤ 12 := by simpa [relB] using kr
    obtain ⟨r, rfl⟩ := Int.eq_ofNat_of_zero_le hr.1
    have c0 := (hT.2 r (by omega)).1
    have l0 : (r : Int) < 13 := by omega
    go_enter Tryd.func12, Tryd.ntmps12
    go_wp2_with fail
    refine (known_any _ _).mono ?_; rintro e w1 ⟨rfl, rfl⟩
    rw [kr]
    have KR := Lib.hid kr
    clear kr hT hr
    go_wp2_with fail
    go_ret
    exact ⟨ret_str (by simp [nameOf, KR.out]), rfl⟩

theorem name_cells (w : World) (t r : Nat) (hr : r < 13) : (w.alloc (.cells #[.string ⟨#[98, 101, 102, 111, 114, 101]⟩, .string ⟨#[109, 101, 101, 116, 115]⟩, .string ⟨#[111, 118, 101, 114, 108, 97, 112, 115]⟩, .string ⟨#[115, 116, 97, 114, 116, 115]⟩, .string ⟨#[100, 117, 114, 105, 110, 103]⟩, .string ⟨#[102, 105, 110, 105, 115, 104, 101, 115]⟩, .string ⟨#[101, 113, 117, 97, 108, 115]⟩, .string ⟨#[102, 105, 110, 105, 115, 104, 101, 100]⟩, .string ⟨#[99, 111, 110, 116, 97, 105, 110, 115]⟩, .string ⟨#[115, 116, 97, 114, 116, 101, 100]⟩, .string ⟨#[111, 118, 101, 114, 108, 97, 112, 112, 101, 100]⟩, .string ⟨#[109, 101, 116]⟩, .string ⟨#[97, 102, 116, 101, 114]⟩] t)).cell? ⟨w.heap.size, r, none⟩ = some (.string (nameL.getD r ⟨#[]⟩)) := by
  have : r = 0 ∨ r = 1 ∨ r = 2 ∨ r = 3 ∨ r = 4 ∨ r = 5 ∨ r = 6 ∨ r = 7 ∨ r = 8 ∨ r = 9 ∨ r = 10 ∨ r = 11 ∨ r = 12 := by omega
  rcases this with rfl | rfl | rfl | rfl | rfl | rfl | rfl | rfl | rfl | rfl | rfl | rfl | rfl <;> simp [go_sem, nameL]

set_option maxHeartbeats 1000000 in
theorem dname_any (n : Int) (w : World) : Ret 13 #[.int .i64 n] w (.string (nameOf n)) := by
  cases kr : relB n
  · go_enter Tryd.func13, Tryd.ntmps13
    go_wp2_with fail
    refine (is_any _ _).mono ?_; rintro e w1 ⟨rfl, rfl⟩
    rw [kr]
    go_wp2_with fail
    go_ret
    exact ⟨ret_str (by simp [nameOf, kr]), by go_grown⟩
  · have hr : 0 ≤ n ∧ n ≤ 12 := by simpa [relB] using kr
    obtain ⟨r, rfl⟩ := Int.eq_ofNat_of_zero_le hr.1
    have C := Lib.hid (fun t => name_cells w t r (by omega))
    have l0 : (r : Int) < 13 := by omega
    have HN := Lib.hid (show nameL.getD r ⟨#[]⟩ = nameOf r by simp [nameOf, kr])
    go_enter Tryd.func13, Tryd.ntmps13
    go_wp2_with fail
    refine (is_any _ _).mono ?_; rintro e w1 ⟨rfl, hw1⟩
    have c1 : w1.cell? ⟨w.heap.size, r, none⟩ = some (.string (nameL.getD r ⟨#[]⟩)) := by rw [hw1]; exact C.out _
    rw [kr]
    have hB : Below w.heap.size w w1 := by rw [hw1]; go_grown
    have HB := Lib.hid hB
    clear kr hr hw1 hB
    go_wp2_with fail
    go_ret
    exact ⟨ret_str HN.out, HB.out⟩

theorem ex_of : ofI 0 2 2 3 = 1 ∧ bothB 0 2 2 3 = true := by decide +kernel
theorem ex_11 : cmpI 1 1 = 1 := by decide +kernel
theorem ex_012 : cmpI 0 12 = 8191 := by decide +kernel
set_option maxHeartbeats 1000000 in
theorem alive_any (w : World) (hT : Tab w) : Ret 15 #[] w (.bool true) := by
  have HT := Lib.hid hT
  clear hT
  go_enter Tryd.func15, Tryd.ntmps15
  go_wp2_with fail
  refine (of_any 0 2 2 3 w HT.out).mono ?_; rintro e w1 ⟨rfl, hb1⟩
  rw [ex_of.1, ex_of.2]
  have HT1 := Lib.hid (HT.out.below HT.out.1 hb1)
  go_wp2_with fail
  refine (compose_any 1 1 _ HT1.out).mono ?_; rintro e w2 ⟨rfl, hb2⟩
  rw [ex_11]
  have HT2 := Lib.hid (HT1.out.below HT1.out.1 hb2)
  go_wp2_with fail
  refine (compose_any 0 12 _ HT2.out).mono ?_; rintro e w3 ⟨rfl, hb3⟩
  rw [ex_012]
  go_wp2_with fail
  go_ret
  exact ⟨rfl, chain hb1 (chain hb2 hb3)⟩

end Go.Proofs.YtegmegapkfbkeaaDoor
