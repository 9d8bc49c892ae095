/-
  What follows of two relations, as the program tells it: Compose.
-/
import Derived.Test.YtegmegapkfbkeaaDoorFit
namespace Go.Proofs.YtegmegapkfbkeaaDoor
open Go.RowKit

def cmpI (r s : Int) : Nat := if relB r && relB s then cmpN r.toNat s.toNat else 0
theorem cmpI_nat {r s : Nat} (hr : r < 13) (hs : s < 13) : cmpI r s = cmpN r s := by
  unfold cmpI relB
  rw [if_pos (by simp; omega)]; rfl
theorem ends_range : ∀ r i, i < 4 → -1 ≤ ends r i ∧ ends r i ≤ 1 := by
  intro r i _
  unfold ends
  generalize 4 * r + i = n
  have h : ∀ x ∈ endsL, -1 ≤ x ∧ x ≤ 1 := by decide +kernel
  rw [List.getD_eq_getElem?_getD]
  rcases Nat.lt_or_ge n endsL.length with hn | hn
  · rw [List.getElem?_eq_getElem hn]
    exact h _ (List.getElem_mem hn)
  · rw [List.getElem?_eq_none hn]; decide

/-- The cells of a row of the table. -/
abbrev Row (w : World) (r : Nat) : Prop := w.cell? ⟨0, r * 5 + 1, none⟩ = some (.int .i64 (ends r 0)) ∧ w.cell? ⟨0, r * 5 + 2, none⟩ = some (.int .i64 (ends r 1)) ∧ w.cell? ⟨0, r * 5 + 3, none⟩ = some (.int .i64 (ends r 2)) ∧ w.cell? ⟨0, r * 5 + 4, none⟩ = some (.int .i64 (ends r 3))
theorem Tab.row {w : World} (h : Tab w) {r : Nat} (hr : r < 13) : Row w r := (h.2 r hr).2
theorem shl_nat {k : Nat} (hk : k < 13) : IntKind.i64.wrap (1 * 2 ^ k) = ((2 ^ k : Nat) : Int) ∧ IntKind.i64.wrap (2 ^ k) = ((2 ^ k : Nat) : Int) := by
  have h := pow_lt hk
  have e : ((2 : Int) ^ k) = ((2 ^ k : Nat) : Int) := by simp
  have f : IntKind.i64.wrap (2 ^ k) = ((2 ^ k : Nat) : Int) := by
    rw [e]
    generalize 2 ^ k = n at h
    rw [IntKind.wrap_i64]; omega
  exact ⟨by rw [Int.one_mul]; exact f, f⟩

set_option maxHeartbeats 4000000 in
theorem compose_nat (r s : Nat) (hr : r < 13) (hs : s < 13) (w : World) (hT : Tab w) : Ret 17 #[.int .i64 r, .int .i64 s] w (.int .i64 (cmpN r s)) := by
  have kr : relB (r : Int) = true := by simp [relB]; omega
  have ks : relB (s : Int) = true := by simp [relB]; omega
  go_enter Tryd.func17, Tryd.ntmps17
  go_wp2_with fail
  refine (known_any _ _).mono ?_; rintro e w1 ⟨rfl, rfl⟩
  rw [kr]
  go_wp2_with fail
  refine (known_any _ _).mono ?_; rintro e w2 ⟨rfl, rfl⟩
  rw [ks]
  clear kr ks
  have HT := Lib.hid hT
  clear hT
  go_wp2_with fail
  go_loopw [5, 15] (fun v i wr => ∃ k : Nat, k ≤ 13 ∧ i = .int .i64 k ∧ v = .int .i64 (cmpTo r s k) ∧ Below w2.heap.size w2 wr) (fun _ i _ => 13 - (intOf i).toNat)
  case atStart => exact ⟨0, Nat.zero_le _, rfl, rfl, bl _⟩
  case round =>
    obtain ⟨k, hk, rfl, rfl, hb⟩ := hrel
    have HB := Lib.hid hb
    by_cases hlt : k < 13
    · have T := HT.out.below HT.out.1 hb
      have mk : ∀ w', Below wr.heap.size wr w' → (Below wr.heap.size wr w' ∧ Row w' r ∧ Row w' s ∧ Row w' k) := fun w' h =>
        ⟨h, (T.below T.1 h).row hr, (T.below T.1 h).row hs, (T.below T.1 h).row hlt⟩
      have MK := Lib.hid mk
      have HC := cmpTo_lt r s k hk
      have FT := Lib.hid (fun w' => fit_any (ends r) (ends s) (ends k) (ends_range r) (ends_range s) w')
      have LR : (r : Int) < 13 := by omega
      have LS : (s : Int) < 13 := by omega
      clear mk T hb
      cases hf : fitB (ends r) (ends s) (ends k)
      · rw [hf] at FT
        have NX := Lib.hid (show cmpTo r s (k + 1) = cmpTo r s k by rw [cmpTo, hf]; rfl)
        go_wp2_with fail
        go_region_held3 (fun w' => Below wr.heap.size wr w' ∧ Row w' r ∧ Row w' s ∧ Row w' k)
          (first | exact MK.out _ ((Below.refl _ _).drew) | (go_split_ands; exact MK.out _ (chain (by assumption) hb3)) | fail)
          (first
            | (go_at_call 33; refine (FT.out _).mono ?_; rintro e w3 ⟨rfl, hb3⟩))
        have hfin : Below wr.heap.size wr w3 := by go_split_ands; assumption
        go_wp2_with fail
        go_roundw
        case rel => exact ⟨k + 1, by omega, by go_num, by rw [NX.out], chain HB.out hfin⟩
        case measure => simp [intOf]; omega
      · rw [hf] at FT
        have NX := Lib.hid (show cmpTo r s (k + 1) = cmpTo r s k ||| 2 ^ k by rw [cmpTo, hf]; rfl)
        have OR := or_nat HC (pow_lt hlt)
        have SH := (shl_nat hlt).1
        have SH2 := (shl_nat hlt).2
        go_wp2_with fail
        go_region_held3 (fun w' => Below wr.heap.size wr w' ∧ Row w' r ∧ Row w' s ∧ Row w' k)
          (first | exact MK.out _ ((Below.refl _ _).drew) | (go_split_ands; exact MK.out _ (chain (by assumption) hb3)) | fail)
          (first
            | (go_at_call 33; refine (FT.out _).mono ?_; rintro e w3 ⟨rfl, hb3⟩))
        have hfin : Below wr.heap.size wr w3 := by go_split_ands; assumption
        go_wp2_with fail
        go_roundw
        case rel => go_light; refine ⟨k + 1, by omega, by go_num, ?_, chain HB.out hfin⟩; rw [NX.out, ← OR, Int.natCast_pow]; rfl
        case measure => simp [intOf]; omega
    · obtain rfl : k = 13 := by omega
      go_wp2_with fail
      go_ret
      exact ⟨rfl, HB.out⟩

set_option maxHeartbeats 1000000 in
theorem compose_any (r s : Int) (w : World) (hT : Tab w) : Ret 17 #[.int .i64 r, .int .i64 s] w (.int .i64 (cmpI r s)) := by
  cases kr : relB r
  · have e0 : cmpI r s = 0 := by simp [cmpI, kr]
    rw [e0]
    go_enter Tryd.func17, Tryd.ntmps17
    go_wp2_with fail
    refine (known_any _ _).mono ?_; rintro e w1 ⟨rfl, rfl⟩
    rw [kr]
    go_wp2_with fail
    go_ret
    exact ⟨rfl, bl _⟩
  · cases ks : relB s
    · have e0 : cmpI r s = 0 := by simp [cmpI, ks]
      rw [e0]
      go_enter Tryd.func17, Tryd.ntmps17
      go_wp2_with fail
      refine (known_any _ _).mono ?_; rintro e w1 ⟨rfl, rfl⟩
      rw [kr]
      go_wp2_with fail
      refine (known_any _ _).mono ?_; rintro e w2 ⟨rfl, rfl⟩
      rw [ks]
      go_wp2_with fail
      go_ret
      exact ⟨rfl, bl _⟩
    · have hr : 0 ≤ r ∧ r ≤ 12 := by simpa [relB] using kr
      have hs : 0 ≤ s ∧ s ≤ 12 := by simpa [relB] using ks
      obtain ⟨r, rfl⟩ := Int.eq_ofNat_of_zero_le hr.1
      obtain ⟨s, rfl⟩ := Int.eq_ofNat_of_zero_le hs.1
      rw [cmpI_nat (by omega) (by omega)]
      exact compose_nat r s (by omega) (by omega) w hT

end Go.Proofs.YtegmegapkfbkeaaDoor
