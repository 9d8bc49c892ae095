/-
  Texts joined into one: what the program's and the document's calls give back, piece by piece.
-/
import Derived.Test.YtepjhkcnhahhiaaMg1
import Derived.Test.YtepjhkcnhahhiaaMg2
import Derived.Test.YtepjhkcnhahhiaaMg3
import Derived.Test.YtepjhkcnhahhiaaMg4
import Derived.Test.YtepjhkcnhahhiaaRows
import Derived.BigQuiet
import Derived.ChangeAlike
import Derived.ChangeKeysEq
import Derived.Deep.AppendLies
import Derived.Deep.CutBlock
import Derived.Deep.CutRange
import Derived.Deep.Light
import Derived.Deep.QuietTactic
import Derived.Deep.RegionHeld3
import Derived.Deep.RegionLaw
import Derived.Handy
import Derived.Laws.BytesArg
import Derived.Laws.OwnMore
import Derived.Laws.Strings
import Derived.Laws.StructEq
import Derived.Lib.Hide
import Derived.Maps.AppendAt
import Derived.OneCell
import Derived.OwnWalk
import Derived.RegionTactic
import Derived.StillTailTactics
import Derived.WalkArith
import Derived.WalkKit
import Derived.WalkLawsBesides
import Derived.WalkSpells
import Derived.Laws.Externs
import Derived.Laws.IdiomCopy
import Derived.Lib.AppendStr
import Derived.Lib.Builder
import Derived.Lib.UnsafeStr

/-
  The program's places and Compare.
-/
namespace Go.Proofs.Ytepjhkcnhahhiaa
open Go.RowKit

abbrev PlT : TypeId := 53
/-- The cells of a version's place. -/
abbrev pcl (v : Vr) : Obj := .cells #[.string v.ent, .int .i64 v.sf, .int .i64 v.st] PlT
theorem place_any (v : Vr) (w : World) : Calls Try.prog 31 #[vv v] w fun e w' => e = .returned (.agg #[.string v.ent, .int .i64 v.sf, .int .i64 v.st]) ∧ w' = (w.alloc (ocV v)).alloc (pcl v) := by
  go_enter Try.func31, Try.ntmps31
  go_wp2_with fail
  exact bodyPost_ret (v := .agg #[.string v.ent, .int .i64 v.sf, .int .i64 v.st]) (by simp [results, Try.results31, go_sem]) rfl ⟨rfl, rfl⟩
theorem Try.noGuardPlace : Try.prog.eqGuardType Try.prog.depth PlT = false := by kernel_rfl
set_option maxRecDepth 100000 in
theorem run_eql_place (a b : Vr) (w : World) : (binOp .eql PlT (.agg #[.string a.ent, .int .i64 a.sf, .int .i64 a.st]) (.agg #[.string b.ent, .int .i64 b.sf, .int .i64 b.st])).run Try.prog w = .ok (.bool (decide (a.ent.toList = b.ent.toList ∧ a.sf = b.sf ∧ a.st = b.st))) w := by
  rw [run_eql_struct, run_equalIn_struct w 9999 PlT _ _ Try.underlying53 (by kernel_rfl)]
  have h3 := Try.underlying3
  have h9 := Try.underlying9
  have a3 : ∀ w, (isAgg 3).run Try.prog w = .ok false w := Try.isAgg3
  have a9 : ∀ w, (isAgg 9).run Try.prog w = .ok false w := Try.isAgg9
  simp [Op.eqFields, Program.fieldsOf, Try.underlying53, part, a3, a9, run_equalIn_int w 9998 _ .i64 .i64 _ _ h3, run_equalIn_string w 9998 _ _ _ h9]
  by_cases h1 : a.ent.toList = b.ent.toList
  · by_cases h2 : a.sf = b.sf
    · by_cases h3 : a.st = b.st <;> simp [h1, h2, h3]
    · simp [h1, h2]
  · simp [h1]

set_option maxHeartbeats 1000000 in
theorem or_any (w : World) (g : Nat) (l : List Int) (hc : ∀ i x, l[i]? = some x → w.cell? ⟨g, i, none⟩ = some (.int .i64 x)) (hl : l.length ≤ 1000000) :
    Same 32 #[.slice (some ⟨g, 0, none⟩) l.length l.length] w (.int .i64 (firstN l)) := by
  have HC := Lib.hid hc
  obtain ⟨n, hn⟩ : ∃ n, l.length = n := ⟨_, rfl⟩
  rw [hn] at hl ⊢
  have HN := Lib.hid hn
  obtain ⟨R, hR⟩ : ∃ R, firstN l = R := ⟨_, rfl⟩
  rw [hR]
  have HR := Lib.hid hR
  clear hc hn hR
  go_enter Try.func32, Try.ntmps32
  go_wp2_with fail
  go_loopw [8] (fun i wr => ∃ k : Nat, k ≤ n ∧ i = .int .i64 k ∧ firstN (l.take k) = 0 ∧ wr = w) (fun i _ => n - (intOf i).toNat)
  case atStart => exact ⟨0, Nat.zero_le _, rfl, rfl, rfl⟩
  case round =>
    obtain ⟨k, hk, rfl, hz, rfl⟩ := hrel
    have HZ := Lib.hid hz
    clear hz
    by_cases hlt : k < n
    · have hlt' : (k : Int) < (n : Int) := by omega
      obtain ⟨x, hx⟩ : ∃ x, l[k]? = some x := ⟨_, List.getElem?_eq_getElem (by have := HN.out; omega)⟩
      have c0 := HC.out k x hx
      have HX := Lib.hid hx
      clear hx
      by_cases h0 : x = 0
      · have HF := Lib.hid ((firstN_take HX.out HZ.out).trans h0)
        subst h0
        go_wp2_with fail
        exact ⟨⟨k + 1, by omega, by go_num, HF.out, trivial⟩, by simp [intOf]; omega⟩
      · have HF := Lib.hid (firstN_stop HX.out HZ.out h0)
        have h0b : (x != 0) = true := by rw [bne_iff_ne]; exact h0
        go_wp2_with fail
        go_ret
        exact ⟨ret_int (by rw [← HR.out, HF.out]), rfl⟩
    · have hlt' : ¬ (k : Int) < (n : Int) := by omega
      go_wp2_with fail
      go_ret
      refine ⟨ret_int ?_, rfl⟩
      rw [← HR.out, ← HZ.out, List.take_of_length_le (by have := HN.out; omega)]
theorem or3 (w : World) (g : Nat) (a b c : Int) (h0 : w.cell? ⟨g, 0, none⟩ = some (.int .i64 a)) (h1 : w.cell? ⟨g, 1, none⟩ = some (.int .i64 b)) (h2 : w.cell? ⟨g, 2, none⟩ = some (.int .i64 c)) : Same 32 #[.slice (some ⟨g, 0, none⟩) 3 3] w (.int .i64 (firstN [a, b, c])) :=
  or_any _ g [a, b, c] (fun i x h => by
    rcases i with _ | _ | _ | i
    · obtain rfl : a = x := by simpa using h
      exact h0
    · obtain rfl : b = x := by simpa using h
      exact h1
    · obtain rfl : c = x := by simpa using h
      exact h2
    · simp at h) (by simp)

theorem compareBytes_is : ∀ l m : List UInt8, Lib.compareBytes l m = if lessN (l.map UInt8.toNat) (m.map UInt8.toNat) then -1 else if l.map UInt8.toNat = m.map UInt8.toNat then 0 else 1
  | [], [] => by simp [Lib.compareBytes, lessN]
  | [], _ :: _ => by simp [Lib.compareBytes, lessN]
  | _ :: _, [] => by simp [Lib.compareBytes, lessN]
  | a :: l, b :: m => by
    have ih := compareBytes_is l m
    have h1 : (a < b) ↔ a.toNat < b.toNat := UInt8.lt_iff_toNat_lt
    have h2 : (b < a) ↔ b.toNat < a.toNat := UInt8.lt_iff_toNat_lt
    rw [Lib.compareBytes, List.map_cons, List.map_cons, lessN]
    by_cases k1 : a.toNat < b.toNat
    · rw [if_pos (h1.2 k1)]; simp [k1]
    · rw [if_neg (fun h => k1 (h1.1 h))]
      by_cases k2 : b.toNat < a.toNat
      · rw [if_pos (h2.2 k2)]
        have k3 : ¬ a.toNat = b.toNat := by omega
        simp [k1, k3]
      · rw [if_neg (fun h => k2 (h2.1 h)), ih]
        have k3 : a.toNat = b.toNat := by omega
        simp [k3]
/-- Three numbers that tell which of two versions is ahead. -/
theorem cmpV_first (a b : Vr) : firstN [Lib.compareBytes a.ent.data.toList b.ent.data.toList, Lib.compareInt a.sf b.sf, Lib.compareInt a.st b.st] = cmpV a b := by
  have e : Lib.compareBytes a.ent.data.toList b.ent.data.toList = if lessN (nats a.ent) (nats b.ent) then -1 else if nats a.ent = nats b.ent then 0 else 1 := compareBytes_is _ _
  rw [e]
  unfold cmpV
  simp only [firstN, Lib.compareInt]
  by_cases h1 : lessN (nats a.ent) (nats b.ent) = true
  · rw [if_pos h1, if_pos h1, if_neg (by decide)]
  · rw [if_neg h1, if_neg h1]
    by_cases h2 : nats a.ent = nats b.ent
    · rw [if_pos h2, if_pos h2, if_pos rfl]
      (repeat' split) <;> first | omega | rfl
    · rw [if_neg h2, if_neg h2, if_neg (by decide)]
theorem cmpV_zero {a b : Vr} (h : a.ent.toList = b.ent.toList ∧ a.sf = b.sf ∧ a.st = b.st) : cmpV a b = 0 := by
  obtain ⟨h1, h2, h3⟩ := h
  have h1 := bytes_is.1 h1
  unfold cmpV
  rw [h1, lessN_self, h2, h3]
  simp

set_option maxHeartbeats 4000000 in
set_option maxRecDepth 10000 in
theorem pcmp_any (a b : Vr) (w : World) : Ret 16 #[vv a, vv b] w (.int .i64 (cmpV a b)) := by
  have CP := Lib.hid place_any
  have HB := Lib.hid (((bl w).alloc (Nat.le_refl _) (ocV a)).alloc (by simp) (ocV b))
  have HXa := Lib.hid (show BoxV ((w.alloc (ocV a)).alloc (ocV b)) w.heap.size a from (boxV_new w a).below ((bl _).alloc (Nat.le_refl _) _))
  have HXb := Lib.hid (show BoxV ((w.alloc (ocV a)).alloc (ocV b)) (w.heap.size + 1) b from by
    have := boxV_new (w.alloc (ocV a)) b
    rwa [show (w.alloc (ocV a)).heap.size = w.heap.size + 1 by simp] at this)
  have HC1 := Lib.hid (@cmpV_zero a b)
  have HC2 := Lib.hid (cmpV_first a b)
  obtain ⟨R, hR⟩ : ∃ R, cmpV a b = R := ⟨_, rfl⟩
  rw [hR] at HC1 HC2 ⊢
  clear hR
  have hng := Try.noGuardPlace
  go_enter Try.func16, Try.ntmps16
  go_upto_region 1 with fail
  obtain ⟨W, hW⟩ : ∃ W, (w.alloc (ocV a)).alloc (ocV b) = W := ⟨_, rfl⟩
  rw [hW] at HB HXa HXb ⊢
  clear hW
  go_cut [5, 6] from 7 to 11 (fun s5 s6 wx => ∃ gx gy, s5 = .pointer (some ⟨gx, 0, none⟩) ∧ s6 = .pointer (some ⟨gy, 0, none⟩) ∧ (wx.cell? ⟨gx, 0, none⟩ = some (.string a.ent) ∧ wx.cell? ⟨gx, 1, none⟩ = some (.int .i64 a.sf) ∧ wx.cell? ⟨gx, 2, none⟩ = some (.int .i64 a.st)) ∧ (wx.cell? ⟨gy, 0, none⟩ = some (.string b.ent) ∧ wx.cell? ⟨gy, 1, none⟩ = some (.int .i64 b.sf) ∧ wx.cell? ⟨gy, 2, none⟩ = some (.int .i64 b.st)) ∧ Below W.heap.size W wx)
  case first =>
    have MK := Lib.hid (show ∀ w', Below W.heap.size W w' → (Below W.heap.size W w' ∧ BoxV w' w.heap.size a ∧ BoxV w' (w.heap.size + 1) b) from fun w' h => ⟨h, HXa.out.below h, HXb.out.below h⟩)
    go_region_held3 (fun w' => Below W.heap.size W w' ∧ BoxV w' w.heap.size a ∧ BoxV w' (w.heap.size + 1) b)
      (first | assumption | exact MK.out _ ((Below.refl _ _).drew) | exact MK.out _ (by go_grown) | fail)
      (first
        | (go_at_call 31; with_reducible refine (CP.out _ _).mono ?_; rintro e w3 ⟨rfl, rfl⟩))
    all_goals go_wp2_with fail
    all_goals go_meet
    all_goals refine ⟨_, _, rfl, rfl, ⟨by simp [go_sem], by simp [go_sem], by simp [go_sem]⟩, ⟨by simp [go_sem], by simp [go_sem], by simp [go_sem]⟩, by go_grown⟩
  case rest =>
    obtain ⟨gx, gy, rfl, rfl, ⟨x0, x1, x2⟩, ⟨y0, y1, y2⟩, hbc⟩ := hcut
    have HBC := Lib.hid (chain HB.out hbc)
    have HQ := Lib.hid (run_eql_place a b)
    clear hbc
    by_cases h0 : a.ent.toList = b.ent.toList ∧ a.sf = b.sf ∧ a.st = b.st
    · have HE := Lib.hid (HC1.out h0)
      have hq : ∀ w, (binOp .eql PlT (.agg #[.string a.ent, .int .i64 a.sf, .int .i64 a.st]) (.agg #[.string b.ent, .int .i64 b.sf, .int .i64 b.st])).run Try.prog w = .ok (.bool true) w := fun w => by rw [HQ.out w, decide_eq_true h0]
      clear h0 HC1 HC2
      go_wp2_with fail
      go_ret
      exact ⟨ret_int HE.out.symm, HBC.out⟩
    · have hq : ∀ w, (binOp .eql PlT (.agg #[.string a.ent, .int .i64 a.sf, .int .i64 a.st]) (.agg #[.string b.ent, .int .i64 b.sf, .int .i64 b.st])).run Try.prog w = .ok (.bool false) w := fun w => by rw [HQ.out w, decide_eq_false h0]
      have CS := Lib.hid (fun w => Try.strings_Compare a.ent b.ent w)
      have CI := Lib.hid (fun x y w => Try.cmp_Compare_int x y w)
      have CO := Lib.hid or3
      generalize Lib.compareBytes a.ent.data.toList b.ent.data.toList = r1 at *
      generalize hr2 : Lib.compareInt a.sf b.sf = r2 at *
      generalize hr3 : Lib.compareInt a.st b.st = r3 at *
      have CI1 := Lib.hid (show ∀ w, Calls Try.prog 34 #[.int .i64 a.sf, .int .i64 b.sf] w fun e w' => e = .returned (.int .i64 r2) ∧ w' = w from fun w => by rw [← hr2]; exact CI.out _ _ w)
      have CI2 := Lib.hid (show ∀ w, Calls Try.prog 34 #[.int .i64 a.st, .int .i64 b.st] w fun e w' => e = .returned (.int .i64 r3) ∧ w' = w from fun w => by rw [← hr3]; exact CI.out _ _ w)
      have MK := Lib.hid (show ∀ w', Below wc.heap.size wc w' → (Below wc.heap.size wc w' ∧ (w'.cell? ⟨gx, 0, none⟩ = some (.string a.ent) ∧ w'.cell? ⟨gx, 1, none⟩ = some (.int .i64 a.sf) ∧ w'.cell? ⟨gx, 2, none⟩ = some (.int .i64 a.st)) ∧ (w'.cell? ⟨gy, 0, none⟩ = some (.string b.ent) ∧ w'.cell? ⟨gy, 1, none⟩ = some (.int .i64 b.sf) ∧ w'.cell? ⟨gy, 2, none⟩ = some (.int .i64 b.st))) from fun w' h => ⟨h, ⟨keepc h x0, keepc h x1, keepc h x2⟩, ⟨keepc h y0, keepc h y1, keepc h y2⟩⟩)
      clear h0 HC1 hr2 hr3 CI
      go_wp2_with fail
      go_region_held3 (fun w' => Below wc.heap.size wc w' ∧ (w'.cell? ⟨gx, 0, none⟩ = some (.string a.ent) ∧ w'.cell? ⟨gx, 1, none⟩ = some (.int .i64 a.sf) ∧ w'.cell? ⟨gx, 2, none⟩ = some (.int .i64 a.st)) ∧ (w'.cell? ⟨gy, 0, none⟩ = some (.string b.ent) ∧ w'.cell? ⟨gy, 1, none⟩ = some (.int .i64 b.sf) ∧ w'.cell? ⟨gy, 2, none⟩ = some (.int .i64 b.st)))
        (first | assumption | exact MK.out _ ((bl wc).drew) | exact MK.out _ (((bl wc).drew).alloc (Nat.le_refl _) _) | exact MK.out _ (by go_grown) | fail)
        (first
          | (go_at_call 33; (with_reducible refine (CS.out _).mono ?_); (rintro e w2 ⟨rfl, hw2⟩); (obtain rfl := hw2.symm))
          | (go_at_call 34; (with_reducible refine (CI1.out _).mono ?_); (rintro e w2 ⟨rfl, hw2⟩); (obtain rfl := hw2.symm))
          | (go_at_call 34; (with_reducible refine (CI2.out _).mono ?_); (rintro e w2 ⟨rfl, hw2⟩); (obtain rfl := hw2.symm))
          | (go_at_call 32; (with_reducible refine (CO.out _ _ r1 r2 r3 (by simp [go_sem]) (by simp [go_sem]) (by simp [go_sem])).mono ?_); (rintro e w2 ⟨rfl, hw2⟩); (obtain rfl := hw2.symm))
          | fail)
      go_wp2_with fail
      go_ret
      exact ⟨ret_int HC2.out, chain HBC.out (by first | exact (((bl wc).alloc (Nat.le_refl _) _).drew) | exact (((bl wc).drew).alloc (Nat.le_refl _) _) | go_grown)⟩

end Go.Proofs.Ytepjhkcnhahhiaa

/-
  VersionStands gives back true for any two rows and any number.
-/
namespace Go.Proofs.Ytepjhkcnhahhiaa
open Go.RowKit

theorem cmp_bounds (a b : Vr) : -1 ≤ cmpV a b ∧ cmpV a b ≤ 1 := by
  unfold cmpV
  (repeat' split) <;> omega

set_option maxHeartbeats 4000000 in
set_option maxRecDepth 10000 in
theorem stands_walk (a b : Rw) (x : Int) (w : World) (_ha : a.v.ent.size ≤ 9223372036854775807) (_hb : b.v.ent.size ≤ 9223372036854775807) : Ret 4 #[rv a, rv b, .int .i64 x] w (.bool true) := by
  have CAL := Lib.hid alive_any
  have HB := Lib.hid (((bl w).alloc (Nat.le_refl _) (ocR a)).alloc (by simp) (ocR b))
  have HXa := Lib.hid (show BoxR ((w.alloc (ocR a)).alloc (ocR b)) w.heap.size a from (boxR_new w a).below ((bl _).alloc (Nat.le_refl _) _))
  have HXb := Lib.hid (show BoxR ((w.alloc (ocR a)).alloc (ocR b)) (w.heap.size + 1) b from by
    have := boxR_new (w.alloc (ocR a)) b
    rwa [show (w.alloc (ocR a)).heap.size = w.heap.size + 1 by simp] at this)
  have L1 := Lib.hid (fun w' => plive_any a x w')
  have L2 := Lib.hid (fun w' => dlive_any a x w')
  have P1 := Lib.hid (fun w' => pcmp_any a.v b.v w')
  have D1 := Lib.hid (fun w' => dcmp_any a.v b.v w')
  have P2 := Lib.hid (fun w' => pcmp_any b.v a.v w')
  rw [cmpV_back] at P2
  have hcb := cmp_bounds a.v b.v
  generalize liveB a x = q at *
  generalize cmpV a.v b.v = z at *
  have hw0 : IntKind.i64.wrap (0 - z) = 0 - z := by rw [IntKind.wrap_i64]; omega
  have hw1 : IntKind.i64.wrap (-z) = -z := by rw [IntKind.wrap_i64]; omega
  clear _ha _hb hcb
  go_enter Try.func4, Try.ntmps4
  go_wp2_with fail
  refine abstract_worldW (fun W => Below w.heap.size w W ∧ BoxR W w.heap.size a ∧ BoxR W (w.heap.size + 1) b) ⟨HB.out, HXa.out, HXb.out⟩ ?_
  rintro W ⟨hBW, hXa, hXb⟩
  have HBW := Lib.hid hBW
  have HAW := Lib.hid hXa
  have HBB := Lib.hid hXb
  obtain ⟨⟨a0, a1, a2, a3, a4, a5, a6⟩, a7⟩ := hXa
  obtain ⟨⟨b0, b1, b2, b3, b4, b5, b6⟩, b7⟩ := hXb
  have MK := Lib.hid (show ∀ w', Below W.heap.size W w' → (Below W.heap.size W w' ∧ BoxR w' w.heap.size a ∧ BoxR w' (w.heap.size + 1) b) from fun w' h => ⟨h, HAW.out.below h, HBB.out.below h⟩)
  clear hBW a0 a1 a2 a3 a4 a5 a6 a7 b0 b1 b2 b3 b4 b5 b6 b7
  go_region_held3 (fun w' => Below W.heap.size W w' ∧ BoxR w' w.heap.size a ∧ BoxR w' (w.heap.size + 1) b)
    (first | exact MK.out _ ((bl W).drew) | exact MK.out _ (by go_grown) | fail)
    (fail)
  · have HV := Lib.hid (show Below W.heap.size W ((W.alloc (ocV a.v)).alloc (ocV b.v)) from ((bl W).alloc (Nat.le_refl _) _).alloc (by simp) _)
    have HPa := Lib.hid (show BoxV ((W.alloc (ocV a.v)).alloc (ocV b.v)) (W.heap.size) a.v from (boxV_new W a.v).below ((bl _).alloc (Nat.le_refl _) _))
    have HPb := Lib.hid (show BoxV ((W.alloc (ocV a.v)).alloc (ocV b.v)) (W.heap.size + 1) b.v from by have := boxV_new (W.alloc (ocV a.v)) b.v; rwa [show (W.alloc (ocV a.v)).heap.size = W.heap.size + 1 by simp] at this)
    go_wp2_with fail
    refine abstract_worldW (fun V => Below w.heap.size w V ∧ BoxR V w.heap.size a ∧ BoxR V (w.heap.size + 1) b ∧ BoxV V (W.heap.size) a.v ∧ BoxV V (W.heap.size + 1) b.v) ⟨chain HBW.out HV.out.drew, HAW.out.below HV.out.drew, HBB.out.below HV.out.drew, HPa.out, HPb.out⟩ ?_
    rintro V ⟨hBV, hXa, hXb, hYa, hYb⟩
    have HBV := Lib.hid hBV
    have MK2 := Lib.hid (show ∀ w', Below V.heap.size V w' → (Below V.heap.size V w' ∧ BoxR w' w.heap.size a ∧ BoxV w' (W.heap.size) a.v ∧ BoxV w' (W.heap.size + 1) b.v) from fun w' h => ⟨h, hXa.below h, hYa.below h, hYb.below h⟩)
    clear hBV hXa hXb hYa hYb
    generalize W.heap.size = ws at *
    go_region_held3 (fun w' => Below V.heap.size V w' ∧ BoxR w' w.heap.size a ∧ BoxV w' (ws) a.v ∧ BoxV w' (ws + 1) b.v)
      (first | exact MK2.out _ ((bl V).drew) | exact MK2.out _ hb7 | exact MK2.out _ hb6 | exact MK2.out _ hb5 | exact MK2.out _ hb4 | exact MK2.out _ hb3 | exact MK2.out _ hb2 | exact MK2.out _ hb1 | fail)
      (first
        | (go_at_call 14; (with_reducible refine (L1.out _).mono ?_); (rintro e w1 ⟨rfl, hb0⟩); (have hb1 := chain (by go_split_ands; assumption) hb0); clear hb0)
        | (go_at_call 15; (with_reducible refine (L2.out _).mono ?_); (rintro e w2 ⟨rfl, hb0⟩); (have hb2 := chain (by go_split_ands; assumption) hb0); clear hb0)
        | (go_at_call 16; (with_reducible refine (P1.out _).mono ?_); (rintro e w3 ⟨rfl, hb0⟩); (have hb3 := chain (by go_split_ands; assumption) hb0); clear hb0)
        | (go_at_call 16; (with_reducible refine (P2.out _).mono ?_); (rintro e w5 ⟨rfl, hb0⟩); (have hb5 := chain (by go_split_ands; assumption) hb0); clear hb0)
        | (go_at_call 17; (with_reducible refine (D1.out _).mono ?_); (rintro e w4 ⟨rfl, hb0⟩); (have hb4 := chain (by go_split_ands; assumption) hb0); clear hb0)
        | (go_at_call 7; (with_reducible refine (CAL.out _).mono ?_); (rintro e w7 ⟨rfl, hb0⟩); (have hb7 := chain (by go_split_ands; assumption) hb0); clear hb0))
    go_wp2_with fail
    go_ret
    exact ⟨rfl, chain HBV.out hb7⟩
  · have HV := Lib.hid (show Below W.heap.size W ((W.alloc (ocV b.v)).alloc (ocV a.v)) from ((bl W).alloc (Nat.le_refl _) _).alloc (by simp) _)
    have HPa := Lib.hid (show BoxV ((W.alloc (ocV b.v)).alloc (ocV a.v)) (W.heap.size + 1) a.v from by have := boxV_new (W.alloc (ocV b.v)) a.v; rwa [show (W.alloc (ocV b.v)).heap.size = W.heap.size + 1 by simp] at this)
    have HPb := Lib.hid (show BoxV ((W.alloc (ocV b.v)).alloc (ocV a.v)) (W.heap.size) b.v from (boxV_new W b.v).below ((bl _).alloc (Nat.le_refl _) _))
    go_wp2_with fail
    refine abstract_worldW (fun V => Below w.heap.size w V ∧ BoxR V w.heap.size a ∧ BoxR V (w.heap.size + 1) b ∧ BoxV V (W.heap.size + 1) a.v ∧ BoxV V (W.heap.size) b.v) ⟨chain HBW.out HV.out.drew, HAW.out.below HV.out.drew, HBB.out.below HV.out.drew, HPa.out, HPb.out⟩ ?_
    rintro V ⟨hBV, hXa, hXb, hYa, hYb⟩
    have HBV := Lib.hid hBV
    have MK2 := Lib.hid (show ∀ w', Below V.heap.size V w' → (Below V.heap.size V w' ∧ BoxR w' w.heap.size a ∧ BoxV w' (W.heap.size + 1) a.v ∧ BoxV w' (W.heap.size) b.v) from fun w' h => ⟨h, hXa.below h, hYa.below h, hYb.below h⟩)
    clear hBV hXa hXb hYa hYb
    generalize W.heap.size = ws at *
    go_region_held3 (fun w' => Below V.heap.size V w' ∧ BoxR w' w.heap.size a ∧ BoxV w' (ws + 1) a.v ∧ BoxV w' (ws) b.v)
      (first | exact MK2.out _ ((bl V).drew) | exact MK2.out _ hb7 | exact MK2.out _ hb6 | exact MK2.out _ hb5 | exact MK2.out _ hb4 | exact MK2.out _ hb3 | exact MK2.out _ hb2 | exact MK2.out _ hb1 | fail)
      (first
        | (go_at_call 14; (with_reducible refine (L1.out _).mono ?_); (rintro e w1 ⟨rfl, hb0⟩); (have hb1 := chain (by go_split_ands; assumption) hb0); clear hb0)
        | (go_at_call 15; (with_reducible refine (L2.out _).mono ?_); (rintro e w2 ⟨rfl, hb0⟩); (have hb2 := chain (by go_split_ands; assumption) hb0); clear hb0)
        | (go_at_call 16; (with_reducible refine (P1.out _).mono ?_); (rintro e w3 ⟨rfl, hb0⟩); (have hb3 := chain (by go_split_ands; assumption) hb0); clear hb0)
        | (go_at_call 16; (with_reducible refine (P2.out _).mono ?_); (rintro e w5 ⟨rfl, hb0⟩); (have hb5 := chain (by go_split_ands; assumption) hb0); clear hb0)
        | (go_at_call 17; (with_reducible refine (D1.out _).mono ?_); (rintro e w4 ⟨rfl, hb0⟩); (have hb4 := chain (by go_split_ands; assumption) hb0); clear hb0)
        | (go_at_call 7; (with_reducible refine (CAL.out _).mono ?_); (rintro e w7 ⟨rfl, hb0⟩); (have hb7 := chain (by go_split_ands; assumption) hb0); clear hb0))
    go_wp2_with fail
    go_ret
    exact ⟨rfl, chain HBV.out hb7⟩

end Go.Proofs.Ytepjhkcnhahhiaa
