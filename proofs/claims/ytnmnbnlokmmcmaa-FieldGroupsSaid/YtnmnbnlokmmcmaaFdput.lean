/-
  The document's Put of fields.
-/
import Derived.Test.YtnmnbnlokmmcmaaFdmake
namespace Go.Proofs.Ytnmnbnlokmmcmaa
open Go.RowKit

set_option maxHeartbeats 1000000 in
theorem dofint_any (n : Int) (w : World) : Ret 42 #[.int .i64 n] w (.string (intS n)) := by
  have CI := Lib.hid (fun w => dint_any n w)
  go_enter Try.func42, Try.ntmps42
  go_wp2_with (go_at_call 51; (with_reducible refine (CI.out _).mono ?_); rintro e w2 ⟨rfl, hb⟩)
  go_ret
  exact ⟨rfl, hb⟩

theorem text_small {s : ByteArray} (h : s.size ≤ 12) : (textS s).size ≤ 30 := by
  rw [textS, ByteArray.size_append, encS_size]
  have := kN_le s.size
  omega
theorem int_small {v : Int} (h : valB v = true) : (intS v).size ≤ 10 := by
  rw [intS_enc h, encS_size]
  have := kN_le (zig v).toNat
  omega
theorem right_at : ∀ (l : List Fd) (o : Option ByteArray), rightG o l = 0 → ∀ f ∈ l, nameB f.n = true ∧ valB f.v = true
  | [], _, _, f, h => by simp at h
  | g :: l, o, h, f, hf => by
    obtain ⟨h1, h2, h3⟩ := behind_right.1 h
    rcases List.mem_cons.1 hf with rfl | hf
    · exact ⟨behind_name h1, h2⟩
    · exact right_at l _ h3 f hf
theorem right_in {l : List Fd} (h : rightE l = 0) : l.length ≤ 8 ∧ rightG none l = 0 := by
  unfold rightE at h
  by_cases h8 : 8 < l.length
  · rw [if_pos h8] at h; cases h
  · rw [if_neg h8] at h; exact ⟨by omega, h⟩
theorem ret_sie {s t : ByteArray} {a b : Int} (h : s = t) (k : a = b) : Ending.returned (.tuple #[.string s, .int .i64 a]) = .returned (.tuple #[.string t, .int .i64 b]) := by rw [h, k]

set_option maxHeartbeats 4000000 in
set_option maxRecDepth 10000 in
theorem dput_any (w : World) (v : Value) (l : List Fd) (hl : ListF w v l) (hok : okF l) (hn : l.length ≤ 9223372036854775807) :
    Ret 23 #[v] w (.tuple #[.string (putS l), .int .i64 ((rightE l : Nat) : Int)]) := by
  obtain ⟨A, c, rfl, hF, hc, hnc⟩ := hl
  have CR := Lib.hid (fun w' (h : Below w.heap.size w w') => dright_any w' A c l (hF.below h) hok hn)
  have HF := Lib.hid hF
  by_cases h0 : rightE l = 0
  · obtain ⟨h8, hg⟩ := right_in h0
    have RA := Lib.hid (right_at l none hg)
    have HE := Lib.hid (show putS l = encS l.length ++ manyS l by unfold putS; rw [if_pos h0])
    have HR0 := Lib.hid h0
    rw [h0] at CR
    have CF := Lib.hid (fun w => dof_any l.length (by omega) w)
    obtain ⟨n, hnm⟩ : ∃ n, l.length = n := ⟨_, rfl⟩
    rw [hnm] at h8 CR CF HE ⊢
    have HN := Lib.hid hnm
    have HES := Lib.hid (show (encS n).size ≤ 10 by rw [encS_size]; have := kN_le n; omega)
    have CR0 := Lib.hid (CR.out w (bl w))
    generalize encS n = E at *
    clear hF hok hc hnc hnm hn h0 hg CR
    go_enter Try.func23, Try.ntmps23
    go_wp2_with (first
      | (go_at_call 15; with_reducible refine CR0.out.mono ?_; rintro e w1 ⟨rfl, hb1⟩)
      | (go_at_call 40; with_reducible refine (CF.out _).mono ?_; rintro e w2 ⟨rfl, hb2⟩))
    have HB2 := Lib.hid (chain hb1 hb2)
    clear hb1 hb2
    go_loopw [5, 6] (fun s i wr => ∃ (k : Nat) (S : ByteArray), k ≤ n ∧ i = .int .i64 k ∧ s = .string S ∧ S = E ++ manyS (l.take k) ∧ S.size ≤ 100 + 100 * k ∧ Below w.heap.size w wr) (fun _ i _ => n - (intOf i).toNat)
    case atStart => exact ⟨0, E, Nat.zero_le _, rfl, rfl, by rw [List.take_zero, manyS, append_empty], by have := HES.out; omega, HB2.out⟩
    case round =>
      obtain ⟨k, S, hk, rfl, rfl, hS, hz, hB⟩ := hrel
      have HS := Lib.hid hS
      have HB := Lib.hid hB
      clear hS hB
      by_cases hlt : k < n
      · have hlt' : (k : Int) < (n : Int) := by omega
        obtain ⟨f, hf⟩ : ∃ f, l[k]? = some f := ⟨_, List.getElem?_eq_getElem (by have := HN.out; omega)⟩
        obtain ⟨q1, q2⟩ := RA.out f (List.mem_of_getElem? hf)
        obtain ⟨g, off, rfl, c0, c1⟩ := (HF.out.below HB.out) k f hf
        have CT := Lib.hid (fun w => dtext_any f.n (by have := name_size q1; omega) w)
        have CI := Lib.hid (fun w => dofint_any f.v w)
        have t1 := text_small (name_size q1)
        have t2 := int_small q2
        have NX := Lib.hid (show S ++ textS f.n ++ intS f.v = E ++ manyS (l.take (k + 1)) by
          rw [List.take_add_one, hf, Option.toList_some, manyS_append, manyS, manyS, append_empty, oneS, HS.out, ByteArray.append_assoc, ByteArray.append_assoc])
        generalize textS f.n = T at *
        generalize intS f.v = I at *
        have z1 : ¬ S.size + T.size > 9223372036854775807 := by omega
        have z2 : ¬ S.size + T.size + I.size > 9223372036854775807 := by omega
        have NZ := Lib.hid (show (S ++ T ++ I).size ≤ 100 + 100 * (k + 1) by rw [ByteArray.size_append, ByteArray.size_append]; omega)
        have MK := Lib.hid (show ∀ w', Below wr.heap.size wr w' → (Below wr.heap.size wr w' ∧ w'.cell? ⟨g, off + k * 2, none⟩ = some (.string f.n) ∧ w'.cell? ⟨g, off + k * 2 + 1, none⟩ = some (.int .i64 f.v)) from fun w' h => ⟨h, keepc h c0, keepc h c1⟩)
        clear hf q1 q2 t1 t2 hz
        go_wp2_with fail
        go_region_held3 (fun w' => Below wr.heap.size wr w' ∧ w'.cell? ⟨g, off + k * 2, none⟩ = some (.string f.n) ∧ w'.cell? ⟨g, off + k * 2 + 1, none⟩ = some (.int .i64 f.v))
          (first | exact MK.out _ ((bl wr).drew) | exact MK.out _ hb2 | exact MK.out _ hb1 | fail)
          (first
            | (go_at_call 41; with_reducible refine (CT.out _).mono ?_; rintro e w1 ⟨rfl, hb0⟩; have hb1 := chain (by go_split_ands; assumption) hb0; clear hb0)
            | (go_at_call 42; with_reducible refine (CI.out _).mono ?_; rintro e w3 ⟨rfl, hb0⟩; have hb2 := chain (by go_split_ands; assumption) hb0; clear hb0))
        all_goals
          go_wp2_with fail
          exact ⟨⟨k + 1, _, by omega, by go_num, rfl, NX.out, NZ.out, chain HB.out hb2⟩, by simp [intOf] <;> omega⟩
      · obtain rfl : k = n := by omega
        have hlt' : ¬ (k : Int) < (k : Int) := by omega
        have HX := Lib.hid (show S = E ++ manyS l by rw [HS.out, List.take_of_length_le (by have := HN.out; omega)])
        go_wp2_with fail
        go_ret2
        exact ⟨ret_sie (by rw [HX.out, HE.out]) (by rw [HR0.out]; rfl), HB.out⟩
  · have HE := Lib.hid (show putS l = ⟨#[]⟩ by unfold putS; rw [if_neg h0])
    have CR0 := Lib.hid (CR.out w (bl w))
    have h0' : ¬ ((rightE l : Nat) : Int) = 0 := by omega
    generalize rightE l = z at *
    generalize l.length = n at *
    clear hF hok hc hnc CR h0
    go_enter Try.func23, Try.ntmps23
    go_wp2_with (first
      | (go_at_call 15; with_reducible refine CR0.out.mono ?_; rintro e w1 ⟨rfl, hb1⟩))
    go_ret2
    exact ⟨ret_sie HE.out.symm rfl, hb1⟩

end Go.Proofs.Ytnmnbnlokmmcmaa
