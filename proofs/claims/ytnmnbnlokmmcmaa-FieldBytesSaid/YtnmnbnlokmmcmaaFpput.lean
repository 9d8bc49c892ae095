/-
  The program's Put: the bytes of a list of fields.
-/
import Derived.Test.YtnmnbnlokmmcmaaFbuild
namespace Go.Proofs.Ytnmnbnlokmmcmaa
open Go.RowKit

set_option maxHeartbeats 4000000 in
set_option maxRecDepth 100000 in
theorem pput_any (w : World) (v : Value) (l : List Fd) (hl : ListF w v l) (hok : okF l) (hn : l.length ≤ 9223372036854775807) :
    Ret 22 #[v] w (.tuple #[.string (putS l), .int .i64 ((rightE l : Nat) : Int)]) := by
  have CR := Lib.hid (pright_any w v l hl hok hn)
  obtain ⟨A, c, rfl, hF, hc, hnc⟩ := hl
  have HF := Lib.hid hF
  by_cases h0 : rightE l = 0
  · obtain ⟨h8, hg⟩ := right_in h0
    have RA := Lib.hid (right_at l none hg)
    have HE := Lib.hid (show putS l = encS l.length ++ manyS l by unfold putS; rw [if_pos h0])
    have HR0 := Lib.hid h0
    rw [h0] at CR
    have CF := Lib.hid (show ∀ w, Calls Try.prog 35 #[.int .i64 (l.length : Int)] w fun e w' => e = .returned (.tuple #[.string (encS l.length), .int .i64 0]) ∧ Below w.heap.size w w' from fun w => (num_any (l.length : Int) w).mono fun e w' h => by
      obtain ⟨k1, k2⟩ := num_ok (n := l.length) (by omega)
      exact ⟨by rw [h.1, k1, k2], h.2⟩)
    obtain ⟨n, hnm⟩ : ∃ n, l.length = n := ⟨_, rfl⟩
    rw [hnm] at h8 CR CF HE ⊢
    have HN := Lib.hid hnm
    have HES := Lib.hid (show (encS n).size ≤ 10 by rw [encS_size]; have := kN_le n; omega)
    generalize encS n = E at *
    clear hF hok hc hnc hnm hn h0 hg
    go_enter Try.func22, Try.ntmps22
    go_wp2_with (first
      | (go_at_call 14; with_reducible refine CR.out.mono ?_; rintro e w1 ⟨rfl, hb1⟩)
      | (go_at_call 35; with_reducible refine (CF.out _).mono ?_; rintro e w2 ⟨rfl, hb2⟩; have HB2 := Lib.hid (chain hb1 hb2); have B0 := Lib.hid (Bld.new w2); clear hb1 hb2)
      | (go_at_call 36; with_reducible refine (B0.out.text E (by have := HES.out; simp; omega)).mono ?_; rintro e w3 ⟨rfl, hb3⟩; have B1 := Lib.hid hb3; clear hb3))
    go_loopw [27] (fun i wr => ∃ (k : Nat) (L : List Nat), k ≤ n ∧ i = .int .i64 k ∧ L = nats (E ++ manyS (l.take k)) ∧ L.length ≤ 100 + 100 * k ∧ Bld w2 w2.heap.size L wr) (fun i _ => n - (intOf i).toNat)
    case atStart => exact ⟨0, _, Nat.zero_le _, rfl, by rw [List.take_zero, manyS, append_empty]; rfl, by have := HES.out; rw [List.nil_append, nats_length]; omega, B1.out⟩
    case round =>
      obtain ⟨k, L, hk, rfl, hL, hz, hB⟩ := hrel
      have HS := Lib.hid hL
      have HB := Lib.hid hB
      clear hL hB
      by_cases hlt : k < n
      · have hlt' : (k : Int) < (n : Int) := by omega
        obtain ⟨f, hf⟩ : ∃ f, l[k]? = some f := ⟨_, List.getElem?_eq_getElem (by have := HN.out; omega)⟩
        obtain ⟨q1, q2⟩ := RA.out f (List.mem_of_getElem? hf)
        obtain ⟨g, off, rfl, c0, c1⟩ := (HF.out.below (chain HB2.out HB.out.bel)) k f hf
        have CT := Lib.hid (show ∀ w, Calls Try.prog 38 #[.string f.n] w fun e w' => e = .returned (.string (textS f.n)) ∧ Below w.heap.size w w' from fun w => text_any f.n (by have := name_size q1; omega) w)
        have CI := Lib.hid (show ∀ w, Calls Try.prog 37 #[.int .i64 f.v] w fun e w' => e = .returned (.tuple #[.string (intS f.v), .int .i64 (intE f.v)]) ∧ Below w.heap.size w w' from fun w => int_any f.v w)
        have t1 := text_small (name_size q1)
        have t2 := int_small q2
        have NX := Lib.hid (show L ++ nats (textS f.n) ++ nats (intS f.v) = nats (E ++ manyS (l.take (k + 1))) by
          rw [List.take_add_one, hf, Option.toList_some, manyS_append, manyS, manyS, append_empty, oneS, HS.out, ← nats_append, ← nats_append, ByteArray.append_assoc, ByteArray.append_assoc])
        generalize textS f.n = T at *
        generalize intS f.v = I at *
        generalize intE f.v = J at *
        have N1 := Lib.hid (show L.length + T.size ≤ 140000000000000 by omega)
        have N2 := Lib.hid (show (L ++ nats T).length + I.size ≤ 140000000000000 by rw [List.length_append, nats_length]; omega)
        have N3 := Lib.hid (show (L ++ nats T ++ nats I).length ≤ 100 + 100 * (k + 1) by rw [List.length_append, List.length_append, nats_length, nats_length]; omega)
        clear hf q1 q2 t1 t2
        go_wp2_with (first
          | (go_at_call 37; with_reducible refine (CI.out _).mono ?_; rintro e w4 ⟨rfl, hb4⟩; have x0 := keepc (b := wr.heap.size) (o := 0) (v := .string f.n) hb4 (by simp [go_sem]); have B4 := Lib.hid ((HB.out.below ((bl wr).alloc (Nat.le_refl _) _)).below hb4); clear hb4)
          | (go_at_call 38; with_reducible refine (CT.out _).mono ?_; rintro e w5 ⟨rfl, hb5⟩; have B5 := Lib.hid (B4.out.below hb5); clear hb5)
          | (go_at_call 36; with_reducible refine (B5.out.text T N1.out).mono ?_; rintro e w6 ⟨rfl, hb6⟩; have B6 := Lib.hid hb6; clear hb6)
          | (go_at_call 36; with_reducible refine (B6.out.text I N2.out).mono ?_; rintro e w7 ⟨rfl, hb7⟩; have B7 := Lib.hid hb7; clear hb7))
        exact ⟨⟨k + 1, _, by omega, by go_num, NX.out, N3.out, B7.out⟩, by simp [intOf] <;> omega⟩
      · obtain rfl : k = n := by omega
        have hlt' : ¬ (k : Int) < (k : Int) := by omega
        have HX := Lib.hid (show bytesN L = E ++ manyS l by rw [HS.out, bytes_nats, List.take_of_length_le (by have := HN.out; omega)])
        go_wp2_with (go_at_call 39; with_reducible refine HB.out.read.mono ?_; rintro e w4 ⟨rfl, hb4⟩)
        go_ret2
        exact ⟨ret_sie (by rw [HX.out, HE.out]) (by rw [HR0.out]; rfl), chain HB2.out hb4⟩
  · have HE := Lib.hid (show putS l = ⟨#[]⟩ by unfold putS; rw [if_neg h0])
    have h0' : ¬ ((rightE l : Nat) : Int) = 0 := by omega
    generalize rightE l = z at *
    generalize l.length = n at *
    clear hF hok hc hnc h0
    go_enter Try.func22, Try.ntmps22
    go_wp2_with (first
      | (go_at_call 14; with_reducible refine CR.out.mono ?_; rintro e w1 ⟨rfl, hb1⟩))
    go_ret2
    exact ⟨ret_sie HE.out.symm rfl, hb1⟩

end Go.Proofs.Ytnmnbnlokmmcmaa
