/-
  What a text begins with, by the document: its TakeNum.
-/
import Derived.Test.YtnmnbnlokmmcmaaPtext
import Derived.Deep.CutBlock
namespace Go.Proofs.Ytnmnbnlokmmcmaa
open Go.RowKit

theorem bit_and_one {c j : Nat} (hc : c < 256) (hj : j ≤ 7) : bits BinOp.and IntKind.u8 ((c : Int) / 2 ^ j) 1 = ((c / 2 ^ j % 2 : Nat) : Int) := by
  have e : (c : Int) / 2 ^ j = ((c / 2 ^ j : Nat) : Int) := by simp
  have hlt : c / 2 ^ j < 256 := Nat.lt_of_le_of_lt (Nat.div_le_self _ _) hc
  have key : ∀ x : Nat, x < 256 → bits BinOp.and IntKind.u8 (x : Int) 1 = ((x % 2 : Nat) : Int) := by decide +kernel
  rw [e, key _ hlt]
/-- The i-th byte without the mark. -/
theorem bare_get {c : Nat} {r : List Nat} {i : Nat} (hi : i ≤ ones c) (hl : ones c ≤ r.length) : (bare c r)[i]? = some (if i = 0 then c - mark (ones c) else r.getD (i - 1) 0) := by
  rcases i with _ | i
  · rfl
  · rw [bare, List.getElem?_cons_succ, List.getElem?_take_of_lt (by omega), if_neg (by omega), List.getElem?_eq_getElem (by omega), List.getD_eq_getElem?_getD, Nat.add_sub_cancel, List.getElem?_eq_getElem (by omega)]
    rfl
theorem enc_is {s : ByteArray} {c : Nat} {r : List Nat} (h : nats s = c :: r) (hl : ones c ≤ r.length) (hm : takeV c r < 4611686018427387904) :
    ((encS (takeV c r)).toList == (s.extract 0 (ones c + 1)).toList) = decide (kN (takeV c r) = ones c) := by
  have hr : ∀ b ∈ r, b < 256 := fun b hb => nats_lt s b (by rw [h]; exact List.mem_cons_of_mem _ hb)
  have e1 : nats (s.extract 0 (ones c + 1)) = c :: r.take (ones c) := by rw [nats_extract, h, List.drop_zero, Nat.sub_zero, List.take_succ_cons]
  have e2 := nats_encS hm
  have iff := enc_takeV_iff hr hl
  by_cases hk : kN (takeV c r) = ones c
  · have : encS (takeV c r) = s.extract 0 (ones c + 1) := nats_inj (by rw [e1, e2]; exact iff.2 hk)
    rw [this]; simp [hk]
  · have : (encS (takeV c r)).toList ≠ (s.extract 0 (ones c + 1)).toList := fun e => hk (iff.1 (by
      have e3 := congrArg (fun z => z.map UInt8.toNat) e
      simp only [ByteArray.toList_eq] at e3
      have e4 : nats (encS (takeV c r)) = nats (s.extract 0 (ones c + 1)) := e3
      rw [e1, e2] at e4
      exact e4))
    rw [beq_eq_false_iff_ne.2 this]; simp [hk]

theorem bare_length' {c : Nat} {r : List Nat} {O : Nat} (hl : ones c ≤ r.length) (h : ones c = O) : (bare c r).length = O + 1 := by rw [bare_length hl, h]

set_option maxHeartbeats 1000000 in
theorem dtake_nil (w : World) : Calls Try.prog 45 #[.string ⟨#[]⟩] w (TakePost ⟨#[]⟩ w) := by
  have HT := Lib.hid (tk_nil (s := ⟨#[]⟩) rfl)
  go_enter Try.func45, Try.ntmps45
  go_wp2_with fail
  go_ret3
  exact ⟨ret_ise (by rw [HT.out.1]; rfl) HT.out.2.1.symm (by rw [HT.out.2.2]; rfl), bl _⟩

set_option maxHeartbeats 4000000 in
set_option maxRecDepth 10000 in
theorem dtake_cons (s : ByteArray) (hs : s.size ≤ 4611686018427387903) (c : Nat) (r : List Nat) (h : nats s = c :: r) (w : World) : Calls Try.prog 45 #[.string s] w (TakePost s w) := by
  have hc : c < 256 := nats_lt s c (by rw [h]; exact List.mem_cons_self)
  have hlen : s.size = r.length + 1 := by rw [← nats_length, h]; rfl
  have hi0 : ∀ w, (Instr.index 9 (.string s) (.int .i64 0)).run Try.prog w = .ok (.int .u8 (c : Int)) w := fun w => index_run (i := 0) (by rw [h]; rfl) w
  have hne : s.toList.isEmpty = false := by
    rw [ByteArray.toList_eq]
    have h2 : s.data.toList.length = s.size := Array.length_toList
    cases h3 : s.data.toList with
    | nil => rw [h3] at h2; simp at h2; omega
    | cons => rfl
  have hr : ∀ b ∈ r, b < 256 := fun b hb => nats_lt s b (by rw [h]; exact List.mem_cons_of_mem _ hb)
  have HT := Lib.hid h
  have HBITS := Lib.hid (ones_bits hc)
  have hO8 := (ones_bits hc).1
  have HC := Lib.hid hc
  obtain ⟨O, hO⟩ : ∃ O, ones c = O := ⟨_, rfl⟩
  have HO := Lib.hid hO
  rw [hO] at hO8 HBITS
  clear hO h hc
  go_enter Try.func45, Try.ntmps45
  go_upto_block 0 with fail
  go_cut [5] from 13 to 26 (fun s5 wx => s5 = .int .i64 (O : Int) ∧ wx = w)
  case first =>
    go_wp2_with fail
    go_loopw [5] (fun i wr => ∃ k : Nat, k ≤ O ∧ i = .int .i64 k ∧ wr = w) (fun i _ => O - (intOf i).toNat)
    case atStart => exact ⟨0, Nat.zero_le _, rfl, rfl⟩
    case round =>
      obtain ⟨k, hk, rfl, hwr⟩ := hrel
      obtain rfl := hwr.symm
      by_cases hlt : k < O
      · have k8 : (k : Int) < 8 := by omega
        obtain ⟨j, hj⟩ : ∃ j, 7 - k = j := ⟨_, rfl⟩
        have e1 : IntKind.i64.wrap (7 - (k : Int)) = (j : Int) := by rw [IntWalk.i64_in _ (by omega)]; omega
        have e2 : (7 - (k : Int)) = (j : Int) := by omega
        have hb : bits BinOp.and IntKind.u8 ((c : Int) / 2 ^ j) 1 = 1 := by rw [bit_and_one HC.out (by omega), ← hj, HBITS.out.2.1 k hlt]; rfl
        clear hj
        go_wp2_with fail
        exact ⟨⟨k + 1, by omega, by go_num, trivial⟩, by simp [intOf] <;> omega⟩
      · obtain rfl : O = k := by omega
        rcases Nat.lt_or_ge O 8 with h8 | h8
        · have k8 : (O : Int) < 8 := by omega
          obtain ⟨j, hj⟩ : ∃ j, 7 - O = j := ⟨_, rfl⟩
          have e1 : IntKind.i64.wrap (7 - (O : Int)) = (j : Int) := by rw [IntWalk.i64_in _ (by omega)]; omega
          have e2 : (7 - (O : Int)) = (j : Int) := by omega
          have hb : bits BinOp.and IntKind.u8 ((c : Int) / 2 ^ j) 1 = 0 := by rw [bit_and_one HC.out (by omega), ← hj, HBITS.out.2.2 h8]; rfl
          clear hj
          go_wp2_with fail
          go_meet
          exact ⟨rfl, rfl⟩
        · have k8 : ¬ (O : Int) < 8 := by omega
          go_wp2_with fail
          go_meet
          exact ⟨rfl, rfl⟩
  case rest =>
    obtain ⟨rfl, hwx⟩ := hcut
    obtain rfl := hwx.symm
    clear hne hi0
    by_cases hl : r.length < O
    · have TK := Lib.hid (tk_short (s := s) HT.out (by rw [HO.out]; exact hl))
      have hl' : (r.length : Int) + 1 < (O : Int) + 1 := by omega
      go_wp2_with fail
      go_ret3
      exact ⟨ret_ise (by rw [TK.out.1]; rfl) TK.out.2.1.symm (by rw [TK.out.2.2]; rfl), bl _⟩
    · have hl' : ¬ (r.length : Int) + 1 < (O : Int) + 1 := by omega
      have HL := Lib.hid (show ones c ≤ r.length by rw [HO.out]; omega)
      have HR := Lib.hid hr
      clear hr hl
      go_wp2_with fail
      go_loopw [6, 7, 8] (fun n b i wr => ∃ (k nn : Nat) (big : Bool), k ≤ O + 1 ∧ i = .int .i64 k ∧ n = .int .i64 (nn : Int) ∧ b = .bool big ∧ Gath (bare c r) k nn big ∧ wr = w) (fun _ _ i _ => O + 1 - (intOf i).toNat)
      case atStart => exact ⟨0, 0, false, Nat.zero_le _, rfl, rfl, rfl, Gath.start _, rfl⟩
      case round =>
        obtain ⟨k, nn, big, hk, rfl, rfl, rfl, hG, hwr⟩ := hrel
        obtain rfl := hwr.symm
        have HG := Lib.hid hG
        clear hG
        by_cases hlt : k ≤ O
        · have hlt' : (k : Int) ≤ (O : Int) := by omega
          rcases Nat.eq_zero_or_pos k with h0 | h0
          · subst h0
            have hi : ∀ w, (Instr.index 9 (.string s) (.int .i64 0)).run Try.prog w = .ok (.int .u8 (c : Int)) w := fun w => index_run (i := 0) (by rw [HT.out]; rfl) w
            have hc256 : (c : Int) < 256 := by have := HC.out; omega
            obtain ⟨d, hd, hd256⟩ : ∃ d, (bare c r)[0]? = some d ∧ d < 256 := ⟨c - mark (ones c), rfl, by omega⟩
            have HD := Lib.hid hd
            have SD := Lib.hid (show strip c (min (O + 1) 8) = d by rw [← HO.out, strip_all HC.out]; have := HD.out; rw [bare] at this; exact Option.some.inj this)
            clear hd
            go_upto_block 4 with fail
            go_cut [9, 10] from 43 to 62 (fun x y wx => x = .int .i64 (d : Int) ∧ wx = w)
            case first =>
              obtain ⟨T, hT⟩ : ∃ T, min (O + 1) 8 = T := ⟨_, rfl⟩
              rw [hT] at SD
              have HTT := Lib.hid hT
              clear hT
              go_wp2_with fail
              go_loopw [9, 10] (fun x y wr => ∃ t : Nat, t ≤ T ∧ x = .int .i64 (strip c t : Int) ∧ y = .int .i64 (7 - (t : Int)) ∧ wr = w) (fun _ y _ => (intOf y + 1).toNat)
              case atStart => exact ⟨0, Nat.zero_le _, rfl, rfl, rfl⟩
              case round =>
                obtain ⟨t, ht, rfl, rfl, hwr⟩ := hrel
                obtain rfl := hwr.symm
                by_cases hlt : t < T
                · have htO : t < O + 1 ∧ t < 8 := by have := HTT.out; omega
                  obtain ⟨j, hj⟩ : ∃ j, 7 - t = j := ⟨_, rfl⟩
                  have ej : 7 - (t : Int) = (j : Int) := by omega
                  have hcond : 7 - (O : Int) ≤ (j : Int) := by omega
                  have hj7 : (j : Int) ≤ 7 := by omega
                  have hstrip := strip_le c t
                  have hnx : strip c (t + 1) = if 2 ^ j ≤ strip c t then strip c t - 2 ^ j else strip c t := by rw [← hj]; rfl
                  have PW := Lib.hid (fun w => power_any j (by omega) w)
                  have hp256 : 2 ^ j < 256 := by
                    have key : ∀ j, j ≤ 7 → 2 ^ j < 256 := by decide
                    exact key j (by omega)
                  have hx256 : strip c t < 256 := by have := HC.out; omega
                  rw [ej]
                  obtain ⟨p, hp⟩ : ∃ p, 2 ^ j = p := ⟨_, rfl⟩
                  obtain ⟨x, hx⟩ : ∃ x, strip c t = x := ⟨_, rfl⟩
                  rw [hp, hx] at hnx
                  rw [hp] at PW hp256
                  rw [hx] at hx256 ⊢
                  have ejt : (j : Int) - 1 = 7 - ((t + 1 : Nat) : Int) := by omega
                  have HNX := Lib.hid hnx
                  have HEJ := Lib.hid ejt
                  clear hp hx hnx hstrip ejt ej hj htO
                  by_cases hle : p ≤ x
                  · have hle' : (p : Int) ≤ (x : Int) := by omega
                    go_wp2_with (go_at_call 59; refine (PW.out _).mono ?_; rintro e w2 ⟨rfl, rfl⟩)
                    refine ⟨⟨t + 1, hlt, ?_, ?_, trivial⟩, by simp [intOf] <;> omega⟩
                    · rw [HNX.out, if_pos hle]; exact congrArg (Value.int .i64) (by omega)
                    · rw [← HEJ.out]
                  · have hle' : ¬ (p : Int) ≤ (x : Int) := by omega
                    go_wp2_with (go_at_call 59; refine (PW.out _).mono ?_; rintro e w2 ⟨rfl, rfl⟩)
                    refine ⟨⟨t + 1, hlt, ?_, ?_, trivial⟩, by simp [intOf] <;> omega⟩
                    · rw [HNX.out, if_neg hle]
                    · rw [← HEJ.out]
                · obtain rfl : T = t := by omega
                  rw [SD.out]
                  rcases Nat.lt_or_ge O 8 with h8 | h8
                  · have hT2 : T = O + 1 := by have := HTT.out; omega
                    subst hT2
                    have hcond : ¬ 7 - (O : Int) ≤ 7 - ((O + 1 : Nat) : Int) := by omega
                    go_wp2_with fail
                    go_meet
                    exact ⟨rfl, rfl⟩
                  · have hT2 : T = 8 := by have := HTT.out; omega
                    have hO2 : O = 8 := by omega
                    subst hT2 hO2
                    go_wp2_with fail
                    go_meet
                    exact ⟨rfl, rfl⟩
            case rest =>
              obtain ⟨rfl, hwx⟩ := hcut
              obtain rfl := hwx.symm
              clear SD
              cases big with
              | true =>
                go_wp2_with fail
                exact ⟨⟨0 + 1, nn, true, by omega, by go_num, rfl, rfl, HG.out.stays, trivial⟩, by simp [intOf] <;> omega⟩
              | false =>
                by_cases hgt : 18014398509481983 < nn
                · have hgt' : (18014398509481983 : Int) < (nn : Int) := by omega
                  have NX := HG.out.great (by rw [bare_length' HL.out HO.out]; omega) hgt
                  go_wp2_with fail
                  exact ⟨⟨0 + 1, nn, true, by omega, by go_num, rfl, rfl, NX, trivial⟩, by simp [intOf] <;> omega⟩
                · have hgt' : ¬ (18014398509481983 : Int) < (nn : Int) := by omega
                  have NX := HG.out.next HD.out hd256 (by omega)
                  go_wp2_with fail
                  exact ⟨⟨0 + 1, 256 * nn + d, false, by omega, by go_num, by go_num, rfl, NX, trivial⟩, by simp [intOf] <;> omega⟩
          · obtain ⟨d, hd, hd256, hs2⟩ : ∃ d, (bare c r)[k]? = some d ∧ d < 256 ∧ (nats s)[k]? = some d := by
              have hkr : k - 1 < r.length := by have := HL.out; have := HO.out; omega
              refine ⟨r[k - 1], ?_, HR.out _ (List.getElem_mem hkr), ?_⟩
              · rw [bare_get (by have := HO.out; omega) HL.out, if_neg (by omega), List.getD_eq_getElem?_getD, List.getElem?_eq_getElem hkr]; rfl
              · rw [HT.out]
                obtain ⟨k', rfl⟩ : ∃ k', k = k' + 1 := ⟨k - 1, by omega⟩
                rw [List.getElem?_cons_succ]
                exact List.getElem?_eq_getElem hkr
            have HD := Lib.hid hd
            have hi : ∀ w, (Instr.index 9 (.string s) (.int .i64 (k : Int))).run Try.prog w = .ok (.int .u8 (d : Int)) w := fun w => index_run hs2 w
            have hk0 : ¬ (k : Int) = 0 := by omega
            have hd256' : (d : Int) < 256 := by omega
            clear hd hs2
            cases big with
            | true =>
              go_wp2_with fail
              exact ⟨⟨k + 1, nn, true, by omega, by go_num, rfl, rfl, HG.out.stays, trivial⟩, by simp [intOf] <;> omega⟩
            | false =>
              by_cases hgt : 18014398509481983 < nn
              · have hgt' : (18014398509481983 : Int) < (nn : Int) := by omega
                have NX := HG.out.great (by rw [bare_length' HL.out HO.out]; omega) hgt
                go_wp2_with fail
                exact ⟨⟨k + 1, nn, true, by omega, by go_num, rfl, rfl, NX, trivial⟩, by simp [intOf] <;> omega⟩
              · have hgt' : ¬ (18014398509481983 : Int) < (nn : Int) := by omega
                have NX := HG.out.next HD.out hd256 (by omega)
                go_wp2_with fail
                exact ⟨⟨k + 1, 256 * nn + d, false, by omega, by go_num, by go_num, rfl, NX, trivial⟩, by simp [intOf] <;> omega⟩
        · have hlt' : ¬ (k : Int) ≤ (O : Int) := by omega
          obtain rfl : k = O + 1 := by omega
          have TF := Lib.hid (tk_form (s := s) HT.out HL.out)
          have TG := Lib.hid (tk_good (s := s) HT.out HL.out)
          have EI := Lib.hid (enc_is (s := s) HT.out HL.out)
          have BV := Lib.hid (bare_val HL.out)
          have NOT := HG.out.not
          rw [List.take_of_length_le (by rw [bare_length' HL.out HO.out]; omega), BV.out] at NOT
          have YES := HG.out.yes
          rw [BV.out] at YES
          rw [HO.out] at TF TG EI
          have HLEN := Lib.hid hlen
          generalize takeV c r = v at *
          cases big with
          | true =>
            have TK := Lib.hid (TF.out (.inl (YES rfl)))
            clear YES NOT
            go_wp2_with fail
            go_quiet (fail)
            go_wp2_with fail
            go_ret3
            exact ⟨ret_ise (by rw [TK.out.1]; rfl) TK.out.2.1.symm (by rw [TK.out.2.2]; rfl), belowN (bl _) _⟩
          | false =>
            obtain rfl : nn = v := NOT rfl
            clear YES NOT
            by_cases hm : nn < 4611686018427387904
            · have hm' : ¬ (4611686018427387903 : Int) < (nn : Int) := by omega
              have hmd : decide ((4611686018427387903 : Int) < (nn : Int)) = false := decide_eq_false hm'
              obtain ⟨Q, hQ⟩ : ∃ Q, O + 1 = Q := ⟨_, rfl⟩
              have w1 : IntKind.i64.wrap ((O : Int) + 1) = (Q : Int) := by rw [IntWalk.i64_in _ (by omega)]; omega
              have w2 : IntKind.i64.wrap (Q : Int) = (Q : Int) := IntWalk.i64_in _ (by omega)
              have w3 : (O : Int) + 1 = (Q : Int) := by omega
              have hsr : ∀ w, (Instr.slice 9 (.string s) none (some (.int .i64 (Q : Int))) none).run Try.prog w = .ok (.string (s.extract 0 Q)) w := fun w => by
                rw [run_slice_string_to_if w 9 s .i64 (Q : Int) Try.underlying9, if_pos (by omega), Int.toNat_natCast]
              have hsl : (Q : Int) ≤ (s.size : Int) := by omega
              rw [hQ] at EI TG
              have hsz : (s.size : Int) ≤ 4611686018427387903 := by omega
              clear hlen hl'
              have CO := Lib.hid (fun w => dof_any nn hm w)
              have hei := EI.out hm
              generalize encS nn = S at *
              by_cases hk2 : kN nn = O
              · have TK := Lib.hid (TG.out hm hk2)
                rw [decide_eq_true hk2] at hei
                clear TF TG EI
                have HBB := Lib.hid (bl w)
                go_wp2_with fail
                go_region_held3 (fun w' => Below w.heap.size w w')
                  (first | exact (Below.refl _ _).drew | exact BW.out | fail)
                  (first | (go_at_call 40; refine (CO.out _).mono ?_; rintro e w3 ⟨rfl, hb3⟩; have BW := Lib.hid (show Below w.heap.size w w3 from (Below.refl _ _).drew.trans hb3); clear hb3))
                all_goals
                  go_wp2_with fail
                  go_quiet (fail)
                  go_wp2_with fail
                  go_ret3
                  exact ⟨ret_ise (by rw [TK.out.1]) TK.out.2.1.symm (by rw [TK.out.2.2]; rfl), belowN BW.out _⟩
              · have TK := Lib.hid (TF.out (.inr hk2))
                rw [decide_eq_false hk2] at hei
                clear TF TG EI
                go_wp2_with fail
                go_region_held3 (fun w' => Below w.heap.size w w')
                  (first | exact (Below.refl _ _).drew | exact BW.out | fail)
                  (first | (go_at_call 40; refine (CO.out _).mono ?_; rintro e w3 ⟨rfl, hb3⟩; have BW := Lib.hid (show Below w.heap.size w w3 from (Below.refl _ _).drew.trans hb3); clear hb3))
                all_goals
                  go_wp2_with fail
                  go_ret3
                  exact ⟨ret_ise (by rw [TK.out.1]; rfl) TK.out.2.1.symm (by rw [TK.out.2.2]; rfl), BW.out⟩
            · have TK := Lib.hid (TF.out (.inl (Nat.le_of_not_lt hm)))
              have hm' : (4611686018427387903 : Int) < (nn : Int) := by omega
              go_wp2_with fail
              go_quiet (fail)
              go_wp2_with fail
              go_ret3
              exact ⟨ret_ise (by rw [TK.out.1]; rfl) TK.out.2.1.symm (by rw [TK.out.2.2]; rfl), belowN (bl _) _⟩

end Go.Proofs.Ytnmnbnlokmmcmaa
