/-
  What the program takes of bytes as a text: its TakeText.
-/
import Derived.Test.YthbnaomhgmokkaaSptext
namespace Go.Proofs.Ythbnaomhgmokkaa
open Go.RowKit

set_option maxHeartbeats 4000000 in
set_option maxRecDepth 10000 in
theorem taketext_any (s : ByteArray) (hs : s.size ≤ 120000000000000) (w : World) : Calls Try.prog 14 #[.string s] w fun e w' => e = .returned (.tuple #[.string (txS s), .string (txR s), .int .i64 (txE s : Int)]) ∧ Below w.heap.size w w' := by
  obtain ⟨n, hn⟩ : ∃ n, s.size = n := ⟨_, rfl⟩
  have HN := Lib.hid hn
  have B0 := Lib.hid (Bld.new w)
  go_enter Try.func14, Try.ntmps14
  go_wp2_with fail
  go_loopw [6, 11] (fun o i wr => ∃ (k : Nat) (l : List Nat) (op : Bool), k ≤ n ∧ l.length ≤ k ∧ i = .int .i64 k ∧ o = .bool op ∧ takT (nats s) = glueT l (takT (if op then 0 :: (nats s).drop k else (nats s).drop k)) ∧ Bld w w.heap.size l wr) (fun _ i _ => n - (intOf i).toNat)
  case atStart => exact ⟨0, [], false, Nat.zero_le _, Nat.le_refl _, rfl, rfl, by simp [glueT_nil], B0.out⟩
  case round =>
    obtain ⟨k, l, op, hk, hlen, rfl, rfl, ht, hb⟩ := hrel
    have HB := Lib.hid hb
    clear hb
    by_cases hlt : k < n
    · have hlt' : (k : Int) < (n : Int) := by omega
      obtain ⟨c, hc⟩ : ∃ c, (nats s)[k]? = some c := ⟨_, List.getElem?_eq_getElem (by rw [nats_length]; omega)⟩
      have hc256 := nats_lt s c (List.mem_of_getElem? hc)
      have hi := index_run hc
      rw [drop_cons hc] at ht
      clear hc
      cases op with
      | false =>
        simp only [Bool.false_eq_true, if_false] at ht
        by_cases h0 : c = 0
        · subst h0
          have hi : ∀ w, (Instr.index 9 (.string s) (.int .i64 (k : Int))).run Try.prog w = .ok (.int .u8 0) w := hi
          have NX := Lib.hid (show takT (nats s) = glueT l (takT (if true = true then 0 :: (nats s).drop (k + 1) else (nats s).drop (k + 1))) by rw [if_pos rfl]; exact ht)
          clear ht
          go_wp2_with fail
          exact ⟨⟨k + 1, l, true, by omega, by omega, by go_num, rfl, NX.out, HB.out⟩, by simp [intOf] <;> omega⟩
        · have h0' : ¬ (c : Int) = 0 := by omega
          rw [glueT_plain h0] at ht
          have NX := Lib.hid (show takT (nats s) = glueT (l ++ [c]) (takT (if false = true then 0 :: (nats s).drop (k + 1) else (nats s).drop (k + 1))) by rw [if_neg (by simp)]; exact ht)
          clear ht
          go_wp2_with (go_at_call 28; with_reducible refine (HB.out.byte c hc256 (by omega)).mono ?_; rintro e w2 ⟨rfl, hb2⟩; have HB2 := Lib.hid hb2; clear hb2)
          exact ⟨⟨k + 1, l ++ [c], false, by omega, by simp; omega, by go_num, rfl, NX.out, HB2.out⟩, by simp [intOf] <;> omega⟩
      | true =>
        simp only [if_true] at ht
        by_cases h0 : c = 0
        · subst h0
          have hi : ∀ w, (Instr.index 9 (.string s) (.int .i64 (k : Int))).run Try.prog w = .ok (.int .u8 0) w := hi
          rw [glueT_stop] at ht
          have TX := Lib.hid (tx_is ht)
          have BD := Lib.hid (bytes_drop s (k + 1))
          have hsl : (k : Int) + 1 ≤ (n : Int) := by omega
          have hsr : ∀ w, (Instr.slice 9 (.string s) (some (.int .i64 ((k : Int) + 1))) none none).run Try.prog w = .ok (.string (s.extract (k + 1) s.size)) w := fun w => by
            rw [run_slice_string_from_if w 9 s .i64 ((k : Int) + 1) Try.underlying9, if_pos (by omega), show ((k : Int) + 1).toNat = k + 1 from by omega]
          have w4 : IntKind.i64.wrap ((k : Int) + 1) = (k : Int) + 1 := IntWalk.i64_in _ (by omega)
          have RD := Lib.hid (HB.out.below ((bl wr).drew)).read
          have HBD := Lib.hid HB.out.bel.drew
          clear ht
          go_wp2_with fail
          go_region_held3 (fun w' => Below w.heap.size w w')
            (first | exact HBD.out | exact hb4 | fail)
            (first
              | (go_at_call 29; with_reducible refine RD.out.mono ?_; rintro e w4 ⟨rfl, hb4⟩))
          go_wp2_with fail
          go_ret3
          exact ⟨ret_sse TX.out.1.symm (by rw [TX.out.2.1, BD.out, HN.out]) (by rw [TX.out.2.2]; rfl), by assumption⟩
        · have h0' : ¬ (c : Int) = 0 := by omega
          by_cases h2 : c = 255
          · subst h2
            have hi : ∀ w, (Instr.index 9 (.string s) (.int .i64 (k : Int))).run Try.prog w = .ok (.int .u8 255) w := hi
            rw [glueT_zero] at ht
            have NX := Lib.hid (show takT (nats s) = glueT (l ++ [0]) (takT (if false = true then 0 :: (nats s).drop (k + 1) else (nats s).drop (k + 1))) by rw [if_neg (by simp)]; exact ht)
            clear ht
            go_wp2_with (go_at_call 28; with_reducible refine (HB.out.byte0 (by omega)).mono ?_; rintro e w2 ⟨rfl, hb2⟩; have HB2 := Lib.hid hb2; clear hb2)
            exact ⟨⟨k + 1, l ++ [0], false, by omega, by simp; omega, by go_num, rfl, NX.out, HB2.out⟩, by simp [intOf] <;> omega⟩
          · have h2' : ¬ (c : Int) = 255 := by omega
            rw [glueT_form h0 h2] at ht
            have TX := Lib.hid (tx_is ht)
            clear ht
            go_wp2_with fail
            go_ret3
            exact ⟨ret_sse TX.out.1.symm TX.out.2.1.symm (by rw [TX.out.2.2]; rfl), HB.out.bel⟩
    · obtain rfl : k = n := by omega
      have hlt' : ¬ (k : Int) < (k : Int) := by omega
      rw [show (nats s).drop k = [] from List.drop_of_length_le (by rw [nats_length, hn]; exact Nat.le_refl _)] at ht
      have TX := Lib.hid (tx_is (a := []) (b := []) (e := 9) (by rw [ht]; cases op <;> rfl))
      clear ht
      go_wp2_with fail
      go_ret3
      exact ⟨ret_sse TX.out.1.symm TX.out.2.1.symm (by rw [TX.out.2.2]; rfl), HB.out.bel⟩

end Go.Proofs.Ythbnaomhgmokkaa
