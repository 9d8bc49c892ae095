/-
  What the document takes of bytes as a text: its TakeText; does a text begin with another one.
-/
import Derived.Test.YthbnaomhgmokkaaStext
namespace Go.Proofs.Ythbnaomhgmokkaa
open Go.RowKit

/-- What has been taken already, and what the rest gives. -/
def glueT (acc : List Nat) (t : List Nat × List Nat × Nat) : List Nat × List Nat × Nat := if t.2.2 = 0 then (acc ++ t.1, t.2.1, 0) else ([], [], t.2.2)
theorem glueT_nil (s : List Nat) : glueT [] (takT s) = takT s := by
  unfold glueT
  rcases takT_err s with h | h | h
  · rw [if_pos h]; rw [← h]; rfl
  · rw [h]; rfl
  · rw [h]; rfl
theorem glueT_plain {acc r : List Nat} {c : Nat} (h : c ≠ 0) : glueT acc (takT (c :: r)) = glueT (acc ++ [c]) (takT r) := by
  obtain ⟨d, rfl⟩ : ∃ d, c = d + 1 := ⟨c - 1, by omega⟩
  unfold glueT
  rw [takT]
  by_cases h2 : (takT r).2.2 = 0
  · rw [if_pos h2]; simp [h2]
  · rw [if_neg h2]; simp [h2]
theorem glueT_zero {acc r : List Nat} : glueT acc (takT (0 :: 255 :: r)) = glueT (acc ++ [0]) (takT r) := by
  unfold glueT
  rw [takT, if_pos rfl]
  by_cases h2 : (takT r).2.2 = 0
  · rw [if_pos h2]; simp [h2]
  · rw [if_neg h2]; simp [h2]
theorem glueT_last {acc : List Nat} : glueT acc (takT [0]) = ([], [], 9) := rfl
theorem glueT_none {acc : List Nat} : glueT acc (takT []) = ([], [], 9) := rfl
theorem glueT_stop {acc r : List Nat} : glueT acc (takT (0 :: 0 :: r)) = (acc, r, 0) := by simp [glueT, takT]
theorem glueT_form {acc r : List Nat} {d : Nat} (h : d ≠ 0) (h2 : d ≠ 255) : glueT acc (takT (0 :: d :: r)) = ([], [], 8) := by
  obtain ⟨e, rfl⟩ : ∃ e, d = e + 1 := ⟨d - 1, by omega⟩
  have e2 : takT (0 :: (e + 1) :: r) = ([], [], 8) := by rw [takT, if_neg (by omega)]
  rw [e2]
  rfl

/-- What TakeText gives back. -/
def txS (s : ByteArray) : ByteArray := bytesN (takT (nats s)).1
def txR (s : ByteArray) : ByteArray := bytesN (takT (nats s)).2.1
def txE (s : ByteArray) : Nat := (takT (nats s)).2.2
theorem tx_is {s : ByteArray} {a b : List Nat} {e : Nat} (h : takT (nats s) = (a, b, e)) : txS s = bytesN a ∧ txR s = bytesN b ∧ txE s = e := by
  unfold txS txR txE
  rw [h]
  exact ⟨rfl, rfl, rfl⟩
theorem drop_cons {l : List Nat} {k c : Nat} (h : l[k]? = some c) : l.drop k = c :: l.drop (k + 1) := by
  have hk : k < l.length := by
    rcases Nat.lt_or_ge k l.length with h' | h'
    · exact h'
    · rw [List.getElem?_eq_none h'] at h; cases h
  rw [List.drop_eq_getElem_cons hk]
  rw [List.getElem?_eq_getElem hk] at h
  rw [Option.some.inj h]

set_option maxHeartbeats 4000000 in
set_option maxRecDepth 10000 in
theorem dtaketext_any (s : ByteArray) (hs : s.size ≤ 1152921504606846976) (w : World) : Calls Try.prog 18 #[.string s] w fun e w' => e = .returned (.tuple #[.string (txS s), .string (txR s), .int .i64 (txE s : Int)]) ∧ Below w.heap.size w w' := by
  obtain ⟨n, hn⟩ : ∃ n, s.size = n := ⟨_, rfl⟩
  have HN := Lib.hid hn
  go_enter Try.func18, Try.ntmps18
  go_wp2_with fail
  go_loopw [5, 6] (fun o i wr => ∃ (k : Nat) (l : List Nat), k ≤ n ∧ l.length ≤ k ∧ i = .int .i64 k ∧ takT (nats s) = glueT l (takT ((nats s).drop k)) ∧ o = .string (bytesN l) ∧ wr = w) (fun _ i _ => n - (intOf i).toNat)
  case atStart => exact ⟨0, [], Nat.zero_le _, Nat.le_refl _, rfl, by rw [List.drop_zero, glueT_nil], rfl, rfl⟩
  case round =>
    obtain ⟨k, l, hk, hlen, rfl, ht, rfl, hwr⟩ := hrel
    obtain rfl := hwr.symm
    by_cases hlt : k < n
    · have hlt' : (k : Int) < (n : Int) := by omega
      obtain ⟨c, hc⟩ : ∃ c, (nats s)[k]? = some c := ⟨_, List.getElem?_eq_getElem (by rw [nats_length]; omega)⟩
      have hi := index_run hc
      rw [drop_cons hc] at ht
      by_cases h0 : c = 0
      · subst h0
        have z1 : ¬ (bytesN l).size + (ByteArray.mk #[0]).size > 9223372036854775807 := by
          have : (ByteArray.mk #[0]).size = 1 := rfl
          rw [size_bytes, this]; omega
        by_cases hend : k + 1 = n
        · have hend' : (k : Int) + 1 = (n : Int) := by omega
          rw [show (nats s).drop (k + 1) = [] from List.drop_of_length_le (by rw [nats_length]; omega), glueT_last] at ht
          have TX := Lib.hid (tx_is ht)
          clear ht hc
          go_wp2_with fail
          go_ret3
          exact ⟨ret_sse TX.out.1.symm TX.out.2.1.symm (by rw [TX.out.2.2]; rfl), bl _⟩
        · have hend' : ¬ (k : Int) + 1 = (n : Int) := by omega
          obtain ⟨d, hd⟩ : ∃ d, (nats s)[k + 1]? = some d := ⟨_, List.getElem?_eq_getElem (by rw [nats_length]; omega)⟩
          have hi2 : ∀ w, (Instr.index 9 (.string s) (.int .i64 ((k : Int) + 1))).run Try.prog w = .ok (.int .u8 (d : Int)) w := index_run (i := k + 1) hd
          rw [drop_cons hd] at ht
          by_cases hd0 : d = 0
          · subst hd0
            rw [glueT_stop] at ht
            have TX := Lib.hid (tx_is ht)
            have BD := Lib.hid (bytes_drop s (k + 1 + 1))
            have hsl : (k : Int) + 2 ≤ (n : Int) := by omega
            have hsr : ∀ w, (Instr.slice 9 (.string s) (some (.int .i64 ((k : Int) + 2))) none none).run Try.prog w = .ok (.string (s.extract (k + 1 + 1) s.size)) w := fun w => by
              rw [run_slice_string_from_if w 9 s .i64 ((k : Int) + 2) Try.underlying9, if_pos (by omega), show ((k : Int) + 2).toNat = k + 1 + 1 from by omega]
            clear ht hc hd
            go_wp2_with fail
            go_quiet (fail)
            go_wp2_with fail
            go_ret3
            exact ⟨ret_sse TX.out.1.symm (by rw [TX.out.2.1, BD.out, HN.out]) (by rw [TX.out.2.2]; rfl), belowN (bl _) _⟩
          · have hd0' : ¬ (d : Int) = 0 := by omega
            by_cases hd2 : d = 255
            · subst hd2
              rw [glueT_zero] at ht
              have NX := Lib.hid ht
              have E2 := Lib.hid (show bytesN l ++ ByteArray.mk #[0] = bytesN (l ++ [0]) from bytes_one l 0)
              clear ht hc hd
              go_wp2_with fail
              exact ⟨⟨k + 2, l ++ [0], by omega, by rw [List.length_append]; simp; omega, by go_num, NX.out, by rw [E2.out], trivial⟩, by simp [intOf] <;> omega⟩
            · have hd2' : ¬ (d : Int) = 255 := by omega
              rw [glueT_form hd0 hd2] at ht
              have TX := Lib.hid (tx_is ht)
              clear ht hc hd
              go_wp2_with fail
              go_ret3
              exact ⟨ret_sse TX.out.1.symm TX.out.2.1.symm (by rw [TX.out.2.2]; rfl), bl _⟩
      · have h0' : ¬ (c : Int) = 0 := by omega
        have hcut : ∀ w, (Instr.slice 9 (.string s) (some (.int .i64 (k : Int))) (some (.int .i64 ((k : Int) + 1))) none).run Try.prog w = .ok (.string (bytesN [c])) w := fun w => by
          rw [← nats_one hc]
          exact cut_run (j := k + 1) (by omega) (by omega) w
        have z1 : ¬ (bytesN l).size + (bytesN [c]).size > 9223372036854775807 := by rw [size_bytes, size_bytes]; simp; omega
        rw [glueT_plain h0] at ht
        have NX := Lib.hid ht
        have E2 := Lib.hid (bytes_one l c)
        clear ht hc
        go_wp2_with fail
        exact ⟨⟨k + 1, l ++ [c], by omega, by rw [List.length_append]; simp; omega, by go_num, NX.out, by rw [E2.out], trivial⟩, by simp [intOf] <;> omega⟩
    · obtain rfl : k = n := by omega
      have hlt' : ¬ (k : Int) < (k : Int) := by omega
      rw [show (nats s).drop k = [] from List.drop_of_length_le (by rw [nats_length, hn]; exact Nat.le_refl _), glueT_none] at ht
      have TX := Lib.hid (tx_is ht)
      clear ht
      go_wp2_with fail
      go_ret3
      exact ⟨ret_sse TX.out.1.symm TX.out.2.1.symm (by rw [TX.out.2.2]; rfl), bl _⟩

/-- Does a text begin with another one? -/
def begB (s p : ByteArray) : Bool := decide (nats p <+: nats s)
theorem begB_cut {s p : ByteArray} (h : p.size ≤ s.size) : ((s.extract 0 p.size).toList == p.toList) = begB s p := by
  unfold begB
  rw [Bool.eq_iff_iff, beq_iff_eq, decide_eq_true_eq, List.prefix_iff_eq_take, nats_length]
  constructor
  · intro e
    have e2 := congrArg (fun z => z.map UInt8.toNat) e
    simp only [ByteArray.toList_eq] at e2
    have e3 : nats (s.extract 0 p.size) = nats p := e2
    rw [nats_extract, List.drop_zero, Nat.sub_zero] at e3
    exact e3.symm
  · intro e
    have : s.extract 0 p.size = p := nats_inj (by rw [nats_extract, List.drop_zero, Nat.sub_zero]; exact e.symm)
    rw [this]
theorem begB_short {s p : ByteArray} (h : ¬ p.size ≤ s.size) : begB s p = false := by
  unfold begB
  rw [decide_eq_false_iff_not]
  intro h'
  have := h'.length_le
  rw [nats_length, nats_length] at this
  exact h this

set_option maxHeartbeats 1000000 in
theorem dbegins_any (s p : ByteArray) (hs : s.size ≤ 4611686018427387903) (hp : p.size ≤ 4611686018427387903) (w : World) : Same 16 #[.string s, .string p] w (.bool (begB s p)) := by
  by_cases h : p.size ≤ s.size
  · have h' : (p.size : Int) ≤ (s.size : Int) := by omega
    have BC := Lib.hid (begB_cut h)
    have hsr : ∀ w, (Instr.slice 9 (.string s) none (some (.int .i64 (p.size : Int))) none).run Try.prog w = .ok (.string (s.extract 0 p.size)) w := fun w => by
      rw [run_slice_string_to_if w 9 s .i64 (p.size : Int) Try.underlying9, if_pos (by omega), Int.toNat_natCast]
    go_enter Try.func16, Try.ntmps16
    go_wp2_with fail
    go_ret
    exact ⟨by rw [← BC.out]; rfl, rfl⟩
  · have h' : ¬ (p.size : Int) ≤ (s.size : Int) := by omega
    have BC := Lib.hid (begB_short h)
    go_enter Try.func16, Try.ntmps16
    go_wp2_with fail
    go_ret
    exact ⟨by rw [BC.out]; rfl, rfl⟩

end Go.Proofs.Ythbnaomhgmokkaa
