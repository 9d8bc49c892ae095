/-
  What a text begins with, by the program: TakeNum.
-/
import Derived.Test.YtnmnbnlokmmcmaaPsmall
namespace Go.Proofs.Ytnmnbnlokmmcmaa
open Go.RowKit

/-- What TakeNum, and the document's, give back. -/
def TakePost (s : ByteArray) (w : World) (e : Ending) (w' : World) : Prop := e = .returned (.tuple #[.int .i64 (tkN s : Int), .string (tkR s), .int .i64 (tkE s : Int)]) ∧ Below w.heap.size w w'
theorem ret_ise {a b c d : Int} {s t : ByteArray} (h : a = b) (k : s = t) (l : c = d) : Ending.returned (.tuple #[.int .i64 a, .string s, .int .i64 c]) = .returned (.tuple #[.int .i64 b, .string t, .int .i64 d]) := by rw [h, k, l]
theorem index_run {s : ByteArray} {i c : Nat} (h : (nats s)[i]? = some c) (w : World) : (Instr.index 9 (.string s) (.int .i64 (i : Int))).run Try.prog w = .ok (.int .u8 (c : Int)) w := by
  have hi : i < s.size := by
    rw [← nats_length]
    rcases Nat.lt_or_ge i (nats s).length with h' | h'
    · exact h'
    · rw [List.getElem?_eq_none h'] at h; cases h
  rw [nats_get hi] at h
  injection h with h
  rw [run_index_string w 9 s .i64 i Try.underlying9, dif_pos (by omega)]
  simp only [Int.toNat_natCast, h]

theorem and_not_mark {c : Nat} (hc : c < 256) : bits BinOp.andNot IntKind.u8 (c : Int) (mark (ones c) : Int) = ((c - mark (ones c) : Nat) : Int) := by
  have key : ∀ c : Nat, c < 256 → bits BinOp.andNot IntKind.u8 (c : Int) (mark (ones c) : Int) = ((c - mark (ones c) : Nat) : Int) := by decide +kernel
  exact key c hc
theorem bare_lt {c : Nat} (hc : c < 256) : ones c = 8 ∧ c - mark (ones c) = 0 ∨ ones c ≤ 7 ∧ c - mark (ones c) < 128 := by
  have key : ∀ c : Nat, c < 256 → (ones c = 8 ∧ c - mark (ones c) = 0 ∨ ones c ≤ 7 ∧ c - mark (ones c) < 128) := by decide +kernel
  exact key c hc
theorem bare_take (c : Nat) {r : List Nat} {k : Nat} (hk : k ≤ ones c) : (bare c r).take (k + 1) = (c - mark (ones c)) :: r.take k := by
  rw [bare, List.take_succ_cons, List.take_take, Nat.min_eq_left hk]
theorem gather_start (c : Nat) (r : List Nat) : val ((bare c r).take (0 + 1)) = c - mark (ones c) := by
  rw [bare_take c (Nat.zero_le _)]; simp [val]
theorem gather_all {c : Nat} {r : List Nat} (hl : ones c ≤ r.length) : val ((bare c r).take (ones c + 1)) = takeV c r := by
  rw [List.take_of_length_le (by rw [bare_length hl]; omega), bare_val hl]
theorem gather_lt {c : Nat} {r : List Nat} (hc : c < 256) (hl : ones c ≤ r.length) (hr : ∀ b ∈ r, b < 256) : ∀ k, k < ones c → val ((bare c r).take (k + 1)) < 72057594037927936 := by
  intro k hk
  have hb := val_lt (r.take k) (fun b hb => hr b (List.mem_of_mem_take hb))
  have hlen : (r.take k).length = k := by rw [List.length_take]; omega
  rw [bare_take c (Nat.le_of_lt hk), val, hlen]
  rw [hlen] at hb
  rcases bare_lt hc with ⟨h1, h2⟩ | ⟨h1, h2⟩
  · have h3 : 256 ^ k ≤ 256 ^ 7 := Nat.pow_le_pow_right (by decide) (by omega)
    rw [h2]; omega
  · have h3 : 256 ^ k ≤ 256 ^ 6 := Nat.pow_le_pow_right (by decide) (by omega)
    have h4 : (c - mark (ones c)) * 256 ^ k ≤ 127 * 256 ^ 6 := Nat.mul_le_mul (by omega) h3
    omega
theorem gather_next {c : Nat} {r : List Nat} (hl : ones c ≤ r.length) (hr : ∀ b ∈ r, b < 256) : ∀ k, k < ones c → ∃ b, r[k]? = some b ∧ b < 256 ∧ val ((bare c r).take (k + 1 + 1)) = 256 * val ((bare c r).take (k + 1)) + b := by
  intro k hk
  have hkr : k < r.length := by omega
  refine ⟨r[k], List.getElem?_eq_getElem hkr, hr _ (List.getElem_mem hkr), ?_⟩
  rw [bare_take c (Nat.le_of_lt hk), bare_take c hk, List.take_add_one, List.getElem?_eq_getElem hkr, Option.toList_some, ← List.cons_append, val_snoc]

theorem wraps_u64' (n : Int) (h0 : 0 ≤ n) (h1 : n < 2 ^ 64) : IntKind.u64.wrap n = n := by
  rw [IntKind.wrap_u64]
  omega
theorem shl_or {n b : Nat} (hn : n < 72057594037927936) (hb : b < 256) : bits BinOp.or IntKind.u64 ((n : Int) * 256) (b : Int) = ((256 * n + b : Nat) : Int) := by
  rw [bits_join .u64 64 (by decide) wraps_u64' 8 _ _ (by omega) (by omega) (by omega) (by omega) (by omega) (by omega)]
  omega

theorem belowN {n : Nat} {W w : World} (h : Below n W w) (q : Nat) : Below n W (w.drewN q) := h.trans ⟨rfl, rfl, rfl, Nat.le_refl _, fun _ _ => rfl⟩

set_option maxHeartbeats 1000000 in
theorem take_nil (w : World) : Calls Try.prog 43 #[.string ⟨#[]⟩] w (TakePost ⟨#[]⟩ w) := by
  have HT := Lib.hid (tk_nil (s := ⟨#[]⟩) rfl)
  go_enter Try.func43, Try.ntmps43
  go_wp2_with fail
  go_ret3
  exact ⟨ret_ise (by rw [HT.out.1]; rfl) HT.out.2.1.symm (by rw [HT.out.2.2]; rfl), bl _⟩

set_option maxHeartbeats 4000000 in
set_option maxRecDepth 10000 in
theorem take_cons (s : ByteArray) (hs : s.size ≤ 4611686018427387903) (c : Nat) (r : List Nat) (h : nats s = c :: r) (w : World) : Calls Try.prog 43 #[.string s] w (TakePost s w) := by
  have hc : c < 256 := nats_lt s c (by rw [h]; exact List.mem_cons_self)
  have hlen : s.size = r.length + 1 := by rw [← nats_length, h]; rfl
  have hi0 : ∀ w, (Instr.index 9 (.string s) (.int .i64 0)).run Try.prog w = .ok (.int .u8 (c : Int)) w := fun w => index_run (i := 0) (by rw [h]; rfl) w
  have hne : s.toList.isEmpty = false := by
    rw [ByteArray.toList_eq]
    have h2 : s.data.toList.length = s.size := Array.length_toList
    cases h3 : s.data.toList with
    | nil => rw [h3] at h2; simp at h2; omega
    | cons => rfl
  have hr : ∀ b ∈ r, b < 256 := fun b hb => nats_lt s b (by rw [h]; exact List.mem_cons_of_mem _ hb)
  have hx := xor_byte hc
  have HT := Lib.hid h
  by_cases hl : r.length < ones c
  · have TK := Lib.hid (tk_short h hl)
    clear h
    have hl' : (r.length : Int) + 1 ≤ (ones c : Int) := by omega
    go_enter Try.func43, Try.ntmps43
    go_wp2_with (go_at_call 56; refine (zeros_any c hc _).mono ?_; rintro e w2 ⟨rfl, rfl⟩)
    go_ret3
    exact ⟨ret_ise (by rw [TK.out.1]; rfl) TK.out.2.1.symm (by rw [TK.out.2.2]; rfl), bl _⟩
  · have hl' : ¬ (r.length : Int) + 1 ≤ (ones c : Int) := by omega
    have HL := Lib.hid (Nat.le_of_not_lt hl)
    have ho : ones c ≤ 8 := (ones_bits hc).1
    have HM := Lib.hid (fun w => mark_any (ones c) ho w)
    have ha := and_not_mark hc
    have HG := Lib.hid (gather_lt hc HL.out hr)
    have GN := Lib.hid (gather_next (c := c) HL.out hr)
    have G0 := Lib.hid (gather_start c r)
    have GA := Lib.hid (gather_all HL.out)
    have TF := Lib.hid (tk_form (s := s) h HL.out)
    have TG := Lib.hid (tk_good (s := s) h HL.out)
    clear h hl
    have HZ := Lib.hid (fun w => zeros_any c hc w)
    have HLEN := Lib.hid hlen
    have hd : ((c - mark (ones c) : Nat) : Int) < 256 := by omega
    generalize ones c = O at *
    generalize mark O = m at *
    generalize c - m = d at *
    generalize takeV c r = v at *
    go_enter Try.func43, Try.ntmps43
    go_wp2_with (go_at_call 56; refine (HZ.out _).mono ?_; rintro e w2 ⟨rfl, rfl⟩)
    go_quiet (first | (go_at_call 53; exact (HM.out _).mono fun e w' h => ⟨h.1, _, h.2⟩))
    go_wp2_with fail
    go_loopw [6, 25] (fun a i wr => ∃ k n : Nat, k ≤ O ∧ i = .int .i64 k ∧ val ((bare c r).take (k + 1)) = n ∧ a = .int .u64 (n : Int) ∧ Below w2.heap.size w2 wr) (fun _ i _ => O - (intOf i).toNat)
    case atStart => exact ⟨0, d, Nat.zero_le _, rfl, G0.out, rfl, by exact ⟨rfl, rfl, rfl, Nat.le_refl _, fun _ _ => rfl⟩⟩
    case round =>
      obtain ⟨k, n, hk, rfl, hn, rfl, hB⟩ := hrel
      have HB := Lib.hid hB
      clear hB
      by_cases hlt : k < O
      · have hlt' : (k : Int) < (O : Int) := by omega
        have hn56 := HG.out k hlt
        obtain ⟨b, hb, hb256, hnx⟩ := GN.out k hlt
        have hi : ∀ w, (Instr.index 9 (.string s) (.int .i64 ((k : Int) + 1))).run Try.prog w = .ok (.int .u8 (b : Int)) w := fun w => index_run (i := k + 1) (by rw [HT.out]; exact hb) w
        rw [hn] at hn56 hnx
        have NX := Lib.hid hnx
        have s1 := shl_or hn56 hb256
        clear hn hnx hb
        go_wp2_with fail
        exact ⟨⟨k + 1, 256 * n + b, by omega, by go_num, NX.out, by go_num, HB.out⟩, by simp [intOf]; omega⟩
      · have hlt' : ¬ (k : Int) < (O : Int) := by omega
        obtain rfl : O = k := by omega
        obtain rfl : n = v := by rw [← hn]; exact GA.out
        clear hn
        by_cases hm : n < 4611686018427387904
        · have hm' : ¬ (4611686018427387903 : Int) < (n : Int) := by omega
          have CB := Lib.hid (fun w => behind_any n hm w)
          have hcv : wrap64 (n : Int) = (n : Int) := IntWalk.wrap64_in _ (by omega)
          by_cases hk2 : kN n = O
          · have TK := Lib.hid (TG.out hm hk2)
            have hk3 : (kN n : Int) = (O : Int) := by omega
            go_wp2_with (go_at_call 52; refine (CB.out _).mono ?_; rintro e w3 ⟨rfl, rfl⟩)
            go_quiet (fail)
            go_wp2_with fail
            go_ret3
            exact ⟨ret_ise (by rw [TK.out.1]) (by rw [TK.out.2.1, HLEN.out]) (by rw [TK.out.2.2]; rfl), belowN HB.out _⟩
          · have TK := Lib.hid (TF.out (.inr hk2))
            have hk3 : ¬ (kN n : Int) = (O : Int) := by omega
            go_wp2_with (go_at_call 52; refine (CB.out _).mono ?_; rintro e w3 ⟨rfl, rfl⟩)
            go_ret3
            exact ⟨ret_ise (by rw [TK.out.1]; rfl) TK.out.2.1.symm (by rw [TK.out.2.2]; rfl), HB.out⟩
        · have TK := Lib.hid (TF.out (.inl (Nat.le_of_not_lt hm)))
          have hm' : (4611686018427387903 : Int) < (n : Int) := by omega
          go_wp2_with fail
          go_ret3
          exact ⟨ret_ise (by rw [TK.out.1]; rfl) TK.out.2.1.symm (by rw [TK.out.2.2]; rfl), HB.out⟩

theorem take_any (s : ByteArray) (hs : s.size ≤ 4611686018427387903) (w : World) : Calls Try.prog 43 #[.string s] w (TakePost s w) := by
  cases h : nats s with
  | nil =>
    obtain rfl : s = ⟨#[]⟩ := nats_inj h
    exact take_nil w
  | cons c r => exact take_cons s hs c r h w

/-- A number without a sign as one with. -/
def unzig (n : Nat) : Int := if n % 2 = 1 then -((n : Int) / 2) - 1 else (n : Int) / 2
theorem unzig_odd {n : Nat} (h : n % 2 = 1) : unzig n = -((n : Int) / 2) - 1 := by unfold unzig; rw [if_pos h]
theorem unzig_even {n : Nat} (h : ¬ n % 2 = 1) : unzig n = (n : Int) / 2 := by unfold unzig; rw [if_neg h]
def TakeIntPost (s : ByteArray) (w : World) (e : Ending) (w' : World) : Prop := e = .returned (.tuple #[.int .i64 (unzig (tkN s)), .string (tkR s), .int .i64 (tkE s : Int)]) ∧ Below w.heap.size w w'

set_option maxHeartbeats 1000000 in
theorem takeint_any (s : ByteArray) (hs : s.size ≤ 4611686018427387903) (w : World) : Calls Try.prog 58 #[.string s] w (TakeIntPost s w) := by
  have CT := Lib.hid (fun w => take_any s hs w)
  have hn := tkN_lt s
  obtain ⟨n, hN⟩ : ∃ n, tkN s = n := ⟨_, rfl⟩
  have HN := Lib.hid hN
  rw [hN] at hn
  clear hN
  by_cases ho : n % 2 = 1
  · have h1 : (n : Int) % 2 = 1 := by omega
    have HU := Lib.hid (unzig_odd ho)
    go_enter Try.func58, Try.ntmps58
    go_wp2_with (go_at_call 43; refine (CT.out _).mono ?_; rintro e w1 ⟨rfl, hb⟩; rw [HN.out])
    go_ret3
    refine ⟨ret_ise ?_ rfl rfl, hb⟩
    rw [HN.out, HU.out, Int.tdiv_eq_ediv_of_nonneg (by omega), IntWalk.wrap64_in _ (by omega)]
    omega
  · have h1 : ¬ (n : Int) % 2 = 1 := by omega
    have HU := Lib.hid (unzig_even ho)
    go_enter Try.func58, Try.ntmps58
    go_wp2_with (go_at_call 43; refine (CT.out _).mono ?_; rintro e w1 ⟨rfl, hb⟩; rw [HN.out])
    go_ret3
    refine ⟨ret_ise ?_ rfl rfl, hb⟩
    rw [HN.out, HU.out]

end Go.Proofs.Ytnmnbnlokmmcmaa
