/-
  The program's alone and Right: what is wrong with a field alone, with a list of fields.
-/
import Derived.Test.YtnmnbnlokmmcmaaFpname
namespace Go.Proofs.Ytnmnbnlokmmcmaa
open Go.RowKit

set_option maxHeartbeats 1000000 in
theorem alone_any (f : Fd) (hf : f.n.size ≤ 9223372036854775807) (w : World) : Ret 26 #[fv f] w (.int .i64 ((oneE f : Nat) : Int)) := by
  have CN := Lib.hid (fun w => pname_same f.n hf w)
  cases hn : nameB f.n with
  | false =>
    have HE := Lib.hid (show oneE f = 8 by unfold oneE; rw [hn]; rfl)
    rw [hn] at CN
    clear hn
    go_enter Try.func26, Try.ntmps26
    go_wp2_with (go_at_call 12; with_reducible refine (CN.out _).mono ?_; rintro e _ ⟨rfl, rfl⟩)
    go_ret
    exact ⟨ret_int (by rw [HE.out]; rfl), (bl w).alloc (Nat.le_refl _) _⟩
  | true =>
    rw [hn] at CN
    by_cases v1 : f.v < -2305843009213693952
    · have HE := Lib.hid (show oneE f = 2 by unfold oneE valB; rw [hn]; simp; omega)
      clear hn
      go_enter Try.func26, Try.ntmps26
      go_wp2_with (go_at_call 12; with_reducible refine (CN.out _).mono ?_; rintro e _ ⟨rfl, rfl⟩)
      go_ret
      exact ⟨ret_int (by rw [HE.out]; rfl), (bl w).alloc (Nat.le_refl _) _⟩
    · by_cases v2 : 2305843009213693951 < f.v
      · have HE := Lib.hid (show oneE f = 2 by unfold oneE valB; rw [hn]; simp; omega)
        clear hn
        go_enter Try.func26, Try.ntmps26
        go_wp2_with (go_at_call 12; with_reducible refine (CN.out _).mono ?_; rintro e _ ⟨rfl, rfl⟩)
        go_ret
        exact ⟨ret_int (by rw [HE.out]; rfl), (bl w).alloc (Nat.le_refl _) _⟩
      · have HE := Lib.hid (show oneE f = 0 by unfold oneE valB; rw [hn]; simp; omega)
        clear hn
        go_enter Try.func26, Try.ntmps26
        go_wp2_with (go_at_call 12; with_reducible refine (CN.out _).mono ?_; rintro e _ ⟨rfl, rfl⟩)
        go_ret
        exact ⟨ret_int (by rw [HE.out]; rfl), (bl w).alloc (Nat.le_refl _) _⟩

/-- The text that stands where there is no name ahead. -/
def aheadS : Option ByteArray → ByteArray
  | none => ⟨#[]⟩
  | some p => p
theorem name_pos {s : ByteArray} (h : nameB s = true) : aheadB ⟨#[]⟩ s = true := by
  unfold nameB at h
  unfold aheadB
  cases hs : nats s with
  | nil => rw [hs] at h; cases h
  | cons c r => rfl
theorem one_name {f : Fd} (h : oneE f = 0) : nameB f.n = true := by
  unfold oneE at h
  cases hn : nameB f.n with
  | true => rfl
  | false => rw [hn] at h; simp at h
theorem right_step {f : Fd} {l : List Fd} (h : oneE f = 0) (o : Option ByteArray) : rightG o (f :: l) = if aheadB (aheadS o) f.n = true then rightG (some f.n) l else 16 := by
  cases o with
  | none => rw [rightG_none, if_pos h]; unfold aheadS; rw [if_pos (name_pos (one_name h))]
  | some p => rw [rightG_some, if_pos h]; rfl
theorem ahead_not {a b : ByteArray} : aheadB a b = (Op.bytesLess a.toList b.toList) := by rw [less_nats]; rfl
theorem leq_true {a b : ByteArray} (h : aheadB a b = false) : (Op.bytesLess b.toList a.toList = true ∧ (b.toList == a.toList) = false) ∨ (Op.bytesLess b.toList a.toList = false ∧ (b.toList == a.toList) = true) := by
  unfold aheadB at h
  rw [less_nats]
  rcases lessN_or (nats b) (nats a) with h1 | h1 | h1
  · refine .inl ⟨h1, ?_⟩
    rw [beq_eq_false_iff_ne]
    intro e
    rw [bytes_is.1 e, lessN_self] at h1
    cases h1
  · rw [h1] at h; cases h
  · refine .inr ⟨by rw [h1, lessN_self], ?_⟩
    rw [beq_iff_eq]
    exact bytes_is.2 h1
theorem lessN_anti {l m : List Nat} (h : lessN l m = true) : lessN m l = false := by
  cases h2 : lessN m l with
  | false => rfl
  | true => have := lessN_trans _ _ _ h h2; rw [lessN_self] at this; cases this
theorem leq_false {a b : ByteArray} (h : aheadB a b = true) : Op.bytesLess b.toList a.toList = false ∧ (b.toList == a.toList) = false := by
  have h2 := ahead_ne h
  unfold aheadB at h
  refine ⟨by rw [less_nats]; exact lessN_anti h, ?_⟩
  rw [beq_eq_false_iff_ne]
  intro e
  exact h2 (bytes_is.1 e).symm

set_option maxHeartbeats 4000000 in
set_option maxRecDepth 10000 in
theorem pright_at (w : World) (A : Option Addr) (c : Nat) (l : List Fd) (hl : Fields w A l) (hok : okF l) (hn : l.length ≤ 9223372036854775807) :
    Ret 14 #[.slice A l.length c] w (.int .i64 ((rightE l : Nat) : Int)) := by
  by_cases h8 : 8 < l.length
  · have h8' : (8 : Int) < (l.length : Int) := by omega
    have HE := Lib.hid (show rightE l = 4 by unfold rightE; rw [if_pos h8])
    go_enter Try.func14, Try.ntmps14
    go_wp2_with fail
    go_ret
    exact ⟨ret_int (by rw [HE.out]; rfl), bl w⟩
  · have h8' : ¬ (8 : Int) < (l.length : Int) := by omega
    have HR := Lib.hid (show rightE l = rightG none l by unfold rightE; rw [if_neg h8])
    have HL := Lib.hid hl
    have HO := Lib.hid hok
    obtain ⟨n, hnm⟩ : ∃ n, l.length = n := ⟨_, rfl⟩
    rw [hnm] at hn h8 h8' ⊢
    have HN := Lib.hid hnm
    clear hl hnm hok
    go_enter Try.func14, Try.ntmps14
    go_wp2_with fail
    go_loopw [3, 12] (fun a i wr => ∃ (k : Nat) (o : Option ByteArray), k ≤ n ∧ i = .int .i64 k ∧ a = .string (aheadS o) ∧ rightG none l = rightG o (l.drop k) ∧ Below w.heap.size w wr) (fun _ i _ => n - (intOf i).toNat)
    case atStart => exact ⟨0, none, Nat.zero_le _, rfl, rfl, rfl, bl w⟩
    case round =>
      obtain ⟨k, o, hk, rfl, rfl, hg, hB⟩ := hrel
      have HB := Lib.hid hB
      clear hB
      by_cases hlt : k < n
      · have hlt' : (k : Int) < (n : Int) := by omega
        obtain ⟨f, hf⟩ : ∃ f, l[k]? = some f := ⟨_, List.getElem?_eq_getElem (by have := HN.out; omega)⟩
        have FL := (HL.out.below HB.out)
        obtain ⟨g, off, rfl, c0, c1⟩ := FL k f hf
        have CO := Lib.hid (fun w => alone_any f (HO.out f (List.mem_of_getElem? hf)) w)
        rw [drop_consF hf] at hg
        by_cases h0 : oneE f = 0
        · have E0 := Lib.hid h0
          rw [right_step h0] at hg
          cases ha : aheadB (aheadS o) f.n with
          | true =>
            rw [if_pos ha] at hg
            have NX := Lib.hid hg
            obtain ⟨e1, e2⟩ := leq_false ha
            clear hg h0 ha FL hf
            generalize aheadS o = p at *
            go_wp2_with (go_at_call 26; with_reducible refine (CO.out _).mono ?_; rintro e w2 ⟨rfl, hb⟩; rw [E0.out]; have x0 := keepc (b := wr.heap.size) (o := 0) (v := .string f.n) hb (by simp [go_sem]); have HB2 := Lib.hid (chain HB.out (chain ((bl wr).alloc (Nat.le_refl _) _) hb)); clear hb)
            exact ⟨⟨k + 1, some f.n, by omega, by go_num, rfl, NX.out, HB2.out⟩, by simp [intOf] <;> omega⟩
          | false =>
            rw [if_neg (by rw [ha]; simp)] at hg
            have NX := Lib.hid (show rightE l = 16 by rw [HR.out, hg])
            obtain ⟨e1, e2⟩ | ⟨e1, e2⟩ := leq_true ha
            all_goals
              clear hg h0 ha FL hf
              generalize aheadS o = p at *
              go_wp2_with (go_at_call 26; with_reducible refine (CO.out _).mono ?_; rintro e w2 ⟨rfl, hb⟩; rw [E0.out]; have x0 := keepc (b := wr.heap.size) (o := 0) (v := .string f.n) hb (by simp [go_sem]); have HB2 := Lib.hid (chain HB.out (chain ((bl wr).alloc (Nat.le_refl _) _) hb)); clear hb)
              go_ret
              exact ⟨ret_int (by rw [NX.out]; rfl), HB2.out⟩
        · have NX := Lib.hid (show rightE l = oneE f by rw [HR.out, hg, rightG_bad o _ h0])
          have h0' : ¬ ((oneE f : Nat) : Int) = 0 := by omega
          clear hg FL
          generalize oneE f = z at *
          go_wp2_with (go_at_call 26; with_reducible refine (CO.out _).mono ?_; rintro e w2 ⟨rfl, hb⟩; have HB2 := Lib.hid (chain HB.out (chain ((bl wr).alloc (Nat.le_refl _) _) hb)); clear hb)
          go_ret
          exact ⟨ret_int (by rw [NX.out]), HB2.out⟩
      · obtain rfl : k = n := by omega
        have hlt' : ¬ (k : Int) < (k : Int) := by omega
        rw [List.drop_of_length_le (by have := HN.out; omega)] at hg
        have HE := Lib.hid (show rightE l = 0 by rw [HR.out, hg]; cases o <;> rfl)
        clear hg
        go_wp2_with fail
        go_ret
        exact ⟨ret_int (by rw [HE.out]; rfl), HB.out⟩
theorem pright_any (w : World) (v : Value) (l : List Fd) (hl : ListF w v l) (hok : okF l) (hn : l.length ≤ 9223372036854775807) : Ret 14 #[v] w (.int .i64 ((rightE l : Nat) : Int)) := by
  obtain ⟨A, c, rfl, hF, _, _⟩ := hl
  exact pright_at w A c l hF hok hn

end Go.Proofs.Ytnmnbnlokmmcmaa
