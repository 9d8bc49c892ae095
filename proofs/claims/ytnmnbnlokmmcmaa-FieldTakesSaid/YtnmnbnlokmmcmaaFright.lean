/-
  Fields in memory; the document's one, Right and Get.
-/
import Derived.Test.YtnmnbnlokmmcmaaFname
namespace Go.Proofs.Ytnmnbnlokmmcmaa
open Go.RowKit

/-- A field as a value. -/
abbrev fv (f : Fd) : Value := .agg #[.string f.n, .int .i64 f.v]
/-- From A on the fields of l lie, one behind the other. -/
def Fields (w : World) (A : Option Addr) (l : List Fd) : Prop := ∀ i f, l[i]? = some f → ∃ g off, A = some ⟨g, off, none⟩ ∧ w.cell? ⟨g, off + i * 2, none⟩ = some (.string f.n) ∧ w.cell? ⟨g, off + i * 2 + 1, none⟩ = some (.int .i64 f.v)
theorem Fields.below {w w' : World} {A : Option Addr} {l : List Fd} (h : Fields w A l) (hb : Below w.heap.size w w') : Fields w' A l := fun i f hf => by
  obtain ⟨g, off, rfl, c0, c1⟩ := h i f hf
  exact ⟨g, off, rfl, keepc hb c0, keepc hb c1⟩
theorem Fields.nil (w : World) (A : Option Addr) : Fields w A [] := fun i f h => by simp at h
theorem Fields.at {w : World} {g off k : Nat} {f : Fd} {l : List Fd} (h : Fields w (some ⟨g, off, none⟩) l) (hf : l[k]? = some f) : w.cell? ⟨g, off + k * 2, none⟩ = some (.string f.n) ∧ w.cell? ⟨g, off + k * 2 + 1, none⟩ = some (.int .i64 f.v) := by
  obtain ⟨g', off', e, c0, c1⟩ := h k f hf
  injection e with e
  injection e with e1 e2
  subst e1 e2
  exact ⟨c0, c1⟩
/-- Fields whose names are not too long. -/
def okF (l : List Fd) : Prop := ∀ f ∈ l, f.n.size ≤ 9223372036854775807

theorem intE_val (v : Int) : intE v = if valB v then 0 else 2 := by
  unfold valB
  by_cases h : -2305843009213693952 ≤ v ∧ v ≤ 2305843009213693951
  · rw [(int_ok h rfl).2, if_pos (by simp [h.1, h.2])]
    unfold numE zig
    split <;> rw [if_pos (by omega)]
  · rw [(int_bad h).2, if_neg]
    simp only [Bool.and_eq_true, decide_eq_true_eq]
    exact h

set_option maxHeartbeats 1000000 in
theorem done_any (f : Fd) (hf : f.n.size ≤ 9223372036854775807) (w : World) : Ret 30 #[fv f] w (.int .i64 ((oneE f : Nat) : Int)) := by
  have CN := Lib.hid (fun w => dname_any f.n hf w)
  have CI := Lib.hid (fun w => dint_any f.v w)
  have EV := intE_val f.v
  cases hn : nameB f.n with
  | false =>
    have HE := Lib.hid (show oneE f = 8 by unfold oneE; rw [hn]; rfl)
    rw [hn] at CN
    clear hn EV
    go_enter Try.func30, Try.ntmps30
    go_wp2_with (go_at_call 13; with_reducible refine (CN.out _).mono ?_; rintro e w2 ⟨rfl, rfl⟩)
    go_ret
    exact ⟨ret_int (by rw [HE.out]; rfl), (bl w).alloc (Nat.le_refl _) _⟩
  | true =>
    rw [hn] at CN
    cases hv : valB f.v with
    | false =>
      have HE := Lib.hid (show oneE f = 2 by unfold oneE; rw [hn, hv]; rfl)
      have HV := Lib.hid (show intE f.v = 2 by rw [EV, hv]; rfl)
      clear hn hv EV
      go_enter Try.func30, Try.ntmps30
      go_wp2_with (go_at_call 13; with_reducible refine (CN.out _).mono ?_; rintro e w2 ⟨rfl, rfl⟩)
      (go_at_call 51; (with_reducible refine (CI.out _).mono ?_); rintro e w3 ⟨rfl, hb⟩; rw [HV.out])
      go_wp2_with fail
      go_ret
      exact ⟨ret_int (by rw [HE.out]; rfl), ((bl w).alloc (Nat.le_refl _) _).trans (hb.mono (by simp))⟩
    | true =>
      have HE := Lib.hid (show oneE f = 0 by unfold oneE; rw [hn, hv]; rfl)
      have HV := Lib.hid (show intE f.v = 0 by rw [EV, hv]; rfl)
      clear hn hv EV
      go_enter Try.func30, Try.ntmps30
      go_wp2_with (go_at_call 13; with_reducible refine (CN.out _).mono ?_; rintro e w2 ⟨rfl, rfl⟩)
      (go_at_call 51; (with_reducible refine (CI.out _).mono ?_); rintro e w3 ⟨rfl, hb⟩; rw [HV.out])
      go_wp2_with fail
      go_ret
      exact ⟨ret_int (by rw [HE.out]; rfl), ((bl w).alloc (Nat.le_refl _) _).trans (hb.mono (by simp))⟩

theorem drop_consF {l : List Fd} {k : Nat} {f : Fd} (h : l[k]? = some f) : l.drop k = f :: l.drop (k + 1) := by
  have hk : k < l.length := by
    rcases Nat.lt_or_ge k l.length with h' | h'
    · exact h'
    · rw [List.getElem?_eq_none h'] at h; cases h
  rw [List.drop_eq_getElem_cons hk]
  rw [List.getElem?_eq_getElem hk] at h
  rw [Option.some.inj h]
theorem rightG_none (f : Fd) (l : List Fd) : rightG none (f :: l) = if oneE f = 0 then rightG (some f.n) l else oneE f := rfl
theorem rightG_some (p : ByteArray) (f : Fd) (l : List Fd) : rightG (some p) (f :: l) = if oneE f = 0 then (if aheadB p f.n then rightG (some f.n) l else 16) else oneE f := rfl
theorem rightG_bad (o : Option ByteArray) {f : Fd} (l : List Fd) (h : oneE f ≠ 0) : rightG o (f :: l) = oneE f := by
  cases o
  · rw [rightG_none, if_neg h]
  · rw [rightG_some, if_neg h]

set_option maxHeartbeats 4000000 in
set_option maxRecDepth 10000 in
theorem dright_any (w : World) (A : Option Addr) (c : Nat) (l : List Fd) (hl : Fields w A l) (hok : okF l) (hn : l.length ≤ 9223372036854775807) :
    Ret 15 #[.slice A l.length c] w (.int .i64 ((rightE l : Nat) : Int)) := by
  by_cases h8 : 8 < l.length
  · have h8' : (8 : Int) < (l.length : Int) := by omega
    have HE := Lib.hid (show rightE l = 4 by unfold rightE; rw [if_pos h8])
    go_enter Try.func15, Try.ntmps15
    go_wp2_with fail
    go_ret
    exact ⟨ret_int (by rw [HE.out]; rfl), bl w⟩
  · have h8' : ¬ (8 : Int) < (l.length : Int) := by omega
    have HR := Lib.hid (show rightE l = rightG none l by unfold rightE; rw [if_neg h8])
    have HL := Lib.hid hl
    have HO := Lib.hid hok
    obtain ⟨n, hnm⟩ : ∃ n, l.length = n := ⟨_, rfl⟩
    rw [hnm] at hn h8 h8' ⊢
    have HN := Lib.hid hnm
    clear hl hnm hok
    go_enter Try.func15, Try.ntmps15
    go_wp2_with fail
    go_loopw [3] (fun i wr => ∃ (k : Nat) (o : Option ByteArray), k ≤ n ∧ i = .int .i64 k ∧ rightG none l = rightG o (l.drop k) ∧ (k = 0 ∧ o = none ∨ ∃ j f, k = j + 1 ∧ l[j]? = some f ∧ o = some f.n) ∧ Below w.heap.size w wr) (fun i _ => n - (intOf i).toNat)
    case atStart => exact ⟨0, none, Nat.zero_le _, rfl, rfl, .inl ⟨rfl, rfl⟩, bl w⟩
    case round =>
      obtain ⟨k, o, hk, rfl, hg, ho, hB⟩ := hrel
      have HB := Lib.hid hB
      clear hB
      by_cases hlt : k < n
      · have hlt' : (k : Int) < (n : Int) := by omega
        obtain ⟨f, hf⟩ : ∃ f, l[k]? = some f := ⟨_, List.getElem?_eq_getElem (by have := HN.out; omega)⟩
        have FL := (HL.out.below HB.out)
        obtain ⟨g, off, rfl, c0, c1⟩ := FL k f hf
        have CO := Lib.hid (fun w => done_any f (HO.out f (List.mem_of_getElem? hf)) w)
        rw [drop_consF hf] at hg
        by_cases h0 : oneE f = 0
        · have E0 := Lib.hid h0
          rcases ho with ⟨hk0, rfl⟩ | ⟨j, p, hkj, hp, rfl⟩
          · rw [rightG_none, if_pos h0] at hg
            have NX := Lib.hid hg
            have HF := Lib.hid hf
            have kp : ¬ 0 < k := by omega
            have kq : decide (0 < k) = false := by rw [decide_eq_false_iff_not]; exact kp
            clear hg h0 FL hf hk0
            go_wp2_with (go_at_call 30; with_reducible refine (CO.out _).mono ?_; rintro e w2 ⟨rfl, hb⟩; rw [E0.out]; have HB2 := Lib.hid (chain HB.out hb); clear hb)
            go_quiet (fail)
            go_wp2_with fail
            exact ⟨⟨k + 1, _, by omega, by go_num, NX.out, .inr ⟨k, f, rfl, HF.out, rfl⟩, belowN HB2.out _⟩, by simp [intOf] <;> omega⟩
          · have HP := Lib.hid hp
            obtain ⟨b0, _⟩ := FL.at hp
            have HF := Lib.hid hf
            have w1 : IntKind.i64.wrap ((k : Int) - 1) = (j : Int) := by rw [IntKind.wrap_i64]; omega
            have kp : 0 < k := by omega
            have kq : decide (0 < k) = true := by rw [decide_eq_true_eq]; exact kp
            have jn : (j : Int) < (n : Int) := by omega
            have e1 := less_nats p.n f.n
            have B0 := Lib.hid b0
            have D0 := Lib.hid c0
            have HKJ := Lib.hid hkj
            clear hp hf FL b0 hkj
            cases ha : aheadB p.n f.n with
            | true =>
              rw [rightG_some, if_pos h0, if_pos ha] at hg
              have NX := Lib.hid hg
              rw [show lessN (nats p.n) (nats f.n) = true from ha] at e1
              clear hg h0 ha
              go_wp2_with (go_at_call 30; with_reducible refine (CO.out _).mono ?_; rintro e w2 ⟨rfl, hb⟩; rw [E0.out]; have HB2 := Lib.hid (chain HB.out hb); have b1 := keepc hb B0.out; have d1 := keepc hb D0.out; clear hb)
              go_quiet (fail)
              go_wp2_with fail
              exact ⟨⟨k + 1, _, by omega, by go_num, NX.out, .inr ⟨k, f, rfl, HF.out, rfl⟩, belowN HB2.out _⟩, by simp [intOf] <;> omega⟩
            | false =>
              have NX := Lib.hid (show rightE l = 16 by rw [HR.out, hg, rightG_some, if_pos h0, if_neg (by rw [ha]; simp)])
              rw [show lessN (nats p.n) (nats f.n) = false from ha] at e1
              clear hg h0 ha
              go_wp2_with (go_at_call 30; with_reducible refine (CO.out _).mono ?_; rintro e w2 ⟨rfl, hb⟩; rw [E0.out]; have HB2 := Lib.hid (chain HB.out hb); have b1 := keepc hb B0.out; have d1 := keepc hb D0.out; clear hb)
              go_quiet (fail)
              go_wp2_with fail
              go_ret
              exact ⟨ret_int (by rw [NX.out]; rfl), belowN HB2.out _⟩
        · have NX := Lib.hid (show rightE l = oneE f by rw [HR.out, hg, rightG_bad o _ h0])
          have h0' : ¬ ((oneE f : Nat) : Int) = 0 := by omega
          clear hg ho FL
          generalize oneE f = z at *
          go_wp2_with (go_at_call 30; with_reducible refine (CO.out _).mono ?_; rintro e w2 ⟨rfl, hb⟩)
          go_ret
          exact ⟨ret_int (by rw [NX.out]), chain HB.out hb⟩
      · obtain rfl : k = n := by omega
        have hlt' : ¬ (k : Int) < (k : Int) := by omega
        rw [List.drop_of_length_le (by have := HN.out; omega)] at hg
        have HE := Lib.hid (show rightE l = 0 by rw [HR.out, hg]; cases o <;> rfl)
        clear hg ho
        go_wp2_with fail
        go_ret
        exact ⟨ret_int (by rw [HE.out]; rfl), HB.out⟩

end Go.Proofs.Ytnmnbnlokmmcmaa
