/-
  Texts joined into one: what the program's and the document's calls give back, piece by piece.
-/
import Derived.Test.YtmieonfdenjedaaDoorMg1
import Derived.Test.YtmieonfdenjedaaDoorMg2
import Derived.Test.YtmieonfdenjedaaDoorRows
import Derived.BigQuiet
import Derived.ChangeAlike
import Derived.ChangeKeysEq
import Derived.Deep.AppendLies
import Derived.Deep.CutBlock
import Derived.Deep.CutRange
import Derived.Deep.Light
import Derived.Deep.QuietTactic
import Derived.Deep.RegionHeld3
import Derived.Deep.RegionLaw
import Derived.Handy
import Derived.Laws.BytesArg
import Derived.Laws.OwnMore
import Derived.Laws.Strings
import Derived.Laws.StructEq
import Derived.Lib.Hide
import Derived.Maps.AppendAt
import Derived.OneCell
import Derived.OwnWalk
import Derived.RegionTactic
import Derived.StillTailTactics
import Derived.WalkArith
import Derived.WalkKit
import Derived.WalkLawsBesides
import Derived.WalkSpells

/-
  The program's letter, digit, Name, alone: is a text a name, what is wrong with a field alone.
-/
namespace Go.Proofs.YtmieonfdenjedaaDoor
open Go.RowKit

def digitB (c : Nat) : Bool := decide (48 ≤ c) && decide (c ≤ 57)
set_option maxHeartbeats 1000000 in
theorem letter_any (c : Nat) (w : World) : Same 82 #[.int .u8 (c : Int)] w (.bool (letterB c)) := by
  by_cases a1 : 97 ≤ c
  · have a1' : (97 : Int) ≤ (c : Int) := by omega
    by_cases a2 : c ≤ 122
    · have a2' : (c : Int) ≤ 122 := by omega
      have HE := Lib.hid (show letterB c = true by unfold letterB; simp [a1, a2])
      go_enter Tryd.func82, Tryd.ntmps82
      go_wp2_with fail
      go_ret
      exact ⟨ret_bool HE.out.symm, rfl⟩
    · have a2' : ¬ (c : Int) ≤ 122 := by omega
      have HE := Lib.hid (show letterB c = false by unfold letterB; simp [a2])
      go_enter Tryd.func82, Tryd.ntmps82
      go_wp2_with fail
      go_ret
      exact ⟨ret_bool HE.out.symm, rfl⟩
  · have a1' : ¬ (97 : Int) ≤ (c : Int) := by omega
    have HE := Lib.hid (show letterB c = false by unfold letterB; simp [a1])
    go_enter Tryd.func82, Tryd.ntmps82
    go_wp2_with fail
    go_ret
    exact ⟨ret_bool HE.out.symm, rfl⟩
set_option maxHeartbeats 1000000 in
theorem digit_any (c : Nat) (w : World) : Same 83 #[.int .u8 (c : Int)] w (.bool (digitB c)) := by
  by_cases a1 : 48 ≤ c
  · have a1' : (48 : Int) ≤ (c : Int) := by omega
    by_cases a2 : c ≤ 57
    · have a2' : (c : Int) ≤ 57 := by omega
      have HE := Lib.hid (show digitB c = true by unfold digitB; simp [a1, a2])
      go_enter Tryd.func83, Tryd.ntmps83
      go_wp2_with fail
      go_ret
      exact ⟨ret_bool HE.out.symm, rfl⟩
    · have a2' : ¬ (c : Int) ≤ 57 := by omega
      have HE := Lib.hid (show digitB c = false by unfold digitB; simp [a2])
      go_enter Tryd.func83, Tryd.ntmps83
      go_wp2_with fail
      go_ret
      exact ⟨ret_bool HE.out.symm, rfl⟩
  · have a1' : ¬ (48 : Int) ≤ (c : Int) := by omega
    have HE := Lib.hid (show digitB c = false by unfold digitB; simp [a1])
    go_enter Tryd.func83, Tryd.ntmps83
    go_wp2_with fail
    go_ret
    exact ⟨ret_bool HE.out.symm, rfl⟩

set_option maxHeartbeats 4000000 in
set_option maxRecDepth 10000 in
theorem pname_same (s : ByteArray) (hs : s.size ≤ 9223372036854775807) (w : World) : Same 81 #[.string s] w (.bool (nameB s)) := by
  obtain ⟨n, hn⟩ : ∃ n, s.size = n := ⟨_, rfl⟩
  have NE : preOk (nats s) = true → nameB s = (!(nats s).isEmpty && decide (n ≤ 12)) := fun hp => by
    unfold nameB
    rw [nameL_pre, hp, Bool.true_and, nats_length, hn]
  have HN := Lib.hid hn
  by_cases h0 : s = ⟨#[]⟩
  · have NB := Lib.hid (show nameB s = false by rw [h0]; rfl)
    subst h0
    clear NE
    go_enter Tryd.func81, Tryd.ntmps81
    go_wp2_with fail
    go_ret
    exact ⟨ret_bool NB.out.symm, rfl⟩
  · have he : (nats s).isEmpty = false := by
      cases h3 : nats s with
      | nil => exact absurd (nats_inj (a := s) (b := ⟨#[]⟩) h3) h0
      | cons => rfl
    have hne : s.toList.isEmpty = false := by
      rw [ByteArray.toList_eq]
      unfold nats at he
      rw [List.isEmpty_map] at he
      exact he
    have hpos : 0 < n := by
      rcases Nat.eq_zero_or_pos n with h | h
      · rw [← nats_length] at hn
        rw [List.eq_nil_of_length_eq_zero (hn.trans h)] at he
        cases he
      · exact h
    by_cases h12 : n ≤ 12
    · have h12' : ¬ (12 : Int) < (n : Int) := by omega
      obtain ⟨c0, hc0⟩ : ∃ c, (nats s)[0]? = some c := ⟨_, List.getElem?_eq_getElem (by rw [nats_length]; omega)⟩
      have hi0 : ∀ w, (Instr.index 9 (.string s) (.int .i64 0)).run Tryd.prog w = .ok (.int .u8 (c0 : Int)) w := index_run hc0
      have CL0 := Lib.hid (fun w => letter_any c0 w)
      have hg : decide (12 < n) = false := by rw [decide_eq_false_iff_not]; omega
      cases hl0 : letterB c0 with
      | false =>
        rw [hl0] at CL0
        have NB := Lib.hid (name_bad (s := s) (k := 0) hc0 (by simp [preOk]) (by rw [if_pos rfl, hl0]))
        clear NE hc0 hl0 he h0
        go_enter Tryd.func81, Tryd.ntmps81
        go_wp2_with (go_at_call 82; with_reducible refine (CL0.out _).mono ?_; rintro e w2 ⟨rfl, hw2⟩; obtain rfl := hw2.symm)
        go_ret
        exact ⟨ret_bool NB.out.symm, rfl⟩
      | true =>
        rw [hl0] at CL0
        have HC0 := Lib.hid hc0
        have HL0 := Lib.hid hl0
        have HNE := Lib.hid NE
        have HE := Lib.hid he
        clear NE hc0 hl0 he h0
        go_enter Tryd.func81, Tryd.ntmps81
        go_wp2_with (go_at_call 82; with_reducible refine (CL0.out _).mono ?_; rintro e w2 ⟨rfl, hw2⟩; obtain rfl := hw2.symm)
        go_loopw [19] (fun i wr => ∃ k : Nat, k ≤ n ∧ i = .int .i64 k ∧ preOk ((nats s).take k) = true ∧ wr = w) (fun i _ => n - (intOf i).toNat)
        case atStart => exact ⟨0, Nat.zero_le _, rfl, rfl, rfl⟩
        case round =>
          obtain ⟨k, hk, rfl, hp, hwr⟩ := hrel
          obtain rfl := hwr.symm
          by_cases hlt : k < n
          · have hlt' : (k : Int) < (n : Int) := by omega
            obtain ⟨c, hc⟩ : ∃ c, (nats s)[k]? = some c := ⟨_, List.getElem?_eq_getElem (by have := HN.out; rw [nats_length]; omega)⟩
            have hi := index_run hc
            have NEX := Lib.hid (name_next hc hp)
            have BAD := Lib.hid (name_bad hc hp)
            have CL := Lib.hid (fun w => letter_any c w)
            have CD := Lib.hid (fun w => digit_any c w)
            have K0 := Lib.hid (show letterB c = false → k ≠ 0 by
              intro h e
              subst e
              rw [HC0.out] at hc
              injection hc with hc
              subst hc
              rw [HL0.out] at h
              cases h)
            clear hp hc
            cases hl : letterB c with
            | true =>
              rw [hl] at CL
              have NX := Lib.hid (NEX.out (letter_inner hl))
              clear hl
              go_wp2_with (go_at_call 82; with_reducible refine (CL.out _).mono ?_; rintro e w2 ⟨rfl, hw2⟩; obtain rfl := hw2.symm)
              exact ⟨⟨k + 1, by omega, by go_num, NX.out, trivial⟩, by simp [intOf] <;> omega⟩
            | false =>
              rw [hl] at CL
              have hk0 := K0.out hl
              cases hd : digitB c with
              | true =>
                rw [hd] at CD
                have NX := Lib.hid (NEX.out (by rw [if_neg hk0]; unfold innerB; unfold digitB at hd; rw [hd]; simp))
                clear hl hd hk0
                go_wp2_with (first
                  | (go_at_call 82; with_reducible refine (CL.out _).mono ?_; rintro e w2 ⟨rfl, hw2⟩; obtain rfl := hw2.symm)
                  | (go_at_call 83; with_reducible refine (CD.out _).mono ?_; rintro e w2 ⟨rfl, hw2⟩; obtain rfl := hw2.symm))
                exact ⟨⟨k + 1, by omega, by go_num, NX.out, trivial⟩, by simp [intOf] <;> omega⟩
              | false =>
                rw [hd] at CD
                by_cases c1 : c = 45
                · subst c1
                  have hi : ∀ w, (Instr.index 9 (.string s) (.int .i64 (k : Int))).run Tryd.prog w = .ok (.int .u8 45) w := hi
                  have CL' := Lib.hid (show ∀ w, Same 82 #[.int .u8 45] w (.bool false) from CL.out)
                  have CD' := Lib.hid (show ∀ w, Same 83 #[.int .u8 45] w (.bool false) from CD.out)
                  have NX := Lib.hid (NEX.out (by rw [if_neg hk0]; rfl))
                  clear hl hd hk0 CL CD
                  go_wp2_with (first
                    | (go_at_call 82; with_reducible refine (CL'.out _).mono ?_; rintro e w2 ⟨rfl, hw2⟩; obtain rfl := hw2.symm)
                    | (go_at_call 83; with_reducible refine (CD'.out _).mono ?_; rintro e w2 ⟨rfl, hw2⟩; obtain rfl := hw2.symm))
                  exact ⟨⟨k + 1, by omega, by go_num, NX.out, trivial⟩, by simp [intOf] <;> omega⟩
                · have b1 : ((c : Int) != 45) = true := by rw [bne_iff_ne]; omega
                  have BD := Lib.hid (BAD.out (by rw [if_neg hk0]; unfold innerB; unfold digitB at hd; rw [hd, hl]; simp [c1]))
                  clear hl hd hk0
                  go_wp2_with (first
                    | (go_at_call 82; with_reducible refine (CL.out _).mono ?_; rintro e w2 ⟨rfl, hw2⟩; obtain rfl := hw2.symm)
                    | (go_at_call 83; with_reducible refine (CD.out _).mono ?_; rintro e w2 ⟨rfl, hw2⟩; obtain rfl := hw2.symm))
                  go_ret
                  exact ⟨ret_bool BD.out.symm, rfl⟩
          · obtain rfl : k = n := by omega
            have hlt' : ¬ (k : Int) < (k : Int) := by omega
            rw [List.take_of_length_le (by have := HN.out; rw [nats_length]; omega)] at hp
            have NB := Lib.hid (show nameB s = true by rw [HNE.out hp, HE.out]; simp [h12])
            clear hp
            go_wp2_with fail
            go_ret
            exact ⟨ret_bool NB.out.symm, rfl⟩
    · have h12' : (12 : Int) < (n : Int) := by omega
      have NB := Lib.hid (show nameB s = false by
        cases hp : preOk (nats s) with
        | true => rw [NE hp]; simp [h12]
        | false => unfold nameB; rw [nameL_pre, hp]; rfl)
      have hg : decide (12 < n) = true := by rw [decide_eq_true_eq]; omega
      clear NE he h0
      go_enter Tryd.func81, Tryd.ntmps81
      go_wp2_with fail
      go_ret
      exact ⟨ret_bool NB.out.symm, rfl⟩
theorem pname_any (s : ByteArray) (hs : s.size ≤ 9223372036854775807) (w : World) : Ret 81 #[.string s] w (.bool (nameB s)) := by
  refine (pname_same s hs w).mono ?_
  rintro e _ ⟨rfl, rfl⟩
  exact ⟨rfl, bl _⟩

end Go.Proofs.YtmieonfdenjedaaDoor

/-
  The program's alone and Right: what is wrong with a field alone, with a list of fields.
-/
namespace Go.Proofs.YtmieonfdenjedaaDoor
open Go.RowKit

set_option maxHeartbeats 1000000 in
theorem alone_any (f : Fd) (hf : f.n.size ≤ 9223372036854775807) (w : World) : Ret 76 #[fv f] w (.int .i64 ((oneE f : Nat) : Int)) := by
  have CN := Lib.hid (fun w => pname_same f.n hf w)
  cases hn : nameB f.n with
  | false =>
    have HE := Lib.hid (show oneE f = 8 by unfold oneE; rw [hn]; rfl)
    rw [hn] at CN
    clear hn
    go_enter Tryd.func76, Tryd.ntmps76
    go_wp2_with (go_at_call 81; with_reducible refine (CN.out _).mono ?_; rintro e _ ⟨rfl, rfl⟩)
    go_ret
    exact ⟨ret_int (by rw [HE.out]; rfl), (bl w).alloc (Nat.le_refl _) _⟩
  | true =>
    rw [hn] at CN
    by_cases v1 : f.v < -2305843009213693952
    · have HE := Lib.hid (show oneE f = 2 by unfold oneE valB; rw [hn]; simp; omega)
      clear hn
      go_enter Tryd.func76, Tryd.ntmps76
      go_wp2_with (go_at_call 81; with_reducible refine (CN.out _).mono ?_; rintro e _ ⟨rfl, rfl⟩)
      go_ret
      exact ⟨ret_int (by rw [HE.out]; rfl), (bl w).alloc (Nat.le_refl _) _⟩
    · by_cases v2 : 2305843009213693951 < f.v
      · have HE := Lib.hid (show oneE f = 2 by unfold oneE valB; rw [hn]; simp; omega)
        clear hn
        go_enter Tryd.func76, Tryd.ntmps76
        go_wp2_with (go_at_call 81; with_reducible refine (CN.out _).mono ?_; rintro e _ ⟨rfl, rfl⟩)
        go_ret
        exact ⟨ret_int (by rw [HE.out]; rfl), (bl w).alloc (Nat.le_refl _) _⟩
      · have HE := Lib.hid (show oneE f = 0 by unfold oneE valB; rw [hn]; simp; omega)
        clear hn
        go_enter Tryd.func76, Tryd.ntmps76
        go_wp2_with (go_at_call 81; with_reducible refine (CN.out _).mono ?_; rintro e _ ⟨rfl, rfl⟩)
        go_ret
        exact ⟨ret_int (by rw [HE.out]; rfl), (bl w).alloc (Nat.le_refl _) _⟩

/-- The text that stands where there is no name ahead. -/
def aheadS : Option ByteArray → ByteArray
  | none => ⟨#[]⟩
  | some p => p
theorem name_pos {s : ByteArray} (h : nameB s = true) : aheadB ⟨#[]⟩ s = true := by
  unfold nameB at h
  unfold aheadB
  cases hs : nats s with
  | nil => rw [hs] at h; cases h
  | cons c r => rfl
theorem one_name {f : Fd} (h : oneE f = 0) : nameB f.n = true := by
  unfold oneE at h
  cases hn : nameB f.n with
  | true => rfl
  | false => rw [hn] at h; simp at h
theorem right_step {f : Fd} {l : List Fd} (h : oneE f = 0) (o : Option ByteArray) : rightG o (f :: l) = if aheadB (aheadS o) f.n = true then rightG (some f.n) l else 16 := by
  cases o with
  | none => rw [rightG_none, if_pos h]; unfold aheadS; rw [if_pos (name_pos (one_name h))]
  | some p => rw [rightG_some, if_pos h]; rfl
theorem ahead_not {a b : ByteArray} : aheadB a b = (Op.bytesLess a.toList b.toList) := by rw [less_nats]; rfl
theorem leq_true {a b : ByteArray} (h : aheadB a b = false) : (Op.bytesLess b.toList a.toList = true ∧ (b.toList == a.toList) = false) ∨ (Op.bytesLess b.toList a.toList = false ∧ (b.toList == a.toList) = true) := by
  unfold aheadB at h
  rw [less_nats]
  rcases lessN_or (nats b) (nats a) with h1 | h1 | h1
  · refine .inl ⟨h1, ?_⟩
    rw [beq_eq_false_iff_ne]
    intro e
    rw [bytes_is.1 e, lessN_self] at h1
    cases h1
  · rw [h1] at h; cases h
  · refine .inr ⟨by rw [h1, lessN_self], ?_⟩
    rw [beq_iff_eq]
    exact bytes_is.2 h1
theorem lessN_anti {l m : List Nat} (h : lessN l m = true) : lessN m l = false := by
  cases h2 : lessN m l with
  | false => rfl
  | true => have := lessN_trans _ _ _ h h2; rw [lessN_self] at this; cases this
theorem leq_false {a b : ByteArray} (h : aheadB a b = true) : Op.bytesLess b.toList a.toList = false ∧ (b.toList == a.toList) = false := by
  have h2 := ahead_ne h
  unfold aheadB at h
  refine ⟨by rw [less_nats]; exact lessN_anti h, ?_⟩
  rw [beq_eq_false_iff_ne]
  intro e
  exact h2 (bytes_is.1 e).symm

set_option maxHeartbeats 4000000 in
set_option maxRecDepth 10000 in
theorem pright_at (w : World) (A : Option Addr) (c : Nat) (l : List Fd) (hl : Fields w A l) (hok : okF l) (hn : l.length ≤ 9223372036854775807) :
    Ret 56 #[.slice A l.length c] w (.int .i64 ((rightE l : Nat) : Int)) := by
  by_cases h8 : 8 < l.length
  · have h8' : (8 : Int) < (l.length : Int) := by omega
    have HE := Lib.hid (show rightE l = 4 by unfold rightE; rw [if_pos h8])
    go_enter Tryd.func56, Tryd.ntmps56
    go_wp2_with fail
    go_ret
    exact ⟨ret_int (by rw [HE.out]; rfl), bl w⟩
  · have h8' : ¬ (8 : Int) < (l.length : Int) := by omega
    have HR := Lib.hid (show rightE l = rightG none l by unfold rightE; rw [if_neg h8])
    have HL := Lib.hid hl
    have HO := Lib.hid hok
    obtain ⟨n, hnm⟩ : ∃ n, l.length = n := ⟨_, rfl⟩
    rw [hnm] at hn h8 h8' ⊢
    have HN := Lib.hid hnm
    clear hl hnm hok
    go_enter Tryd.func56, Tryd.ntmps56
    go_wp2_with fail
    go_loopw [3, 12] (fun a i wr => ∃ (k : Nat) (o : Option ByteArray), k ≤ n ∧ i = .int .i64 k ∧ a = .string (aheadS o) ∧ rightG none l = rightG o (l.drop k) ∧ Below w.heap.size w wr) (fun _ i _ => n - (intOf i).toNat)
    case atStart => exact ⟨0, none, Nat.zero_le _, rfl, rfl, rfl, bl w⟩
    case round =>
      obtain ⟨k, o, hk, rfl, rfl, hg, hB⟩ := hrel
      have HB := Lib.hid hB
      clear hB
      by_cases hlt : k < n
      · have hlt' : (k : Int) < (n : Int) := by omega
        obtain ⟨f, hf⟩ : ∃ f, l[k]? = some f := ⟨_, List.getElem?_eq_getElem (by have := HN.out; omega)⟩
        have FL := (HL.out.below HB.out)
        obtain ⟨g, off, rfl, c0, c1⟩ := FL k f hf
        have CO := Lib.hid (fun w => alone_any f (HO.out f (List.mem_of_getElem? hf)) w)
        rw [drop_consF hf] at hg
        by_cases h0 : oneE f = 0
        · have E0 := Lib.hid h0
          rw [right_step h0] at hg
          cases ha : aheadB (aheadS o) f.n with
          | true =>
            rw [if_pos ha] at hg
            have NX := Lib.hid hg
            obtain ⟨e1, e2⟩ := leq_false ha
            clear hg h0 ha FL hf
            generalize aheadS o = p at *
            go_wp2_with (go_at_call 76; with_reducible refine (CO.out _).mono ?_; rintro e w2 ⟨rfl, hb⟩; rw [E0.out]; have x0 := keepc (b := wr.heap.size) (o := 0) (v := .string f.n) hb (by simp [go_sem]); have HB2 := Lib.hid (chain HB.out (chain ((bl wr).alloc (Nat.le_refl _) _) hb)); clear hb)
            exact ⟨⟨k + 1, some f.n, by omega, by go_num, rfl, NX.out, HB2.out⟩, by simp [intOf] <;> omega⟩
          | false =>
            rw [if_neg (by rw [ha]; simp)] at hg
            have NX := Lib.hid (show rightE l = 16 by rw [HR.out, hg])
            obtain ⟨e1, e2⟩ | ⟨e1, e2⟩ := leq_true ha
            all_goals
              clear hg h0 ha FL hf
              generalize aheadS o = p at *
              go_wp2_with (go_at_call 76; with_reducible refine (CO.out _).mono ?_; rintro e w2 ⟨rfl, hb⟩; rw [E0.out]; have x0 := keepc (b := wr.heap.size) (o := 0) (v := .string f.n) hb (by simp [go_sem]); have HB2 := Lib.hid (chain HB.out (chain ((bl wr).alloc (Nat.le_refl _) _) hb)); clear hb)
              go_ret
              exact ⟨ret_int (by rw [NX.out]; rfl), HB2.out⟩
        · have NX := Lib.hid (show rightE l = oneE f by rw [HR.out, hg, rightG_bad o _ h0])
          have h0' : ¬ ((oneE f : Nat) : Int) = 0 := by omega
          clear hg FL
          generalize oneE f = z at *
          go_wp2_with (go_at_call 76; with_reducible refine (CO.out _).mono ?_; rintro e w2 ⟨rfl, hb⟩; have HB2 := Lib.hid (chain HB.out (chain ((bl wr).alloc (Nat.le_refl _) _) hb)); clear hb)
          go_ret
          exact ⟨ret_int (by rw [NX.out]), HB2.out⟩
      · obtain rfl : k = n := by omega
        have hlt' : ¬ (k : Int) < (k : Int) := by omega
        rw [List.drop_of_length_le (by have := HN.out; omega)] at hg
        have HE := Lib.hid (show rightE l = 0 by rw [HR.out, hg]; cases o <;> rfl)
        clear hg
        go_wp2_with fail
        go_ret
        exact ⟨ret_int (by rw [HE.out]; rfl), HB.out⟩
theorem pright_any (w : World) (v : Value) (l : List Fd) (hl : ListF w v l) (hok : okF l) (hn : l.length ≤ 9223372036854775807) : Ret 56 #[v] w (.int .i64 ((rightE l : Nat) : Int)) := by
  obtain ⟨A, c, rfl, hF, _, _⟩ := hl
  exact pright_at w A c l hF hok hn

end Go.Proofs.YtmieonfdenjedaaDoor

/-
  The program's Right and RightRow.
-/
namespace Go.Proofs.YtmieonfdenjedaaDoor
open Go.RowKit

set_option maxRecDepth 100000 in
theorem run_neq_span (a b c d : Int) (w : World) : (binOp .neq 23 (.agg #[.int .i64 a, .int .i64 b]) (.agg #[.int .i64 c, .int .i64 d])).run Tryd.prog w = .ok (.bool (!decide (a = c ∧ b = d))) w := by
  rw [run_neq_struct, run_equalIn_struct w 9999 23 _ _ Tryd.underlying23 (by kernel_rfl)]
  have h3 := Tryd.underlying3
  have a3 : ∀ w, (isAgg 3).run Tryd.prog w = .ok false w := Tryd.isAgg3
  have c3 : Tryd.prog.cellsOf 3 = 1 := by kernel_rfl
  simp [Op.eqFields, Program.fieldsOf, Tryd.underlying23, part, a3, run_equalIn_int w 9998 _ .i64 .i64 _ _ h3]
  by_cases h1 : a = c
  · by_cases h2 : b = d <;> simp [h1, h2]
  · simp [h1]

/-- What is wrong with what a version sets. -/
def rsE (v : Vr) : Nat :=
  if v.gone then (if v.id = v.st ∨ 0 < v.fs.length ∨ v.sf ≠ 0 ∨ v.se ≠ 0 then 8 else 0)
  else if rightS v.sf v.se then rightE v.fs else 3
theorem firstN_z (b : Bool) (e x : Int) (hb : b = false) : firstN [whenE b e, x] = x := by
  subst hb
  show (if (0 : Int) = 0 then (if x = 0 then 0 else x) else 0) = x
  by_cases h : x = 0 <;> simp [h]

theorem right_first (v : Vr) (a b : Int) (ha : ((v.st < 1 ∨ 1099511627775 < v.st) ∧ a = 2) ∨ (¬ (v.st < 1 ∨ 1099511627775 < v.st) ∧ a = 0)) (hb : ((v.id < 1 ∨ v.st < v.id) ∧ b = 2) ∨ (¬ (v.id < 1 ∨ v.st < v.id) ∧ b = 0)) :
    firstN [a, b, ((entE v.ent : Nat) : Int), ((rsE v : Nat) : Int)] = ((rightV v : Nat) : Int) := by
  have er : rightV v = if v.st < 1 ∨ 1099511627775 < v.st ∨ v.id < 1 ∨ v.st < v.id then 2 else if entE v.ent ≠ 0 then entE v.ent else rsE v := rfl
  rw [er]
  rcases ha with ⟨h1, rfl⟩ | ⟨h1, rfl⟩
  · rw [if_pos (by omega)]; rfl
  · rcases hb with ⟨h2, rfl⟩ | ⟨h2, rfl⟩
    · rw [if_pos (by omega)]; rfl
    · rw [if_neg (by omega)]
      by_cases h3 : entE v.ent = 0
      · rw [if_neg (by omega), h3]
        show (if ((rsE v : Nat) : Int) = 0 then (0 : Int) else ((rsE v : Nat) : Int)) = _
        split <;> omega
      · rw [if_pos h3]
        show (if ((entE v.ent : Nat) : Int) = 0 then firstN [((rsE v : Nat) : Int)] else ((entE v.ent : Nat) : Int)) = _
        rw [if_neg (by omega)]
theorem stA (x : Int) : (decide (x < 1) = true ∧ x < 1) ∨ ((decide (x < 1) = false ∧ ¬ x < 1) ∧ (decide (1099511627775 < x) = true ∧ 1099511627775 < x)) ∨ ((decide (x < 1) = false ∧ ¬ x < 1) ∧ (decide (1099511627775 < x) = false ∧ ¬ 1099511627775 < x)) := by
  by_cases h1 : x < 1 <;> by_cases h2 : 1099511627775 < x <;> simp [h1, h2] <;> omega
theorem idB (x y : Int) : (decide (x < 1) = true ∧ x < 1) ∨ ((decide (x < 1) = false ∧ ¬ x < 1) ∧ (decide (y < x) = true ∧ y < x)) ∨ ((decide (x < 1) = false ∧ ¬ x < 1) ∧ (decide (y < x) = false ∧ ¬ y < x)) := by
  by_cases h1 : x < 1 <;> by_cases h2 : y < x <;> simp [h1, h2]

end Go.Proofs.YtmieonfdenjedaaDoor

/-
  The program's small calls of commands: which parts are strange, targets, numbers of commands, what a command sets; Right.
-/
namespace Go.Proofs.YtmieonfdenjedaaDoor
open Go.RowKit

set_option maxHeartbeats 1000000 in
theorem ptarget14_any (n : Int) (w : World) : Same 28 #[.int .i64 n] w (.bool (tgB n)) := by
  by_cases h1 : 1 ≤ n
  · by_cases h2 : n ≤ 1099511627775
    · have h1' : decide (1 ≤ n) = true := by simpa using h1
      have h2' : decide (n ≤ 1099511627775) = true := by simpa using h2
      have HE := Lib.hid (show tgB n = true from by unfold tgB; simp; omega)
      go_enter Tryd.func28, Tryd.ntmps28
      go_wp2_with fail
      go_ret
      exact ⟨ret_bool HE.out.symm, rfl⟩
    · have h1' : decide (1 ≤ n) = true := by simpa using h1
      have h2' : decide (n ≤ 1099511627775) = false := by simpa using h2
      have h3 : -8 ≤ n := by omega
      have h3' : decide (-8 ≤ n) = true := by simpa using h3
      have h4 : ¬ n ≤ -1 := by omega
      have h4' : decide (n ≤ -1) = false := by simpa using h4
      have HE := Lib.hid (show tgB n = false from by unfold tgB; simp; omega)
      go_enter Tryd.func28, Tryd.ntmps28
      go_wp2_with fail
      go_ret
      exact ⟨ret_bool HE.out.symm, rfl⟩
  · have h1' : decide (1 ≤ n) = false := by simpa using h1
    by_cases h3 : -8 ≤ n
    · have h3' : decide (-8 ≤ n) = true := by simpa using h3
      by_cases h4 : n ≤ -1
      · have h4' : decide (n ≤ -1) = true := by simpa using h4
        have HE := Lib.hid (show tgB n = true from by unfold tgB; simp; omega)
        go_enter Tryd.func28, Tryd.ntmps28
        go_wp2_with fail
        go_ret
        exact ⟨ret_bool HE.out.symm, rfl⟩
      · have h4' : decide (n ≤ -1) = false := by simpa using h4
        have HE := Lib.hid (show tgB n = false from by unfold tgB; simp; omega)
        go_enter Tryd.func28, Tryd.ntmps28
        go_wp2_with fail
        go_ret
        exact ⟨ret_bool HE.out.symm, rfl⟩
    · have h3' : decide (-8 ≤ n) = false := by simpa using h3
      have HE := Lib.hid (show tgB n = false from by unfold tgB; simp; omega)
      go_enter Tryd.func28, Tryd.ntmps28
      go_wp2_with fail
      go_ret
      exact ⟨ret_bool HE.out.symm, rfl⟩

/-- What is wrong with how many commands a batch has. -/
def longE (n : Int) : Nat := if n = 0 then 2 else if 8 < n then 4 else 0
theorem plong14_any (n : Int) (w : World) : Same 48 #[.int .i64 n] w (.int .i64 ((longE n : Nat) : Int)) := by
  by_cases h0 : n = 0
  · have HE := Lib.hid (show longE n = 2 by unfold longE; rw [if_pos h0])
    have h0b : (n == 0) = true := by simpa using h0
    clear h0
    go_enter Tryd.func48, Tryd.ntmps48
    go_wp2_with fail
    go_ret
    exact ⟨ret_int (by rw [HE.out]; rfl), rfl⟩
  · have h0b : (n == 0) = false := by simpa using h0
    by_cases h8 : 8 < n
    · have HE := Lib.hid (show longE n = 4 by unfold longE; rw [if_neg h0, if_pos h8])
      go_enter Tryd.func48, Tryd.ntmps48
      go_wp2_with fail
      go_ret
      exact ⟨ret_int (by rw [HE.out]; rfl), rfl⟩
    · have HE := Lib.hid (show longE n = 0 by unfold longE; rw [if_neg h0, if_neg h8])
      go_enter Tryd.func48, Tryd.ntmps48
      go_wp2_with fail
      go_ret
      exact ⟨ret_int (by rw [HE.out]; rfl), rfl⟩

/-- What is wrong with a command's span and fields. -/
def setE (c : Cm) : Nat := if rightS c.sf c.se then rightE c.fs else 3
set_option maxHeartbeats 1000000 in
set_option maxRecDepth 10000 in
theorem prs14_any (c : Cm) (w : World) (hv : CF14 w c) (hok : okF c.fs) (hn : c.fs.length ≤ 9223372036854775807) : Ret 30 #[cv14 c] w (.int .i64 ((setE c : Nat) : Int)) := by
  have CF := Lib.hid (fun w' (h : Below w.heap.size w w') => pright_any w' (.slice c.fa c.fs.length c.fc) c.fs (hv.below h).list hok hn)
  have CS := Lib.hid (fun w => pspan_right c.sf c.se w)
  have HB := Lib.hid (show Below w.heap.size w (w.alloc (ocC c)) from (bl w).alloc (Nat.le_refl _) _)
  have HX := Lib.hid (boxC_new w c)
  obtain ⟨R, hR⟩ : ∃ R, setE c = R := ⟨_, rfl⟩
  have HR : R = if rightS c.sf c.se then rightE c.fs else 3 := hR.symm
  rw [hR]
  clear hR hv hok hn
  cases hr : rightS c.sf c.se with
  | false =>
    have HE := Lib.hid (show R = 3 by rw [HR, hr]; rfl)
    rw [hr] at CS
    clear HR hr
    go_enter Tryd.func30, Tryd.ntmps30
    go_wp2_with (go_at_call 55; (with_reducible refine (CS.out _).mono ?_); rintro e w2 ⟨rfl, hb2⟩; have hc2 := chain HB.out hb2)
    go_ret
    exact ⟨ret_int (by rw [HE.out]; rfl), hc2⟩
  | true =>
    have HE := Lib.hid (show R = rightE c.fs by rw [HR, hr, if_pos rfl])
    rw [hr] at CS
    clear HR hr
    generalize rightE c.fs = z at *
    go_enter Tryd.func30, Tryd.ntmps30
    go_wp2_with (first
      | (go_at_call 55; (with_reducible refine (CS.out _).mono ?_); rintro e w2 ⟨rfl, hb2⟩; have hc2 := chain HB.out hb2; obtain ⟨k0, k1, k2, k3, k4, k5⟩ := HX.out.below hb2)
      | (go_at_call 56; (with_reducible refine (CF.out _ hc2).mono ?_); rintro e w3 ⟨rfl, hb3⟩; have hc3 := chain hc2 hb3))
    go_ret
    exact ⟨ret_int (by rw [HE.out]), hc3⟩

/-- Is there a part that the kind does not have? -/
def strB (c : Cm) : Bool := decide ((c.k = 1 ∧ c.tg ≠ 0) ∨ (c.k ≠ 1 ∧ c.ent.size ≠ 0) ∨ (c.k = 3 ∧ (c.sf ≠ 0 ∨ c.se ≠ 0 ∨ 0 < c.fs.length)))
set_option maxHeartbeats 4000000 in
set_option maxRecDepth 10000 in
theorem pstrange_any (c : Cm) (w : World) (h1 : 1 ≤ c.k) (h3 : c.k ≤ 3) : Ret 27 #[pt14 c.k, cv14 c] w (.bool (strB c)) := by
  obtain ⟨R, hR⟩ : ∃ R, strB c = R := ⟨_, rfl⟩
  have HR : R = decide ((c.k = 1 ∧ c.tg ≠ 0) ∨ (c.k ≠ 1 ∧ c.ent.size ≠ 0) ∨ (c.k = 3 ∧ (c.sf ≠ 0 ∨ c.se ≠ 0 ∨ 0 < c.fs.length))) := hR.symm
  rw [hR]
  clear hR
  obtain ⟨k, ent, tg, sf, se, fa, fc, fs⟩ := c
  simp only at HR h1 h3
  have hng := Tryd.noGuardSpan
  have hb : ∀ o1 o2, Below w.heap.size w ((w.alloc o1).alloc o2) := fun o1 o2 => ((bl w).alloc (Nat.le_refl _) o1).alloc (by simp) o2
  have HB := Lib.hid hb
  clear hb
  by_cases k1 : k = 1
  · subst k1
    have e1 : pt14 1 = .agg #[.bool true, .bool false, .bool true] := rfl
    rw [e1]
    by_cases b1 : tg = 0
    · have HE := Lib.hid (show R = false by rw [HR, decide_eq_false]; rintro (h | h | h) <;> omega)
      subst b1
      clear HR
      go_enter Tryd.func27, Tryd.ntmps27
      go_wp2_with fail
      go_ret
      exact ⟨ret_bool HE.out.symm, HB.out _ _⟩
    · have HE := Lib.hid (show R = true by rw [HR, decide_eq_true]; exact .inl ⟨rfl, b1⟩)
      have b1b : (tg != 0) = true := by rw [bne_iff_ne]; exact b1
      clear HR
      go_enter Tryd.func27, Tryd.ntmps27
      go_wp2_with fail
      go_ret
      exact ⟨ret_bool HE.out.symm, HB.out _ _⟩
  by_cases e0 : ent.size = 0
  · have e1 := size0 e0
    subst e1
    by_cases k2 : k = 2
    · subst k2
      have e1 : pt14 2 = .agg #[.bool false, .bool true, .bool true] := rfl
      rw [e1]
      have HE := Lib.hid (show R = false by rw [HR, decide_eq_false]; rintro (h | h | h) <;> omega)
      clear HR e0
      go_enter Tryd.func27, Tryd.ntmps27
      go_wp2_with fail
      go_ret
      exact ⟨ret_bool HE.out.symm, HB.out _ _⟩
    · obtain rfl : k = 3 := by omega
      have e1 : pt14 3 = .agg #[.bool false, .bool true, .bool false] := rfl
      rw [e1]
      have hq := run_neq_span sf se 0 0
      by_cases c3 : sf = 0 ∧ se = 0
      · rw [decide_eq_true c3] at hq
        have hq : ∀ w, (binOp .neq 23 (.agg #[.int .i64 sf, .int .i64 se]) (.agg #[.int .i64 0, .int .i64 0])).run Tryd.prog w = .ok (.bool false) w := hq
        by_cases c2 : 0 < fs.length
        · have HE := Lib.hid (show R = true by rw [HR, decide_eq_true]; exact .inr (.inr ⟨rfl, .inr (.inr c2)⟩))
          have c2' : (0 : Int) < (fs.length : Int) := by omega
          clear HR c3 e0
          go_enter Tryd.func27, Tryd.ntmps27
          go_wp2_with fail
          go_ret
          exact ⟨ret_bool HE.out.symm, HB.out _ _⟩
        · have HE := Lib.hid (show R = false by rw [HR, decide_eq_false]; rintro (h | h | h) <;> omega)
          have c2' : ¬ (0 : Int) < (fs.length : Int) := by omega
          clear HR c3 e0
          go_enter Tryd.func27, Tryd.ntmps27
          go_wp2_with fail
          go_ret
          exact ⟨ret_bool HE.out.symm, HB.out _ _⟩
      · rw [decide_eq_false c3] at hq
        have hq : ∀ w, (binOp .neq 23 (.agg #[.int .i64 sf, .int .i64 se]) (.agg #[.int .i64 0, .int .i64 0])).run Tryd.prog w = .ok (.bool true) w := hq
        have HE := Lib.hid (show R = true by rw [HR, decide_eq_true]; refine .inr (.inr ⟨rfl, ?_⟩); omega)
        clear HR c3 e0
        go_enter Tryd.func27, Tryd.ntmps27
        go_wp2_with fail
        go_ret
        exact ⟨ret_bool HE.out.symm, HB.out _ _⟩
  · have ee := not_empty14 e0
    have HE := Lib.hid (show R = true by rw [HR, decide_eq_true]; exact .inr (.inl ⟨k1, e0⟩))
    have e1 : ∃ t s, pt14 k = .agg #[.bool false, .bool t, .bool s] := ⟨tarB k, setB k, by unfold pt14 entB; rw [decide_eq_false k1]⟩
    obtain ⟨t, s, e1⟩ := e1
    rw [e1]
    clear HR e1
    go_enter Tryd.func27, Tryd.ntmps27
    go_wp2_with fail
    go_ret
    exact ⟨ret_bool HE.out.symm, HB.out _ _⟩

end Go.Proofs.YtmieonfdenjedaaDoor

/-
  The program's Right of commands.
-/
namespace Go.Proofs.YtmieonfdenjedaaDoor
open Go.RowKit

abbrev TPt : TypeId := 54
theorem Tryd.noGuardParts : Tryd.prog.eqGuardType Tryd.prog.depth TPt = false := by kernel_rfl
set_option maxRecDepth 100000 in
theorem run_eql_parts (a b c : Bool) (w : World) : (binOp .eql TPt (.agg #[.bool a, .bool b, .bool c]) (.agg #[.bool false, .bool false, .bool false])).run Tryd.prog w = .ok (.bool (!a && !b && !c)) w := by
  rw [run_eql_struct, run_equalIn_struct w 9999 TPt _ _ Tryd.underlying54 (by kernel_rfl)]
  have h3 := Tryd.underlying4
  have a3 : ∀ w, (isAgg 4).run Tryd.prog w = .ok false w := Tryd.isAgg4
  have c3 : Tryd.prog.cellsOf 4 = 1 := by kernel_rfl
  cases a <;> cases b <;> cases c <;>
  simp [Op.eqFields, Program.fieldsOf, Tryd.underlying54, part, a3, run_equalIn_bool' w 9998 _ _ _ h3]

theorem rightC_str {c : Cm} (h1 : 1 ≤ c.k) (h3 : c.k ≤ 3) : rightC c = if strB c then 8 else if c.k ≠ 1 ∧ tgB c.tg = false then 2 else if c.k = 1 ∧ entE c.ent ≠ 0 then entE c.ent else if c.k = 3 then 0 else setE c := by
  unfold rightC setE
  rw [if_neg (by omega)]
  by_cases a : (c.k = 1 ∧ c.tg ≠ 0) ∨ (c.k ≠ 1 ∧ c.ent.size ≠ 0)
  · have hs : strB c = true := by
      unfold strB
      rw [decide_eq_true]
      rcases a with a | a
      · exact .inl a
      · exact .inr (.inl a)
    rw [if_pos a, if_pos hs]
  · rw [if_neg a]
    by_cases b : c.k = 3 ∧ (c.sf ≠ 0 ∨ c.se ≠ 0 ∨ 0 < c.fs.length)
    · have hs : strB c = true := by
        unfold strB
        rw [decide_eq_true]
        exact .inr (.inr b)
      rw [if_pos b, if_pos hs]
    · have hs : strB c = false := by
        unfold strB
        rw [decide_eq_false]
        rintro (h | h | h)
        · exact a (.inl h)
        · exact a (.inr h)
        · exact b h
      rw [if_neg b, hs, if_neg (show ¬ (false = true) by simp)]

abbrev oP14 (a b c : Bool) : Obj := .cells #[.bool a, .bool b, .bool c] 54
/-- The parts in a block of their own. -/
def BoxP (w : World) (g : Nat) (a b c : Bool) : Prop := w.cell? ⟨g, 0, none⟩ = some (.bool a) ∧ w.cell? ⟨g, 1, none⟩ = some (.bool b) ∧ w.cell? ⟨g, 2, none⟩ = some (.bool c)
theorem BoxP.below {w w' : World} {g : Nat} {a b c : Bool} (h : BoxP w g a b c) (hb : Below w.heap.size w w') : BoxP w' g a b c := ⟨keepc hb h.1, keepc hb h.2.1, keepc hb h.2.2⟩
theorem boxP_new (w : World) (a b c : Bool) : BoxP (w.alloc (oP14 a b c)) w.heap.size a b c := ⟨by simp [go_sem], by simp [go_sem], by simp [go_sem]⟩

theorem pt1 : pt14 1 = .agg #[.bool true, .bool false, .bool true] := rfl
theorem pt2 : pt14 2 = .agg #[.bool false, .bool true, .bool true] := rfl
theorem pt3 : pt14 3 = .agg #[.bool false, .bool true, .bool false] := rfl
theorem pt0 {k : Int} (h : k < 1 ∨ 3 < k) : pt14 k = .agg #[.bool false, .bool false, .bool false] := by
  obtain ⟨e1, e2, e3⟩ := parts_none h
  unfold pt14
  rw [e1, e2, e3]

set_option maxHeartbeats 8000000 in
set_option maxRecDepth 10000 in
theorem pcright_any (c : Cm) (w : World) (hv : CF14 w c) (hok : okF c.fs) (hn : c.fs.length ≤ 9223372036854775807) (hz : c.ent.size ≤ 9223372036854775807) (hT : TabK w) : Ret 9 #[cv14 c] w (.int .i64 ((rightC c : Nat) : Int)) := by
  have HB := Lib.hid (show Below w.heap.size w (w.alloc (ocC c)) from (bl w).alloc (Nat.le_refl _) _)
  have HX := Lib.hid (boxC_new w c)
  have CPA := Lib.hid (fun w' (h : Below w.heap.size w w') => parts_any c.k w' (hT.below h))
  have CSS := Lib.hid (fun w' (h : Below w.heap.size w w') => prs14_any c w' (hv.below h) hok hn)
  have CE := Lib.hid (fun w => pent_any c.ent hz w)
  have CT := Lib.hid (ptarget14_any c.tg)
  have hng := Tryd.noGuardParts
  clear hv hok hn hz hT
  by_cases a : c.k < 1 ∨ 3 < c.k
  · have HE := Lib.hid (show rightC c = 2 by unfold rightC; rw [if_pos a])
    rw [pt0 a] at CPA
    have hq := run_eql_parts false false false
    have hq : ∀ w, (binOp .eql TPt (.agg #[.bool false, .bool false, .bool false]) (.agg #[.bool false, .bool false, .bool false])).run Tryd.prog w = .ok (.bool true) w := hq
    clear a
    go_enter Tryd.func9, Tryd.ntmps9
    go_wp2_with (go_at_call 26; (with_reducible refine (CPA.out _ HB.out).mono ?_); rintro e w2 ⟨rfl, hb2⟩; have hc2 := chain HB.out hb2; have hd2 := hc2.alloc hc2.size (oP14 false false false); obtain ⟨k0, k1, k2, k3, k4, k5⟩ := HX.out.below (hb2.alloc hb2.size (oP14 false false false)))
    go_ret
    exact ⟨ret_int (by rw [HE.out]; rfl), hd2⟩
  have h1 : 1 ≤ c.k := by omega
  have h3 : c.k ≤ 3 := by omega
  have HR := rightC_str h1 h3
  have CST := Lib.hid (fun w => pstrange_any c w h1 h3)
  generalize rightC c = R at *
  by_cases k1 : c.k = 1
  · obtain ⟨k, ent, tg, sf, se, fa, fc, fs⟩ := c
    simp only at k1
    subst k1
    simp only at *
    rw [pt1] at CPA CST
    have hq := run_eql_parts true false true
    have hq : ∀ w, (binOp .eql TPt (.agg #[.bool true, .bool false, .bool true]) (.agg #[.bool false, .bool false, .bool false])).run Tryd.prog w = .ok (.bool false) w := hq
    cases hs : strB ⟨1, ent, tg, sf, se, fa, fc, fs⟩ with
    | true =>
      rw [hs, if_pos rfl] at HR
      rw [hs] at CST
      have HE := Lib.hid HR
      clear HR hs h1 h3 a
      go_enter Tryd.func9, Tryd.ntmps9
      go_wp2_with (first
        | (go_at_call 26; (with_reducible refine (CPA.out _ HB.out).mono ?_); rintro e w2 ⟨rfl, hb2⟩; have hc2 := chain HB.out hb2; have hd2 := hc2.alloc hc2.size (oP14 true false true); obtain ⟨k0, k1, k2, k3, k4, k5⟩ := HX.out.below (hb2.alloc hb2.size (oP14 true false true)))
        | (go_at_call 27; (with_reducible refine (CST.out _).mono ?_); rintro e w3 ⟨rfl, hb3⟩; have hc3 := chain hd2 hb3))
      go_ret
      exact ⟨ret_int (by rw [HE.out]; rfl), hc3⟩
    | false =>
      rw [hs, if_neg (by simp), if_neg (by simp)] at HR
      rw [hs] at CST
      clear hs h1 h3 a
      by_cases b2 : entE ent ≠ 0
      · rw [if_pos ⟨trivial, b2⟩] at HR
        have b2' : ¬ ((entE ent : Nat) : Int) = 0 := by omega
        generalize entE ent = z at *
        have HE := Lib.hid HR
        clear b2 HR
        go_enter Tryd.func9, Tryd.ntmps9
        go_wp2_with (first
          | (go_at_call 26; (with_reducible refine (CPA.out _ HB.out).mono ?_); rintro e w2 ⟨rfl, hb2⟩; have hc2 := chain HB.out hb2; have hd2 := hc2.alloc hc2.size (oP14 true false true); obtain ⟨k0, k1, k2, k3, k4, k5⟩ := HX.out.below (hb2.alloc hb2.size (oP14 true false true)))
          | (go_at_call 27; (with_reducible refine (CST.out _).mono ?_); rintro e w3 ⟨rfl, hb3⟩; have hc3 := chain hd2 hb3; obtain ⟨l0, l1, l2, l3, l4, l5⟩ := (HX.out.below (hb2.alloc hb2.size (oP14 true false true))).below hb3; obtain ⟨m0, m1, m2⟩ := (boxP_new w2 true false true).below hb3)
          | (go_at_call 29; (with_reducible refine (CE.out _).mono ?_); rintro e w4 ⟨rfl, hb4⟩; have hc4 := chain hc3 hb4))
        go_ret
        exact ⟨ret_int (by rw [HE.out]), hc4⟩
      · rw [if_neg (fun h => b2 h.2), if_neg (by decide)] at HR
        have b3 : entE ent = 0 := by omega
        rw [b3] at CE
        have HE := Lib.hid HR
        generalize setE ⟨1, ent, tg, sf, se, fa, fc, fs⟩ = z at *
        clear b2 b3 HR
        go_enter Tryd.func9, Tryd.ntmps9
        go_wp2_with (first
          | (go_at_call 26; (with_reducible refine (CPA.out _ HB.out).mono ?_); rintro e w2 ⟨rfl, hb2⟩; have hc2 := chain HB.out hb2; have hd2 := hc2.alloc hc2.size (oP14 true false true); obtain ⟨k0, k1, k2, k3, k4, k5⟩ := HX.out.below (hb2.alloc hb2.size (oP14 true false true)))
          | (go_at_call 27; (with_reducible refine (CST.out _).mono ?_); rintro e w3 ⟨rfl, hb3⟩; have hc3 := chain hd2 hb3; have HX3 := Lib.hid ((HX.out.below (hb2.alloc hb2.size (oP14 true false true))).below hb3); obtain ⟨l0, l1, l2, l3, l4, l5⟩ := HX3.out; have HP3 := Lib.hid ((boxP_new w2 true false true).below hb3); obtain ⟨m0, m1, m2⟩ := HP3.out)
          | (go_at_call 29; (with_reducible refine (CE.out _).mono ?_); rintro e w4 ⟨rfl, hb4⟩; have hc4 := chain hc3 hb4; obtain ⟨n0, n1, n2, n3, n4, n5⟩ := HX3.out.below hb4; obtain ⟨o0, o1, o2⟩ := HP3.out.below hb4)
          | (go_at_call 30; (with_reducible refine (CSS.out _ hc4).mono ?_); rintro e w5 ⟨rfl, hb5⟩; have hc5 := chain hc4 hb5))
        go_ret
        exact ⟨ret_int (by rw [HE.out]), hc5⟩
  · by_cases k2 : c.k = 2
    · obtain ⟨k, ent, tg, sf, se, fa, fc, fs⟩ := c
      simp only at k2
      subst k2
      simp only at *
      rw [pt2] at CPA CST
      have hq := run_eql_parts false true true
      have hq : ∀ w, (binOp .eql TPt (.agg #[.bool false, .bool true, .bool true]) (.agg #[.bool false, .bool false, .bool false])).run Tryd.prog w = .ok (.bool false) w := hq
      cases hs : strB ⟨2, ent, tg, sf, se, fa, fc, fs⟩ with
      | true =>
        rw [hs, if_pos rfl] at HR
        rw [hs] at CST
        have HE := Lib.hid HR
        clear HR hs h1 h3 a k1
        go_enter Tryd.func9, Tryd.ntmps9
        go_wp2_with (first
          | (go_at_call 26; (with_reducible refine (CPA.out _ HB.out).mono ?_); rintro e w2 ⟨rfl, hb2⟩; have hc2 := chain HB.out hb2; have hd2 := hc2.alloc hc2.size (oP14 false true true); obtain ⟨k0, k1, k2, k3, k4, k5⟩ := HX.out.below (hb2.alloc hb2.size (oP14 false true true)))
          | (go_at_call 27; (with_reducible refine (CST.out _).mono ?_); rintro e w3 ⟨rfl, hb3⟩; have hc3 := chain hd2 hb3))
        go_ret
        exact ⟨ret_int (by rw [HE.out]; rfl), hc3⟩
      | false =>
        rw [hs, if_neg (by simp)] at HR
        rw [hs] at CST
        clear hs h1 h3 a k1
        cases ht : tgB tg with
        | false =>
          rw [if_pos ⟨by decide, ht⟩] at HR
          rw [ht] at CT
          have HE := Lib.hid HR
          clear HR ht
          go_enter Tryd.func9, Tryd.ntmps9
          go_wp2_with (first
            | (go_at_call 26; (with_reducible refine (CPA.out _ HB.out).mono ?_); rintro e w2 ⟨rfl, hb2⟩; have hc2 := chain HB.out hb2; have hd2 := hc2.alloc hc2.size (oP14 false true true); obtain ⟨k0, k1, k2, k3, k4, k5⟩ := HX.out.below (hb2.alloc hb2.size (oP14 false true true)))
            | (go_at_call 27; (with_reducible refine (CST.out _).mono ?_); rintro e w3 ⟨rfl, hb3⟩; have hc3 := chain hd2 hb3; obtain ⟨l0, l1, l2, l3, l4, l5⟩ := (HX.out.below (hb2.alloc hb2.size (oP14 false true true))).below hb3; obtain ⟨m0, m1, m2⟩ := (boxP_new w2 false true true).below hb3)
            | (go_at_call 28; (with_reducible refine (CT.out _).mono ?_); rintro e w4 ⟨rfl, rfl⟩))
          go_ret
          exact ⟨ret_int (by rw [HE.out]; rfl), hc3⟩
        | true =>
          rw [if_neg (by rw [ht]; simp), if_neg (by simp), if_neg (by decide)] at HR
          rw [ht] at CT
          have HE := Lib.hid HR
          generalize setE ⟨2, ent, tg, sf, se, fa, fc, fs⟩ = z at *
          clear HR ht
          go_enter Tryd.func9, Tryd.ntmps9
          go_wp2_with (first
            | (go_at_call 26; (with_reducible refine (CPA.out _ HB.out).mono ?_); rintro e w2 ⟨rfl, hb2⟩; have hc2 := chain HB.out hb2; have hd2 := hc2.alloc hc2.size (oP14 false true true); obtain ⟨k0, k1, k2, k3, k4, k5⟩ := HX.out.below (hb2.alloc hb2.size (oP14 false true true)))
            | (go_at_call 27; (with_reducible refine (CST.out _).mono ?_); rintro e w3 ⟨rfl, hb3⟩; have hc3 := chain hd2 hb3; obtain ⟨l0, l1, l2, l3, l4, l5⟩ := (HX.out.below (hb2.alloc hb2.size (oP14 false true true))).below hb3; obtain ⟨m0, m1, m2⟩ := (boxP_new w2 false true true).below hb3)
            | (go_at_call 28; (with_reducible refine (CT.out _).mono ?_); rintro e w4 ⟨rfl, rfl⟩)
            | (go_at_call 30; (with_reducible refine (CSS.out _ hc3).mono ?_); rintro e w5 ⟨rfl, hb5⟩; have hc5 := chain hc3 hb5))
          go_ret
          exact ⟨ret_int (by rw [HE.out]), hc5⟩
    · have k3 : c.k = 3 := by omega
      obtain ⟨k, ent, tg, sf, se, fa, fc, fs⟩ := c
      simp only at k3
      subst k3
      simp only at *
      rw [pt3] at CPA CST
      have hq := run_eql_parts false true false
      have hq : ∀ w, (binOp .eql TPt (.agg #[.bool false, .bool true, .bool false]) (.agg #[.bool false, .bool false, .bool false])).run Tryd.prog w = .ok (.bool false) w := hq
      cases hs : strB ⟨3, ent, tg, sf, se, fa, fc, fs⟩ with
      | true =>
        rw [hs, if_pos rfl] at HR
        rw [hs] at CST
        have HE := Lib.hid HR
        clear HR hs h1 h3 a k1 k2
        go_enter Tryd.func9, Tryd.ntmps9
        go_wp2_with (first
          | (go_at_call 26; (with_reducible refine (CPA.out _ HB.out).mono ?_); rintro e w2 ⟨rfl, hb2⟩; have hc2 := chain HB.out hb2; have hd2 := hc2.alloc hc2.size (oP14 false true false); obtain ⟨k0, k1, k2, k3, k4, k5⟩ := HX.out.below (hb2.alloc hb2.size (oP14 false true false)))
          | (go_at_call 27; (with_reducible refine (CST.out _).mono ?_); rintro e w3 ⟨rfl, hb3⟩; have hc3 := chain hd2 hb3))
        go_ret
        exact ⟨ret_int (by rw [HE.out]; rfl), hc3⟩
      | false =>
        rw [hs, if_neg (by simp)] at HR
        rw [hs] at CST
        clear hs h1 h3 a k1 k2
        cases ht : tgB tg with
        | false =>
          rw [if_pos ⟨by decide, ht⟩] at HR
          rw [ht] at CT
          have HE := Lib.hid HR
          clear HR ht
          go_enter Tryd.func9, Tryd.ntmps9
          go_wp2_with (first
            | (go_at_call 26; (with_reducible refine (CPA.out _ HB.out).mono ?_); rintro e w2 ⟨rfl, hb2⟩; have hc2 := chain HB.out hb2; have hd2 := hc2.alloc hc2.size (oP14 false true false); obtain ⟨k0, k1, k2, k3, k4, k5⟩ := HX.out.below (hb2.alloc hb2.size (oP14 false true false)))
            | (go_at_call 27; (with_reducible refine (CST.out _).mono ?_); rintro e w3 ⟨rfl, hb3⟩; have hc3 := chain hd2 hb3; obtain ⟨l0, l1, l2, l3, l4, l5⟩ := (HX.out.below (hb2.alloc hb2.size (oP14 false true false))).below hb3; obtain ⟨m0, m1, m2⟩ := (boxP_new w2 false true false).below hb3)
            | (go_at_call 28; (with_reducible refine (CT.out _).mono ?_); rintro e w4 ⟨rfl, rfl⟩))
          go_ret
          exact ⟨ret_int (by rw [HE.out]; rfl), hc3⟩
        | true =>
          rw [if_neg (by rw [ht]; simp), if_neg (by simp), if_pos trivial] at HR
          rw [ht] at CT
          have HE := Lib.hid HR
          clear HR ht
          go_enter Tryd.func9, Tryd.ntmps9
          go_wp2_with (first
            | (go_at_call 26; (with_reducible refine (CPA.out _ HB.out).mono ?_); rintro e w2 ⟨rfl, hb2⟩; have hc2 := chain HB.out hb2; have hd2 := hc2.alloc hc2.size (oP14 false true false); obtain ⟨k0, k1, k2, k3, k4, k5⟩ := HX.out.below (hb2.alloc hb2.size (oP14 false true false)))
            | (go_at_call 27; (with_reducible refine (CST.out _).mono ?_); rintro e w3 ⟨rfl, hb3⟩; have hc3 := chain hd2 hb3; obtain ⟨l0, l1, l2, l3, l4, l5⟩ := (HX.out.below (hb2.alloc hb2.size (oP14 false true false))).below hb3; obtain ⟨m0, m1, m2⟩ := (boxP_new w2 false true false).below hb3)
            | (go_at_call 28; (with_reducible refine (CT.out _).mono ?_); rintro e w4 ⟨rfl, rfl⟩))
          go_ret
          exact ⟨ret_int (by rw [HE.out]; rfl), hc3⟩

end Go.Proofs.YtmieonfdenjedaaDoor

/-
  slices.Clone of fields and of versions.
-/
namespace Go.Proofs.YtmieonfdenjedaaDoor
open Go.RowKit

set_option maxHeartbeats 1000000 in
set_option maxRecDepth 100000 in
theorem cloneF_any (w : World) (A : Option Addr) (c : Nat) (l : List Fd) (hF : Fields w A l) (hnc : A = none → c = 0) (hn : l.length ≤ 1000000) :
    Calls Tryd.prog 58 #[.slice A l.length c] w fun e w' => ∃ v, e = .returned v ∧ OF w l v w' := by
  have q22 : ∀ (w : World) (a : Option Addr) (n c n' c' : Nat), (binOp .eql 24 (.slice a n c) (.slice none n' c')).run Tryd.prog w = .ok (.bool a.isNone) w := fun w a n c n' c' => Lib.run_eql_slice_nil w _ _ a n c n' c' Tryd.underlying24
  rcases A with _ | ad
  · obtain rfl : l = [] := by
      rcases l with _ | ⟨x, xs⟩
      · rfl
      · obtain ⟨_, _, h, _⟩ := hF 0 x (by simp)
        cases h
    obtain rfl := hnc rfl
    go_enter Tryd.func58, Tryd.ntmps58
    go_wp2_with fail
    go_ret
    exact ⟨_, rfl, OF.nil w⟩
  · have HF := Lib.hid hF
    have HO := Lib.hid (show OF w [] (.slice (some ⟨w.heap.size, 0, none⟩) 0 0) (w.alloc (.cells #[] FT)) from ⟨own_emptyF (heap_alloc_new w _) (Nat.le_refl _), (bl w).alloc (Nat.le_refl _) _⟩)
    clear hF hnc
    obtain ⟨n, hnm⟩ : ∃ n, l.length = n := ⟨_, rfl⟩
    rw [hnm] at hn ⊢
    have HN := Lib.hid hnm
    clear hnm
    go_enter Tryd.func58, Tryd.ntmps58
    go_wp2_with (first
      | (at_builtin; refine wpList_appF rfl (.tmp 5) (.tmp 6) rfl rfl HO.out.own rfl HN.out.symm (HF.out.below ((bl w).alloc (Nat.le_refl _) _)) (fun h => by cases h) (by simp; have := HN.out; omega) (by simp) ?_; intro v' w3 hown3 hg3; have HN3 := Lib.hid (HO.out.grown hg3 hown3); clear hown3 hg3)
      | go_in)
    go_ret
    exact ⟨_, rfl, by simpa using HN3.out⟩

end Go.Proofs.YtmieonfdenjedaaDoor

/-
  The world behind a stretch of a walk, named by what is known of it.
-/
namespace Go.Proofs.YtmieonfdenjedaaDoor
open Go.RowKit

theorem abstract_worldW {P : Program} {code : Code} {Q : Exit → Act → World → Prop} {a : Act} {w : World} (R : World → Prop) (h0 : R w) (h : ∀ W, R W → Code.wp P code Q a W) : Code.wp P code Q a w := h w h0
theorem abstract_then {next : Act → World → Prop} {Q : Exit → Act → World → Prop} {a : Act} {w : World} (R : World → Prop) (h0 : R w) (h : ∀ W, R W → Exit.then next Q .normal a W) : Exit.then next Q .normal a w := h w h0

end Go.Proofs.YtmieonfdenjedaaDoor

/-
  The version that the program makes of a command.
-/
namespace Go.Proofs.YtmieonfdenjedaaDoor
open Go.RowKit

abbrev MB14 (B : Nat) : Nat → Nat → Prop := fun c _ => c = B
theorem vf_but14 {B : Nat} {w w' : World} {v v' : Vr} (h : VF w v) (hb : But (MB14 B) w w') (hA : ∀ a, v.fa = some a → a.block ≠ B) (e1 : v'.fa = v.fa) (e2 : v'.fc = v.fc) (e3 : v'.fs = v.fs) : VF w' v' := by
  unfold VF at h ⊢
  rw [e1, e2, e3]
  exact ⟨fun i f hf => by
    obtain ⟨g, off, he, c0, c1⟩ := h.1 i f hf
    have hg : g ≠ B := hA _ he
    exact ⟨g, off, he, hb.keep c0 hg, hb.keep c1 hg⟩, h.2⟩
theorem seven_but14 (w : World) (b : Nat) (x0 x1 x2 x3 x4 x5 x6 : Value) : But (MB14 b) w (((((((w.setCell ⟨b, 0, none⟩ x0).setCell ⟨b, 1, none⟩ x1).setCell ⟨b, 2, none⟩ x2).setCell ⟨b, 3, none⟩ x3).setCell ⟨b, 4, none⟩ x4).setCell ⟨b, 5, none⟩ x5).setCell ⟨b, 6, none⟩ x6) := (((((((But.refl (MB14 b) _).set rfl _).set rfl _).set rfl _).set rfl _).set rfl _).set rfl _).set rfl _
theorem vf_seven {w : World} {b : Nat} {v : Vr} {x0 x1 x2 x3 x4 x5 x6 : Value} (h : VF w v) (hA : ∀ a, v.fa = some a → a.block ≠ b) : VF (((((((w.setCell ⟨b, 0, none⟩ x0).setCell ⟨b, 1, none⟩ x1).setCell ⟨b, 2, none⟩ x2).setCell ⟨b, 3, none⟩ x3).setCell ⟨b, 4, none⟩ x4).setCell ⟨b, 5, none⟩ x5).setCell ⟨b, 6, none⟩ x6) v :=
  vf_but14 h (seven_but14 w b x0 x1 x2 x3 x4 x5 x6) hA rfl rfl rfl
theorem zhold14 {w w1 : World} (hb : Below (w.alloc ocZ14).drew.heap.size (w.alloc ocZ14).drew w1) : HoldV w1 w.heap.size noV :=
  (((holdV_z14 w).below ((bl _).drew)).below hb)
/-- What lies when the version lies in its block B. -/
structure Md14 (w : World) (last : Vr) (c : Cm) (B : Nat) (v : Vr) (W : World) : Prop where
  bel : Below w.heap.size w W
  last : BoxV W w.heap.size last
  com : BoxC W (w.heap.size + 1) c
  res : HoldV W (w.heap.size + 2) noV
  own : HoldV W B v
  vf : VF W v
  far : ∀ a, v.fa = some a → w.heap.size + 2 < a.block ∧ a.block ≠ B
  lt : w.heap.size + 2 < B
/-- What lies at first. -/
structure Mm14 (w : World) (last : Vr) (c : Cm) (W : World) : Prop where
  bel : Below w.heap.size w W
  last : BoxV W w.heap.size last
  com : BoxC W (w.heap.size + 1) c
  res : HoldV W (w.heap.size + 2) noV
  sz : w.heap.size + 3 ≤ W.heap.size
theorem Mm14.made {w W W3 : World} {last : Vr} {c : Cm} {B : Nat} {v : Vr} (h : Mm14 w last c W) (hb : Below W.heap.size W W3) (ho : HoldV W3 B v) (hv : VF W3 v) (hf : ∀ a, v.fa = some a → w.heap.size + 2 < a.block ∧ a.block ≠ B) (hl : w.heap.size + 2 < B) : Md14 w last c B v W3 :=
  ⟨chain h.bel hb, h.last.below hb, h.com.below hb, h.res.below hb, ho, hv, hf, hl⟩
section
variable {w W w' : World} {last : Vr} {c : Cm} {B : Nat} {v v' : Vr}
theorem Md14.boxC (h : Md14 w last c B v W) (hb : But (MB14 B) W w') : BoxC w' (w.heap.size + 1) c := by
  have hl := h.lt
  have n : ∀ o, ¬ MB14 B (w.heap.size + 1) o := fun o e => by have : w.heap.size + 1 = B := e; omega
  exact ⟨hb.keep h.com.1 (n _), hb.keep h.com.2.1 (n _), hb.keep h.com.2.2.1 (n _), hb.keep h.com.2.2.2.1 (n _), hb.keep h.com.2.2.2.2.1 (n _), hb.keep h.com.2.2.2.2.2 (n _)⟩
theorem Md14.boxV (h : Md14 w last c B v W) (hb : But (MB14 B) W w') : BoxV w' w.heap.size last := by
  have hl := h.lt
  have n : ∀ o, ¬ MB14 B w.heap.size o := fun o e => by have : w.heap.size = B := e; omega
  exact ⟨hb.keep h.last.1 (n _), hb.keep h.last.2.1 (n _), hb.keep h.last.2.2.1 (n _), hb.keep h.last.2.2.2.1 (n _), hb.keep h.last.2.2.2.2.1 (n _), hb.keep h.last.2.2.2.2.2.1 (n _), hb.keep h.last.2.2.2.2.2.2 (n _)⟩
theorem Md14.put (h : Md14 w last c B v W) {o : Nat} {u : Value} (ho : HoldV (W.setCell ⟨B, o, none⟩ u) B v') (e1 : v'.fa = v.fa) (e2 : v'.fc = v.fc) (e3 : v'.fs = v.fs) : Md14 w last c B v' (W.setCell ⟨B, o, none⟩ u) := by
  have hb : But (MB14 B) W (W.setCell ⟨B, o, none⟩ u) := (But.refl (MB14 B) _).set rfl _
  have hl := h.lt
  exact ⟨h.bel.setCell (p := ⟨B, o, none⟩) (by simp; omega) _, h.boxV hb, h.boxC hb, h.res.other (by omega) _, ho, vf_but14 h.vf hb (fun a ha => (h.far a ha).2) e1 e2 e3, fun a ha => h.far a (by rw [← e1]; exact ha), hl⟩
theorem Md14.drew (h : Md14 w last c B v W) : Md14 w last c B v W.drew :=
  have hb := (bl W).drew
  ⟨chain h.bel hb, h.last.below hb, h.com.below hb, h.res.below hb, h.own.below hb, h.vf.below hb, h.far, h.lt⟩
/-- What made leaves. -/
def MadePost (w : World) (v0 : Vr) (e : Ending) (w' : World) : Prop := ∃ x, e = .returned (vv x) ∧ contV x = v0 ∧ VF w' x ∧ (∀ a, x.fa = some a → w.heap.size ≤ a.block) ∧ Below w.heap.size w w'
theorem Md14.post (h : Md14 w last c B v W) : MadePost w (contV v) (.returned (vv v)) (((((((W.setCell ⟨w.heap.size + 2, 0, none⟩ (.int .i64 v.id)).setCell ⟨w.heap.size + 2, 1, none⟩ (.int .i64 v.st)).setCell ⟨w.heap.size + 2, 2, none⟩ (.string v.ent)).setCell ⟨w.heap.size + 2, 3, none⟩ (.int .i64 v.sf)).setCell ⟨w.heap.size + 2, 4, none⟩ (.int .i64 v.se)).setCell ⟨w.heap.size + 2, 5, none⟩ (.slice v.fa v.fs.length v.fc)).setCell ⟨w.heap.size + 2, 6, none⟩ (.bool v.gone)) :=
  ⟨v, rfl, rfl, vf_seven h.vf (fun a ha => by have := (h.far a ha).1; omega), fun a ha => by have := (h.far a ha).1; omega, seven_below h.bel (by omega)⟩
end

/-- The version that is made, without the place of its fields. -/
def madeV (n : Int) (last : Vr) (c : Cm) : Vr := if c.k = 1 then ⟨n, n, c.ent, c.sf, c.se, none, 0, c.fs, false⟩ else ⟨c.tg, n, last.ent, c.sf, c.se, none, 0, c.fs, decide (c.k = 3)⟩
set_option maxHeartbeats 8000000 in
set_option maxRecDepth 10000 in
theorem made_any (n : Int) (last : Vr) (c : Cm) (w : World) (hv : CF14 w c) (hn : c.fs.length ≤ 1000000) (hk1 : 1 ≤ c.k) (hk3 : c.k ≤ 3) : Calls Tryd.prog 35 #[.int .i64 n, vv last, cv14 c] w (MadePost w (madeV n last c)) := by
  obtain ⟨V0, hV0⟩ : ∃ V0, madeV n last c = V0 := ⟨_, rfl⟩
  have HV0 := Lib.hid (show V0 = if c.k = 1 then ⟨n, n, c.ent, c.sf, c.se, none, 0, c.fs, false⟩ else ⟨c.tg, n, last.ent, c.sf, c.se, none, 0, c.fs, decide (c.k = 3)⟩ from hV0.symm)
  rw [hV0]
  clear hV0
  have hb1 : Below w.heap.size w (w.alloc (ocV last)) := (bl w).alloc (Nat.le_refl _) _
  have hb2 : Below w.heap.size w ((w.alloc (ocV last)).alloc (ocC c)) := hb1.alloc hb1.size _
  have hM0 : Mm14 w last c (((w.alloc (ocV last)).alloc (ocC c)).alloc ocZ14) := by
    refine ⟨hb2.alloc hb2.size _, ((boxV_new w last).below ((bl _).alloc (Nat.le_refl _) _)).below ((bl _).alloc (Nat.le_refl _) _), ?_, ?_, by simp⟩
    · have := (boxC_new (w.alloc (ocV last)) c).below ((bl ((w.alloc (ocV last)).alloc (ocC c))).alloc (Nat.le_refl _) ocZ14)
      rwa [show (w.alloc (ocV last)).heap.size = w.heap.size + 1 by simp] at this
    · have := holdV_z14 ((w.alloc (ocV last)).alloc (ocC c))
      rwa [show ((w.alloc (ocV last)).alloc (ocC c)).heap.size = w.heap.size + 2 by simp] at this
  have HM0 := Lib.hid hM0
  have HCV := Lib.hid hv
  have HN := Lib.hid hn
  clear hb1 hb2 hM0 hv hn
  go_enter Tryd.func35, Tryd.ntmps35
  go_upto_region 1 with fail
  refine abstract_worldW (fun W => Mm14 w last c W) HM0.out ?_
  intro W hM
  have HM := Lib.hid hM
  have hcom := hM.com
  have CM := Lib.hid (show ∀ w', Below W.heap.size W w' → Calls Tryd.prog 58 #[.slice c.fa c.fs.length c.fc] w' fun e w'' => ∃ v, e = .returned v ∧ OF w' c.fs v w'' from fun w' h => cloneF_any w' c.fa c.fc c.fs ((HCV.out.below (chain HM.out.bel h)).1) HCV.out.2.2 HN.out)
  have MK := Lib.hid (show ∀ w', Below W.heap.size W w' → (Below W.heap.size W w' ∧ BoxC w' (w.heap.size + 1) c) from fun w' h => ⟨h, HM.out.com.below h⟩)
  clear hM hcom
  refine wp_region_held_drew (S := fun w' => Below W.heap.size W w' ∧ BoxC w' (w.heap.size + 1) c) (by kernel_rfl) (MK.out _ ((bl W).drew)) (fun hHeld => ?_)
  refine wpAnyH_take (i := 0) (oi := _) (v := ?_) (by simp only [List.getElem?_toArray, List.getElem?_cons_zero]; rfl) (by kernel_rfl) (by kernel_rfl) (by kernel_rfl) (by exact fun _ _ _ h => h) (Or.inl ⟨by rfl, ?_⟩) (by assumption) ?_
  rotate_left 1
  · (intro w hSw; (try dsimp only at hSw); go_simp; try (with_reducible rfl))
  simp only [Act.put, List.setIfInBounds_toArray, List.set_cons_zero, List.set_cons_succ]
  refine wpAnyH_take (i := 1) (oi := _) (v := ?_) (by simp only [List.getElem?_toArray, List.getElem?_cons_succ, List.getElem?_cons_zero]; rfl) (by kernel_rfl) (by kernel_rfl) (by kernel_rfl) (by exact fun _ _ _ h => h) (Or.inl ⟨by rfl, ?_⟩) (by assumption) ?_
  rotate_left 1
  · (intro w hSw; (try dsimp only at hSw); go_simp; try (with_reducible rfl))
  simp only [Act.put, List.setIfInBounds_toArray, List.set_cons_zero, List.set_cons_succ]
  refine wpAnyH_take (i := 2) (oi := _) (v := ?_) (by simp only [List.getElem?_toArray, List.getElem?_cons_succ, List.getElem?_cons_zero]; rfl) (by kernel_rfl) (by kernel_rfl) (by kernel_rfl) (by exact fun _ _ _ h => h) (Or.inl ⟨by rfl, ?_⟩) (by assumption) ?_
  rotate_left 1
  · (intro w hSw; (try dsimp only at hSw); go_simp; try (with_reducible rfl))
  simp only [Act.put, List.setIfInBounds_toArray, List.set_cons_zero, List.set_cons_succ]
  refine wpAnyH_take (i := 3) (oi := _) (v := ?_) (by simp only [List.getElem?_toArray, List.getElem?_cons_succ, List.getElem?_cons_zero]; rfl) (by kernel_rfl) (by kernel_rfl) (by kernel_rfl) (by exact fun _ _ _ h => h) (Or.inl ⟨by rfl, ?_⟩) (by assumption) ?_
  rotate_left 1
  · (intro w hSw; (try dsimp only at hSw); go_simp; try (with_reducible rfl))
  simp only [Act.put, List.setIfInBounds_toArray, List.set_cons_zero, List.set_cons_succ]
  refine wpAnyH_take (i := 4) (oi := _) (v := ?_) (by simp only [List.getElem?_toArray, List.getElem?_cons_succ, List.getElem?_cons_zero]; rfl) (by kernel_rfl) (by kernel_rfl) (by kernel_rfl) (by exact fun _ _ _ h => h) (Or.inl ⟨by rfl, ?_⟩) (by assumption) ?_
  rotate_left 1
  · (intro w hSw; (try dsimp only at hSw); go_simp; try (with_reducible rfl))
  simp only [Act.put, List.setIfInBounds_toArray, List.set_cons_zero, List.set_cons_succ]
  refine wpAnyH_take (i := 5) (oi := _) (v := ?_) (by simp only [List.getElem?_toArray, List.getElem?_cons_succ, List.getElem?_cons_zero]; rfl) (by kernel_rfl) (by kernel_rfl) (by kernel_rfl) (by exact fun _ _ _ h => h) (Or.inl ⟨by rfl, ?_⟩) (by assumption) ?_
  rotate_left 1
  · (intro w hSw; (try dsimp only at hSw); go_simp; try (with_reducible rfl))
  simp only [Act.put, List.setIfInBounds_toArray, List.set_cons_zero, List.set_cons_succ]
  refine wpAnyH_take (i := 6) (oi := _) (v := ?_) (by simp only [List.getElem?_toArray, List.getElem?_cons_succ, List.getElem?_cons_zero]; rfl) (by kernel_rfl) (by kernel_rfl) (by kernel_rfl) (by exact fun _ _ _ h => h) (Or.inl ⟨by rfl, ?_⟩) (by assumption) ?_
  rotate_left 1
  · (intro w hSw; (try dsimp only at hSw); go_simp; try (with_reducible rfl))
  simp only [Act.put, List.setIfInBounds_toArray, List.set_cons_zero, List.set_cons_succ]
  refine wpAnyH_take (i := 7) (oi := _) (v := ?_) (by simp only [List.getElem?_toArray, List.getElem?_cons_succ, List.getElem?_cons_zero]; rfl) (by kernel_rfl) (by kernel_rfl) (by kernel_rfl) (by exact fun _ _ _ h => h) (Or.inl ⟨by rfl, ?_⟩) (by assumption) ?_
  rotate_left 1
  · (intro w hSw; (try dsimp only at hSw); go_simp; try (with_reducible rfl))
  simp only [Act.put, List.setIfInBounds_toArray, List.set_cons_zero, List.set_cons_succ]
  refine wpAnyH_ready (rs := [8, 10]) (by kernel_rfl) (by simp) ?_
  refine AllReadyH.cons (o := _) (by simp only [List.getElem?_toArray, List.getElem?_cons_succ, List.getElem?_cons_zero]; rfl) (fun K hK => ?_) ?_
  · go_simp
    go_at_call 58
    refine (CM.out _ hHeld.1).mono ?_
    rintro e w1 ⟨u1, rfl, ho1⟩
    obtain ⟨A, d, rfl, hF1, hc1, hn1⟩ := ho1.list
    have hb0 := ho1.bel
    have hfar := fun a (ha : A = some a) => ho1.own.lt a.block (by rw [ha]; rfl)
    have hb1 := chain hHeld.1 hb0
    try dsimp only
    refine hK.out _ _ (MK.out _ hb1) (fun hHeld => ?_)
    clear hK K
    try simp only [Act.put, List.setIfInBounds_toArray, List.set_cons_zero, List.set_cons_succ]
    refine wpAnyH_take (i := 9) (oi := _) (v := ?_) (by simp only [List.getElem?_toArray, List.getElem?_cons_succ, List.getElem?_cons_zero]; rfl) (by kernel_rfl) (by kernel_rfl) (by kernel_rfl) (by exact fun _ _ _ h => h) (Or.inl ⟨by rfl, ?_⟩) (by assumption) ?_
    rotate_left 1
    · (intro w hSw; (try dsimp only at hSw); go_simp; try (with_reducible rfl))
    simp only [Act.put, List.setIfInBounds_toArray, List.set_cons_zero, List.set_cons_succ]
    refine wpAnyH_ready (rs := [10]) (by kernel_rfl) (by simp) ?_
    refine AllReadyH.cons (o := _) (by simp only [List.getElem?_toArray, List.getElem?_cons_succ, List.getElem?_cons_zero]; rfl) (fun K hK => ?_) AllReadyH.nil
    go_simp
    try dsimp only
    refine hK.out _ _ (MK.out _ (hb1.alloc hb1.size _)) (fun hHeld => ?_)
    clear hK K
    try simp only [Act.put, List.setIfInBounds_toArray, List.set_cons_zero, List.set_cons_succ]
    refine wpAnyH_ready (rs := [11]) (by kernel_rfl) (by simp) ?_
    refine AllReadyH.cons (o := _) (by simp only [List.getElem?_toArray, List.getElem?_cons_succ, List.getElem?_cons_zero]; rfl) (fun K hK => ?_) AllReadyH.nil
    go_simp
    try dsimp only
    refine hK.out _ _ (MK.out _ (hb1.alloc hb1.size _)) (fun hHeld => ?_)
    clear hK K
    try simp only [Act.put, List.setIfInBounds_toArray, List.set_cons_zero, List.set_cons_succ]
    refine wpAnyH_done (by kernel_rfl) ?_ _
    have hB1 := hb1.alloc hb1.size (ocV ⟨n, n, c.ent, c.sf, c.se, A, d, c.fs, false⟩)
    refine abstract_then (fun W3 => Md14 w last c w1.heap.size ⟨n, n, c.ent, c.sf, c.se, A, d, c.fs, false⟩ W3) (HM.out.made (B := w1.heap.size) hB1 (holdV_new w1 ⟨n, n, c.ent, c.sf, c.se, A, d, c.fs, false⟩) ⟨hF1.below ((bl w1).alloc (Nat.le_refl _) _), hc1, hn1⟩ (fun a ha => by have := hfar a ha; have := HM.out.sz; simp at *; omega) (by have := hb1.size; have := HM.out.sz; omega)) ?_
    rintro W3 hD
    obtain ⟨B, hB⟩ : ∃ B, w1.heap.size = B := ⟨_, rfl⟩
    rw [hB] at hD ⊢
    clear hB hB1 hb1 hb0 hfar hF1 hc1 hn1 ho1
    have HD := Lib.hid hD
    have hcom := hD.com
    clear hD
    by_cases k3 : c.k = 3
    · have b3 : (c.k == 3) = true := by simpa using k3
      have HE := Lib.hid (show V0 = ⟨c.tg, n, last.ent, c.sf, c.se, none, 0, c.fs, true⟩ by rw [HV0.out, if_neg (by omega), k3]; rfl)
      clear k3
      obtain ⟨x0, x1, x2, x3, x4, x5, x6⟩ := HD.out.own.c
      obtain ⟨f0, f1, f2, f3, f4, f5, f6⟩ := HD.out.own.f
      go_upto_region 6 with fail
      clear x0 x1 x2 x3 x4 x5 x6 f0 f1 f2 f3 f4 f5 f6
      refine abstract_worldW (fun W => Md14 w last c B ⟨n, n, c.ent, c.sf, c.se, A, d, c.fs, true⟩ W) (HD.out.put (HD.out.own.set6 true) rfl rfl rfl) ?_
      intro W4 hD4
      have HD4 := Lib.hid hD4
      clear hD4 hcom
      have MK6 := Lib.hid (show ∀ w', But (MB14 B) W4 w' → (But (MB14 B) W4 w' ∧ BoxC w' (w.heap.size + 1) c ∧ BoxV w' w.heap.size last) from fun w' h => ⟨h, HD4.out.boxC h, HD4.out.boxV h⟩)
      obtain ⟨x0, x1, x2, x3, x4, x5, x6⟩ := HD4.out.own.c
      obtain ⟨f0, f1, f2, f3, f4, f5, f6⟩ := HD4.out.own.f
      refine wp_region_held_drew (S := fun w' => But (MB14 B) W4 w' ∧ BoxC w' (w.heap.size + 1) c ∧ BoxV w' w.heap.size last) (by kernel_rfl) (MK6.out _ (But.of_below ((bl W4).drew))) (fun hHeld => ?_)
      refine wpAnyH_take (i := 0) (oi := _) (v := ?_) (by simp only [List.getElem?_toArray, List.getElem?_cons_zero]; rfl) (by kernel_rfl) (by kernel_rfl) (by kernel_rfl) (by exact fun _ _ _ h => h) (Or.inl ⟨by rfl, ?_⟩) (by assumption) ?_
      rotate_left 1
      · (intro w hSw; (try dsimp only at hSw); go_simp; try (with_reducible rfl))
      simp only [Act.put, List.setIfInBounds_toArray, List.set_cons_zero, List.set_cons_succ]
      refine wpAnyH_take (i := 1) (oi := _) (v := ?_) (by simp only [List.getElem?_toArray, List.getElem?_cons_succ, List.getElem?_cons_zero]; rfl) (by kernel_rfl) (by kernel_rfl) (by kernel_rfl) (by exact fun _ _ _ h => h) (Or.inl ⟨by rfl, ?_⟩) (by assumption) ?_
      rotate_left 1
      · (intro w hSw; (try dsimp only at hSw); go_simp; try (with_reducible rfl))
      simp only [Act.put, List.setIfInBounds_toArray, List.set_cons_zero, List.set_cons_succ]
      refine wpAnyH_take (i := 2) (oi := _) (v := ?_) (by simp only [List.getElem?_toArray, List.getElem?_cons_succ, List.getElem?_cons_zero]; rfl) (by kernel_rfl) (by kernel_rfl) (by kernel_rfl) (by exact fun _ _ _ h => h) (Or.inl ⟨by rfl, ?_⟩) (by assumption) ?_
      rotate_left 1
      · (intro w hSw; (try dsimp only at hSw); go_simp; try (with_reducible rfl))
      simp only [Act.put, List.setIfInBounds_toArray, List.set_cons_zero, List.set_cons_succ]
      refine wpAnyH_take (i := 3) (oi := _) (v := ?_) (by simp only [List.getElem?_toArray, List.getElem?_cons_succ, List.getElem?_cons_zero]; rfl) (by kernel_rfl) (by kernel_rfl) (by kernel_rfl) (by exact fun _ _ _ h => h) (Or.inl ⟨by rfl, ?_⟩) (by assumption) ?_
      rotate_left 1
      · (intro w hSw; (try dsimp only at hSw); go_simp; try (with_reducible rfl))
      simp only [Act.put, List.setIfInBounds_toArray, List.set_cons_zero, List.set_cons_succ]
      refine wpAnyH_take (i := 4) (oi := _) (v := ?_) (by simp only [List.getElem?_toArray, List.getElem?_cons_succ, List.getElem?_cons_zero]; rfl) (by kernel_rfl) (by kernel_rfl) (by kernel_rfl) (by exact fun _ _ _ h => h) (Or.inl ⟨by rfl, ?_⟩) (by assumption) ?_
      rotate_left 1
      · (intro w hSw; (try dsimp only at hSw); go_simp; try (with_reducible rfl))
      simp only [Act.put, List.setIfInBounds_toArray, List.set_cons_zero, List.set_cons_succ]
      refine wpAnyH_ready (rs := [5]) (by kernel_rfl) (by simp) ?_
      refine AllReadyH.cons (o := _) (by simp only [List.getElem?_toArray, List.getElem?_cons_succ, List.getElem?_cons_zero]; rfl) (fun K hK => ?_) AllReadyH.nil
      go_simp
      try dsimp only
      refine hK.out _ _ (MK6.out _ (hHeld.1.set rfl _)) (fun hHeld => ?_)
      clear hK K
      try simp only [Act.put, List.setIfInBounds_toArray, List.set_cons_zero, List.set_cons_succ]
      refine wpAnyH_take (i := 6) (oi := _) (v := ?_) (by simp only [List.getElem?_toArray, List.getElem?_cons_succ, List.getElem?_cons_zero]; rfl) (by kernel_rfl) (by kernel_rfl) (by kernel_rfl) (by exact fun _ _ _ h => h) (Or.inl ⟨by rfl, ?_⟩) (by assumption) ?_
      rotate_left 1
      · (intro w hSw; (try dsimp only at hSw); go_simp; try (with_reducible rfl))
      simp only [Act.put, List.setIfInBounds_toArray, List.set_cons_zero, List.set_cons_succ]
      refine wpAnyH_ready (rs := [7]) (by kernel_rfl) (by simp) ?_
      refine AllReadyH.cons (o := _) (by simp only [List.getElem?_toArray, List.getElem?_cons_succ, List.getElem?_cons_zero]; rfl) (fun K hK => ?_) AllReadyH.nil
      go_simp
      try dsimp only
      refine hK.out _ _ (MK6.out _ (hHeld.1.set rfl _)) (fun hHeld => ?_)
      clear hK K
      try simp only [Act.put, List.setIfInBounds_toArray, List.set_cons_zero, List.set_cons_succ]
      refine wpAnyH_done (by kernel_rfl) ?_ _
      refine abstract_then (fun W5 => Md14 w last c B ⟨c.tg, n, last.ent, c.sf, c.se, A, d, c.fs, true⟩ W5) (((HD4.out.drew).put (HD4.out.drew.own.set0 c.tg) rfl rfl rfl).put ((HD4.out.drew.own.set0 c.tg).set2 last.ent) rfl rfl rfl) ?_
      intro W5 hD5
      have HD5 := Lib.hid hD5
      clear hD5
      obtain ⟨y0, y1, y2, y3, y4, y5, y6⟩ := HD5.out.own.c
      have hres : HoldV _ (w.heap.size + 1 + 1) noV := HD5.out.res
      obtain ⟨r0, r1, r2, r3, r4, r5, r6⟩ := hres.c
      obtain ⟨h0, h1, h2, h3, h4, h5, h6⟩ := hres.f
      clear hres
      go_wp2_with fail
      obtain ⟨q0, q1, q2, q3, q4, q5, q6⟩ := seven_store (.int .i64 c.tg) (.int .i64 n) (.string last.ent) (.int .i64 c.sf) (.int .i64 c.se) (.slice A c.fs.length d) (.bool true) r0 r1 r2 r3 r4 r5 r6
      refine bodyPost_ret (v := vv ⟨c.tg, n, last.ent, c.sf, c.se, A, d, c.fs, true⟩) (by simp [results, Tryd.results35, go_sem, q0, q1, q2, q3, q4, q5, q6]) rfl ?_
      rw [HE.out]
      exact HD5.out.post
    have b3 : (c.k == 3) = false := by simpa using k3
    by_cases k2 : c.k = 2
    · have b2 : (c.k == 2) = true := by simpa using k2
      have HE := Lib.hid (show V0 = ⟨c.tg, n, last.ent, c.sf, c.se, none, 0, c.fs, false⟩ by rw [HV0.out, if_neg (by omega), k2]; rfl)
      clear k2 k3
      go_upto_region 6 with fail
      refine abstract_worldW (fun W => Md14 w last c B ⟨n, n, c.ent, c.sf, c.se, A, d, c.fs, false⟩ W) HD.out ?_
      intro W4 hD4
      have HD4 := Lib.hid hD4
      clear hD4 hcom
      have MK6 := Lib.hid (show ∀ w', But (MB14 B) W4 w' → (But (MB14 B) W4 w' ∧ BoxC w' (w.heap.size + 1) c ∧ BoxV w' w.heap.size last) from fun w' h => ⟨h, HD4.out.boxC h, HD4.out.boxV h⟩)
      obtain ⟨x0, x1, x2, x3, x4, x5, x6⟩ := HD4.out.own.c
      obtain ⟨f0, f1, f2, f3, f4, f5, f6⟩ := HD4.out.own.f
      refine wp_region_held_drew (S := fun w' => But (MB14 B) W4 w' ∧ BoxC w' (w.heap.size + 1) c ∧ BoxV w' w.heap.size last) (by kernel_rfl) (MK6.out _ (But.of_below ((bl W4).drew))) (fun hHeld => ?_)
      refine wpAnyH_take (i := 0) (oi := _) (v := ?_) (by simp only [List.getElem?_toArray, List.getElem?_cons_zero]; rfl) (by kernel_rfl) (by kernel_rfl) (by kernel_rfl) (by exact fun _ _ _ h => h) (Or.inl ⟨by rfl, ?_⟩) (by assumption) ?_
      rotate_left 1
      · (intro w hSw; (try dsimp only at hSw); go_simp; try (with_reducible rfl))
      simp only [Act.put, List.setIfInBounds_toArray, List.set_cons_zero, List.set_cons_succ]
      refine wpAnyH_take (i := 1) (oi := _) (v := ?_) (by simp only [List.getElem?_toArray, List.getElem?_cons_succ, List.getElem?_cons_zero]; rfl) (by kernel_rfl) (by kernel_rfl) (by kernel_rfl) (by exact fun _ _ _ h => h) (Or.inl ⟨by rfl, ?_⟩) (by assumption) ?_
      rotate_left 1
      · (intro w hSw; (try dsimp only at hSw); go_simp; try (with_reducible rfl))
      simp only [Act.put, List.setIfInBounds_toArray, List.set_cons_zero, List.set_cons_succ]
      refine wpAnyH_take (i := 2) (oi := _) (v := ?_) (by simp only [List.getElem?_toArray, List.getElem?_cons_succ, List.getElem?_cons_zero]; rfl) (by kernel_rfl) (by kernel_rfl) (by kernel_rfl) (by exact fun _ _ _ h => h) (Or.inl ⟨by rfl, ?_⟩) (by assumption) ?_
      rotate_left 1
      · (intro w hSw; (try dsimp only at hSw); go_simp; try (with_reducible rfl))
      simp only [Act.put, List.setIfInBounds_toArray, List.set_cons_zero, List.set_cons_succ]
      refine wpAnyH_take (i := 3) (oi := _) (v := ?_) (by simp only [List.getElem?_toArray, List.getElem?_cons_succ, List.getElem?_cons_zero]; rfl) (by kernel_rfl) (by kernel_rfl) (by kernel_rfl) (by exact fun _ _ _ h => h) (Or.inl ⟨by rfl, ?_⟩) (by assumption) ?_
      rotate_left 1
      · (intro w hSw; (try dsimp only at hSw); go_simp; try (with_reducible rfl))
      simp only [Act.put, List.setIfInBounds_toArray, List.set_cons_zero, List.set_cons_succ]
      refine wpAnyH_take (i := 4) (oi := _) (v := ?_) (by simp only [List.getElem?_toArray, List.getElem?_cons_succ, List.getElem?_cons_zero]; rfl) (by kernel_rfl) (by kernel_rfl) (by kernel_rfl) (by exact fun _ _ _ h => h) (Or.inl ⟨by rfl, ?_⟩) (by assumption) ?_
      rotate_left 1
      · (intro w hSw; (try dsimp only at hSw); go_simp; try (with_reducible rfl))
      simp only [Act.put, List.setIfInBounds_toArray, List.set_cons_zero, List.set_cons_succ]
      refine wpAnyH_ready (rs := [5]) (by kernel_rfl) (by simp) ?_
      refine AllReadyH.cons (o := _) (by simp only [List.getElem?_toArray, List.getElem?_cons_succ, List.getElem?_cons_zero]; rfl) (fun K hK => ?_) AllReadyH.nil
      go_simp
      try dsimp only
      refine hK.out _ _ (MK6.out _ (hHeld.1.set rfl _)) (fun hHeld => ?_)
      clear hK K
      try simp only [Act.put, List.setIfInBounds_toArray, List.set_cons_zero, List.set_cons_succ]
      refine wpAnyH_take (i := 6) (oi := _) (v := ?_) (by simp only [List.getElem?_toArray, List.getElem?_cons_succ, List.getElem?_cons_zero]; rfl) (by kernel_rfl) (by kernel_rfl) (by kernel_rfl) (by exact fun _ _ _ h => h) (Or.inl ⟨by rfl, ?_⟩) (by assumption) ?_
      rotate_left 1
      · (intro w hSw; (try dsimp only at hSw); go_simp; try (with_reducible rfl))
      simp only [Act.put, List.setIfInBounds_toArray, List.set_cons_zero, List.set_cons_succ]
      refine wpAnyH_ready (rs := [7]) (by kernel_rfl) (by simp) ?_
      refine AllReadyH.cons (o := _) (by simp only [List.getElem?_toArray, List.getElem?_cons_succ, List.getElem?_cons_zero]; rfl) (fun K hK => ?_) AllReadyH.nil
      go_simp
      try dsimp only
      refine hK.out _ _ (MK6.out _ (hHeld.1.set rfl _)) (fun hHeld => ?_)
      clear hK K
      try simp only [Act.put, List.setIfInBounds_toArray, List.set_cons_zero, List.set_cons_succ]
      refine wpAnyH_done (by kernel_rfl) ?_ _
      refine abstract_then (fun W5 => Md14 w last c B ⟨c.tg, n, last.ent, c.sf, c.se, A, d, c.fs, false⟩ W5) (((HD4.out.drew).put (HD4.out.drew.own.set0 c.tg) rfl rfl rfl).put ((HD4.out.drew.own.set0 c.tg).set2 last.ent) rfl rfl rfl) ?_
      intro W5 hD5
      have HD5 := Lib.hid hD5
      clear hD5
      obtain ⟨y0, y1, y2, y3, y4, y5, y6⟩ := HD5.out.own.c
      have hres : HoldV _ (w.heap.size + 1 + 1) noV := HD5.out.res
      obtain ⟨r0, r1, r2, r3, r4, r5, r6⟩ := hres.c
      obtain ⟨h0, h1, h2, h3, h4, h5, h6⟩ := hres.f
      clear hres
      go_wp2_with fail
      obtain ⟨q0, q1, q2, q3, q4, q5, q6⟩ := seven_store (.int .i64 c.tg) (.int .i64 n) (.string last.ent) (.int .i64 c.sf) (.int .i64 c.se) (.slice A c.fs.length d) (.bool false) r0 r1 r2 r3 r4 r5 r6
      refine bodyPost_ret (v := vv ⟨c.tg, n, last.ent, c.sf, c.se, A, d, c.fs, false⟩) (by simp [results, Tryd.results35, go_sem, q0, q1, q2, q3, q4, q5, q6]) rfl ?_
      rw [HE.out]
      exact HD5.out.post
    · have b2 : (c.k == 2) = false := by simpa using k2
      have HE := Lib.hid (show V0 = ⟨n, n, c.ent, c.sf, c.se, none, 0, c.fs, false⟩ by rw [HV0.out, if_pos (by omega)])
      clear k2 k3
      obtain ⟨y0, y1, y2, y3, y4, y5, y6⟩ := HD.out.own.c
      have hres : HoldV _ (w.heap.size + 1 + 1) noV := HD.out.res
      obtain ⟨r0, r1, r2, r3, r4, r5, r6⟩ := hres.c
      obtain ⟨h0, h1, h2, h3, h4, h5, h6⟩ := hres.f
      clear hres
      go_wp2_with fail
      obtain ⟨q0, q1, q2, q3, q4, q5, q6⟩ := seven_store (.int .i64 n) (.int .i64 n) (.string c.ent) (.int .i64 c.sf) (.int .i64 c.se) (.slice A c.fs.length d) (.bool false) r0 r1 r2 r3 r4 r5 r6
      refine bodyPost_ret (v := vv ⟨n, n, c.ent, c.sf, c.se, A, d, c.fs, false⟩) (by simp [results, Tryd.results35, go_sem, q0, q1, q2, q3, q4, q5, q6]) rfl ?_
      rw [HE.out]
      exact HD.out.post
  · refine AllReadyH.cons (o := _) (by simp only [List.getElem?_toArray, List.getElem?_cons_succ, List.getElem?_cons_zero]; rfl) (fun K hK => ?_) AllReadyH.nil
    go_simp
    try dsimp only
    refine hK.out _ _ (MK.out _ (((bl W).drew).alloc (by simp) _)) (fun hHeld => ?_)
    clear hK K
    try simp only [Act.put, List.setIfInBounds_toArray, List.set_cons_zero, List.set_cons_succ]
    refine wpAnyH_ready (rs := [8]) (by kernel_rfl) (by simp) ?_
    refine AllReadyH.cons (o := _) (by simp only [List.getElem?_toArray, List.getElem?_cons_succ, List.getElem?_cons_zero]; rfl) (fun K hK => ?_) AllReadyH.nil
    go_simp
    go_at_call 58
    refine (CM.out _ hHeld.1).mono ?_
    rintro e w1 ⟨u1, rfl, ho1⟩
    obtain ⟨A, d, rfl, hF1, hc1, hn1⟩ := ho1.list
    have hb0 := ho1.bel
    have hfar := fun a (ha : A = some a) => ho1.own.lt a.block (by rw [ha]; rfl)
    have hb1 := chain hHeld.1 hb0
    have hz := zhold14 hb0
    have hsz := hb0.size
    obtain ⟨z0, z1, z2, z3, z4, z5, z6⟩ := hz.c
    obtain ⟨g0, g1, g2, g3, g4, g5, g6⟩ := hz.f
    try dsimp only
    refine hK.out _ _ (MK.out _ hb1) (fun hHeld => ?_)
    clear hK K
    try simp only [Act.put, List.setIfInBounds_toArray, List.set_cons_zero, List.set_cons_succ]
    refine wpAnyH_take (i := 9) (oi := _) (v := ?_) (by simp only [List.getElem?_toArray, List.getElem?_cons_succ, List.getElem?_cons_zero]; rfl) (by kernel_rfl) (by kernel_rfl) (by kernel_rfl) (by exact fun _ _ _ h => h) (Or.inl ⟨by rfl, ?_⟩) (by assumption) ?_
    rotate_left 1
    · (intro w hSw; (try dsimp only at hSw); go_simp; try (with_reducible rfl))
    simp only [Act.put, List.setIfInBounds_toArray, List.set_cons_zero, List.set_cons_succ]
    refine wpAnyH_ready (rs := [11]) (by kernel_rfl) (by simp) ?_
    refine AllReadyH.cons (o := _) (by simp only [List.getElem?_toArray, List.getElem?_cons_succ, List.getElem?_cons_zero]; rfl) (fun K hK => ?_) AllReadyH.nil
    go_simp
    try dsimp only
    refine hK.out _ _ (MK.out _ (seven_below hb1 (Nat.le_refl _))) (fun hHeld => ?_)
    clear hK K
    try simp only [Act.put, List.setIfInBounds_toArray, List.set_cons_zero, List.set_cons_succ]
    refine wpAnyH_done (by kernel_rfl) ?_ _
    have hB1 : Below W.heap.size W _ := seven_below (b := W.heap.size) (x0 := .int .i64 n) (x1 := .int .i64 n) (x2 := .string c.ent) (x3 := .int .i64 c.sf) (x4 := .int .i64 c.se) (x5 := .slice A c.fs.length d) (x6 := .bool false) hb1 (Nat.le_refl _)
    refine abstract_then (fun W3 => Md14 w last c W.heap.size ⟨n, n, c.ent, c.sf, c.se, A, d, c.fs, false⟩ W3) (HM.out.made (B := W.heap.size) hB1 (((((((hz.set0 n).set1 n).set2 c.ent).set3 c.sf).set4 c.se).set5 A d c.fs).set6 false) (vf_seven ⟨hF1, hc1, hn1⟩ (fun a ha => by have := (hfar a ha).1; simp at this; omega)) (fun a ha => by have := hfar a ha; have := HM.out.sz; simp at *; omega) (by have := HM.out.sz; omega)) ?_
    rintro W3 hD
    obtain ⟨B, hB⟩ : ∃ B, W.heap.size = B := ⟨_, rfl⟩
    rw [hB] at hD ⊢
    clear hB hB1 hb1 hb0 hfar hF1 hc1 hn1 ho1 hz hsz z0 z1 z2 z3 z4 z5 z6 g0 g1 g2 g3 g4 g5 g6
    have HD := Lib.hid hD
    have hcom := hD.com
    clear hD
    by_cases k3 : c.k = 3
    · have b3 : (c.k == 3) = true := by simpa using k3
      have HE := Lib.hid (show V0 = ⟨c.tg, n, last.ent, c.sf, c.se, none, 0, c.fs, true⟩ by rw [HV0.out, if_neg (by omega), k3]; rfl)
      clear k3
      obtain ⟨x0, x1, x2, x3, x4, x5, x6⟩ := HD.out.own.c
      obtain ⟨f0, f1, f2, f3, f4, f5, f6⟩ := HD.out.own.f
      go_upto_region 6 with fail
      clear x0 x1 x2 x3 x4 x5 x6 f0 f1 f2 f3 f4 f5 f6
      refine abstract_worldW (fun W => Md14 w last c B ⟨n, n, c.ent, c.sf, c.se, A, d, c.fs, true⟩ W) (HD.out.put (HD.out.own.set6 true) rfl rfl rfl) ?_
      intro W4 hD4
      have HD4 := Lib.hid hD4
      clear hD4 hcom
      have MK6 := Lib.hid (show ∀ w', But (MB14 B) W4 w' → (But (MB14 B) W4 w' ∧ BoxC w' (w.heap.size + 1) c ∧ BoxV w' w.heap.size last) from fun w' h => ⟨h, HD4.out.boxC h, HD4.out.boxV h⟩)
      obtain ⟨x0, x1, x2, x3, x4, x5, x6⟩ := HD4.out.own.c
      obtain ⟨f0, f1, f2, f3, f4, f5, f6⟩ := HD4.out.own.f
      refine wp_region_held_drew (S := fun w' => But (MB14 B) W4 w' ∧ BoxC w' (w.heap.size + 1) c ∧ BoxV w' w.heap.size last) (by kernel_rfl) (MK6.out _ (But.of_below ((bl W4).drew))) (fun hHeld => ?_)
      refine wpAnyH_take (i := 0) (oi := _) (v := ?_) (by simp only [List.getElem?_toArray, List.getElem?_cons_zero]; rfl) (by kernel_rfl) (by kernel_rfl) (by kernel_rfl) (by exact fun _ _ _ h => h) (Or.inl ⟨by rfl, ?_⟩) (by assumption) ?_
      rotate_left 1
      · (intro w hSw; (try dsimp only at hSw); go_simp; try (with_reducible rfl))
      simp only [Act.put, List.setIfInBounds_toArray, List.set_cons_zero, List.set_cons_succ]
      refine wpAnyH_take (i := 1) (oi := _) (v := ?_) (by simp only [List.getElem?_toArray, List.getElem?_cons_succ, List.getElem?_cons_zero]; rfl) (by kernel_rfl) (by kernel_rfl) (by kernel_rfl) (by exact fun _ _ _ h => h) (Or.inl ⟨by rfl, ?_⟩) (by assumption) ?_
      rotate_left 1
      · (intro w hSw; (try dsimp only at hSw); go_simp; try (with_reducible rfl))
      simp only [Act.put, List.setIfInBounds_toArray, List.set_cons_zero, List.set_cons_succ]
      refine wpAnyH_take (i := 2) (oi := _) (v := ?_) (by simp only [List.getElem?_toArray, List.getElem?_cons_succ, List.getElem?_cons_zero]; rfl) (by kernel_rfl) (by kernel_rfl) (by kernel_rfl) (by exact fun _ _ _ h => h) (Or.inl ⟨by rfl, ?_⟩) (by assumption) ?_
      rotate_left 1
      · (intro w hSw; (try dsimp only at hSw); go_simp; try (with_reducible rfl))
      simp only [Act.put, List.setIfInBounds_toArray, List.set_cons_zero, List.set_cons_succ]
      refine wpAnyH_take (i := 3) (oi := _) (v := ?_) (by simp only [List.getElem?_toArray, List.getElem?_cons_succ, List.getElem?_cons_zero]; rfl) (by kernel_rfl) (by kernel_rfl) (by kernel_rfl) (by exact fun _ _ _ h => h) (Or.inl ⟨by rfl, ?_⟩) (by assumption) ?_
      rotate_left 1
      · (intro w hSw; (try dsimp only at hSw); go_simp; try (with_reducible rfl))
      simp only [Act.put, List.setIfInBounds_toArray, List.set_cons_zero, List.set_cons_succ]
      refine wpAnyH_take (i := 4) (oi := _) (v := ?_) (by simp only [List.getElem?_toArray, List.getElem?_cons_succ, List.getElem?_cons_zero]; rfl) (by kernel_rfl) (by kernel_rfl) (by kernel_rfl) (by exact fun _ _ _ h => h) (Or.inl ⟨by rfl, ?_⟩) (by assumption) ?_
      rotate_left 1
      · (intro w hSw; (try dsimp only at hSw); go_simp; try (with_reducible rfl))
      simp only [Act.put, List.setIfInBounds_toArray, List.set_cons_zero, List.set_cons_succ]
      refine wpAnyH_ready (rs := [5]) (by kernel_rfl) (by simp) ?_
      refine AllReadyH.cons (o := _) (by simp only [List.getElem?_toArray, List.getElem?_cons_succ, List.getElem?_cons_zero]; rfl) (fun K hK => ?_) AllReadyH.nil
      go_simp
      try dsimp only
      refine hK.out _ _ (MK6.out _ (hHeld.1.set rfl _)) (fun hHeld => ?_)
      clear hK K
      try simp only [Act.put, List.setIfInBounds_toArray, List.set_cons_zero, List.set_cons_succ]
      refine wpAnyH_take (i := 6) (oi := _) (v := ?_) (by simp only [List.getElem?_toArray, List.getElem?_cons_succ, List.getElem?_cons_zero]; rfl) (by kernel_rfl) (by kernel_rfl) (by kernel_rfl) (by exact fun _ _ _ h => h) (Or.inl ⟨by rfl, ?_⟩) (by assumption) ?_
      rotate_left 1
      · (intro w hSw; (try dsimp only at hSw); go_simp; try (with_reducible rfl))
      simp only [Act.put, List.setIfInBounds_toArray, List.set_cons_zero, List.set_cons_succ]
      refine wpAnyH_ready (rs := [7]) (by kernel_rfl) (by simp) ?_
      refine AllReadyH.cons (o := _) (by simp only [List.getElem?_toArray, List.getElem?_cons_succ, List.getElem?_cons_zero]; rfl) (fun K hK => ?_) AllReadyH.nil
      go_simp
      try dsimp only
      refine hK.out _ _ (MK6.out _ (hHeld.1.set rfl _)) (fun hHeld => ?_)
      clear hK K
      try simp only [Act.put, List.setIfInBounds_toArray, List.set_cons_zero, List.set_cons_succ]
      refine wpAnyH_done (by kernel_rfl) ?_ _
      refine abstract_then (fun W5 => Md14 w last c B ⟨c.tg, n, last.ent, c.sf, c.se, A, d, c.fs, true⟩ W5) (((HD4.out.drew).put (HD4.out.drew.own.set0 c.tg) rfl rfl rfl).put ((HD4.out.drew.own.set0 c.tg).set2 last.ent) rfl rfl rfl) ?_
      intro W5 hD5
      have HD5 := Lib.hid hD5
      clear hD5
      obtain ⟨y0, y1, y2, y3, y4, y5, y6⟩ := HD5.out.own.c
      have hres : HoldV _ (w.heap.size + 1 + 1) noV := HD5.out.res
      obtain ⟨r0, r1, r2, r3, r4, r5, r6⟩ := hres.c
      obtain ⟨h0, h1, h2, h3, h4, h5, h6⟩ := hres.f
      clear hres
      go_wp2_with fail
      obtain ⟨q0, q1, q2, q3, q4, q5, q6⟩ := seven_store (.int .i64 c.tg) (.int .i64 n) (.string last.ent) (.int .i64 c.sf) (.int .i64 c.se) (.slice A c.fs.length d) (.bool true) r0 r1 r2 r3 r4 r5 r6
      refine bodyPost_ret (v := vv ⟨c.tg, n, last.ent, c.sf, c.se, A, d, c.fs, true⟩) (by simp [results, Tryd.results35, go_sem, q0, q1, q2, q3, q4, q5, q6]) rfl ?_
      rw [HE.out]
      exact HD5.out.post
    have b3 : (c.k == 3) = false := by simpa using k3
    by_cases k2 : c.k = 2
    · have b2 : (c.k == 2) = true := by simpa using k2
      have HE := Lib.hid (show V0 = ⟨c.tg, n, last.ent, c.sf, c.se, none, 0, c.fs, false⟩ by rw [HV0.out, if_neg (by omega), k2]; rfl)
      clear k2 k3
      go_upto_region 6 with fail
      refine abstract_worldW (fun W => Md14 w last c B ⟨n, n, c.ent, c.sf, c.se, A, d, c.fs, false⟩ W) HD.out ?_
      intro W4 hD4
      have HD4 := Lib.hid hD4
      clear hD4 hcom
      have MK6 := Lib.hid (show ∀ w', But (MB14 B) W4 w' → (But (MB14 B) W4 w' ∧ BoxC w' (w.heap.size + 1) c ∧ BoxV w' w.heap.size last) from fun w' h => ⟨h, HD4.out.boxC h, HD4.out.boxV h⟩)
      obtain ⟨x0, x1, x2, x3, x4, x5, x6⟩ := HD4.out.own.c
      obtain ⟨f0, f1, f2, f3, f4, f5, f6⟩ := HD4.out.own.f
      refine wp_region_held_drew (S := fun w' => But (MB14 B) W4 w' ∧ BoxC w' (w.heap.size + 1) c ∧ BoxV w' w.heap.size last) (by kernel_rfl) (MK6.out _ (But.of_below ((bl W4).drew))) (fun hHeld => ?_)
      refine wpAnyH_take (i := 0) (oi := _) (v := ?_) (by simp only [List.getElem?_toArray, List.getElem?_cons_zero]; rfl) (by kernel_rfl) (by kernel_rfl) (by kernel_rfl) (by exact fun _ _ _ h => h) (Or.inl ⟨by rfl, ?_⟩) (by assumption) ?_
      rotate_left 1
      · (intro w hSw; (try dsimp only at hSw); go_simp; try (with_reducible rfl))
      simp only [Act.put, List.setIfInBounds_toArray, List.set_cons_zero, List.set_cons_succ]
      refine wpAnyH_take (i := 1) (oi := _) (v := ?_) (by simp only [List.getElem?_toArray, List.getElem?_cons_succ, List.getElem?_cons_zero]; rfl) (by kernel_rfl) (by kernel_rfl) (by kernel_rfl) (by exact fun _ _ _ h => h) (Or.inl ⟨by rfl, ?_⟩) (by assumption) ?_
      rotate_left 1
      · (intro w hSw; (try dsimp only at hSw); go_simp; try (with_reducible rfl))
      simp only [Act.put, List.setIfInBounds_toArray, List.set_cons_zero, List.set_cons_succ]
      refine wpAnyH_take (i := 2) (oi := _) (v := ?_) (by simp only [List.getElem?_toArray, List.getElem?_cons_succ, List.getElem?_cons_zero]; rfl) (by kernel_rfl) (by kernel_rfl) (by kernel_rfl) (by exact fun _ _ _ h => h) (Or.inl ⟨by rfl, ?_⟩) (by assumption) ?_
      rotate_left 1
      · (intro w hSw; (try dsimp only at hSw); go_simp; try (with_reducible rfl))
      simp only [Act.put, List.setIfInBounds_toArray, List.set_cons_zero, List.set_cons_succ]
      refine wpAnyH_take (i := 3) (oi := _) (v := ?_) (by simp only [List.getElem?_toArray, List.getElem?_cons_succ, List.getElem?_cons_zero]; rfl) (by kernel_rfl) (by kernel_rfl) (by kernel_rfl) (by exact fun _ _ _ h => h) (Or.inl ⟨by rfl, ?_⟩) (by assumption) ?_
      rotate_left 1
      · (intro w hSw; (try dsimp only at hSw); go_simp; try (with_reducible rfl))
      simp only [Act.put, List.setIfInBounds_toArray, List.set_cons_zero, List.set_cons_succ]
      refine wpAnyH_take (i := 4) (oi := _) (v := ?_) (by simp only [List.getElem?_toArray, List.getElem?_cons_succ, List.getElem?_cons_zero]; rfl) (by kernel_rfl) (by kernel_rfl) (by kernel_rfl) (by exact fun _ _ _ h => h) (Or.inl ⟨by rfl, ?_⟩) (by assumption) ?_
      rotate_left 1
      · (intro w hSw; (try dsimp only at hSw); go_simp; try (with_reducible rfl))
      simp only [Act.put, List.setIfInBounds_toArray, List.set_cons_zero, List.set_cons_succ]
      refine wpAnyH_ready (rs := [5]) (by kernel_rfl) (by simp) ?_
      refine AllReadyH.cons (o := _) (by simp only [List.getElem?_toArray, List.getElem?_cons_succ, List.getElem?_cons_zero]; rfl) (fun K hK => ?_) AllReadyH.nil
      go_simp
      try dsimp only
      refine hK.out _ _ (MK6.out _ (hHeld.1.set rfl _)) (fun hHeld => ?_)
      clear hK K
      try simp only [Act.put, List.setIfInBounds_toArray, List.set_cons_zero, List.set_cons_succ]
      refine wpAnyH_take (i := 6) (oi := _) (v := ?_) (by simp only [List.getElem?_toArray, List.getElem?_cons_succ, List.getElem?_cons_zero]; rfl) (by kernel_rfl) (by kernel_rfl) (by kernel_rfl) (by exact fun _ _ _ h => h) (Or.inl ⟨by rfl, ?_⟩) (by assumption) ?_
      rotate_left 1
      · (intro w hSw; (try dsimp only at hSw); go_simp; try (with_reducible rfl))
      simp only [Act.put, List.setIfInBounds_toArray, List.set_cons_zero, List.set_cons_succ]
      refine wpAnyH_ready (rs := [7]) (by kernel_rfl) (by simp) ?_
      refine AllReadyH.cons (o := _) (by simp only [List.getElem?_toArray, List.getElem?_cons_succ, List.getElem?_cons_zero]; rfl) (fun K hK => ?_) AllReadyH.nil
      go_simp
      try dsimp only
      refine hK.out _ _ (MK6.out _ (hHeld.1.set rfl _)) (fun hHeld => ?_)
      clear hK K
      try simp only [Act.put, List.setIfInBounds_toArray, List.set_cons_zero, List.set_cons_succ]
      refine wpAnyH_done (by kernel_rfl) ?_ _
      refine abstract_then (fun W5 => Md14 w last c B ⟨c.tg, n, last.ent, c.sf, c.se, A, d, c.fs, false⟩ W5) (((HD4.out.drew).put (HD4.out.drew.own.set0 c.tg) rfl rfl rfl).put ((HD4.out.drew.own.set0 c.tg).set2 last.ent) rfl rfl rfl) ?_
      intro W5 hD5
      have HD5 := Lib.hid hD5
      clear hD5
      obtain ⟨y0, y1, y2, y3, y4, y5, y6⟩ := HD5.out.own.c
      have hres : HoldV _ (w.heap.size + 1 + 1) noV := HD5.out.res
      obtain ⟨r0, r1, r2, r3, r4, r5, r6⟩ := hres.c
      obtain ⟨h0, h1, h2, h3, h4, h5, h6⟩ := hres.f
      clear hres
      go_wp2_with fail
      obtain ⟨q0, q1, q2, q3, q4, q5, q6⟩ := seven_store (.int .i64 c.tg) (.int .i64 n) (.string last.ent) (.int .i64 c.sf) (.int .i64 c.se) (.slice A c.fs.length d) (.bool false) r0 r1 r2 r3 r4 r5 r6
      refine bodyPost_ret (v := vv ⟨c.tg, n, last.ent, c.sf, c.se, A, d, c.fs, false⟩) (by simp [results, Tryd.results35, go_sem, q0, q1, q2, q3, q4, q5, q6]) rfl ?_
      rw [HE.out]
      exact HD5.out.post
    · have b2 : (c.k == 2) = false := by simpa using k2
      have HE := Lib.hid (show V0 = ⟨n, n, c.ent, c.sf, c.se, none, 0, c.fs, false⟩ by rw [HV0.out, if_pos (by omega)])
      clear k2 k3
      obtain ⟨y0, y1, y2, y3, y4, y5, y6⟩ := HD.out.own.c
      have hres : HoldV _ (w.heap.size + 1 + 1) noV := HD.out.res
      obtain ⟨r0, r1, r2, r3, r4, r5, r6⟩ := hres.c
      obtain ⟨h0, h1, h2, h3, h4, h5, h6⟩ := hres.f
      clear hres
      go_wp2_with fail
      obtain ⟨q0, q1, q2, q3, q4, q5, q6⟩ := seven_store (.int .i64 n) (.int .i64 n) (.string c.ent) (.int .i64 c.sf) (.int .i64 c.se) (.slice A c.fs.length d) (.bool false) r0 r1 r2 r3 r4 r5 r6
      refine bodyPost_ret (v := vv ⟨n, n, c.ent, c.sf, c.se, A, d, c.fs, false⟩) (by simp [results, Tryd.results35, go_sem, q0, q1, q2, q3, q4, q5, q6]) rfl ?_
      rw [HE.out]
      exact HD.out.post
end Go.Proofs.YtmieonfdenjedaaDoor

/-
  A command in a block of its own: its cells, stored into; what Take leaves.
-/
namespace Go.Proofs.YtmieonfdenjedaaDoor
open Go.RowKit

abbrev TC14y : TypeId := 26
abbrev oZC14 : Obj := .cells #[.int .i64 0, .string ⟨#[]⟩, .int .i64 0, .int .i64 0, .int .i64 0, .slice none 0 0] 26
/-- The cells of a command in a block of its own, and that they may be stored into. -/
structure HoldC (w : World) (g : Nat) (c : Cm) : Prop where
  c : BoxC w g c
  f : ∀ i, w.frozen? ⟨g, i, none⟩ = false
theorem HoldC.lt {w : World} {g : Nat} {c : Cm} (h : HoldC w g c) : g < w.heap.size := lt_of_cell h.c.1
theorem HoldC.below {w w' : World} {g : Nat} {c : Cm} (h : HoldC w g c) (hb : Below w.heap.size w w') : HoldC w' g c := ⟨h.c.below hb, fun i => keepf hb h.lt (h.f i)⟩
theorem holdC_new (w : World) : HoldC (w.alloc oZC14) w.heap.size noC := ⟨⟨by simp [go_sem, noC], by simp [go_sem, noC], by simp [go_sem, noC], by simp [go_sem, noC], by simp [go_sem, noC], by simp [go_sem, noC]⟩, fun i => by simp [go_sem]⟩
theorem HoldC.other {w : World} {g : Nat} {c : Cm} (h : HoldC w g c) {b o : Nat} (hne : g ≠ b) (u : Value) : HoldC (w.setCell ⟨b, o, none⟩ u) g c := by
  have O : ∀ i, (w.setCell ⟨b, o, none⟩ u).cell? ⟨g, i, none⟩ = w.cell? ⟨g, i, none⟩ := fun i => World.cell?_setCell_other _ ⟨b, o, none⟩ ⟨g, i, none⟩ _ (fun e => hne (by injection e with e1 e2; exact e1.symm))
  exact ⟨⟨(O 0).trans h.c.1, (O 1).trans h.c.2.1, (O 2).trans h.c.2.2.1, (O 3).trans h.c.2.2.2.1, (O 4).trans h.c.2.2.2.2.1, (O 5).trans h.c.2.2.2.2.2⟩, fun i => (World.frozen?_setCell _ _ _ _).trans (h.f i)⟩
theorem HoldC.set0 {w : World} {g : Nat} {c : Cm} (h : HoldC w g c) (x : Int) : HoldC (w.setCell ⟨g, 0, none⟩ (.int .i64 x)) g {c with k := x} :=
  ⟨⟨World.cell?_setCell_same _ ⟨g, 0, none⟩ _ (h.c.1), (World.cell?_setCell_other _ ⟨g, 0, none⟩ ⟨g, 1, none⟩ _ (by simp)).trans (h.c.2.1), (World.cell?_setCell_other _ ⟨g, 0, none⟩ ⟨g, 2, none⟩ _ (by simp)).trans (h.c.2.2.1), (World.cell?_setCell_other _ ⟨g, 0, none⟩ ⟨g, 3, none⟩ _ (by simp)).trans (h.c.2.2.2.1), (World.cell?_setCell_other _ ⟨g, 0, none⟩ ⟨g, 4, none⟩ _ (by simp)).trans (h.c.2.2.2.2.1), (World.cell?_setCell_other _ ⟨g, 0, none⟩ ⟨g, 5, none⟩ _ (by simp)).trans (h.c.2.2.2.2.2)⟩, fun j => (World.frozen?_setCell _ _ _ _).trans (h.f j)⟩
theorem HoldC.set1 {w : World} {g : Nat} {c : Cm} (h : HoldC w g c) (x : ByteArray) : HoldC (w.setCell ⟨g, 1, none⟩ (.string x)) g {c with ent := x} :=
  ⟨⟨(World.cell?_setCell_other _ ⟨g, 1, none⟩ ⟨g, 0, none⟩ _ (by simp)).trans (h.c.1), World.cell?_setCell_same _ ⟨g, 1, none⟩ _ (h.c.2.1), (World.cell?_setCell_other _ ⟨g, 1, none⟩ ⟨g, 2, none⟩ _ (by simp)).trans (h.c.2.2.1), (World.cell?_setCell_other _ ⟨g, 1, none⟩ ⟨g, 3, none⟩ _ (by simp)).trans (h.c.2.2.2.1), (World.cell?_setCell_other _ ⟨g, 1, none⟩ ⟨g, 4, none⟩ _ (by simp)).trans (h.c.2.2.2.2.1), (World.cell?_setCell_other _ ⟨g, 1, none⟩ ⟨g, 5, none⟩ _ (by simp)).trans (h.c.2.2.2.2.2)⟩, fun j => (World.frozen?_setCell _ _ _ _).trans (h.f j)⟩
theorem HoldC.set2 {w : World} {g : Nat} {c : Cm} (h : HoldC w g c) (x : Int) : HoldC (w.setCell ⟨g, 2, none⟩ (.int .i64 x)) g {c with tg := x} :=
  ⟨⟨(World.cell?_setCell_other _ ⟨g, 2, none⟩ ⟨g, 0, none⟩ _ (by simp)).trans (h.c.1), (World.cell?_setCell_other _ ⟨g, 2, none⟩ ⟨g, 1, none⟩ _ (by simp)).trans (h.c.2.1), World.cell?_setCell_same _ ⟨g, 2, none⟩ _ (h.c.2.2.1), (World.cell?_setCell_other _ ⟨g, 2, none⟩ ⟨g, 3, none⟩ _ (by simp)).trans (h.c.2.2.2.1), (World.cell?_setCell_other _ ⟨g, 2, none⟩ ⟨g, 4, none⟩ _ (by simp)).trans (h.c.2.2.2.2.1), (World.cell?_setCell_other _ ⟨g, 2, none⟩ ⟨g, 5, none⟩ _ (by simp)).trans (h.c.2.2.2.2.2)⟩, fun j => (World.frozen?_setCell _ _ _ _).trans (h.f j)⟩
theorem HoldC.set3 {w : World} {g : Nat} {c : Cm} (h : HoldC w g c) (x : Int) : HoldC (w.setCell ⟨g, 3, none⟩ (.int .i64 x)) g {c with sf := x} :=
  ⟨⟨(World.cell?_setCell_other _ ⟨g, 3, none⟩ ⟨g, 0, none⟩ _ (by simp)).trans (h.c.1), (World.cell?_setCell_other _ ⟨g, 3, none⟩ ⟨g, 1, none⟩ _ (by simp)).trans (h.c.2.1), (World.cell?_setCell_other _ ⟨g, 3, none⟩ ⟨g, 2, none⟩ _ (by simp)).trans (h.c.2.2.1), World.cell?_setCell_same _ ⟨g, 3, none⟩ _ (h.c.2.2.2.1), (World.cell?_setCell_other _ ⟨g, 3, none⟩ ⟨g, 4, none⟩ _ (by simp)).trans (h.c.2.2.2.2.1), (World.cell?_setCell_other _ ⟨g, 3, none⟩ ⟨g, 5, none⟩ _ (by simp)).trans (h.c.2.2.2.2.2)⟩, fun j => (World.frozen?_setCell _ _ _ _).trans (h.f j)⟩
theorem HoldC.set4 {w : World} {g : Nat} {c : Cm} (h : HoldC w g c) (x : Int) : HoldC (w.setCell ⟨g, 4, none⟩ (.int .i64 x)) g {c with se := x} :=
  ⟨⟨(World.cell?_setCell_other _ ⟨g, 4, none⟩ ⟨g, 0, none⟩ _ (by simp)).trans (h.c.1), (World.cell?_setCell_other _ ⟨g, 4, none⟩ ⟨g, 1, none⟩ _ (by simp)).trans (h.c.2.1), (World.cell?_setCell_other _ ⟨g, 4, none⟩ ⟨g, 2, none⟩ _ (by simp)).trans (h.c.2.2.1), (World.cell?_setCell_other _ ⟨g, 4, none⟩ ⟨g, 3, none⟩ _ (by simp)).trans (h.c.2.2.2.1), World.cell?_setCell_same _ ⟨g, 4, none⟩ _ (h.c.2.2.2.2.1), (World.cell?_setCell_other _ ⟨g, 4, none⟩ ⟨g, 5, none⟩ _ (by simp)).trans (h.c.2.2.2.2.2)⟩, fun j => (World.frozen?_setCell _ _ _ _).trans (h.f j)⟩
theorem HoldC.set5 {w : World} {g : Nat} {c : Cm} (h : HoldC w g c) (A : Option Addr) (d : Nat) (l : List Fd) : HoldC (w.setCell ⟨g, 5, none⟩ (.slice A l.length d)) g {c with fa := A, fc := d, fs := l} :=
  ⟨⟨(World.cell?_setCell_other _ ⟨g, 5, none⟩ ⟨g, 0, none⟩ _ (by simp)).trans (h.c.1), (World.cell?_setCell_other _ ⟨g, 5, none⟩ ⟨g, 1, none⟩ _ (by simp)).trans (h.c.2.1), (World.cell?_setCell_other _ ⟨g, 5, none⟩ ⟨g, 2, none⟩ _ (by simp)).trans (h.c.2.2.1), (World.cell?_setCell_other _ ⟨g, 5, none⟩ ⟨g, 3, none⟩ _ (by simp)).trans (h.c.2.2.2.1), (World.cell?_setCell_other _ ⟨g, 5, none⟩ ⟨g, 4, none⟩ _ (by simp)).trans (h.c.2.2.2.2.1), World.cell?_setCell_same _ ⟨g, 5, none⟩ _ (h.c.2.2.2.2.2)⟩, fun j => (World.frozen?_setCell _ _ _ _).trans (h.f j)⟩
theorem six_store {w : World} {g : Nat} {c : Cm} (h : HoldC w g c) (A : Option Addr) (d : Nat) (l : List Fd) (k : Int) (ent : ByteArray) (tg sf se : Int) :
    HoldC ((((((w.setCell ⟨g, 0, none⟩ (.int .i64 k)).setCell ⟨g, 1, none⟩ (.string ent)).setCell ⟨g, 2, none⟩ (.int .i64 tg)).setCell ⟨g, 3, none⟩ (.int .i64 sf)).setCell ⟨g, 4, none⟩ (.int .i64 se)).setCell ⟨g, 5, none⟩ (.slice A l.length d)) g ⟨k, ent, tg, sf, se, A, d, l⟩ :=
  (((((h.set0 k).set1 ent).set2 tg).set3 sf).set4 se).set5 A d l
theorem six_below {w0 w : World} {base b : Nat} {x0 x1 x2 x3 x4 x5 : Value} (h : Below base w0 w) (hg : base ≤ b) : Below base w0 ((((((w.setCell ⟨b, 0, none⟩ x0).setCell ⟨b, 1, none⟩ x1).setCell ⟨b, 2, none⟩ x2).setCell ⟨b, 3, none⟩ x3).setCell ⟨b, 4, none⟩ x4).setCell ⟨b, 5, none⟩ x5) := (((((h.setCell hg _).setCell hg _).setCell hg _).setCell hg _).setCell hg _).setCell hg _
/-- What Take leaves: the command's fields lie in memory of the call's own. -/
def TakeC14f (s : ByteArray) (w : World) (e : Ending) (w' : World) : Prop := ∃ x, e = .returned (.tuple #[cv14 x, .string (takeCs s).2.1, .int .i64 (((takeCs s).2.2 : Nat) : Int)]) ∧ contC x = (takeCs s).1 ∧ CF14 w' x ∧ (∀ a, x.fa = some a → w.heap.size ≤ a.block) ∧ Below w.heap.size w w'
theorem cf_no (w : World) : CF14 w noC := ⟨Fields.nil _ _, Nat.le_refl _, fun _ => rfl⟩
theorem takeC_bad {s : ByteArray} {w w' : World} {e : Nat} (h : takeCs s = badC e) (hb : Below w.heap.size w w') : TakeC14f s w (.returned (.tuple #[cv14 noC, .string ⟨#[]⟩, .int .i64 ((e : Nat) : Int)])) w' :=
  ⟨noC, by rw [h]; rfl, by rw [h]; rfl, cf_no w', (fun a ha => by cases ha), hb⟩
theorem takeC_ok {s : ByteArray} {w w' : World} {x : Cm} {r : ByteArray} (h : takeCs s = (contC x, r, 0)) (hf : CF14 w' x) (hfa : ∀ a, x.fa = some a → w.heap.size ≤ a.block) (hb : Below w.heap.size w w') : TakeC14f s w (.returned (.tuple #[cv14 x, .string r, .int .i64 0])) w' :=
  ⟨x, by rw [h]; rfl, by rw [h], hf, hfa, hb⟩
theorem cf_far {w : World} {c : Cm} {B g o : Nat} {u : Value} (h : CF14 w c) (hf : ∀ a, c.fa = some a → B ≤ a.block) (hg : g < B) : CF14 (w.setCell ⟨g, o, none⟩ u) c := by
  refine ⟨fun j f hj => ?_, h.2⟩
  obtain ⟨b, off, e, c0, c1⟩ := h.1 j f hj
  have hb := hf _ e
  have O : ∀ i, (w.setCell ⟨g, o, none⟩ u).cell? ⟨b, i, none⟩ = w.cell? ⟨b, i, none⟩ := fun i => World.cell?_setCell_other _ ⟨g, o, none⟩ ⟨b, i, none⟩ _ (fun e => by injection e with e1 e2; simp only at hb; omega)
  exact ⟨b, off, e, (O _).trans c0, (O _).trans c1⟩
end Go.Proofs.YtmieonfdenjedaaDoor

/-
  The document's lay: a field is laid into a list whose names rise. (Made by wip/gen/flay.py.)
-/
namespace Go.Proofs.YtmieonfdenjedaaDoor
open Go.RowKit

theorem belowN' {B : Nat} {a w : World} (h : Below B a w) (n : Nat) : Below B a (w.drewN n) := ⟨h.os, h.tape, h.output, h.size, h.block⟩
theorem abstract_worldF {P : Program} {code : Code} {Q : Exit → Act → World → Prop} {a : Act} {w : World} (R : World → Prop) (h0 : R w) (h : ∀ W, R W → Code.wp P code Q a W) : Code.wp P code Q a w := h w h0
/-- All that stand ahead of place k have names that are less. -/
def LessF (l : List Fd) (x : Fd) (k : Nat) : Prop := ∀ j f, j < k → l[j]? = some f → aheadB f.n x.n = true
theorem LessF.next {l : List Fd} {x f : Fd} {k : Nat} (h : LessF l x k) (hf : l[k]? = some f) (ha : aheadB f.n x.n = true) : LessF l x (k + 1) := fun j g hj hg => by
  rcases Nat.lt_or_ge j k with h1 | h1
  · exact h j g h1 hg
  · obtain rfl : j = k := by omega
    rw [hf] at hg
    injection hg with hg
    rw [← hg]; exact ha
theorem layL_at : ∀ (l : List Fd) (x : Fd) (k : Nat), LessF l x k → k ≤ l.length → layL l x = l.take k ++ layL (l.drop k) x
  | l, x, 0, _, _ => rfl
  | [], x, k + 1, _, h => by simp at h
  | f :: l, x, k + 1, h, hk => by
    have ha := h 0 f (by omega) rfl
    have ih := layL_at l x k (fun j g hj hg => h (j + 1) g (by omega) (by simpa using hg)) (by simpa using hk)
    rw [layL, if_pos ha, ih]
    rfl
theorem layL_end {l : List Fd} {x : Fd} (h : LessF l x l.length) : layL l x = l.take l.length ++ x :: [] := by
  rw [layL_at l x l.length h (Nat.le_refl _), List.drop_length]
  rfl
theorem layL_mid {l : List Fd} {x f : Fd} {k : Nat} (h : LessF l x k) (hf : l[k]? = some f) (h1 : aheadB f.n x.n = false) (h2 : nats f.n ≠ nats x.n) : layL l x = l.take k ++ x :: l.drop k := by
  have hk : k < l.length := by
    rcases Nat.lt_or_ge k l.length with h' | h'
    · exact h'
    · rw [List.getElem?_eq_none h'] at hf; cases hf
  rw [layL_at l x k h (by omega), drop_consF hf, layL, if_neg (by rw [h1]; simp), if_neg h2]
theorem layL_same {l : List Fd} {x f : Fd} {k : Nat} (h : LessF l x k) (hf : l[k]? = some f) (h2 : nats f.n = nats x.n) : layL l x = l.take k ++ x :: l.drop (k + 1) := by
  have hk : k < l.length := by
    rcases Nat.lt_or_ge k l.length with h' | h'
    · exact h'
    · rw [List.getElem?_eq_none h'] at hf; cases hf
  rw [layL_at l x k h (by omega), drop_consF hf, layL, if_neg (fun h1 => ahead_ne h1 h2), if_pos h2]

end Go.Proofs.YtmieonfdenjedaaDoor

/-
  What a text begins with, as a text, by the program: TakeText.
-/
namespace Go.Proofs.YtmieonfdenjedaaDoor
open Go.RowKit

def TextPost (s : ByteArray) (most : Int) (w : World) (e : Ending) (w' : World) : Prop := e = .returned (.tuple #[.string (ttS s most), .string (ttR s most), .int .i64 (ttE s most : Int)]) ∧ Below w.heap.size w w'
theorem ret_sse {s t u v : ByteArray} {c d : Int} (h : s = t) (k : u = v) (l : c = d) : Ending.returned (.tuple #[.string s, .string u, .int .i64 c]) = .returned (.tuple #[.string t, .string v, .int .i64 d]) := by rw [h, k, l]
theorem tt_err {s : ByteArray} {most : Int} (h : tkE s ≠ 0) : ttS s most = ⟨#[]⟩ ∧ ttR s most = ⟨#[]⟩ ∧ ttE s most = tkE s := by
  simp only [ttS, ttR, ttE, tt, if_pos h]; exact ⟨trivial, trivial, trivial⟩
theorem tt_most {s : ByteArray} {most : Int} (h : tkE s = 0) (h2 : most < tkN s) : ttS s most = ⟨#[]⟩ ∧ ttR s most = ⟨#[]⟩ ∧ ttE s most = 4 := by
  have h' : ¬ tkE s ≠ 0 := fun k => k h
  simp only [ttS, ttR, ttE, tt, if_neg h', if_pos h2]; exact ⟨trivial, trivial, trivial⟩
theorem tt_end {s : ByteArray} {most : Int} (h : tkE s = 0) (h2 : ¬ most < tkN s) (h3 : (tkR s).size < tkN s) : ttS s most = ⟨#[]⟩ ∧ ttR s most = ⟨#[]⟩ ∧ ttE s most = 9 := by
  have h' : ¬ tkE s ≠ 0 := fun k => k h
  simp only [ttS, ttR, ttE, tt, if_neg h', if_neg h2, if_pos h3]; exact ⟨trivial, trivial, trivial⟩
theorem tt_good {s : ByteArray} {most : Int} (h : tkE s = 0) (h2 : ¬ most < tkN s) (h3 : ¬ (tkR s).size < tkN s) : ttS s most = (tkR s).extract 0 (tkN s) ∧ ttR s most = (tkR s).extract (tkN s) (tkR s).size ∧ ttE s most = 0 := by
  have h' : ¬ tkE s ≠ 0 := fun k => k h
  simp only [ttS, ttR, ttE, tt, if_neg h', if_neg h2, if_neg h3]; exact ⟨trivial, trivial, trivial⟩

set_option maxHeartbeats 4000000 in
theorem taketext_any (s : ByteArray) (hs : s.size ≤ 4611686018427387903) (most : Int) (w : World) : Calls Tryd.prog 77 #[.string s, .int .i64 most] w (TextPost s most w) := by
  have CT := Lib.hid (fun w => take_any s hs w)
  have hn := tkN_lt s
  have hR := tkR_size s
  have HE := Lib.hid (tt_err (s := s) (most := most))
  have HM := Lib.hid (tt_most (s := s) (most := most))
  have HD := Lib.hid (tt_end (s := s) (most := most))
  have HG := Lib.hid (tt_good (s := s) (most := most))
  have CT2 := Lib.hid (show ∀ w, Calls Tryd.prog 47 #[.string s] w fun e w' => e = .returned (.tuple #[.int .i64 (tkN s : Int), .string (tkR s), .int .i64 (tkE s : Int)]) ∧ Below w.heap.size w w' from CT.out)
  clear CT
  generalize tkN s = n at *
  generalize tkR s = R at *
  generalize tkE s = E at *
  by_cases hE : E = 0
  · subst hE
    by_cases h2 : most < n
    · have TT := Lib.hid (HM.out rfl h2)
      clear HE HM HD HG
      go_enter Tryd.func77, Tryd.ntmps77
      go_wp2_with (go_at_call 47; refine (CT2.out _).mono ?_; rintro e w1 ⟨rfl, hb⟩)
      go_ret3
      exact ⟨ret_sse TT.out.1.symm TT.out.2.1.symm (by rw [TT.out.2.2]; rfl), hb⟩
    · by_cases h3 : R.size < n
      · have TT := Lib.hid (HD.out rfl h2 h3)
        clear HE HM HD HG
        have h3' : (R.size : Int) < (n : Int) := by omega
        go_enter Tryd.func77, Tryd.ntmps77
        go_wp2_with (go_at_call 47; refine (CT2.out _).mono ?_; rintro e w1 ⟨rfl, hb⟩)
        go_ret3
        exact ⟨ret_sse TT.out.1.symm TT.out.2.1.symm (by rw [TT.out.2.2]; rfl), hb⟩
      · have TT := Lib.hid (HG.out rfl h2 h3)
        clear HE HM HD HG
        have h3' : ¬ (R.size : Int) < (n : Int) := by omega
        have h4 : (n : Int) ≤ (R.size : Int) := by omega
        go_enter Tryd.func77, Tryd.ntmps77
        go_wp2_with (go_at_call 47; refine (CT2.out _).mono ?_; rintro e w1 ⟨rfl, hb⟩)
        go_quiet (fail)
        go_wp2_with fail
        go_ret3
        exact ⟨ret_sse TT.out.1.symm TT.out.2.1.symm (by rw [TT.out.2.2]; rfl), belowN hb _⟩
  · have TT := Lib.hid (HE.out hE)
    have hE' : ¬ (E : Int) = 0 := by omega
    clear HE HM HD HG
    go_enter Tryd.func77, Tryd.ntmps77
    go_wp2_with (go_at_call 47; refine (CT2.out _).mono ?_; rintro e w1 ⟨rfl, hb⟩)
    go_ret3
    exact ⟨ret_sse TT.out.1.symm TT.out.2.1.symm (by rw [TT.out.2.2]), hb⟩

end Go.Proofs.YtmieonfdenjedaaDoor

/-
  What a text begins with, by the document: its TakeNum.
-/
namespace Go.Proofs.YtmieonfdenjedaaDoor
open Go.RowKit

theorem bit_and_one {c j : Nat} (hc : c < 256) (_hj : j ≤ 7) : bits BinOp.and IntKind.u8 ((c : Int) / 2 ^ j) 1 = ((c / 2 ^ j % 2 : Nat) : Int) := by
  have e : (c : Int) / 2 ^ j = ((c / 2 ^ j : Nat) : Int) := by simp
  have hlt : c / 2 ^ j < 256 := Nat.lt_of_le_of_lt (Nat.div_le_self _ _) hc
  have key : ∀ x : Nat, x < 256 → bits BinOp.and IntKind.u8 (x : Int) 1 = ((x % 2 : Nat) : Int) := by decide +kernel
  rw [e, key _ hlt]
/-- The i-th byte without the mark. -/
theorem bare_get {c : Nat} {r : List Nat} {i : Nat} (hi : i ≤ ones c) (hl : ones c ≤ r.length) : (bare c r)[i]? = some (if i = 0 then c - mark (ones c) else r.getD (i - 1) 0) := by
  rcases i with _ | i
  · rfl
  · rw [bare, List.getElem?_cons_succ, List.getElem?_take_of_lt (by omega), if_neg (by omega), List.getElem?_eq_getElem (by omega), List.getD_eq_getElem?_getD, Nat.add_sub_cancel, List.getElem?_eq_getElem (by omega)]
    rfl
theorem enc_is {s : ByteArray} {c : Nat} {r : List Nat} (h : nats s = c :: r) (hl : ones c ≤ r.length) (hm : takeV c r < 4611686018427387904) :
    ((encS (takeV c r)).toList == (s.extract 0 (ones c + 1)).toList) = decide (kN (takeV c r) = ones c) := by
  have hr : ∀ b ∈ r, b < 256 := fun b hb => nats_lt s b (by rw [h]; exact List.mem_cons_of_mem _ hb)
  have e1 : nats (s.extract 0 (ones c + 1)) = c :: r.take (ones c) := by rw [nats_extract, h, List.drop_zero, Nat.sub_zero, List.take_succ_cons]
  have e2 := nats_encS hm
  have iff := enc_takeV_iff hr hl
  by_cases hk : kN (takeV c r) = ones c
  · have : encS (takeV c r) = s.extract 0 (ones c + 1) := nats_inj (by rw [e1, e2]; exact iff.2 hk)
    rw [this]; simp [hk]
  · have : (encS (takeV c r)).toList ≠ (s.extract 0 (ones c + 1)).toList := fun e => hk (iff.1 (by
      have e3 := congrArg (fun z => z.map UInt8.toNat) e
      simp only [ByteArray.toList_eq] at e3
      have e4 : nats (encS (takeV c r)) = nats (s.extract 0 (ones c + 1)) := e3
      rw [e1, e2] at e4
      exact e4))
    rw [beq_eq_false_iff_ne.2 this]; simp [hk]

theorem bare_length' {c : Nat} {r : List Nat} {O : Nat} (hl : ones c ≤ r.length) (h : ones c = O) : (bare c r).length = O + 1 := by rw [bare_length hl, h]

set_option maxHeartbeats 1000000 in
theorem dtake_nil (w : World) : Calls Tryd.prog 43 #[.string ⟨#[]⟩] w (TakePost ⟨#[]⟩ w) := by
  have HT := Lib.hid (tk_nil (s := ⟨#[]⟩) rfl)
  go_enter Tryd.func43, Tryd.ntmps43
  go_wp2_with fail
  go_ret3
  exact ⟨ret_ise (by rw [HT.out.1]; rfl) HT.out.2.1.symm (by rw [HT.out.2.2]; rfl), bl _⟩

set_option maxHeartbeats 4000000 in
set_option maxRecDepth 10000 in
theorem dtake_cons (s : ByteArray) (hs : s.size ≤ 4611686018427387903) (c : Nat) (r : List Nat) (h : nats s = c :: r) (w : World) : Calls Tryd.prog 43 #[.string s] w (TakePost s w) := by
  have hc : c < 256 := nats_lt s c (by rw [h]; exact List.mem_cons_self)
  have hlen : s.size = r.length + 1 := by rw [← nats_length, h]; rfl
  have hi0 : ∀ w, (Instr.index 9 (.string s) (.int .i64 0)).run Tryd.prog w = .ok (.int .u8 (c : Int)) w := fun w => index_run (i := 0) (by rw [h]; rfl) w
  have hne : s.toList.isEmpty = false := by
    rw [ByteArray.toList_eq]
    have h2 : s.data.toList.length = s.size := Array.length_toList
    cases h3 : s.data.toList with
    | nil => rw [h3] at h2; simp at h2; omega
    | cons => rfl
  have hr : ∀ b ∈ r, b < 256 := fun b hb => nats_lt s b (by rw [h]; exact List.mem_cons_of_mem _ hb)
  have HT := Lib.hid h
  have HBITS := Lib.hid (ones_bits hc)
  have hO8 := (ones_bits hc).1
  have HC := Lib.hid hc
  obtain ⟨O, hO⟩ : ∃ O, ones c = O := ⟨_, rfl⟩
  have HO := Lib.hid hO
  rw [hO] at hO8 HBITS
  clear hO h hc
  go_enter Tryd.func43, Tryd.ntmps43
  go_upto_block 0 with fail
  go_cut [5] from 13 to 26 (fun s5 wx => s5 = .int .i64 (O : Int) ∧ wx = w)
  case first =>
    go_wp2_with fail
    go_loopw [5] (fun i wr => ∃ k : Nat, k ≤ O ∧ i = .int .i64 k ∧ wr = w) (fun i _ => O - (intOf i).toNat)
    case atStart => exact ⟨0, Nat.zero_le _, rfl, rfl⟩
    case round =>
      obtain ⟨k, hk, rfl, hwr⟩ := hrel
      obtain rfl := hwr.symm
      by_cases hlt : k < O
      · have k8 : (k : Int) < 8 := by omega
        obtain ⟨j, hj⟩ : ∃ j, 7 - k = j := ⟨_, rfl⟩
        have e1 : IntKind.i64.wrap (7 - (k : Int)) = (j : Int) := by rw [IntWalk.i64_in _ (by omega)]; omega
        have e2 : (7 - (k : Int)) = (j : Int) := by omega
        have hb : bits BinOp.and IntKind.u8 ((c : Int) / 2 ^ j) 1 = 1 := by rw [bit_and_one HC.out (by omega), ← hj, HBITS.out.2.1 k hlt]; rfl
        clear hj
        go_wp2_with fail
        exact ⟨⟨k + 1, by omega, by go_num, trivial⟩, by simp [intOf] <;> omega⟩
      · obtain rfl : O = k := by omega
        rcases Nat.lt_or_ge O 8 with h8 | h8
        · have k8 : (O : Int) < 8 := by omega
          obtain ⟨j, hj⟩ : ∃ j, 7 - O = j := ⟨_, rfl⟩
          have e1 : IntKind.i64.wrap (7 - (O : Int)) = (j : Int) := by rw [IntWalk.i64_in _ (by omega)]; omega
          have e2 : (7 - (O : Int)) = (j : Int) := by omega
          have hb : bits BinOp.and IntKind.u8 ((c : Int) / 2 ^ j) 1 = 0 := by rw [bit_and_one HC.out (by omega), ← hj, HBITS.out.2.2 h8]; rfl
          clear hj
          go_wp2_with fail
          go_meet
          exact ⟨rfl, rfl⟩
        · have k8 : ¬ (O : Int) < 8 := by omega
          go_wp2_with fail
          go_meet
          exact ⟨rfl, rfl⟩
  case rest =>
    obtain ⟨rfl, hwx⟩ := hcut
    obtain rfl := hwx.symm
    clear hne hi0
    by_cases hl : r.length < O
    · have TK := Lib.hid (tk_short (s := s) HT.out (by rw [HO.out]; exact hl))
      have hl' : (r.length : Int) + 1 < (O : Int) + 1 := by omega
      go_wp2_with fail
      go_ret3
      exact ⟨ret_ise (by rw [TK.out.1]; rfl) TK.out.2.1.symm (by rw [TK.out.2.2]; rfl), bl _⟩
    · have hl' : ¬ (r.length : Int) + 1 < (O : Int) + 1 := by omega
      have HL := Lib.hid (show ones c ≤ r.length by rw [HO.out]; omega)
      have HR := Lib.hid hr
      clear hr hl
      go_wp2_with fail
      go_loopw [6, 7, 8] (fun n b i wr => ∃ (k nn : Nat) (big : Bool), k ≤ O + 1 ∧ i = .int .i64 k ∧ n = .int .i64 (nn : Int) ∧ b = .bool big ∧ Gath (bare c r) k nn big ∧ wr = w) (fun _ _ i _ => O + 1 - (intOf i).toNat)
      case atStart => exact ⟨0, 0, false, Nat.zero_le _, rfl, rfl, rfl, Gath.start _, rfl⟩
      case round =>
        obtain ⟨k, nn, big, hk, rfl, rfl, rfl, hG, hwr⟩ := hrel
        obtain rfl := hwr.symm
        have HG := Lib.hid hG
        clear hG
        by_cases hlt : k ≤ O
        · have hlt' : (k : Int) ≤ (O : Int) := by omega
          rcases Nat.eq_zero_or_pos k with h0 | h0
          · subst h0
            have hi : ∀ w, (Instr.index 9 (.string s) (.int .i64 0)).run Tryd.prog w = .ok (.int .u8 (c : Int)) w := fun w => index_run (i := 0) (by rw [HT.out]; rfl) w
            have hc256 : (c : Int) < 256 := by have := HC.out; omega
            obtain ⟨d, hd, hd256⟩ : ∃ d, (bare c r)[0]? = some d ∧ d < 256 := ⟨c - mark (ones c), rfl, by omega⟩
            have HD := Lib.hid hd
            have SD := Lib.hid (show strip c (min (O + 1) 8) = d by rw [← HO.out, strip_all HC.out]; have := HD.out; rw [bare] at this; exact Option.some.inj this)
            clear hd
            go_upto_block 4 with fail
            go_cut [9, 10] from 43 to 62 (fun x y wx => x = .int .i64 (d : Int) ∧ wx = w)
            case first =>
              obtain ⟨T, hT⟩ : ∃ T, min (O + 1) 8 = T := ⟨_, rfl⟩
              rw [hT] at SD
              have HTT := Lib.hid hT
              clear hT
              go_wp2_with fail
              go_loopw [9, 10] (fun x y wr => ∃ t : Nat, t ≤ T ∧ x = .int .i64 (strip c t : Int) ∧ y = .int .i64 (7 - (t : Int)) ∧ wr = w) (fun _ y _ => (intOf y + 1).toNat)
              case atStart => exact ⟨0, Nat.zero_le _, rfl, rfl, rfl⟩
              case round =>
                obtain ⟨t, ht, rfl, rfl, hwr⟩ := hrel
                obtain rfl := hwr.symm
                by_cases hlt : t < T
                · have htO : t < O + 1 ∧ t < 8 := by have := HTT.out; omega
                  obtain ⟨j, hj⟩ : ∃ j, 7 - t = j := ⟨_, rfl⟩
                  have ej : 7 - (t : Int) = (j : Int) := by omega
                  have hcond : 7 - (O : Int) ≤ (j : Int) := by omega
                  have hj7 : (j : Int) ≤ 7 := by omega
                  have hstrip := strip_le c t
                  have hnx : strip c (t + 1) = if 2 ^ j ≤ strip c t then strip c t - 2 ^ j else strip c t := by rw [← hj]; rfl
                  have PW := Lib.hid (fun w => power_any j (by omega) w)
                  have hp256 : 2 ^ j < 256 := by
                    have key : ∀ j, j ≤ 7 → 2 ^ j < 256 := by decide
                    exact key j (by omega)
                  have hx256 : strip c t < 256 := by have := HC.out; omega
                  rw [ej]
                  obtain ⟨p, hp⟩ : ∃ p, 2 ^ j = p := ⟨_, rfl⟩
                  obtain ⟨x, hx⟩ : ∃ x, strip c t = x := ⟨_, rfl⟩
                  rw [hp, hx] at hnx
                  rw [hp] at PW hp256
                  rw [hx] at hx256 ⊢
                  have ejt : (j : Int) - 1 = 7 - ((t + 1 : Nat) : Int) := by omega
                  have HNX := Lib.hid hnx
                  have HEJ := Lib.hid ejt
                  clear hp hx hnx hstrip ejt ej hj htO
                  by_cases hle : p ≤ x
                  · have hle' : (p : Int) ≤ (x : Int) := by omega
                    go_wp2_with (go_at_call 70; refine (PW.out _).mono ?_; rintro e w2 ⟨rfl, rfl⟩)
                    refine ⟨⟨t + 1, hlt, ?_, ?_, trivial⟩, by simp [intOf] <;> omega⟩
                    · rw [HNX.out, if_pos hle]; exact congrArg (Value.int .i64) (by omega)
                    · rw [← HEJ.out]
                  · have hle' : ¬ (p : Int) ≤ (x : Int) := by omega
                    go_wp2_with (go_at_call 70; refine (PW.out _).mono ?_; rintro e w2 ⟨rfl, rfl⟩)
                    refine ⟨⟨t + 1, hlt, ?_, ?_, trivial⟩, by simp [intOf] <;> omega⟩
                    · rw [HNX.out, if_neg hle]
                    · rw [← HEJ.out]
                · obtain rfl : T = t := by omega
                  rw [SD.out]
                  rcases Nat.lt_or_ge O 8 with h8 | h8
                  · have hT2 : T = O + 1 := by have := HTT.out; omega
                    subst hT2
                    have hcond : ¬ 7 - (O : Int) ≤ 7 - ((O + 1 : Nat) : Int) := by omega
                    go_wp2_with fail
                    go_meet
                    exact ⟨rfl, rfl⟩
                  · have hT2 : T = 8 := by have := HTT.out; omega
                    have hO2 : O = 8 := by omega
                    subst hT2 hO2
                    go_wp2_with fail
                    go_meet
                    exact ⟨rfl, rfl⟩
            case rest =>
              obtain ⟨rfl, hwx⟩ := hcut
              obtain rfl := hwx.symm
              clear SD
              cases big with
              | true =>
                go_wp2_with fail
                exact ⟨⟨0 + 1, nn, true, by omega, by go_num, rfl, rfl, HG.out.stays, trivial⟩, by simp [intOf] <;> omega⟩
              | false =>
                by_cases hgt : 18014398509481983 < nn
                · have hgt' : (18014398509481983 : Int) < (nn : Int) := by omega
                  have NX := HG.out.great (by rw [bare_length' HL.out HO.out]; omega) hgt
                  go_wp2_with fail
                  exact ⟨⟨0 + 1, nn, true, by omega, by go_num, rfl, rfl, NX, trivial⟩, by simp [intOf] <;> omega⟩
                · have hgt' : ¬ (18014398509481983 : Int) < (nn : Int) := by omega
                  have NX := HG.out.next HD.out hd256 (by omega)
                  go_wp2_with fail
                  exact ⟨⟨0 + 1, 256 * nn + d, false, by omega, by go_num, by go_num, rfl, NX, trivial⟩, by simp [intOf] <;> omega⟩
          · obtain ⟨d, hd, hd256, hs2⟩ : ∃ d, (bare c r)[k]? = some d ∧ d < 256 ∧ (nats s)[k]? = some d := by
              have hkr : k - 1 < r.length := by have := HL.out; have := HO.out; omega
              refine ⟨r[k - 1], ?_, HR.out _ (List.getElem_mem hkr), ?_⟩
              · rw [bare_get (by have := HO.out; omega) HL.out, if_neg (by omega), List.getD_eq_getElem?_getD, List.getElem?_eq_getElem hkr]; rfl
              · rw [HT.out]
                obtain ⟨k', rfl⟩ : ∃ k', k = k' + 1 := ⟨k - 1, by omega⟩
                rw [List.getElem?_cons_succ]
                exact List.getElem?_eq_getElem hkr
            have HD := Lib.hid hd
            have hi : ∀ w, (Instr.index 9 (.string s) (.int .i64 (k : Int))).run Tryd.prog w = .ok (.int .u8 (d : Int)) w := fun w => index_run hs2 w
            have hk0 : ¬ (k : Int) = 0 := by omega
            have hd256' : (d : Int) < 256 := by omega
            clear hd hs2
            cases big with
            | true =>
              go_wp2_with fail
              exact ⟨⟨k + 1, nn, true, by omega, by go_num, rfl, rfl, HG.out.stays, trivial⟩, by simp [intOf] <;> omega⟩
            | false =>
              by_cases hgt : 18014398509481983 < nn
              · have hgt' : (18014398509481983 : Int) < (nn : Int) := by omega
                have NX := HG.out.great (by rw [bare_length' HL.out HO.out]; omega) hgt
                go_wp2_with fail
                exact ⟨⟨k + 1, nn, true, by omega, by go_num, rfl, rfl, NX, trivial⟩, by simp [intOf] <;> omega⟩
              · have hgt' : ¬ (18014398509481983 : Int) < (nn : Int) := by omega
                have NX := HG.out.next HD.out hd256 (by omega)
                go_wp2_with fail
                exact ⟨⟨k + 1, 256 * nn + d, false, by omega, by go_num, by go_num, rfl, NX, trivial⟩, by simp [intOf] <;> omega⟩
        · have hlt' : ¬ (k : Int) ≤ (O : Int) := by omega
          obtain rfl : k = O + 1 := by omega
          have TF := Lib.hid (tk_form (s := s) HT.out HL.out)
          have TG := Lib.hid (tk_good (s := s) HT.out HL.out)
          have EI := Lib.hid (enc_is (s := s) HT.out HL.out)
          have BV := Lib.hid (bare_val HL.out)
          have NOT := HG.out.not
          rw [List.take_of_length_le (by rw [bare_length' HL.out HO.out]; omega), BV.out] at NOT
          have YES := HG.out.yes
          rw [BV.out] at YES
          rw [HO.out] at TF TG EI
          have HLEN := Lib.hid hlen
          generalize takeV c r = v at *
          cases big with
          | true =>
            have TK := Lib.hid (TF.out (.inl (YES rfl)))
            clear YES NOT
            go_wp2_with fail
            go_quiet (fail)
            go_wp2_with fail
            go_ret3
            exact ⟨ret_ise (by rw [TK.out.1]; rfl) TK.out.2.1.symm (by rw [TK.out.2.2]; rfl), belowN (bl _) _⟩
          | false =>
            obtain rfl : nn = v := NOT rfl
            clear YES NOT
            by_cases hm : nn < 4611686018427387904
            · have hm' : ¬ (4611686018427387903 : Int) < (nn : Int) := by omega
              have hmd : decide ((4611686018427387903 : Int) < (nn : Int)) = false := decide_eq_false hm'
              obtain ⟨Q, hQ⟩ : ∃ Q, O + 1 = Q := ⟨_, rfl⟩
              have w1 : IntKind.i64.wrap ((O : Int) + 1) = (Q : Int) := by rw [IntWalk.i64_in _ (by omega)]; omega
              have w2 : IntKind.i64.wrap (Q : Int) = (Q : Int) := IntWalk.i64_in _ (by omega)
              have w3 : (O : Int) + 1 = (Q : Int) := by omega
              have hsr : ∀ w, (Instr.slice 9 (.string s) none (some (.int .i64 (Q : Int))) none).run Tryd.prog w = .ok (.string (s.extract 0 Q)) w := fun w => by
                rw [run_slice_string_to_if w 9 s .i64 (Q : Int) Tryd.underlying9, if_pos (by omega), Int.toNat_natCast]
              have hsl : (Q : Int) ≤ (s.size : Int) := by omega
              rw [hQ] at EI TG
              have hsz : (s.size : Int) ≤ 4611686018427387903 := by omega
              clear hlen hl'
              have CO := Lib.hid (fun w => dnumof_any nn hm w)
              have hei := EI.out hm
              generalize encS nn = S at *
              by_cases hk2 : kN nn = O
              · have TK := Lib.hid (TG.out hm hk2)
                rw [decide_eq_true hk2] at hei
                clear TF TG EI
                have HBB := Lib.hid (bl w)
                go_wp2_with fail
                go_region_held3 (fun w' => Below w.heap.size w w')
                  (first | exact (Below.refl _ _).drew | exact BW.out | fail)
                  (first | (go_at_call 38; refine (CO.out _).mono ?_; rintro e w3 ⟨rfl, hb3⟩; have BW := Lib.hid (show Below w.heap.size w w3 from (Below.refl _ _).drew.trans hb3); clear hb3))
                all_goals
                  go_wp2_with fail
                  go_quiet (fail)
                  go_wp2_with fail
                  go_ret3
                  exact ⟨ret_ise (by rw [TK.out.1]) TK.out.2.1.symm (by rw [TK.out.2.2]; rfl), belowN BW.out _⟩
              · have TK := Lib.hid (TF.out (.inr hk2))
                rw [decide_eq_false hk2] at hei
                clear TF TG EI
                go_wp2_with fail
                go_region_held3 (fun w' => Below w.heap.size w w')
                  (first | exact (Below.refl _ _).drew | exact BW.out | fail)
                  (first | (go_at_call 38; refine (CO.out _).mono ?_; rintro e w3 ⟨rfl, hb3⟩; have BW := Lib.hid (show Below w.heap.size w w3 from (Below.refl _ _).drew.trans hb3); clear hb3))
                all_goals
                  go_wp2_with fail
                  go_ret3
                  exact ⟨ret_ise (by rw [TK.out.1]; rfl) TK.out.2.1.symm (by rw [TK.out.2.2]; rfl), BW.out⟩
            · have TK := Lib.hid (TF.out (.inl (Nat.le_of_not_lt hm)))
              have hm' : (4611686018427387903 : Int) < (nn : Int) := by omega
              go_wp2_with fail
              go_quiet (fail)
              go_wp2_with fail
              go_ret3
              exact ⟨ret_ise (by rw [TK.out.1]; rfl) TK.out.2.1.symm (by rw [TK.out.2.2]; rfl), belowN (bl _) _⟩

end Go.Proofs.YtmieonfdenjedaaDoor

/-
  What a text begins with, by the document: its TakeInt and TakeText.
-/
namespace Go.Proofs.YtmieonfdenjedaaDoor
open Go.RowKit

theorem dtake_any (s : ByteArray) (hs : s.size ≤ 4611686018427387903) (w : World) : Calls Tryd.prog 43 #[.string s] w (TakePost s w) := by
  cases h : nats s with
  | nil =>
    obtain rfl : s = ⟨#[]⟩ := nats_inj h
    exact dtake_nil w
  | cons c r => exact dtake_cons s hs c r h w

set_option maxHeartbeats 1000000 in
theorem dtakeint_any (s : ByteArray) (hs : s.size ≤ 4611686018427387903) (w : World) : Calls Tryd.prog 45 #[.string s] w (TakeIntPost s w) := by
  have CT := Lib.hid (show ∀ w, Calls Tryd.prog 43 #[.string s] w fun e w' => e = .returned (.tuple #[.int .i64 (tkN s : Int), .string (tkR s), .int .i64 (tkE s : Int)]) ∧ Below w.heap.size w w' from dtake_any s hs)
  have hn := tkN_lt s
  have ER := Lib.hid (tk_err (s := s))
  have HP := Lib.hid (show TakeIntPost s w = fun e w' => e = .returned (.tuple #[.int .i64 (unzig (tkN s)), .string (tkR s), .int .i64 (tkE s : Int)]) ∧ Below w.heap.size w w' from rfl)
  rw [HP.out]
  clear HP
  generalize tkN s = n at *
  generalize tkR s = R at *
  generalize tkE s = E at *
  by_cases hE : E = 0
  · subst hE
    clear ER
    by_cases ho : n % 2 = 1
    · have h1 : (n : Int) % 2 = 1 := by omega
      have HU := Lib.hid (unzig_odd ho)
      go_enter Tryd.func45, Tryd.ntmps45
      go_wp2_with (go_at_call 43; refine (CT.out _).mono ?_; rintro e w1 ⟨rfl, hb⟩)
      go_ret3
      refine ⟨ret_ise ?_ rfl rfl, hb⟩
      rw [HU.out]
    · have h1 : ¬ (n : Int) % 2 = 1 := by omega
      have HU := Lib.hid (unzig_even ho)
      go_enter Tryd.func45, Tryd.ntmps45
      go_wp2_with (go_at_call 43; refine (CT.out _).mono ?_; rintro e w1 ⟨rfl, hb⟩)
      go_ret3
      exact ⟨ret_ise HU.out.symm rfl rfl, hb⟩
  · obtain ⟨rfl, rfl⟩ := ER.out hE
    have hE' : ¬ (E : Int) = 0 := by omega
    clear ER
    go_enter Tryd.func45, Tryd.ntmps45
    go_wp2_with (go_at_call 43; refine (CT.out _).mono ?_; rintro e w1 ⟨rfl, hb⟩)
    go_ret3
    exact ⟨ret_ise rfl rfl rfl, hb⟩

set_option maxHeartbeats 4000000 in
theorem dtaketext_any (s : ByteArray) (hs : s.size ≤ 4611686018427387903) (most : Int) (w : World) : Calls Tryd.prog 44 #[.string s, .int .i64 most] w (TextPost s most w) := by
  have CT := Lib.hid (fun w => dtake_any s hs w)
  have hn := tkN_lt s
  have hR := tkR_size s
  have HE := Lib.hid (tt_err (s := s) (most := most))
  have HM := Lib.hid (tt_most (s := s) (most := most))
  have HD := Lib.hid (tt_end (s := s) (most := most))
  have HG := Lib.hid (tt_good (s := s) (most := most))
  have CT2 := Lib.hid (show ∀ w, Calls Tryd.prog 43 #[.string s] w fun e w' => e = .returned (.tuple #[.int .i64 (tkN s : Int), .string (tkR s), .int .i64 (tkE s : Int)]) ∧ Below w.heap.size w w' from CT.out)
  clear CT
  generalize tkN s = n at *
  generalize tkR s = R at *
  generalize tkE s = E at *
  by_cases hE : E = 0
  · subst hE
    by_cases h2 : most < n
    · have TT := Lib.hid (HM.out rfl h2)
      clear HE HM HD HG
      go_enter Tryd.func44, Tryd.ntmps44
      go_wp2_with (go_at_call 43; refine (CT2.out _).mono ?_; rintro e w1 ⟨rfl, hb⟩)
      go_ret3
      exact ⟨ret_sse TT.out.1.symm TT.out.2.1.symm (by rw [TT.out.2.2]; rfl), hb⟩
    · by_cases h3 : R.size < n
      · have TT := Lib.hid (HD.out rfl h2 h3)
        clear HE HM HD HG
        have h3' : (R.size : Int) < (n : Int) := by omega
        go_enter Tryd.func44, Tryd.ntmps44
        go_wp2_with (go_at_call 43; refine (CT2.out _).mono ?_; rintro e w1 ⟨rfl, hb⟩)
        go_ret3
        exact ⟨ret_sse TT.out.1.symm TT.out.2.1.symm (by rw [TT.out.2.2]; rfl), hb⟩
      · have TT := Lib.hid (HG.out rfl h2 h3)
        clear HE HM HD HG
        have h3' : ¬ (R.size : Int) < (n : Int) := by omega
        have h4 : (n : Int) ≤ (R.size : Int) := by omega
        go_enter Tryd.func44, Tryd.ntmps44
        go_wp2_with (go_at_call 43; refine (CT2.out _).mono ?_; rintro e w1 ⟨rfl, hb⟩)
        go_quiet (fail)
        go_wp2_with fail
        go_ret3
        exact ⟨ret_sse TT.out.1.symm TT.out.2.1.symm (by rw [TT.out.2.2]; rfl), belowN hb _⟩
  · have TT := Lib.hid (HE.out hE)
    have hE' : ¬ (E : Int) = 0 := by omega
    clear HE HM HD HG
    go_enter Tryd.func44, Tryd.ntmps44
    go_wp2_with (go_at_call 43; refine (CT2.out _).mono ?_; rintro e w1 ⟨rfl, hb⟩)
    go_ret3
    exact ⟨ret_sse TT.out.1.symm TT.out.2.1.symm (by rw [TT.out.2.2]), hb⟩

end Go.Proofs.YtmieonfdenjedaaDoor

/-
  The document's Take of fields.
-/
namespace Go.Proofs.YtmieonfdenjedaaDoor
open Go.RowKit

theorem ttR_sizeF (s : ByteArray) (most : Int) : (ttR s most).size ≤ s.size := by
  have hR := tkR_size s
  unfold ttR tt
  split
  · exact Nat.zero_le _
  · split
    · exact Nat.zero_le _
    · split
      · exact Nat.zero_le _
      · show ((tkR s).extract _ _).size ≤ _
        rw [ByteArray.size_extract]; omega
theorem ttS_sizeF (s : ByteArray) (most : Int) : (ttS s most).size ≤ s.size := by
  have hR := tkR_size s
  unfold ttS tt
  split
  · exact Nat.zero_le _
  · split
    · exact Nat.zero_le _
    · split
      · exact Nat.zero_le _
      · show ((tkR s).extract _ _).size ≤ _
        rw [ByteArray.size_extract]; omega
theorem abstract_worldT {P : Program} {code : Code} {Q : Exit → Act → World → Prop} {a : Act} {w : World} (R : World → Prop) (h0 : R w) (h : ∀ W, R W → Code.wp P code Q a W) : Code.wp P code Q a w := h w h0
theorem ret_lse {u : Value} {s t : ByteArray} {a b : Int} (h : s = t) (k : a = b) : Ending.returned (.tuple #[u, .string s, .int .i64 a]) = .returned (.tuple #[u, .string t, .int .i64 b]) := by rw [h, k]
/-- The name ahead of the place k. -/
def AheadOf (acc : List Fd) (k : Nat) (o : Option ByteArray) : Prop := (k = 0 ∧ o = none) ∨ ∃ j p, k = j + 1 ∧ acc[j]? = some p ∧ o = some p.n
/-- What Take answers. -/
def TakeFPost (s : ByteArray) (w : World) (e : Ending) (w' : World) : Prop := ∃ u, e = .returned (.tuple #[u, .string (takeF s).2.1, .int .i64 (((takeF s).2.2 : Nat) : Int)]) ∧ ListF w' u (takeF s).1 ∧ Below w.heap.size w w'
theorem takeF_end {s : ByteArray} {w w' : World} {u : Value} {l : List Fd} {r : ByteArray} {e : Nat} (h : takeF s = (l, r, e)) (hl : ListF w' u l) (hb : Below w.heap.size w w') : TakeFPost s w (.returned (.tuple #[u, .string r, .int .i64 (e : Int)])) w' :=
  ⟨u, by rw [h], by rw [h]; exact hl, hb⟩

set_option maxHeartbeats 4000000 in
set_option maxRecDepth 10000 in
theorem dtakef_any (s : ByteArray) (hs : s.size ≤ 4611686018427387903) (w : World) : Calls Tryd.prog 46 #[.string s] w (TakeFPost s w) := by
  have CN := Lib.hid (show Calls Tryd.prog 43 #[.string s] w fun e w' => e = .returned (.tuple #[.int .i64 (tkN s : Int), .string (tkR s), .int .i64 (tkE s : Int)]) ∧ Below w.heap.size w w' from dtake_any s hs w)
  have HZ := Lib.hid (tkR_size s)
  by_cases h0 : tkE s = 0
  · rw [h0] at CN
    by_cases h8 : 8 < tkN s
    · have HE := Lib.hid (show takeF s = ([], ⟨#[]⟩, 4) by unfold takeF; rw [if_neg (by omega), if_pos h8])
      have h8' : (8 : Int) < (tkN s : Int) := by omega
      generalize tkN s = n at *
      clear h0
      go_enter Tryd.func46, Tryd.ntmps46
      go_wp2_with (go_at_call 43; (with_reducible refine CN.out.mono ?_); rintro e w1 ⟨rfl, hb1⟩)
      go_ret3
      exact takeF_end HE.out (ListF.nil _) hb1
    · have HE := Lib.hid (show takeF s = goOn [] (takeG (tkN s) none (tkR s)) by
        rw [goOn_start _ (fun h => takeG_err h)]
        unfold takeF; rw [if_neg (by omega), if_neg h8])
      have h8' : ¬ (8 : Int) < (tkN s : Int) := by omega
      generalize tkN s = n at *
      obtain ⟨S0, hS0⟩ : ∃ S0, tkR s = S0 := ⟨_, rfl⟩
      rw [hS0] at CN HE HZ
      clear h0 hS0
      go_enter Tryd.func46, Tryd.ntmps46
      go_wp2_with (go_at_call 43; (with_reducible refine CN.out.mono ?_); rintro e w1 ⟨rfl, hb1⟩)
      have HB1 := Lib.hid hb1
      clear hb1
      go_loopw [0, 6, 7, 8] (fun a ee o i wr => ∃ (k : Nat) (S : ByteArray) (acc : List Fd) (pr : Option ByteArray), k ≤ n ∧ i = .int .i64 k ∧ a = .string S ∧ acc.length = k ∧ S.size ≤ 4611686018427387903 ∧ takeF s = goOn acc (takeG (n - k) pr S) ∧ AheadOf acc k pr ∧ OF w acc o wr) (fun _ _ _ i _ => n - (intOf i).toNat)
      case atStart => exact ⟨0, S0, [], none, Nat.zero_le _, rfl, rfl, rfl, by have := HZ.out; omega, HE.out, .inl ⟨rfl, rfl⟩, (OF.nil w).below HB1.out⟩
      case round =>
        obtain ⟨k, S, acc, pr, hk, rfl, rfl, hacc, hS, hT, hP, hO⟩ := hrel
        have HACC := Lib.hid hacc
        have HT := Lib.hid hT
        have HP := Lib.hid hP
        have HO := Lib.hid hO
        clear hacc hT hP hO
        by_cases hlt : k < n
        · have hlt' : (k : Int) < (n : Int) := by omega
          obtain ⟨m, hm⟩ : ∃ m, n - k = m + 1 := ⟨n - k - 1, by omega⟩
          rw [hm] at HT
          have HM := Lib.hid hm
          have CT := Lib.hid (show ∀ w, Calls Tryd.prog 44 #[.string S, .int .i64 12] w fun e w' => e = .returned (.tuple #[.string (ttS S 12), .string (ttR S 12), .int .i64 (ttE S 12 : Int)]) ∧ Below w.heap.size w w' from fun w => dtaketext_any S hS 12 w)
          have HZ2 := Lib.hid (ttR_sizeF S 12)
          have HZ1 := Lib.hid (show (ttS S 12).size ≤ 9223372036854775807 by have := ttS_sizeF S 12; omega)
          have GT := Lib.hid (fun h => goOn_text (acc := acc) (n := m) (o := pr) (s := S) h)
          have GF := Lib.hid (fun h h2 => goOn_form (acc := acc) (n := m) (o := pr) (s := S) h h2)
          have GI := Lib.hid (fun h h2 h3 => goOn_int (acc := acc) (n := m) (o := pr) (s := S) h h2 h3)
          have GN := Lib.hid (fun h h2 h3 => goOn_next (acc := acc) (n := m) (o := pr) (s := S) h h2 h3)
          generalize ttS S 12 = nm at *
          generalize ttR S 12 = S2 at *
          generalize ttE S 12 = tE at *
          clear hm
          obtain ⟨b, hb⟩ : ∃ b, wr.heap.size = b := ⟨_, rfl⟩
          have HBK := Lib.hid hb
          go_upto_region 12 with (go_at_call 44; (with_reducible refine (CT.out _).mono ?_); rintro e w2 ⟨rfl, hb2⟩; have HW2 := Lib.hid (FW.start (x := ⟨⟨#[]⟩, 0⟩) HO.out hb2); clear hb2; rw [HBK.out] at HW2; have x0 := HW2.out.c0; have y0 := HW2.out.f0)
          refine abstract_worldT (fun W => FW w acc u7 b ⟨nm, 0⟩ W) (HW2.out.set0 nm) ?_
          intro W hW
          have HW := Lib.hid hW
          clear hW x0 y0
          by_cases ht : tE = 0
          · subst ht
            have CNM := Lib.hid (fun w => dname_any nm HZ1.out w)
            have x0 := HW.out.c0
            obtain ⟨A, c, hu, hFa, hce, hne⟩ := HW.out.of.list
            rw [HACC.out] at hu
            subst hu
            cases hnm : nameB nm with
            | false =>
              have hbe : behindB pr nm = false := by cases pr <;> simp [behindB, hnm]
              rw [hnm] at CNM
              clear hnm hFa hce hne
              have HX := Lib.hid (show takeF s = ([], ⟨#[]⟩, 8) by rw [HT.out, GF.out rfl hbe])
              clear hbe
              go_wp2_with fail
              go_quiet (first | (go_at_call 71; exact (CNM.out _).mono fun e w' h => ⟨h.1, _, h.2⟩))
              go_wp2_with fail
              go_ret3
              exact takeF_end HX.out (ListF.nil _) (belowN HW.out.of.bel _)
            | true =>
              rw [hnm] at CNM
              rcases HP.out with ⟨hk0, hpr⟩ | ⟨j, p, hkj, hp, hpr⟩
              · have hbe : behindB pr nm = true := by rw [hpr, behindB, hnm]
                have kp : ¬ 0 < k := by omega
                have kq : decide (0 < k) = false := by rw [decide_eq_false_iff_not]; exact kp
                clear hnm hFa hce hne hk0 hpr
                have CI := Lib.hid (show ∀ w, Calls Tryd.prog 45 #[.string S2] w fun e w' => e = .returned (.tuple #[.int .i64 (unzig (tkN S2)), .string (tkR S2), .int .i64 (tkE S2 : Int)]) ∧ Below w.heap.size w w' from fun w => dtakeint_any S2 (by have := HZ2.out; omega) w)
                have GI2 := Lib.hid (fun h => (HT.out.trans (GI.out rfl hbe h)))
                have GN2 := Lib.hid (fun h => (HT.out.trans (GN.out rfl hbe h)))
                have HZ3 := Lib.hid (tkR_size S2)
                clear GI GN GF GT hbe
                generalize unzig (tkN S2) = vv at *
                generalize tkR S2 = S3 at *
                generalize tkE S2 = iE at *
                go_wp2_with fail
                go_quiet (first | (go_at_call 71; exact (CNM.out _).mono fun e w' h => ⟨h.1, _, h.2⟩))
                go_upto_region 17 with (go_at_call 45; (with_reducible refine (CI.out _).mono ?_); rintro e w3 ⟨rfl, hb3⟩; have HW3 := Lib.hid ((HW.out.drewN _).below hb3); clear hb3; have x1 := HW3.out.c1; have y1 := HW3.out.f1)
                refine abstract_worldT (fun W => FW w acc (.slice A k c) b ⟨nm, vv⟩ W) (HW3.out.set1 vv) ?_
                intro V hV
                have HV := Lib.hid hV
                clear hV x1 y1
                by_cases hi : iE = 0
                · subst hi
                  have HX := Lib.hid (GN2.out rfl)
                  have z0 := HV.out.c0
                  have z1 := HV.out.c1
                  go_wp2_with (first
                    | (at_builtin; refine wpList_appF rfl (.tmp 66) (.tmp 68) rfl (base := w.heap.size) rfl (World.ownsRow.alloc HV.out.of.own _) rfl rfl (field_one V ⟨nm, vv⟩ _) (by simp) (by have := HACC.out; simp; omega) (by have := HV.out.of.bel.size; simp; omega) ?_; intro v2 w4 hown4 hg4; have HO4 := Lib.hid ((HV.out.of.below ((bl V).alloc (Nat.le_refl _) _)).grown hg4 hown4)))
                  exact ⟨⟨k + 1, S3, _, some nm, by omega, by go_num, rfl, by rw [List.length_append, HACC.out]; rfl, by have := HZ2.out; have := HZ3.out; omega, by rw [HX.out, show n - (k + 1) = m by have := HM.out; omega], .inr ⟨k, ⟨nm, vv⟩, rfl, by rw [← HACC.out]; simp, rfl⟩, HO4.out⟩, by simp [intOf] <;> omega⟩
                · have hi' : ¬ (iE : Int) = 0 := by omega
                  have HX := Lib.hid (GI2.out hi)
                  go_wp2_with fail
                  go_ret3
                  exact takeF_end HX.out (ListF.nil _) HV.out.of.bel
              · obtain ⟨g, off, rfl, b0, _⟩ := hFa j p hp
                have w1 : IntKind.i64.wrap ((k : Int) - 1) = (j : Int) := by rw [IntKind.wrap_i64]; omega
                have kp : 0 < k := by omega
                have kq : decide (0 < k) = true := by rw [decide_eq_true_eq]; exact kp
                have jn : (j : Int) < (k : Int) := by omega
                have e1 := less_nats p.n nm
                clear hkj hp hce hne hFa
                cases ha : aheadB p.n nm with
                | false =>
                  have hbe : behindB pr nm = false := by rw [hpr, behindB, hnm, ha]; rfl
                  rw [show lessN (nats p.n) (nats nm) = false from ha] at e1
                  clear hnm ha hpr
                  have HX := Lib.hid (show takeF s = ([], ⟨#[]⟩, 8) by rw [HT.out, GF.out rfl hbe])
                  clear hbe
                  go_wp2_with fail
                  go_quiet (first | (go_at_call 71; exact (CNM.out _).mono fun e w' h => ⟨h.1, _, h.2⟩))
                  go_wp2_with fail
                  go_ret3
                  exact takeF_end HX.out (ListF.nil _) (belowN HW.out.of.bel _)
                | true =>
                  have hbe : behindB pr nm = true := by rw [hpr, behindB, hnm, ha]; rfl
                  rw [show lessN (nats p.n) (nats nm) = true from ha] at e1
                  clear hnm ha hpr
                  have CI := Lib.hid (show ∀ w, Calls Tryd.prog 45 #[.string S2] w fun e w' => e = .returned (.tuple #[.int .i64 (unzig (tkN S2)), .string (tkR S2), .int .i64 (tkE S2 : Int)]) ∧ Below w.heap.size w w' from fun w => dtakeint_any S2 (by have := HZ2.out; omega) w)
                  have GI2 := Lib.hid (fun h => (HT.out.trans (GI.out rfl hbe h)))
                  have GN2 := Lib.hid (fun h => (HT.out.trans (GN.out rfl hbe h)))
                  have HZ3 := Lib.hid (tkR_size S2)
                  clear GI GN GF GT hbe
                  generalize unzig (tkN S2) = vv at *
                  generalize tkR S2 = S3 at *
                  generalize tkE S2 = iE at *
                  go_wp2_with fail
                  go_quiet (first | (go_at_call 71; exact (CNM.out _).mono fun e w' h => ⟨h.1, _, h.2⟩))
                  go_upto_region 17 with (go_at_call 45; (with_reducible refine (CI.out _).mono ?_); rintro e w3 ⟨rfl, hb3⟩; have HW3 := Lib.hid ((HW.out.drewN _).below hb3); clear hb3; have x1 := HW3.out.c1; have y1 := HW3.out.f1)
                  refine abstract_worldT (fun W => FW w acc (.slice (some ⟨g, off, none⟩) k c) b ⟨nm, vv⟩ W) (HW3.out.set1 vv) ?_
                  intro V hV
                  have HV := Lib.hid hV
                  clear hV x1 y1
                  by_cases hi : iE = 0
                  · subst hi
                    have HX := Lib.hid (GN2.out rfl)
                    have z0 := HV.out.c0
                    have z1 := HV.out.c1
                    go_wp2_with (first
                      | (at_builtin; refine wpList_appF rfl (.tmp 66) (.tmp 68) rfl (base := w.heap.size) rfl (World.ownsRow.alloc HV.out.of.own _) rfl rfl (field_one V ⟨nm, vv⟩ _) (by simp) (by have := HACC.out; simp; omega) (by have := HV.out.of.bel.size; simp; omega) ?_; intro v2 w4 hown4 hg4; have HO4 := Lib.hid ((HV.out.of.below ((bl V).alloc (Nat.le_refl _) _)).grown hg4 hown4)))
                    exact ⟨⟨k + 1, S3, _, some nm, by omega, by go_num, rfl, by rw [List.length_append, HACC.out]; rfl, by have := HZ2.out; have := HZ3.out; omega, by rw [HX.out, show n - (k + 1) = m by have := HM.out; omega], .inr ⟨k, ⟨nm, vv⟩, rfl, by rw [← HACC.out]; simp, rfl⟩, HO4.out⟩, by simp [intOf] <;> omega⟩
                  · have hi' : ¬ (iE : Int) = 0 := by omega
                    have HX := Lib.hid (GI2.out hi)
                    go_wp2_with fail
                    go_ret3
                    exact takeF_end HX.out (ListF.nil _) HV.out.of.bel
          · have ht' : ¬ (tE : Int) = 0 := by omega
            have HX := Lib.hid (show takeF s = ([], ⟨#[]⟩, tE) by rw [HT.out, GT.out ht])
            go_wp2_with fail
            go_ret3
            exact takeF_end HX.out (ListF.nil _) HW.out.of.bel
        · obtain rfl : k = n := by omega
          have hlt' : ¬ (k : Int) < (k : Int) := by omega
          have HX := Lib.hid (show takeF s = (acc, S, 0) by rw [HT.out, Nat.sub_self, goOn_end])
          go_wp2_with fail
          go_ret3
          exact takeF_end HX.out HO.out.list HO.out.bel
  · have HE := Lib.hid (show takeF s = ([], ⟨#[]⟩, tkE s) by unfold takeF; rw [if_pos h0])
    have h0' : ¬ (tkE s : Int) = 0 := by omega
    generalize tkE s = z at *
    clear h0
    go_enter Tryd.func46, Tryd.ntmps46
    go_wp2_with (go_at_call 43; (with_reducible refine CN.out.mono ?_); rintro e w1 ⟨rfl, hb1⟩)
    go_ret3
    exact takeF_end HE.out (ListF.nil _) hb1

end Go.Proofs.YtmieonfdenjedaaDoor

/-
  The program's takeOne and Take: the fields that bytes begin with.
-/
namespace Go.Proofs.YtmieonfdenjedaaDoor
open Go.RowKit

theorem two_setF {w : World} {b : Nat} {u0 u1 : Value} (x y : Value) (h0 : w.cell? ⟨b, 0, none⟩ = some u0) (h1 : w.cell? ⟨b, 1, none⟩ = some u1) :
    ((w.setCell ⟨b, 0, none⟩ x).setCell ⟨b, 1, none⟩ y).cell? ⟨b, 0, none⟩ = some x ∧ ((w.setCell ⟨b, 0, none⟩ x).setCell ⟨b, 1, none⟩ y).cell? ⟨b, 1, none⟩ = some y := by
  have a1 := (World.cell?_setCell_other w ⟨b, 0, none⟩ ⟨b, 1, none⟩ x (by simp)).trans h1
  exact ⟨(World.cell?_setCell_other _ _ _ _ (by simp)).trans (World.cell?_setCell_same _ _ _ h0), World.cell?_setCell_same _ _ _ a1⟩
theorem keep2F {w w2 : World} {T : TypeId} {u0 u1 : Value} (hb2 : Below (w.alloc (.cells #[u0, u1] T)).heap.size (w.alloc (.cells #[u0, u1] T)) w2) :
    (w2.cell? ⟨w.heap.size, 0, none⟩ = some u0 ∧ w2.cell? ⟨w.heap.size, 1, none⟩ = some u1) ∧ (w2.frozen? ⟨w.heap.size, 0, none⟩ = false ∧ w2.frozen? ⟨w.heap.size, 1, none⟩ = false) ∧ Below w.heap.size w w2 :=
  ⟨⟨keepc hb2 (by simp [go_sem]), keepc hb2 (by simp [go_sem])⟩, ⟨(hb2.frozen (p := ⟨w.heap.size, 0, none⟩) (by simp)).trans (by simp [go_sem]), (hb2.frozen (p := ⟨w.heap.size, 1, none⟩) (by simp)).trans (by simp [go_sem])⟩, ((bl w).alloc (Nat.le_refl _) _).trans (hb2.mono (by simp))⟩
theorem stay2F {w w2 w3 : World} {b : Nat} {u0 u1 : Value} (h : (w2.cell? ⟨b, 0, none⟩ = some u0 ∧ w2.cell? ⟨b, 1, none⟩ = some u1) ∧ (w2.frozen? ⟨b, 0, none⟩ = false ∧ w2.frozen? ⟨b, 1, none⟩ = false) ∧ Below w.heap.size w w2) (hb : Below w2.heap.size w2 w3) :
    (w3.cell? ⟨b, 0, none⟩ = some u0 ∧ w3.cell? ⟨b, 1, none⟩ = some u1) ∧ (w3.frozen? ⟨b, 0, none⟩ = false ∧ w3.frozen? ⟨b, 1, none⟩ = false) ∧ Below w.heap.size w w3 := by
  obtain ⟨⟨c0, c1⟩, ⟨f0, f1⟩, h2⟩ := h
  have hl := lt_of_cell c0
  exact ⟨⟨keepc hb c0, keepc hb c1⟩, ⟨(hb.frozen (p := ⟨b, 0, none⟩) hl).trans f0, (hb.frozen (p := ⟨b, 1, none⟩) hl).trans f1⟩, chain h2 hb⟩

/-- A field's block of the call's own, behind an append to another one. -/
theorem stay_oc {w2 w3 : World} {nm : ByteArray} {vv : Int} {v : Value} {T1 T2 : TypeId} (hg3 : ((w2.alloc (.cells #[.string nm, .int .i64 vv] T1)).alloc (.cells #[.string nm, .int .i64 vv] T2)).grownBy w3 v.ownBlock) (hne : v.ownBlock ≠ some w2.heap.size) : w3.cell? ⟨w2.heap.size, 0, none⟩ = some (.string nm) :=
  hg3.cell (a := ⟨w2.heap.size, 0, none⟩) (by simp [go_sem]) (fun e => hne e.symm)

/-- The field that s begins with, behind a name. -/
def oneT (p s : ByteArray) : Fd × ByteArray × Nat :=
  if ttE s 12 ≠ 0 then (⟨⟨#[]⟩, 0⟩, ⟨#[]⟩, ttE s 12)
  else if (nameB (ttS s 12) && aheadB p (ttS s 12)) = false then (⟨⟨#[]⟩, 0⟩, ⟨#[]⟩, 8)
  else if tkE (ttR s 12) ≠ 0 then (⟨⟨#[]⟩, 0⟩, ⟨#[]⟩, tkE (ttR s 12))
  else (⟨ttS s 12, unzig (tkN (ttR s 12))⟩, tkR (ttR s 12), 0)
def OnePost (p s : ByteArray) (w : World) (e : Ending) (w' : World) : Prop :=
  e = .returned (.tuple #[fv (oneT p s).1, .string (oneT p s).2.1, .int .i64 (((oneT p s).2.2 : Nat) : Int)]) ∧ Below w.heap.size w w'
theorem oneT_text {p s : ByteArray} (h : ttE s 12 ≠ 0) : oneT p s = (⟨⟨#[]⟩, 0⟩, ⟨#[]⟩, ttE s 12) := by unfold oneT; rw [if_pos h]
theorem oneT_form {p s : ByteArray} (h : ttE s 12 = 0) (h2 : (nameB (ttS s 12) && aheadB p (ttS s 12)) = false) : oneT p s = (⟨⟨#[]⟩, 0⟩, ⟨#[]⟩, 8) := by unfold oneT; rw [if_neg (by omega), if_pos h2]
theorem oneT_int {p s : ByteArray} (h : ttE s 12 = 0) (h2 : (nameB (ttS s 12) && aheadB p (ttS s 12)) = true) (h3 : tkE (ttR s 12) ≠ 0) : oneT p s = (⟨⟨#[]⟩, 0⟩, ⟨#[]⟩, tkE (ttR s 12)) := by
  unfold oneT; rw [if_neg (by omega), if_neg (by rw [h2]; simp), if_pos h3]
theorem oneT_good {p s : ByteArray} (h : ttE s 12 = 0) (h2 : (nameB (ttS s 12) && aheadB p (ttS s 12)) = true) (h3 : tkE (ttR s 12) = 0) : oneT p s = (⟨ttS s 12, unzig (tkN (ttR s 12))⟩, tkR (ttR s 12), 0) := by
  unfold oneT; rw [if_neg (by omega), if_neg (by rw [h2]; simp), if_neg (by omega)]

set_option maxHeartbeats 4000000 in
set_option maxRecDepth 100000 in
theorem takeOne_any (s p : ByteArray) (hs : s.size ≤ 4611686018427387903) (w : World) : Calls Tryd.prog 78 #[.string s, .string p] w (OnePost p s w) := by
  have CT := Lib.hid (show ∀ w, Calls Tryd.prog 77 #[.string s, .int .i64 12] w fun e w' => e = .returned (.tuple #[.string (ttS s 12), .string (ttR s 12), .int .i64 (ttE s 12 : Int)]) ∧ Below w.heap.size w w' from fun w => taketext_any s hs 12 w)
  have HZ2 := Lib.hid (ttR_sizeF s 12)
  have HZ1 := Lib.hid (show (ttS s 12).size ≤ 9223372036854775807 by have := ttS_sizeF s 12; omega)
  have OT := Lib.hid (fun h => oneT_text (p := p) (s := s) h)
  have OF1 := Lib.hid (fun h h2 => oneT_form (p := p) (s := s) h h2)
  have OI1 := Lib.hid (fun h h2 h3 => oneT_int (p := p) (s := s) h h2 h3)
  have OG := Lib.hid (fun h h2 h3 => oneT_good (p := p) (s := s) h h2 h3)
  unfold OnePost
  generalize oneT p s = t at *
  generalize ttS s 12 = nm at *
  generalize ttR s 12 = S2 at *
  generalize ttE s 12 = tE at *
  by_cases ht : tE = 0
  · subst ht
    have CNM := Lib.hid (fun w => pname_same nm HZ1.out w)
    cases hnm : nameB nm with
    | false =>
      rw [hnm] at CNM
      have HX := Lib.hid (OF1.out rfl (by rw [hnm]; rfl))
      clear hnm
      go_enter Tryd.func78, Tryd.ntmps78
      go_wp2_with (first
        | (go_at_call 77; (with_reducible refine (CT.out _).mono ?_); rintro e w2 ⟨rfl, hb2⟩; obtain ⟨⟨k0, k1⟩, ⟨f0, f1⟩, hb3⟩ := keep2F hb2; clear hb2)
        | (go_at_call 81; (with_reducible refine (CNM.out _).mono ?_); rintro e w3 ⟨rfl, hw3⟩; obtain rfl := hw3.symm))
      obtain ⟨q0, q1⟩ := two_setF (.string ⟨#[]⟩) (.int .i64 0) k0 k1
      refine bodyPost_ret (v := .tuple #[fv ⟨⟨#[]⟩, 0⟩, .string ⟨#[]⟩, .int .i64 8]) (by simp [results, Tryd.results78, go_sem, q0, q1]) rfl ⟨by rw [HX.out]; rfl, ?_⟩
      exact (hb3.setCell (Nat.le_refl _) _).setCell (Nat.le_refl _) _
    | true =>
      rw [hnm] at CNM
      cases ha : aheadB p nm with
      | false =>
        have HX := Lib.hid (OF1.out rfl (by rw [ha, Bool.and_false]))
        obtain ⟨e1, e2⟩ | ⟨e1, e2⟩ := leq_true ha
        all_goals
          clear hnm ha
          go_enter Tryd.func78, Tryd.ntmps78
          go_wp2_with (first
            | (go_at_call 77; (with_reducible refine (CT.out _).mono ?_); rintro e w2 ⟨rfl, hb2⟩; obtain ⟨⟨k0, k1⟩, ⟨f0, f1⟩, hb3⟩ := keep2F hb2; clear hb2)
            | (go_at_call 81; (with_reducible refine (CNM.out _).mono ?_); rintro e w3 ⟨rfl, hw3⟩; obtain rfl := hw3.symm))
          obtain ⟨q0, q1⟩ := two_setF (.string ⟨#[]⟩) (.int .i64 0) k0 k1
          refine bodyPost_ret (v := .tuple #[fv ⟨⟨#[]⟩, 0⟩, .string ⟨#[]⟩, .int .i64 8]) (by simp [results, Tryd.results78, go_sem, q0, q1]) rfl ⟨by rw [HX.out]; rfl, ?_⟩
          exact (hb3.setCell (Nat.le_refl _) _).setCell (Nat.le_refl _) _
      | true =>
        have hbe : (nameB nm && aheadB p nm) = true := by rw [hnm, ha]; rfl
        have CI := Lib.hid (show ∀ w, Calls Tryd.prog 67 #[.string S2] w fun e w' => e = .returned (.tuple #[.int .i64 (unzig (tkN S2)), .string (tkR S2), .int .i64 (tkE S2 : Int)]) ∧ Below w.heap.size w w' from fun w => takeint_any S2 (by have := HZ2.out; omega) w)
        have OI2 := Lib.hid (fun h => OI1.out rfl hbe h)
        have OG2 := Lib.hid (fun h => OG.out rfl hbe h)
        obtain ⟨e1, e2⟩ := leq_false ha
        clear hnm ha hbe OI1 OG OT OF1
        generalize unzig (tkN S2) = vv at *
        generalize tkR S2 = S3 at *
        generalize tkE S2 = iE at *
        by_cases hi : iE = 0
        · have HX := Lib.hid (OG2.out hi)
          subst hi
          go_enter Tryd.func78, Tryd.ntmps78
          go_wp2_with (first
            | (go_at_call 77; (with_reducible refine (CT.out _).mono ?_); rintro e w2 ⟨rfl, hb2⟩; have K2 := Lib.hid (keep2F hb2); clear hb2)
            | (go_at_call 81; (with_reducible refine (CNM.out _).mono ?_); rintro e w3 ⟨rfl, hw3⟩; obtain rfl := hw3.symm)
            | (go_at_call 67; (with_reducible refine (CI.out _).mono ?_); rintro e w4 ⟨rfl, hb4⟩; obtain ⟨⟨k0, k1⟩, ⟨f0, f1⟩, hb3⟩ := stay2F K2.out hb4; clear hb4))
          obtain ⟨q0, q1⟩ := two_setF (.string nm) (.int .i64 vv) k0 k1
          refine bodyPost_ret (v := .tuple #[fv ⟨nm, vv⟩, .string S3, .int .i64 0]) (by simp [results, Tryd.results78, go_sem, q0, q1]) rfl ⟨by rw [HX.out]; rfl, ?_⟩
          exact (hb3.setCell (Nat.le_refl _) _).setCell (Nat.le_refl _) _
        · have HX := Lib.hid (OI2.out hi)
          have hi' : ¬ (iE : Int) = 0 := by omega
          go_enter Tryd.func78, Tryd.ntmps78
          go_wp2_with (first
            | (go_at_call 77; (with_reducible refine (CT.out _).mono ?_); rintro e w2 ⟨rfl, hb2⟩; have K2 := Lib.hid (keep2F hb2); clear hb2)
            | (go_at_call 81; (with_reducible refine (CNM.out _).mono ?_); rintro e w3 ⟨rfl, hw3⟩; obtain rfl := hw3.symm)
            | (go_at_call 67; (with_reducible refine (CI.out _).mono ?_); rintro e w4 ⟨rfl, hb4⟩; obtain ⟨⟨k0, k1⟩, ⟨f0, f1⟩, hb3⟩ := stay2F K2.out hb4; clear hb4))
          obtain ⟨q0, q1⟩ := two_setF (.string ⟨#[]⟩) (.int .i64 0) k0 k1
          refine bodyPost_ret (v := .tuple #[fv ⟨⟨#[]⟩, 0⟩, .string ⟨#[]⟩, .int .i64 (iE : Int)]) (by simp [results, Tryd.results78, go_sem, q0, q1]) rfl ⟨by rw [HX.out], ?_⟩
          exact (hb3.setCell (Nat.le_refl _) _).setCell (Nat.le_refl _) _
  · have HX := Lib.hid (OT.out ht)
    have ht' : ¬ (tE : Int) = 0 := by omega
    go_enter Tryd.func78, Tryd.ntmps78
    go_wp2_with (first
      | (go_at_call 77; (with_reducible refine (CT.out _).mono ?_); rintro e w2 ⟨rfl, hb2⟩; obtain ⟨⟨k0, k1⟩, ⟨f0, f1⟩, hb3⟩ := keep2F hb2; clear hb2))
    obtain ⟨q0, q1⟩ := two_setF (.string ⟨#[]⟩) (.int .i64 0) k0 k1
    refine bodyPost_ret (v := .tuple #[fv ⟨⟨#[]⟩, 0⟩, .string ⟨#[]⟩, .int .i64 (tE : Int)]) (by simp [results, Tryd.results78, go_sem, q0, q1]) rfl ⟨by rw [HX.out], ?_⟩
    exact (hb3.setCell (Nat.le_refl _) _).setCell (Nat.le_refl _) _
theorem behind_ahead (o : Option ByteArray) (s : ByteArray) : behindB o s = (nameB s && aheadB (aheadS o) s) := by
  cases o with
  | some p => rfl
  | none =>
    show nameB s = (nameB s && aheadB ⟨#[]⟩ s)
    cases h : nameB s with
    | false => rfl
    | true => rw [name_pos h]; rfl
/-- One field more is taken, or none. -/
theorem oneT_go (acc : List Fd) (m : Nat) (o : Option ByteArray) (S : ByteArray) :
    ((oneT (aheadS o) S).2.2 ≠ 0 ∧ goOn acc (takeG (m + 1) o S) = ([], ⟨#[]⟩, (oneT (aheadS o) S).2.2)) ∨
    ((oneT (aheadS o) S).2.2 = 0 ∧ (oneT (aheadS o) S).2.1.size ≤ S.size ∧ goOn acc (takeG (m + 1) o S) = goOn (acc ++ [(oneT (aheadS o) S).1]) (takeG m (some (oneT (aheadS o) S).1.n) (oneT (aheadS o) S).2.1)) := by
  by_cases h1 : ttE S 12 = 0
  · cases hb : behindB o (ttS S 12) with
    | false =>
      left
      rw [oneT_form h1 (by rw [← behind_ahead]; exact hb)]
      exact ⟨by decide, goOn_form h1 hb⟩
    | true =>
      by_cases h3 : tkE (ttR S 12) = 0
      · right
        rw [oneT_good h1 (by rw [← behind_ahead]; exact hb) h3]
        exact ⟨rfl, Nat.le_trans (tkR_size _) (ttR_sizeF S 12), goOn_next h1 hb h3⟩
      · left
        rw [oneT_int h1 (by rw [← behind_ahead]; exact hb) h3]
        exact ⟨h3, goOn_int h1 hb h3⟩
  · left
    rw [oneT_text h1]
    exact ⟨h1, goOn_text h1⟩

set_option maxHeartbeats 4000000 in
set_option maxRecDepth 100000 in
theorem ptakef_any (s : ByteArray) (hs : s.size ≤ 4611686018427387903) (w : World) : Calls Tryd.prog 69 #[.string s] w (TakeFPost s w) := by
  have CN := Lib.hid (show Calls Tryd.prog 47 #[.string s] w fun e w' => e = .returned (.tuple #[.int .i64 (tkN s : Int), .string (tkR s), .int .i64 (tkE s : Int)]) ∧ Below w.heap.size w w' from take_any s hs w)
  have HN2 := tkN_lt s
  have HZ := Lib.hid (tkR_size s)
  by_cases h0 : tkE s = 0
  · have HE0 := Lib.hid h0
    by_cases h8 : 8 < tkN s
    · have HX := Lib.hid (show takeF s = ([], ⟨#[]⟩, 4) by unfold takeF; rw [if_neg (by omega), if_pos h8])
      rw [h0] at CN
      have h8' : (8 : Int) < (tkN s : Int) := by omega
      clear h0
      generalize tkN s = n at *
      generalize tkR s = S0 at *
      go_enter Tryd.func69, Tryd.ntmps69
      go_wp2_with (go_at_call 47; (with_reducible refine CN.out.mono ?_); rintro e w1 ⟨rfl, hb1⟩)
      go_ret3
      exact takeF_end HX.out (ListF.nil _) hb1
    · have h8' : ¬ (8 : Int) < (tkN s : Int) := by omega
      have HX := Lib.hid (show takeF s = goOn [] (takeG (tkN s) none (tkR s)) by
        rw [goOn_start _ (fun h => takeG_err h)]
        unfold takeF
        rw [if_neg (by omega), if_neg h8])
      rw [h0] at CN
      clear h0
      generalize tkN s = n at *
      generalize tkR s = S0 at *
      go_enter Tryd.func69, Tryd.ntmps69
      go_wp2_with (go_at_call 47; (with_reducible refine CN.out.mono ?_); rintro e w1 ⟨rfl, hb1⟩)
      have HB1 := Lib.hid hb1
      clear hb1
      go_loopw [6, 8, 9, 27] (fun a v p i wr => ∃ (k : Nat) (S : ByteArray) (acc : List Fd) (o : Option ByteArray), k ≤ n ∧ i = .int .i64 k ∧ a = .string S ∧ p = .string (aheadS o) ∧ acc.length = k ∧ S.size ≤ 4611686018427387903 ∧ takeF s = goOn acc (takeG (n - k) o S) ∧ OF w acc v wr) (fun _ _ _ i _ => n - (intOf i).toNat)
      case atStart => exact ⟨0, S0, [], none, Nat.zero_le _, rfl, rfl, rfl, rfl, by have := HZ.out; omega, HX.out, (OF.nil w).below HB1.out⟩
      case round =>
        obtain ⟨k, S, acc, o, hk, rfl, rfl, rfl, hacc, hS, hT, hO⟩ := hrel
        have HACC := Lib.hid hacc
        have HT := Lib.hid hT
        have HO := Lib.hid hO
        clear hacc hT hO
        by_cases hlt : k < n
        · have hlt' : (k : Int) < (n : Int) := by omega
          obtain ⟨m, hm⟩ : ∃ m, n - k = m + 1 := ⟨n - k - 1, by omega⟩
          rw [hm] at HT
          have HM := Lib.hid hm
          have CO := Lib.hid (show ∀ w, Calls Tryd.prog 78 #[.string S, .string (aheadS o)] w fun e w' => e = .returned (.tuple #[fv (oneT (aheadS o) S).1, .string (oneT (aheadS o) S).2.1, .int .i64 (((oneT (aheadS o) S).2.2 : Nat) : Int)]) ∧ Below w.heap.size w w' from fun w => takeOne_any S (aheadS o) hS w)
          have GO := oneT_go acc m o S
          generalize hp : aheadS o = pp at *
          obtain ⟨⟨⟨nm, vv⟩, S2, ee⟩, ht⟩ : ∃ t, oneT pp S = t := ⟨_, rfl⟩
          rw [ht] at CO GO
          clear ht hm
          rcases GO with ⟨he, hg⟩ | ⟨he, hz, hg⟩
          · have HX2 := Lib.hid (HT.out.trans hg)
            have he' : ¬ (ee : Int) = 0 := by have : ee ≠ 0 := he; omega
            clear he hg hp
            go_wp2_with (go_at_call 78; (with_reducible refine (CO.out _).mono ?_); rintro e w2 ⟨rfl, hb2⟩; have HB2 := Lib.hid ((chain HO.out.bel hb2).alloc (chain HO.out.bel hb2).size (oc ⟨nm, vv⟩)); clear hb2)
            go_ret3
            exact takeF_end HX2.out (ListF.nil _) HB2.out
          · obtain rfl : ee = 0 := he
            have HX2 := Lib.hid (HT.out.trans hg)
            have HZ2 := Lib.hid (show S2.size ≤ S.size from hz)
            clear hg hz hp
            go_wp2_with (first
              | (go_at_call 78; (with_reducible refine (CO.out _).mono ?_); rintro e w2 ⟨rfl, hb2⟩; have HNE := Lib.hid (HO.out.below hb2).ne; have HO2 := Lib.hid ((HO.out.below hb2).below ((bl w2).alloc (Nat.le_refl _) (oc ⟨nm, vv⟩))); have HO3 := Lib.hid (HO2.out.below ((bl _).alloc (Nat.le_refl _) (oc ⟨nm, vv⟩))); clear hb2)
              | (at_builtin; refine wpList_appF rfl (.tmp 39) (.tmp 41) rfl rfl HO3.out.own (xs := [⟨nm, vv⟩]) rfl rfl (field_cell (by simp [go_sem]) (by simp [go_sem])) (by simp) (by have := HACC.out; simp; omega) HO3.out.bel.size ?_; intro v' w3 hown3 hg3; have HN3 := Lib.hid (HO3.out.grown hg3 hown3); have x0 := stay_oc hg3 HNE.out; clear hown3 hg3)
              | go_in)
            exact ⟨⟨k + 1, S2, acc ++ [⟨nm, vv⟩], some nm, by omega, by go_num, rfl, rfl, by have := HACC.out; simp; omega, by have := HZ2.out; omega, by rw [HX2.out, show n - (k + 1) = m by have := HM.out; omega], HN3.out⟩, by simp [intOf] <;> omega⟩
        · obtain rfl : k = n := by omega
          have hlt' : ¬ (k : Int) < (k : Int) := by omega
          have HX2 := Lib.hid (show takeF s = (acc, S, 0) by rw [HT.out, Nat.sub_self, goOn_end])
          go_wp2_with fail
          go_ret3
          exact takeF_end HX2.out HO.out.list HO.out.bel
  · have HX := Lib.hid (show takeF s = ([], ⟨#[]⟩, tkE s) by unfold takeF; rw [if_pos h0])
    have h0' : ¬ (tkE s : Int) = 0 := by omega
    generalize tkN s = n at *
    generalize tkR s = S0 at *
    generalize tkE s = E at *
    go_enter Tryd.func69, Tryd.ntmps69
    go_wp2_with (go_at_call 47; (with_reducible refine CN.out.mono ?_); rintro e w1 ⟨rfl, hb1⟩)
    go_ret3
    exact takeF_end HX.out (ListF.nil _) hb1

end Go.Proofs.YtmieonfdenjedaaDoor

/-
  The program's Take of fields: what is taken lies in memory of the call's own.
-/
namespace Go.Proofs.YtmieonfdenjedaaDoor
open Go.RowKit

def TakeFOwn (s : ByteArray) (w : World) (e : Ending) (w' : World) : Prop := ∃ u, e = .returned (.tuple #[u, .string (takeF s).2.1, .int .i64 (((takeF s).2.2 : Nat) : Int)]) ∧ OF w (takeF s).1 u w'
theorem takeFO_end {s : ByteArray} {w w' : World} {u : Value} {l : List Fd} {r : ByteArray} {e : Nat} (h : takeF s = (l, r, e)) (hl : OF w l u w') : TakeFOwn s w (.returned (.tuple #[u, .string r, .int .i64 (e : Int)])) w' :=
  ⟨u, by rw [h], by rw [h]; exact hl⟩

set_option maxHeartbeats 4000000 in
set_option maxRecDepth 100000 in
theorem ptakefo_any (s : ByteArray) (hs : s.size ≤ 4611686018427387903) (w : World) : Calls Tryd.prog 69 #[.string s] w (TakeFOwn s w) := by
  have CN := Lib.hid (show Calls Tryd.prog 47 #[.string s] w fun e w' => e = .returned (.tuple #[.int .i64 (tkN s : Int), .string (tkR s), .int .i64 (tkE s : Int)]) ∧ Below w.heap.size w w' from take_any s hs w)
  have HN2 := tkN_lt s
  have HZ := Lib.hid (tkR_size s)
  by_cases h0 : tkE s = 0
  · have HE0 := Lib.hid h0
    by_cases h8 : 8 < tkN s
    · have HX := Lib.hid (show takeF s = ([], ⟨#[]⟩, 4) by unfold takeF; rw [if_neg (by omega), if_pos h8])
      rw [h0] at CN
      have h8' : (8 : Int) < (tkN s : Int) := by omega
      clear h0
      generalize tkN s = n at *
      generalize tkR s = S0 at *
      go_enter Tryd.func69, Tryd.ntmps69
      go_wp2_with (go_at_call 47; (with_reducible refine CN.out.mono ?_); rintro e w1 ⟨rfl, hb1⟩)
      go_ret3
      exact takeFO_end HX.out ((OF.nil w).below hb1)
    · have h8' : ¬ (8 : Int) < (tkN s : Int) := by omega
      have HX := Lib.hid (show takeF s = goOn [] (takeG (tkN s) none (tkR s)) by
        rw [goOn_start _ (fun h => takeG_err h)]
        unfold takeF
        rw [if_neg (by omega), if_neg h8])
      rw [h0] at CN
      clear h0
      generalize tkN s = n at *
      generalize tkR s = S0 at *
      go_enter Tryd.func69, Tryd.ntmps69
      go_wp2_with (go_at_call 47; (with_reducible refine CN.out.mono ?_); rintro e w1 ⟨rfl, hb1⟩)
      have HB1 := Lib.hid hb1
      clear hb1
      go_loopw [6, 8, 9, 27] (fun a v p i wr => ∃ (k : Nat) (S : ByteArray) (acc : List Fd) (o : Option ByteArray), k ≤ n ∧ i = .int .i64 k ∧ a = .string S ∧ p = .string (aheadS o) ∧ acc.length = k ∧ S.size ≤ 4611686018427387903 ∧ takeF s = goOn acc (takeG (n - k) o S) ∧ OF w acc v wr) (fun _ _ _ i _ => n - (intOf i).toNat)
      case atStart => exact ⟨0, S0, [], none, Nat.zero_le _, rfl, rfl, rfl, rfl, by have := HZ.out; omega, HX.out, (OF.nil w).below HB1.out⟩
      case round =>
        obtain ⟨k, S, acc, o, hk, rfl, rfl, rfl, hacc, hS, hT, hO⟩ := hrel
        have HACC := Lib.hid hacc
        have HT := Lib.hid hT
        have HO := Lib.hid hO
        clear hacc hT hO
        by_cases hlt : k < n
        · have hlt' : (k : Int) < (n : Int) := by omega
          obtain ⟨m, hm⟩ : ∃ m, n - k = m + 1 := ⟨n - k - 1, by omega⟩
          rw [hm] at HT
          have HM := Lib.hid hm
          have CO := Lib.hid (show ∀ w, Calls Tryd.prog 78 #[.string S, .string (aheadS o)] w fun e w' => e = .returned (.tuple #[fv (oneT (aheadS o) S).1, .string (oneT (aheadS o) S).2.1, .int .i64 (((oneT (aheadS o) S).2.2 : Nat) : Int)]) ∧ Below w.heap.size w w' from fun w => takeOne_any S (aheadS o) hS w)
          have GO := oneT_go acc m o S
          generalize hp : aheadS o = pp at *
          obtain ⟨⟨⟨nm, vv⟩, S2, ee⟩, ht⟩ : ∃ t, oneT pp S = t := ⟨_, rfl⟩
          rw [ht] at CO GO
          clear ht hm
          rcases GO with ⟨he, hg⟩ | ⟨he, hz, hg⟩
          · have HX2 := Lib.hid (HT.out.trans hg)
            have he' : ¬ (ee : Int) = 0 := by have : ee ≠ 0 := he; omega
            clear he hg hp
            go_wp2_with (go_at_call 78; (with_reducible refine (CO.out _).mono ?_); rintro e w2 ⟨rfl, hb2⟩; have HB2 := Lib.hid ((chain HO.out.bel hb2).alloc (chain HO.out.bel hb2).size (oc ⟨nm, vv⟩)); clear hb2)
            go_ret3
            exact takeFO_end HX2.out ((OF.nil w).below HB2.out)
          · obtain rfl : ee = 0 := he
            have HX2 := Lib.hid (HT.out.trans hg)
            have HZ2 := Lib.hid (show S2.size ≤ S.size from hz)
            clear hg hz hp
            go_wp2_with (first
              | (go_at_call 78; (with_reducible refine (CO.out _).mono ?_); rintro e w2 ⟨rfl, hb2⟩; have HNE := Lib.hid (HO.out.below hb2).ne; have HO2 := Lib.hid ((HO.out.below hb2).below ((bl w2).alloc (Nat.le_refl _) (oc ⟨nm, vv⟩))); have HO3 := Lib.hid (HO2.out.below ((bl _).alloc (Nat.le_refl _) (oc ⟨nm, vv⟩))); clear hb2)
              | (at_builtin; refine wpList_appF rfl (.tmp 39) (.tmp 41) rfl rfl HO3.out.own (xs := [⟨nm, vv⟩]) rfl rfl (field_cell (by simp [go_sem]) (by simp [go_sem])) (by simp) (by have := HACC.out; simp; omega) HO3.out.bel.size ?_; intro v' w3 hown3 hg3; have HN3 := Lib.hid (HO3.out.grown hg3 hown3); have x0 := stay_oc hg3 HNE.out; clear hown3 hg3)
              | go_in)
            exact ⟨⟨k + 1, S2, acc ++ [⟨nm, vv⟩], some nm, by omega, by go_num, rfl, rfl, by have := HACC.out; simp; omega, by have := HZ2.out; omega, by rw [HX2.out, show n - (k + 1) = m by have := HM.out; omega], HN3.out⟩, by simp [intOf] <;> omega⟩
        · obtain rfl : k = n := by omega
          have hlt' : ¬ (k : Int) < (k : Int) := by omega
          have HX2 := Lib.hid (show takeF s = (acc, S, 0) by rw [HT.out, Nat.sub_self, goOn_end])
          go_wp2_with fail
          go_ret3
          exact takeFO_end HX2.out HO.out
  · have HX := Lib.hid (show takeF s = ([], ⟨#[]⟩, tkE s) by unfold takeF; rw [if_pos h0])
    have h0' : ¬ (tkE s : Int) = 0 := by omega
    generalize tkN s = n at *
    generalize tkR s = S0 at *
    generalize tkE s = E at *
    go_enter Tryd.func69, Tryd.ntmps69
    go_wp2_with (go_at_call 47; (with_reducible refine CN.out.mono ?_); rintro e w1 ⟨rfl, hb1⟩)
    go_ret3
    exact takeFO_end HX.out ((OF.nil w).below hb1)

end Go.Proofs.YtmieonfdenjedaaDoor

/-
  The program's steps: what takes a thing and keeps it, and steps done one behind the other.
-/
namespace Go.Proofs.YtmieonfdenjedaaDoor
open Go.RowKit

/-- Two boxes that a step has captured. -/
structure InBox (w : World) (bt bk : Nat) (tk kp : Value) : Prop where
  t : w.cell? ⟨bt, 0, none⟩ = some tk
  k : w.cell? ⟨bk, 0, none⟩ = some kp
theorem InBox.below {w w' : World} {bt bk : Nat} {tk kp : Value} (h : InBox w bt bk tk kp) (hb : Below w.heap.size w w') : InBox w' bt bk tk kp := ⟨keepc hb h.t, keepc hb h.k⟩
theorem ne_cells {w : World} {b c : Nat} {u v : Value} (hb : w.cell? ⟨b, 0, none⟩ = some u) (hc : w.cell? ⟨c, 0, none⟩ = some v) (h : u ≠ v) : c ≠ b := fun e => by
  subst e
  rw [hb] at hc
  exact h (Option.some.inj hc)
abbrev fnv (f : Nat) : Value := .func (.func f) #[] #[]
abbrev ptr (b o : Nat) : Value := .pointer (some ⟨b, o, none⟩)

end Go.Proofs.YtmieonfdenjedaaDoor

/-
  A version as it is read, step by step: plain facts.
-/
namespace Go.Proofs.YtmieonfdenjedaaDoor

theorem ttR_small (s : ByteArray) (most : Int) : (ttR s most).size ≤ s.size := by
  have h := tkR_size s
  by_cases h1 : tkE s = 0
  · by_cases h2 : most < tkN s
    · rw [(tt_most h1 h2).2.1]; exact Nat.zero_le _
    · by_cases h3 : (tkR s).size < tkN s
      · rw [(tt_end h1 h2 h3).2.1]; exact Nat.zero_le _
      · rw [(tt_good h1 h2 h3).2.1, ByteArray.size_extract]; omega
  · rw [(tt_err h1).2.1]; exact Nat.zero_le _
theorem takeG_size : ∀ (n : Nat) (o : Option ByteArray) (s : ByteArray), (takeG n o s).2.1.size ≤ s.size
  | 0, _, _ => Nat.le_refl _
  | n + 1, o, s => by
    have ih := takeG_size n (some (ttS s 12)) (tkR (ttR s 12))
    have h1 := ttR_small s 12
    have h2 := tkR_size (ttR s 12)
    rw [takeG]
    repeat' split
    all_goals first | exact Nat.zero_le _ | exact Nat.le_trans ih (Nat.le_trans h2 h1)
theorem takeF_size (s : ByteArray) : (takeF s).2.1.size ≤ s.size := by
  have h1 := tkR_size s
  have h2 := takeG_size (tkN s) none (tkR s)
  unfold takeF
  split
  · exact Nat.zero_le _
  · split
    · exact Nat.zero_le _
    · exact Nat.le_trans h2 h1

def noP (e : Nat) : TV := (noV, ⟨#[]⟩, e)
def rdF (v : Vr) (l : Int) (s : ByteArray) : TV := if (takeF s).2.2 ≠ 0 then noP (takeF s).2.2 else ({v with fs := (takeF s).1, se := v.sf + l}, (takeF s).2.1, 0)
def rdL (v : Vr) (s : ByteArray) : TV := if tkE s ≠ 0 then noP (tkE s) else rdF v (tkN s) (tkR s)
/-- What a version sets. -/
def rdS (v : Vr) (s : ByteArray) : TV := if v.gone = true then (v, s, 0) else if tkE s ≠ 0 then noP (tkE s) else rdL {v with sf := unzig (tkN s)} (tkR s)
/-- What is wrong with the place that tells whether it is gone. -/
def gnE (s : ByteArray) : Nat := if tkE s ≠ 0 then tkE s else if 1 < tkN s then 8 else 0
def rdG (v : Vr) (s : ByteArray) : TV := if gnE s ≠ 0 then noP (gnE s) else rdS {v with gone := decide (tkN s = 1)} (tkR s)
def rdE (v : Vr) (s : ByteArray) : TV := if ttE s 24 ≠ 0 then noP (ttE s 24) else rdG {v with ent := ttS s 24} (ttR s 24)
def rdT (v : Vr) (s : ByteArray) : TV := if tkE s ≠ 0 then noP (tkE s) else rdE {v with st := tkN s} (tkR s)
def rdI (v : Vr) (s : ByteArray) : TV := if tkE s ≠ 0 then noP (tkE s) else rdT {v with id := tkN s} (tkR s)
def rdV (s : ByteArray) : TV := rdI noV s
/-- Read, and then looked at. -/
def lookV (r : TV) : TV := if r.2.2 ≠ 0 then badV r.2.2 else endV r.1 r.2.1
theorem look_no (e : Nat) (h : e ≠ 0) : lookV (noP e) = badV e := by unfold lookV noP; rw [if_pos h]
theorem restV_rd (id st : Int) (ent s : ByteArray) : restV id st ent s = lookV (rdS ⟨id, st, ent, 0, 0, none, 0, [], false⟩ s) := by
  unfold restV rdS
  rw [if_neg (show ¬ (false = true) by simp)]
  by_cases h1 : tkE s ≠ 0
  · rw [if_pos h1, if_pos h1, look_no _ h1]
  · rw [if_neg h1, if_neg h1, rdL]
    by_cases h2 : tkE (tkR s) ≠ 0
    · rw [if_pos h2, if_pos h2, look_no _ h2]
    · rw [if_neg h2, if_neg h2, rdF]
      by_cases h3 : (takeF (tkR (tkR s))).2.2 ≠ 0
      · rw [if_pos h3, if_pos h3, look_no _ h3]
      · rw [if_neg h3, if_neg h3]; rfl
theorem goneV_rd (id st : Int) (ent s : ByteArray) : goneV id st ent s = lookV (rdG ⟨id, st, ent, 0, 0, none, 0, [], false⟩ s) := by
  unfold goneV rdG
  by_cases h1 : tkE s ≠ 0
  · have e : gnE s = tkE s := by unfold gnE; rw [if_pos h1]
    rw [if_pos h1, e, if_pos h1, look_no _ h1]
  · rw [if_neg h1]
    by_cases h2 : 1 < tkN s
    · have e : gnE s = 8 := by unfold gnE; rw [if_neg h1, if_pos h2]
      rw [if_pos h2, e]; rfl
    · have e : gnE s = 0 := by unfold gnE; rw [if_neg h1, if_neg h2]
      rw [if_neg h2, e, if_neg (show ¬ (0 : Nat) ≠ 0 from fun h => h rfl)]
      by_cases h3 : tkN s = 1
      · rw [if_pos h3, decide_eq_true h3]; rfl
      · rw [if_neg h3, decide_eq_false h3, restV_rd]
theorem entV_rd (id st : Int) (s : ByteArray) : entV id st s = lookV (rdE ⟨id, st, ⟨#[]⟩, 0, 0, none, 0, [], false⟩ s) := by
  unfold entV rdE
  by_cases h1 : ttE s 24 ≠ 0
  · rw [if_pos h1, if_pos h1, look_no _ h1]
  · rw [if_neg h1, if_neg h1, goneV_rd]
theorem takeVs_rd (s : ByteArray) : takeVs s = lookV (rdV s) := by
  unfold takeVs rdV rdI
  by_cases h1 : tkE s ≠ 0
  · rw [if_pos h1, if_pos h1, look_no _ h1]
  · rw [if_neg h1, if_neg h1, rdT]
    by_cases h2 : tkE (tkR s) ≠ 0
    · rw [if_pos h2, if_pos h2, look_no _ h2]
    · rw [if_neg h2, if_neg h2, entV_rd]; rfl

/-- A row, as the program reads it: the version is looked at when Until is read, too. -/
def takeRp (s : ByteArray) : TR :=
  if (rdV s).2.2 ≠ 0 then badR (rdV s).2.2
  else if tkE (rdV s).2.1 ≠ 0 then badR (tkE (rdV s).2.1)
  else endR ⟨(rdV s).1, untilI (tkN (rdV s).2.1)⟩ (tkR (rdV s).2.1)
theorem takeRp_put {r : Rw} (h : rightR r = 0) (b : ByteArray) : takeRp (putR r ++ b) = (contR r, b, 0) := by
  have k := takeRs_put h b
  generalize putR r ++ b = s at *
  unfold takeRs at k
  rw [takeVs_rd] at k
  unfold takeRp
  by_cases h1 : (rdV s).2.2 ≠ 0
  · have e : lookV (rdV s) = badV (rdV s).2.2 := by unfold lookV; rw [if_pos h1]
    rw [e, if_pos (show (badV (rdV s).2.2).2.2 ≠ 0 from h1)] at k
    exact absurd (congrArg (fun z : TR => z.2.2) k) h1
  · have e : lookV (rdV s) = endV (rdV s).1 (rdV s).2.1 := by unfold lookV; rw [if_neg h1]
    rw [e] at k
    by_cases h2 : rightV (rdV s).1 = 0
    · have e2 : endV (rdV s).1 (rdV s).2.1 = ((rdV s).1, (rdV s).2.1, 0) := by unfold endV; rw [if_pos h2]
      rw [e2, if_neg (by simp)] at k
      rw [if_neg h1]
      exact k
    · have e2 : endV (rdV s).1 (rdV s).2.1 = badV 8 := by unfold endV; rw [if_neg h2]
      rw [e2, if_pos (show (badV 8).2.2 ≠ 0 by show (8 : Nat) ≠ 0; decide)] at k
      have := congrArg (fun z : TR => z.2.2) k
      exact absurd this (by show (8 : Nat) ≠ 0; decide)

/-- What was read is small enough. -/
def GV (v : Vr) : Prop := okF v.fs ∧ v.fs.length ≤ 1000 ∧ v.ent.size ≤ 9223372036854775807
theorem GV.no : GV noV := ⟨fun f h => by simp [noV] at h, by simp [noV], by show (0 : Nat) ≤ _; exact Nat.zero_le _⟩
theorem ttS_small (s : ByteArray) (most : Int) : (ttS s most).size ≤ s.size := by
  have h := tkR_size s
  by_cases h1 : tkE s = 0
  · by_cases h2 : most < tkN s
    · rw [(tt_most h1 h2).1]; exact Nat.zero_le _
    · by_cases h3 : (tkR s).size < tkN s
      · rw [(tt_end h1 h2 h3).1]; exact Nat.zero_le _
      · rw [(tt_good h1 h2 h3).1, ByteArray.size_extract]; omega
  · rw [(tt_err h1).1]; exact Nat.zero_le _
theorem takeG_small : ∀ (n : Nat) (o : Option ByteArray) (s : ByteArray), (∀ f ∈ (takeG n o s).1, f.n.size ≤ s.size) ∧ (takeG n o s).1.length ≤ n
  | 0, _, _ => ⟨fun f h => by simp [takeG] at h, Nat.le_refl _⟩
  | n + 1, o, s => by
    obtain ⟨i1, i2⟩ := takeG_small n (some (ttS s 12)) (tkR (ttR s 12))
    have h1 := ttR_small s 12
    have h2 := tkR_size (ttR s 12)
    have h3 := ttS_small s 12
    rw [takeG]
    repeat' split
    all_goals first
      | exact ⟨fun f h => by simp at h, Nat.zero_le _⟩
      | (refine ⟨fun f h => ?_, Nat.succ_le_succ i2⟩
         rcases List.mem_cons.1 h with rfl | h
         · exact h3
         · have := i1 f h; omega)
theorem takeF_small (s : ByteArray) : (∀ f ∈ (takeF s).1, f.n.size ≤ s.size) ∧ (takeF s).1.length ≤ 8 := by
  have h1 := tkR_size s
  obtain ⟨i1, i2⟩ := takeG_small (tkN s) none (tkR s)
  unfold takeF
  split
  · exact ⟨fun f h => by simp at h, Nat.zero_le _⟩
  · split
    · exact ⟨fun f h => by simp at h, Nat.zero_le _⟩
    · exact ⟨fun f h => by have := i1 f h; omega, by omega⟩
theorem rdF_gv {v : Vr} (h : GV v) (l : Int) {s : ByteArray} (hs : s.size ≤ 9223372036854775807) : GV (rdF v l s).1 := by
  obtain ⟨i1, i2⟩ := takeF_small s
  unfold rdF
  split
  · exact GV.no
  · exact ⟨fun f hf => Nat.le_trans (i1 f hf) hs, Nat.le_trans i2 (by decide), h.2.2⟩
theorem rdL_gv {v : Vr} (h : GV v) {s : ByteArray} (hs : s.size ≤ 9223372036854775807) : GV (rdL v s).1 := by
  unfold rdL
  split
  · exact GV.no
  · exact rdF_gv h _ (Nat.le_trans (tkR_size s) hs)
theorem rdS_gv {v : Vr} (h : GV v) {s : ByteArray} (hs : s.size ≤ 9223372036854775807) : GV (rdS v s).1 := by
  unfold rdS
  split
  · exact h
  · split
    · exact GV.no
    · exact rdL_gv (v := {v with sf := unzig (tkN s)}) h (Nat.le_trans (tkR_size s) hs)
theorem rdG_gv {v : Vr} (h : GV v) {s : ByteArray} (hs : s.size ≤ 9223372036854775807) : GV (rdG v s).1 := by
  unfold rdG
  split
  · exact GV.no
  · exact rdS_gv (v := {v with gone := decide (tkN s = 1)}) h (Nat.le_trans (tkR_size s) hs)
theorem rdE_gv {v : Vr} (h : GV v) {s : ByteArray} (hs : s.size ≤ 9223372036854775807) : GV (rdE v s).1 := by
  unfold rdE
  split
  · exact GV.no
  · exact rdG_gv (v := {v with ent := ttS s 24}) ⟨h.1, h.2.1, Nat.le_trans (ttS_small s 24) hs⟩ (Nat.le_trans (ttR_small s 24) hs)
theorem rdV_gv {s : ByteArray} (hs : s.size ≤ 9223372036854775807) : GV (rdV s).1 := by
  unfold rdV rdI
  split
  · exact GV.no
  · unfold rdT
    split
    · exact GV.no
    · exact rdE_gv (v := ⟨tkN s, tkN (tkR s), ⟨#[]⟩, 0, 0, none, 0, [], false⟩) GV.no (Nat.le_trans (tkR_size _) (Nat.le_trans (tkR_size s) hs))

end Go.Proofs.YtmieonfdenjedaaDoor
