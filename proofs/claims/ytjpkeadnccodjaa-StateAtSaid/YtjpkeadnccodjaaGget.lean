/-
  The document's Get and Same.
-/
import Derived.Test.YtjpkeadnccodjaaGmem
import Derived.Laws.StructEq
namespace Go.Proofs.Ytjpkeadnccodjaa
open Go.RowKit

theorem bytes_is {s t : ByteArray} : s.toList = t.toList ↔ nats s = nats t := by
  constructor
  · intro h
    rw [ByteArray.toList_eq, ByteArray.toList_eq] at h
    unfold nats; rw [h]
  · intro h; rw [nats_inj h]
theorem ret_ib {a b : Int} {c d : Bool} (h : a = b) (k : c = d) : Ending.returned (.tuple #[.int .i64 a, .bool c]) = .returned (.tuple #[.int .i64 b, .bool d]) := by rw [h, k]

set_option maxHeartbeats 2000000 in
theorem dget_any (w : World) (A : Option Addr) (c : Nat) (l : List Fd) (s : ByteArray) (hl : Fields w A l) (hn : l.length ≤ 9223372036854775807) :
    Same 23 #[.slice A l.length c, .string s] w (.tuple #[.int .i64 ((getL l s).getD 0), .bool (getL l s).isSome]) := by
  have HL := Lib.hid hl
  obtain ⟨n, hnm⟩ : ∃ n, l.length = n := ⟨_, rfl⟩
  obtain ⟨t, ht⟩ : ∃ t, getL l s = t := ⟨_, rfl⟩
  have HT := Lib.hid ht
  rw [hnm] at hn ⊢
  rw [ht]
  have HN := Lib.hid hnm
  clear hl hnm ht
  go_enter Try.func23, Try.ntmps23
  go_wp2_with fail
  go_loopw [6] (fun i wr => ∃ k : Nat, k ≤ n ∧ i = .int .i64 k ∧ t = getL (l.drop k) s ∧ wr = w) (fun i _ => n - (intOf i).toNat)
  case atStart => exact ⟨0, Nat.zero_le _, rfl, HT.out.symm, rfl⟩
  case round =>
    obtain ⟨k, hk, rfl, hg, hwr⟩ := hrel
    obtain rfl := hwr.symm
    by_cases hlt : k < n
    · have hlt' : (k : Int) < (n : Int) := by omega
      obtain ⟨f, hf⟩ : ∃ f, l[k]? = some f := ⟨_, List.getElem?_eq_getElem (by have := HN.out; omega)⟩
      obtain ⟨g, off, rfl, c0, c1⟩ := HL.out k f hf
      rw [drop_consF hf, getL] at hg
      by_cases h : nats f.n = nats s
      · rw [if_pos h] at hg
        have HG := Lib.hid hg
        have he : (f.n.toList == s.toList) = true := by rw [beq_iff_eq]; exact bytes_is.2 h
        clear hg hf h
        go_wp2_with fail
        go_ret2
        exact ⟨ret_ib (by rw [HG.out]; rfl) (by rw [HG.out]; rfl), rfl⟩
      · rw [if_neg h] at hg
        have HG := Lib.hid hg
        have he : (f.n.toList == s.toList) = false := by rw [beq_eq_false_iff_ne]; exact fun e => h (bytes_is.1 e)
        clear hg hf h
        go_wp2_with fail
        exact ⟨⟨k + 1, by omega, by go_num, HG.out, trivial⟩, by simp [intOf] <;> omega⟩
    · obtain rfl : k = n := by omega
      have hlt' : ¬ (k : Int) < (k : Int) := by omega
      rw [List.drop_of_length_le (by have := HN.out; omega)] at hg
      have HG := Lib.hid (show t = none from hg)
      clear hg
      go_wp2_with fail
      go_ret2
      exact ⟨ret_ib (by rw [HG.out]; rfl) (by rw [HG.out]; rfl), rfl⟩

/-- Are two lists the same, field by field? -/
def sameF : List Fd → List Fd → Bool
  | [], [] => true
  | f :: a, g :: b => decide (f.n.toList = g.n.toList ∧ f.v = g.v) && sameF a b
  | _, _ => false
theorem sameF_self : ∀ l : List Fd, sameF l l = true
  | [] => rfl
  | f :: l => by rw [sameF, sameF_self l]; simp
theorem sameF_eq : ∀ a b : List Fd, sameF a b = true → a = b
  | [], [], _ => rfl
  | [], _ :: _, h => by simp [sameF] at h
  | _ :: _, [], h => by simp [sameF] at h
  | f :: a, g :: b, h => by
    rw [sameF, Bool.and_eq_true, decide_eq_true_eq] at h
    obtain ⟨fn, fv⟩ := f
    obtain ⟨gn, gv⟩ := g
    obtain ⟨⟨h1, h2⟩, h3⟩ := h
    obtain rfl : fn = gn := nats_inj (bytes_is.1 h1)
    obtain rfl : fv = gv := h2
    rw [sameF_eq a b h3]
theorem sameF_len : ∀ a b : List Fd, a.length ≠ b.length → sameF a b = false
  | [], [], h => absurd rfl h
  | [], _ :: _, _ => rfl
  | _ :: _, [], _ => rfl
  | f :: a, g :: b, h => by rw [sameF, sameF_len a b (fun e => h (by rw [List.length_cons, List.length_cons, e])), Bool.and_false]
theorem Try.noGuardField : Try.prog.eqGuardType Try.prog.depth 48 = false := by kernel_rfl
set_option maxRecDepth 100000 in
theorem run_neq_field (f g : Fd) (w : World) : (binOp .neq 48 (fv f) (fv g)).run Try.prog w = .ok (.bool (!decide (f.n.toList = g.n.toList ∧ f.v = g.v))) w := by
  rw [run_neq_struct, run_equalIn_struct w 9999 48 _ _ Try.underlying48 (by kernel_rfl)]
  have h3 := Try.underlying3
  have h9 := Try.underlying9
  have a3 : ∀ w, (isAgg 3).run Try.prog w = .ok false w := Try.isAgg3
  have a9 : ∀ w, (isAgg 9).run Try.prog w = .ok false w := Try.isAgg9
  have c9 : Try.prog.cellsOf 9 = 1 := by kernel_rfl
  simp [Op.eqFields, Program.fieldsOf, Try.underlying48, part, a3, a9, c9, run_equalIn_int w 9998 _ .i64 .i64 _ _ h3, run_equalIn_string w 9998 _ _ _ h9]
  by_cases h1 : f.n.toList = g.n.toList
  · by_cases h2 : f.v = g.v <;> simp [h1, h2]
  · simp [h1]

set_option maxHeartbeats 2000000 in
theorem dsame_any (w : World) (A B : Option Addr) (c d : Nat) (a b : List Fd) (ha : Fields w A a) (hb : Fields w B b) (hn : a.length ≤ 9223372036854775807) (hm : b.length ≤ 9223372036854775807) :
    Ret 13 #[.slice A a.length c, .slice B b.length d] w (.bool (sameF a b)) := by
  by_cases hnm : a.length ≠ b.length
  · have HS := Lib.hid (sameF_len a b hnm)
    have hne : ((a.length : Int) != (b.length : Int)) = true := by rw [bne_iff_ne]; omega
    clear ha hb
    generalize a.length = n at *
    generalize b.length = m at *
    go_enter Try.func13, Try.ntmps13
    go_wp2_with fail
    go_ret
    exact ⟨ret_bool HS.out.symm, bl w⟩
  · obtain ⟨n, hn1⟩ : ∃ n, a.length = n := ⟨_, rfl⟩
    have hn2 : b.length = n := by omega
    obtain ⟨t, ht⟩ : ∃ t, sameF a b = t := ⟨_, rfl⟩
    have HT := Lib.hid ht
    rw [hn1] at hn ⊢
    rw [hn2, ht]
    have HA := Lib.hid ha
    have HB := Lib.hid hb
    have HN1 := Lib.hid hn1
    have HN2 := Lib.hid hn2
    clear ha hb hn1 hn2 hnm hm ht
    have hng := Try.noGuardField
    go_enter Try.func13, Try.ntmps13
    go_wp2_with fail
    go_loopw [5] (fun i wr => ∃ k : Nat, k ≤ n ∧ i = .int .i64 k ∧ t = sameF (a.drop k) (b.drop k) ∧ Below w.heap.size w wr) (fun i _ => n - (intOf i).toNat)
    case atStart => exact ⟨0, Nat.zero_le _, rfl, HT.out.symm, bl w⟩
    case round =>
      obtain ⟨k, hk, rfl, hg, hW⟩ := hrel
      have HW := Lib.hid hW
      clear hW
      by_cases hlt : k < n
      · have hlt' : (k : Int) < (n : Int) := by omega
        obtain ⟨f, hf⟩ : ∃ f, a[k]? = some f := ⟨_, List.getElem?_eq_getElem (by have := HN1.out; omega)⟩
        obtain ⟨g, hgg⟩ : ∃ g, b[k]? = some g := ⟨_, List.getElem?_eq_getElem (by have := HN2.out; omega)⟩
        obtain ⟨g1, off, rfl, c0, c1⟩ := (HA.out.below HW.out) k f hf
        obtain ⟨g2, off', rfl, d0, d1⟩ := (HB.out.below HW.out) k g hgg
        rw [drop_consF hf, drop_consF hgg, sameF] at hg
        have hq := run_neq_field f g
        by_cases h : f.n.toList = g.n.toList ∧ f.v = g.v
        · rw [decide_eq_true h] at hq hg
          have HG := Lib.hid (show t = sameF (a.drop (k + 1)) (b.drop (k + 1)) by rw [hg, Bool.true_and])
          have hq : ∀ w, (binOp .neq 48 (fv f) (fv g)).run Try.prog w = .ok (.bool false) w := hq
          clear hg hf hgg h
          go_wp2_with fail
          go_quiet (fail)
          go_wp2_with fail
          exact ⟨⟨k + 1, by omega, by go_num, HG.out, belowN HW.out _⟩, by simp [intOf] <;> omega⟩
        · rw [decide_eq_false h] at hq hg
          have HG := Lib.hid (show t = false by rw [hg, Bool.false_and])
          have hq : ∀ w, (binOp .neq 48 (fv f) (fv g)).run Try.prog w = .ok (.bool true) w := hq
          clear hg hf hgg h
          go_wp2_with fail
          go_quiet (fail)
          go_wp2_with fail
          go_ret
          exact ⟨ret_bool HG.out.symm, belowN HW.out _⟩
      · obtain rfl : k = n := by omega
        have hlt' : ¬ (k : Int) < (k : Int) := by omega
        rw [List.drop_of_length_le (by have := HN1.out; omega), List.drop_of_length_le (by have := HN2.out; omega)] at hg
        have HG := Lib.hid (show t = true from hg)
        clear hg
        go_wp2_with fail
        go_ret
        exact ⟨ret_bool HG.out.symm, HW.out⟩

end Go.Proofs.Ytjpkeadnccodjaa
