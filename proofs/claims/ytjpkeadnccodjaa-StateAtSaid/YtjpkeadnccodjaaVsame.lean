/-
  The document's One and Same of versions.
-/
import Derived.Test.YtjpkeadnccodjaaVchg
namespace Go.Proofs.Ytjpkeadnccodjaa
open Go.RowKit

theorem Try.noGuardSpan : Try.prog.eqGuardType Try.prog.depth 43 = false := by kernel_rfl
set_option maxRecDepth 100000 in
theorem run_eql_span (a b c d : Int) (w : World) : (binOp .eql 43 (.agg #[.int .i64 a, .int .i64 b]) (.agg #[.int .i64 c, .int .i64 d])).run Try.prog w = .ok (.bool (decide (a = c ∧ b = d))) w := by
  rw [run_eql_struct, run_equalIn_struct w 9999 43 _ _ Try.underlying43 (by kernel_rfl)]
  have h3 := Try.underlying3
  have a3 : ∀ w, (isAgg 3).run Try.prog w = .ok false w := Try.isAgg3
  have c3 : Try.prog.cellsOf 3 = 1 := by kernel_rfl
  simp [Op.eqFields, Program.fieldsOf, Try.underlying43, part, a3, c3, run_equalIn_int w 9998 _ .i64 .i64 _ _ h3]
  by_cases h1 : a = c
  · by_cases h2 : b = d <;> simp [h1, h2]
  · simp [h1]

set_option maxHeartbeats 4000000 in
set_option maxRecDepth 10000 in
theorem done_v (a b : Vr) (w : World) (ha : VF w a) (hb : VF w b) (hn : a.fs.length ≤ 100000) (hm : b.fs.length ≤ 100000) : Ret 24 #[vv a, vv b] w (.bool (sameV a b)) := by
  have CS0 := fun w' (h : Below w.heap.size w w') => dsame_any w' a.fa b.fa a.fc b.fc a.fs b.fs (ha.1.below h) (hb.1.below h) (by omega) (by omega)
  obtain ⟨R, hR⟩ : ∃ R, sameV a b = R := ⟨_, rfl⟩
  have HR : R = (decide (a.id = b.id) && decide (a.st = b.st) && decide (a.ent.toList = b.ent.toList) && (decide (a.sf = b.sf) && decide (a.se = b.se)) && (a.gone == b.gone) && sameF a.fs b.fs) := hR.symm
  rw [hR]
  obtain ⟨id, st, ent, sf, se, fa, fc, fs, gone⟩ := a
  obtain ⟨id', st', ent', sf', se', fa', fc', fs', gone'⟩ := b
  have CS := Lib.hid CS0
  simp only at HR
  clear ha hb hR CS0
  generalize sameF fs fs' = S at *
  have hng := Try.noGuardSpan
  have HB := Lib.hid (((bl w).alloc (Nat.le_refl _) (.cells #[.int .i64 id, .int .i64 st, .string ent, .int .i64 sf, .int .i64 se, .slice fa fs.length fc, .bool gone] 45)).alloc (by simp) (.cells #[.int .i64 id', .int .i64 st', .string ent', .int .i64 sf', .int .i64 se', .slice fa' fs'.length fc', .bool gone'] 45))
  have hsp := run_eql_span sf se sf' se'
  by_cases h1 : id = id'
  · by_cases h2 : st = st'
    · by_cases h3 : ent.toList = ent'.toList
      · have h3b : (ent.toList == ent'.toList) = true := by rw [beq_iff_eq]; exact h3
        by_cases h4 : sf = sf' ∧ se = se'
        · rw [decide_eq_true h4] at hsp
          by_cases h5 : gone = gone'
          · have HE := Lib.hid (show R = S by rw [HR]; simp [h1, h2, h3, h4.1, h4.2, h5])
            have h5b : (gone == gone') = true := by rw [beq_iff_eq]; exact h5
            have C2 := Lib.hid (CS.out _ HB.out)
            subst h1 h2 h5
            clear HR h3 h4
            go_enter Try.func24, Try.ntmps24
            go_wp2_with (go_at_call 13; (with_reducible refine C2.out.mono ?_); rintro e w2 ⟨rfl, hb2⟩)
            go_ret
            exact ⟨ret_bool HE.out.symm, HB.out.trans (hb2.mono HB.out.size)⟩
          · have HE := Lib.hid (show R = false by rw [HR]; simp [h5])
            have h5b : (gone == gone') = false := by rw [beq_eq_false_iff_ne]; exact h5
            subst h1 h2
            clear HR h3 h4
            go_enter Try.func24, Try.ntmps24
            go_wp2_with fail
            go_ret
            exact ⟨ret_bool HE.out.symm, HB.out⟩
        · have HE := Lib.hid (show R = false by
            rw [HR]
            by_cases h6 : sf = sf'
            · have : ¬ se = se' := fun h => h4 ⟨h6, h⟩
              simp [this]
            · simp [h6])
          rw [decide_eq_false h4] at hsp
          subst h1 h2
          clear HR h3 h4
          go_enter Try.func24, Try.ntmps24
          go_wp2_with fail
          go_ret
          exact ⟨ret_bool HE.out.symm, HB.out⟩
      · have HE := Lib.hid (show R = false by rw [HR]; simp [h3])
        have h3b : (ent.toList == ent'.toList) = false := by rw [beq_eq_false_iff_ne]; exact h3
        subst h1 h2
        clear HR h3
        go_enter Try.func24, Try.ntmps24
        go_wp2_with fail
        go_ret
        exact ⟨ret_bool HE.out.symm, HB.out⟩
    · have HE := Lib.hid (show R = false by rw [HR]; simp [h2])
      subst h1
      clear HR
      go_enter Try.func24, Try.ntmps24
      go_wp2_with fail
      go_ret
      exact ⟨ret_bool HE.out.symm, HB.out⟩
  · have HE := Lib.hid (show R = false by rw [HR]; simp [h1])
    clear HR
    go_enter Try.func24, Try.ntmps24
    go_wp2_with fail
    go_ret
    exact ⟨ret_bool HE.out.symm, HB.out⟩

set_option maxHeartbeats 4000000 in
set_option maxRecDepth 10000 in
theorem dsamev_any (w : World) (ua ub : Value) (a b : List Vr) (ha : VersL w ua a) (hb : VersL w ub b) (hn : a.length ≤ 100000) (hm : b.length ≤ 100000) (ha2 : ∀ v ∈ a, v.fs.length ≤ 100000) (hb2 : ∀ v ∈ b, v.fs.length ≤ 100000) :
    Ret 10 #[ua, ub] w (.bool (sameVs a b)) := by
  obtain ⟨⟨A, c, rfl, hA, hc1, hc2⟩, hVA⟩ := ha
  obtain ⟨⟨B, d, rfl, hB, hd1, hd2⟩, hVB⟩ := hb
  clear hc1 hc2 hd1 hd2
  by_cases hnm : a.length ≠ b.length
  · have HS := Lib.hid (sameVs_len a b hnm)
    have hne : ((a.length : Int) != (b.length : Int)) = true := by rw [bne_iff_ne]; omega
    clear hA hB hVA hVB ha2 hb2
    generalize a.length = n at *
    generalize b.length = m at *
    go_enter Try.func10, Try.ntmps10
    go_wp2_with fail
    go_ret
    exact ⟨ret_bool HS.out.symm, bl w⟩
  · obtain ⟨n, hn1⟩ : ∃ n, a.length = n := ⟨_, rfl⟩
    have hn2 : b.length = n := by omega
    obtain ⟨t, ht⟩ : ∃ t, sameVs a b = t := ⟨_, rfl⟩
    have HT := Lib.hid ht
    rw [hn1] at hn ⊢
    rw [hn2, ht]
    have HA := Lib.hid hA
    have HB := Lib.hid hB
    have HVA := Lib.hid hVA
    have HVB := Lib.hid hVB
    have HA2 := Lib.hid ha2
    have HB2 := Lib.hid hb2
    have HN1 := Lib.hid hn1
    have HN2 := Lib.hid hn2
    clear hA hB hn1 hn2 hnm hm ht hVA hVB ha2 hb2
    go_enter Try.func10, Try.ntmps10
    go_wp2_with fail
    go_loopw [5] (fun i wr => ∃ k : Nat, k ≤ n ∧ i = .int .i64 k ∧ t = sameVs (a.drop k) (b.drop k) ∧ Below w.heap.size w wr) (fun i _ => n - (intOf i).toNat)
    case atStart => exact ⟨0, Nat.zero_le _, rfl, HT.out.symm, bl w⟩
    case round =>
      obtain ⟨k, hk, rfl, hg, hW⟩ := hrel
      have HW := Lib.hid hW
      clear hW
      by_cases hlt : k < n
      · have hlt' : (k : Int) < (n : Int) := by omega
        obtain ⟨x, hx⟩ : ∃ x, a[k]? = some x := ⟨_, List.getElem?_eq_getElem (by have := HN1.out; omega)⟩
        obtain ⟨y, hy⟩ : ∃ y, b[k]? = some y := ⟨_, List.getElem?_eq_getElem (by have := HN2.out; omega)⟩
        obtain ⟨g1, off, rfl, hX⟩ := (HA.out.below HW.out).cells7 hx
        obtain ⟨g2, off', rfl, hY⟩ := (HB.out.below HW.out).cells7 hy
        have CO := Lib.hid (fun w' (h : Below wr.heap.size wr w') => done_v x y w' ((HVA.out x (List.mem_of_getElem? hx)).below (chain HW.out h)) ((HVB.out y (List.mem_of_getElem? hy)).below (chain HW.out h)) (HA2.out x (List.mem_of_getElem? hx)) (HB2.out y (List.mem_of_getElem? hy)))
        rw [drop_consL hx, drop_consL hy, sameVs] at hg
        have MK := Lib.hid (show ∀ w', Below wr.heap.size wr w' → (Below wr.heap.size wr w' ∧ Cells7 w' g1 (off + k * 7) x ∧ Cells7 w' g2 (off' + k * 7) y) from fun w' h => ⟨h, hX.below h, hY.below h⟩)
        cases hs : sameV x y with
        | true =>
          rw [hs] at hg CO
          have HG := Lib.hid (show t = sameVs (a.drop (k + 1)) (b.drop (k + 1)) by rw [hg, Bool.true_and])
          clear hg hs hx hy hX hY
          go_wp2_with fail
          go_region_held3 (fun w' => Below wr.heap.size wr w' ∧ Cells7 w' g1 (off + k * 7) x ∧ Cells7 w' g2 (off' + k * 7) y)
            (first | exact MK.out _ ((bl wr).drew) | exact MK.out _ hb1 | fail)
            (first | (go_at_call 24; (refine (CO.out _ (by go_split_ands; assumption)).mono ?_); (rintro e w1 ⟨rfl, hb0⟩); (have hb1 := chain (by go_split_ands; assumption) hb0); clear hb0))
          all_goals
            go_wp2_with fail
            exact ⟨⟨k + 1, by omega, by go_num, HG.out, chain HW.out hb1⟩, by simp [intOf] <;> omega⟩
        | false =>
          rw [hs] at hg CO
          have HG := Lib.hid (show t = false by rw [hg, Bool.false_and])
          clear hg hs hx hy hX hY
          go_wp2_with fail
          go_region_held3 (fun w' => Below wr.heap.size wr w' ∧ Cells7 w' g1 (off + k * 7) x ∧ Cells7 w' g2 (off' + k * 7) y)
            (first | exact MK.out _ ((bl wr).drew) | exact MK.out _ hb1 | fail)
            (first | (go_at_call 24; (refine (CO.out _ (by go_split_ands; assumption)).mono ?_); (rintro e w1 ⟨rfl, hb0⟩); (have hb1 := chain (by go_split_ands; assumption) hb0); clear hb0))
          all_goals
            go_wp2_with fail
            go_ret
            exact ⟨ret_bool HG.out.symm, chain HW.out hb1⟩
      · obtain rfl : k = n := by omega
        have hlt' : ¬ (k : Int) < (k : Int) := by omega
        rw [List.drop_of_length_le (by have := HN1.out; omega), List.drop_of_length_le (by have := HN2.out; omega)] at hg
        have HG := Lib.hid (show t = true from hg)
        clear hg
        go_wp2_with fail
        go_ret
        exact ⟨ret_bool HG.out.symm, HW.out⟩

end Go.Proofs.Ytjpkeadnccodjaa
