/-
  FieldOvers and FieldGroups give back true for any lists of fields.
-/
import Derived.Test.YtnmnbnlokmmcmaaFlrights
namespace Go.Proofs.Ytnmnbnlokmmcmaa
open Go.RowKit

theorem ok_over {l : List Fd} (h : okF l) : okF (overL l) := fun f hf => h f (overL_mem hf)
theorem ok_append {l m : List Fd} (h : okF l) (k : okF m) : okF (l ++ m) := fun f hf => by
  rcases List.mem_append.1 hf with hf | hf
  · exact h f hf
  · exact k f hf
theorem flat_le {L : List (List Fd)} {m : Nat} (h : ∀ l ∈ L, l.length ≤ m) : L.flatten.length ≤ L.length * m := by
  induction L with
  | nil => simp
  | cons a L ih =>
    rw [List.flatten_cons, List.length_append, List.length_cons, Nat.add_mul, Nat.one_mul]
    have h1 := h a List.mem_cons_self
    have h2 := ih fun l hl => h l (List.mem_cons_of_mem _ hl)
    omega

set_option maxHeartbeats 4000000 in
set_option maxRecDepth 10000 in
theorem overs_walk (w : World) (A : Option Addr) (c : Nat) (L : List (List Fd)) (hL : RowsF w A L) (hok : ∀ l ∈ L, okF l ∧ l.length ≤ 9223372036854775807) (hn : L.length ≤ 9223372036854775807) :
    Ret 5 #[.slice A L.length c] w (.bool true) := by
  have CAL := Lib.hid alive_any
  obtain ⟨n, hnm⟩ : ∃ n, L.length = n := ⟨_, rfl⟩
  have HL := Lib.hid hL
  have HOK := Lib.hid hok
  have HN := Lib.hid hnm
  rw [hnm] at hn ⊢
  clear hL hok hnm
  by_cases h3 : 20 < n
  · have h3' : (20 : Int) < (n : Int) := by omega
    go_enter Try.func5, Try.ntmps5
    go_wp2_with (go_at_call 9; with_reducible refine (CAL.out _).mono ?_; rintro e w2 ⟨rfl, hb⟩)
    go_ret
    exact ⟨rfl, hb⟩
  · have h3' : ¬ (20 : Int) < (n : Int) := by omega
    go_enter Try.func5, Try.ntmps5
    go_wp2_with fail
    go_loopw [10] (fun i wr => ∃ k : Nat, k ≤ n ∧ i = .int .i64 k ∧ (∀ l ∈ L.take k, l.length ≤ 60) ∧ wr = w) (fun i _ => n - (intOf i).toNat)
    case atStart => exact ⟨0, Nat.zero_le _, rfl, fun l hl => by simp at hl, rfl⟩
    case round =>
      obtain ⟨k, hk, rfl, h60, hwr⟩ := hrel
      obtain rfl := hwr.symm
      have H60 := Lib.hid h60
      clear h60
      by_cases hlt : k < n
      · have hlt' : (k : Int) < (n : Int) := by omega
        obtain ⟨row, hrow⟩ : ∃ row, L[k]? = some row := ⟨_, List.getElem?_eq_getElem (by have := HN.out; omega)⟩
        obtain ⟨g, off, v, rfl, cv, B, d, rfl, hF, hcd, hnd⟩ := HL.out k row hrow
        by_cases h6 : 60 < row.length
        · have h6' : (60 : Int) < (row.length : Int) := by omega
          clear hF hcd hnd hrow
          generalize row.length = m at *
          go_wp2_with (go_at_call 9; with_reducible refine (CAL.out _).mono ?_; rintro e w2 ⟨rfl, hb⟩)
          go_ret
          exact ⟨rfl, hb⟩
        · have h6' : ¬ (60 : Int) < (row.length : Int) := by omega
          have NX := Lib.hid (show ∀ l ∈ L.take (k + 1), l.length ≤ 60 by
            rw [List.take_add_one, hrow, Option.toList_some]
            intro l hl
            rcases List.mem_append.1 hl with hl | hl
            · exact H60.out l hl
            · obtain rfl : l = row := by simpa using hl
              omega)
          clear hF hcd hnd hrow
          generalize row.length = m at *
          go_wp2_with fail
          exact ⟨⟨k + 1, by omega, by go_num, NX.out, trivial⟩, by simp [intOf] <;> omega⟩
      · obtain rfl : k = n := by omega
        have hlt' : ¬ (k : Int) < (k : Int) := by omega
        have HT : L.flatten.length ≤ 1200 := by
          have h1 := H60.out
          rw [List.take_of_length_le (by have := HN.out; omega)] at h1
          have h2 := flat_le h1
          have := HN.out
          have : L.length * 60 ≤ 20 * 60 := Nat.mul_le_mul_right 60 (by omega)
          omega
        have HR : (overL L.flatten).length ≤ 1200 := by have := overL_length L.flatten; omega
        have CO1 := Lib.hid (pover_any w A c L HL.out (by omega) (by have := HN.out; omega) (fun l hl => (HOK.out l hl).1))
        have CO2 := Lib.hid (fun w' (h : Below w.heap.size w w') => dover_any w' A c L (HL.out.below h) (by omega) (by have := HN.out; omega) (fun l hl => (HOK.out l hl).2))
        rw [HN.out] at CO1 CO2
        generalize overL L.flatten = R at *
        have CSA := Lib.hid (fun w' u v (h : ListF w' u R) (k : ListF w' v R) => dsamel_any w' u v R R h k (by omega) (by omega))
        rw [sameF_self] at CSA
        clear HT HR
        go_wp2_with (first
          | (go_at_call 20; (with_reducible refine CO1.out.mono ?_); rintro e w1 ⟨u1, rfl, hl1, hb1⟩)
          | (go_at_call 21; (with_reducible refine (CO2.out _ hb1).mono ?_); rintro e w2 ⟨u2, rfl, hl2, hb2⟩; have hc2 := chain hb1 hb2)
          | (go_at_call 16; (with_reducible refine (CSA.out _ _ _ (hl1.below hb2) hl2).mono ?_); rintro e w3 ⟨rfl, hb3⟩; have hc3 := chain hc2 hb3)
          | (go_at_call 9; (with_reducible refine (CAL.out _).mono ?_); rintro e w9 ⟨rfl, hb9⟩; have hc9 := chain hc3 hb9))
        go_ret
        exact ⟨rfl, hc9⟩

theorem ListF.form {w : World} {v : Value} {l : List Fd} (h : ListF w v l) : ∃ A c, v = .slice A l.length c ∧ ListF w (.slice A l.length c) l := by
  obtain ⟨A, c, rfl, h1⟩ := h
  exact ⟨A, c, rfl, A, c, rfl, h1⟩
/-- Two lists over each other, in a new block. -/
theorem pair_over {w : World} {u v : Value} {a b : List Fd} (ha : ListF w u a) (hb : ListF w v b) (hoa : okF a) (hob : okF b) (hl : a.length + b.length ≤ 10000) :
    Calls Try.prog 20 #[.slice (some ⟨w.heap.size, 0, none⟩) 2 2] (w.alloc (.cells #[u, v] 22)) fun e w' => ∃ x, e = .returned x ∧ ListF w' x (overL (a ++ b)) ∧ Below w.heap.size w w' := by
  have h := pover_any (w.alloc (.cells #[u, v] 22)) (some ⟨w.heap.size, 0, none⟩) 2 [a, b] (rows_two ha hb) (by simpa using hl) (by simp) (fun l hl => by
    rcases List.mem_cons.1 hl with rfl | hl
    · exact hoa
    · obtain rfl : l = b := by simpa using hl
      exact hob)
  rw [show ([a, b] : List (List Fd)).flatten = a ++ b by simp] at h
  exact h.mono fun e w' ⟨x, he, hx, hb⟩ => ⟨x, he, hx, ((bl w).alloc (Nat.le_refl _) _).trans (hb.mono (by simp))⟩
theorem trio_over {w : World} {u v x : Value} {a b c : List Fd} (ha : ListF w u a) (hb : ListF w v b) (hc : ListF w x c) (hoa : okF a) (hob : okF b) (hoc : okF c) (hl : a.length + b.length + c.length ≤ 10000) :
    Calls Try.prog 20 #[.slice (some ⟨w.heap.size, 0, none⟩) 3 3] (w.alloc (.cells #[u, v, x] 22)) fun e w' => ∃ x, e = .returned x ∧ ListF w' x (overL (a ++ b ++ c)) ∧ Below w.heap.size w w' := by
  have h := pover_any (w.alloc (.cells #[u, v, x] 22)) (some ⟨w.heap.size, 0, none⟩) 3 [a, b, c] (rows_three ha hb hc) (by simp; omega) (by simp) (fun l hl => by
    rcases List.mem_cons.1 hl with rfl | hl
    · exact hoa
    · rcases List.mem_cons.1 hl with rfl | hl
      · exact hob
      · obtain rfl : l = c := by simpa using hl
        exact hoc)
  rw [show ([a, b, c] : List (List Fd)).flatten = a ++ b ++ c by simp] at h
  exact h.mono fun e w' ⟨x, he, hx, hb⟩ => ⟨x, he, hx, ((bl w).alloc (Nat.le_refl _) _).trans (hb.mono (by simp))⟩
theorem single_over {w : World} {u : Value} {a : List Fd} (ha : ListF w u a) (hoa : okF a) (hl : a.length ≤ 10000) :
    Calls Try.prog 20 #[.slice (some ⟨w.heap.size, 0, none⟩) 1 1] (w.alloc (.cells #[u] 22)) fun e w' => ∃ x, e = .returned x ∧ ListF w' x (overL a) ∧ Below w.heap.size w w' := by
  have h := pover_any (w.alloc (.cells #[u] 22)) (some ⟨w.heap.size, 0, none⟩) 1 [a] (rows_new w _ [u] [a] fun i l hl => by
    match i, hl with
    | 0, hl => obtain rfl : a = l := by simpa using hl
               exact ⟨u, rfl, ha⟩) (by simpa using hl) (by simp) (fun l hl => by
    obtain rfl : l = a := by simpa using hl
    exact hoa)
  rw [show ([a] : List (List Fd)).flatten = a by simp] at h
  exact h.mono fun e w' ⟨x, he, hx, hb⟩ => ⟨x, he, hx, ((bl w).alloc (Nat.le_refl _) _).trans (hb.mono (by simp))⟩

set_option maxHeartbeats 4000000 in
set_option maxRecDepth 10000 in
theorem groups_walk (va vb vc : Value) (a b c : List Fd) (w : World) (ha : ListF w va a) (hb : ListF w vb b) (hc : ListF w vc c) (oa : okF a) (ob : okF b) (oc : okF c) :
    Ret 6 #[va, vb, vc] w (.bool true) := by
  have CAL := Lib.hid alive_any
  have HA := Lib.hid ha
  have HB := Lib.hid hb
  have HC := Lib.hid hc
  obtain ⟨A, p, rfl, hF1, hp1, hq1⟩ := ha
  obtain ⟨B, q, rfl, hF2, hp2, hq2⟩ := hb
  obtain ⟨C, r, rfl, hF3, hp3, hq3⟩ := hc
  clear hF1 hF2 hF3 hp1 hp2 hp3 hq1 hq2 hq3
  by_cases h1 : 60 < a.length
  · have h1' : (60 : Int) < (a.length : Int) := by omega
    have h1d : decide (60 < a.length) = true := by rw [decide_eq_true_eq]; exact h1
    clear HA HB HC
    generalize a.length = n1 at *
    generalize b.length = n2 at *
    generalize c.length = n3 at *
    go_enter Try.func6, Try.ntmps6
    go_wp2_with (go_at_call 9; with_reducible refine (CAL.out _).mono ?_; rintro e w2 ⟨rfl, hb⟩)
    go_ret
    exact ⟨rfl, hb⟩
  · have h1' : ¬ (60 : Int) < (a.length : Int) := by omega
    have h1d : decide (60 < a.length) = false := by rw [decide_eq_false_iff_not]; exact h1
    by_cases h2 : 60 < b.length
    · have h2' : (60 : Int) < (b.length : Int) := by omega
      have h2d : decide (60 < b.length) = true := by rw [decide_eq_true_eq]; exact h2
      clear HA HB HC
      generalize a.length = n1 at *
      generalize b.length = n2 at *
      generalize c.length = n3 at *
      go_enter Try.func6, Try.ntmps6
      go_wp2_with (go_at_call 9; with_reducible refine (CAL.out _).mono ?_; rintro e w2 ⟨rfl, hb⟩)
      go_ret
      exact ⟨rfl, hb⟩
    · have h2' : ¬ (60 : Int) < (b.length : Int) := by omega
      have h2d : decide (60 < b.length) = false := by rw [decide_eq_false_iff_not]; exact h2
      by_cases h3 : 60 < c.length
      · have h3' : (60 : Int) < (c.length : Int) := by omega
        have h3d : decide (60 < c.length) = true := by rw [decide_eq_true_eq]; exact h3
        clear HA HB HC
        generalize a.length = n1 at *
        generalize b.length = n2 at *
        generalize c.length = n3 at *
        go_enter Try.func6, Try.ntmps6
        go_wp2_with (go_at_call 9; with_reducible refine (CAL.out _).mono ?_; rintro e w2 ⟨rfl, hb⟩)
        go_ret
        exact ⟨rfl, hb⟩
      · have h3' : ¬ (60 : Int) < (c.length : Int) := by omega
        have h3d : decide (60 < c.length) = false := by rw [decide_eq_false_iff_not]; exact h3
        obtain ⟨X, hX⟩ : ∃ X, overL (a ++ b ++ c) = X := ⟨_, rfl⟩
        have lX : X.length ≤ 1000 := by rw [← hX]; have := overL_length (a ++ b ++ c); rw [List.length_append, List.length_append] at this; omega
        have lab : (overL (a ++ b)).length ≤ 1000 := by have := overL_length (a ++ b); rw [List.length_append] at this; omega
        have lbc : (overL (b ++ c)).length ≤ 1000 := by have := overL_length (b ++ c); rw [List.length_append] at this; omega
        have la : (overL a).length ≤ 1000 := by have := overL_length a; omega
        have oab := ok_over (ok_append oa ob)
        have obc := ok_over (ok_append ob oc)
        have e1 := over_left (a ++ b) c
        have e2 : overL (a ++ overL (b ++ c)) = X := by rw [over_right, ← List.append_assoc, hX]
        have e3 := over_self a
        rw [hX] at e1
        have CO1 := Lib.hid (fun w' (h : Below w.heap.size w w') => pair_over (w := w') (HA.out.below h) (HB.out.below h) oa ob (by omega))
        have CO2 := Lib.hid (fun w' u (h : Below w.heap.size w w') (k : ListF w' u (overL (a ++ b))) => pair_over (w := w') k (HC.out.below h) oab oc (by omega))
        have CO3 := Lib.hid (fun w' (h : Below w.heap.size w w') => pair_over (w := w') (HB.out.below h) (HC.out.below h) ob oc (by omega))
        have CO4 := Lib.hid (fun w' u (h : Below w.heap.size w w') (k : ListF w' u (overL (b ++ c))) => pair_over (w := w') (HA.out.below h) k oa obc (by omega))
        have CO5 := Lib.hid (fun w' (h : Below w.heap.size w w') => trio_over (w := w') (HA.out.below h) (HB.out.below h) (HC.out.below h) oa ob oc (by omega))
        have CO6 := Lib.hid (fun w' (h : Below w.heap.size w w') => pair_over (w := w') (HA.out.below h) (HA.out.below h) oa oa (by omega))
        have CO7 := Lib.hid (fun w' (h : Below w.heap.size w w') => single_over (w := w') (HA.out.below h) oa (by omega))
        have CSX := Lib.hid (fun w' u v (h : ListF w' u X) (k : ListF w' v X) => psame_any w' u v X X h k (by omega) (by omega))
        have CSA := Lib.hid (fun w' u v (h : ListF w' u (overL a)) (k : ListF w' v (overL a)) => psame_any w' u v _ _ h k (by omega) (by omega))
        rw [e1] at CO2
        rw [e2] at CO4
        rw [hX] at CO5
        rw [e3] at CO6
        rw [sameF_self] at CSX CSA
        generalize overL (a ++ b) = AB at *
        generalize overL (b ++ c) = BC at *
        generalize overL a = AA at *
        clear HA HB HC oa ob oc oab obc e1 e2 e3 hX lX lab lbc la
        generalize a.length = n1 at *
        generalize b.length = n2 at *
        generalize c.length = n3 at *
        go_enter Try.func6, Try.ntmps6
        go_wp2_with (first
          | (go_at_call 20; (with_reducible refine (CO1.out _ (bl w)).mono ?_); rintro e w1 ⟨u1, rfl, hl1, hb1⟩; obtain ⟨A1, c1, rfl, hk1⟩ := hl1.form; clear hl1)
          | (go_at_call 20; (with_reducible refine (CO2.out _ _ hb1 hk1).mono ?_); rintro e w2 ⟨u2, rfl, hl2, hb2⟩; obtain ⟨A2, c2, rfl, hk2⟩ := hl2.form; have hc2 := chain hb1 hb2; clear hl2)
          | (go_at_call 20; (with_reducible refine (CO3.out _ hc2).mono ?_); rintro e w3 ⟨u3, rfl, hl3, hb3⟩; obtain ⟨A3, c3, rfl, hk3⟩ := hl3.form; have hc3 := chain hc2 hb3; have hs2 := hk2.below hb3; clear hl3)
          | (go_at_call 20; (with_reducible refine (CO4.out _ _ hc3 hk3).mono ?_); rintro e w4 ⟨u4, rfl, hl4, hb4⟩; obtain ⟨A4, c4, rfl, hk4⟩ := hl4.form; have hc4 := chain hc3 hb4; have ht2 := hs2.below hb4; clear hl4)
          | (go_at_call 20; (with_reducible refine (CO5.out _ hc4).mono ?_); rintro e w5 ⟨u5, rfl, hl5, hb5⟩; obtain ⟨A5, c5, rfl, hk5⟩ := hl5.form; have hc5 := chain hc4 hb5; have hv2 := ht2.below hb5; have hv4 := hk4.below hb5; clear hl5)
          | (go_at_call 19; (with_reducible refine (CSX.out _ _ _ hv2 hv4).mono ?_); rintro e w6 ⟨rfl, hb6⟩; have hc6 := chain hc5 hb6)
          | (go_at_call 19; (with_reducible refine (CSX.out _ _ _ (hv4.below hb6) (hk5.below hb6)).mono ?_); rintro e w7 ⟨rfl, hb7⟩; have hc7 := chain hc6 hb7)
          | (go_at_call 20; (with_reducible refine (CO6.out _ hc7).mono ?_); rintro e w8 ⟨u8, rfl, hl8, hb8⟩; obtain ⟨A8, c8, rfl, hk8⟩ := hl8.form; have hc8 := chain hc7 hb8; clear hl8)
          | (go_at_call 20; (with_reducible refine (CO7.out _ hc8).mono ?_); rintro e w9 ⟨u9, rfl, hl9, hb9⟩; obtain ⟨A9, c9, rfl, hk9⟩ := hl9.form; have hc9 := chain hc8 hb9; clear hl9)
          | (go_at_call 19; (with_reducible refine (CSA.out _ _ _ (hk8.below hb9) hk9).mono ?_); rintro e wa ⟨rfl, hba⟩; have hca := chain hc9 hba)
          | (go_at_call 9; (with_reducible refine (CAL.out _).mono ?_); rintro e wb ⟨rfl, hbb⟩; have hcb := chain hca hbb))
        go_ret
        exact ⟨rfl, hcb⟩

end Go.Proofs.Ytnmnbnlokmmcmaa
