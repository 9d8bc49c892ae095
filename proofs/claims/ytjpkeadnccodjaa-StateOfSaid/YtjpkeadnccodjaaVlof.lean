/-
  StateOf, StateAt and StateChanges give back true for any versions and any fields.
-/
import Derived.Test.YtjpkeadnccodjaaValive
namespace Go.Proofs.Ytjpkeadnccodjaa
open Go.RowKit

theorem of_length {l : List Vr} (h : fewV l) : (ofL l).length ≤ 20000 := by
  have := overL_length (countsV l).flatten
  have := (counts_few h).2.1
  unfold ofL
  omega

set_option maxHeartbeats 4000000 in
set_option maxRecDepth 10000 in
theorem of_walk (u : Value) (l : List Vr) (w : World) (hl : VersL w u l) (hok : ∀ v ∈ l, okF v.fs) (hn : l.length ≤ 9223372036854775807) : Ret 3 #[u] w (.bool true) := by
  have CAL := Lib.hid alive_any
  have CF := Lib.hid (fun w' (h : Below w.heap.size w w') => dfew_any w' u l 100 (hl.below h).1 hn)
  cases hf : fewB l 100 with
  | false =>
    rw [hf] at CF
    have CF0 := Lib.hid (CF.out w (bl w))
    clear CF hf hl hok hn
    go_enter Try.func3, Try.ntmps3
    go_wp2_with (first
      | (go_at_call 8; (with_reducible refine CF0.out.mono ?_); rintro e w1 ⟨rfl, rfl⟩)
      | (go_at_call 9; (with_reducible refine (CAL.out _).mono ?_); rintro e w2 ⟨rfl, hb⟩))
    go_ret
    exact ⟨rfl, hb⟩
  | true =>
    have hfew := few_of hf (by decide)
    rw [hf] at CF
    have CF0 := Lib.hid (CF.out w (bl w))
    have CO1 := Lib.hid (fun w' (h : Below w.heap.size w w') => porder_any w' u l (hl.below h) hfew)
    have CO2 := Lib.hid (fun w' (h : Below w.heap.size w w') => dorder_any w' u l (hl.below h) (by have := hfew.1; omega))
    have CF1 := Lib.hid (fun w' (h : Below w.heap.size w w') => pof_any w' u l (hl.below h) hfew hok)
    have CF2 := Lib.hid (fun w' (h : Below w.heap.size w w') => dof_any w' u l (hl.below h) hfew)
    have hlen := of_length hfew
    have holen : (ordL l).length ≤ 200 := by rw [ordL_length]; exact hfew.1
    have hofs : ∀ v ∈ ordL l, v.fs.length ≤ 100000 := fun v hv => by have := hfew.2 v ((ordL_perm l).mem_iff.1 hv); omega
    generalize ofL l = R at *
    generalize ordL l = O at *
    have CSF := Lib.hid (fun w' u v (h : ListF w' u R) (k : ListF w' v R) => dsamef_any w' u v R R h k (by omega) (by omega))
    have CSV := Lib.hid (fun w' u v (h : LikeV w' u O) (k : VersL w' v O) => dsamev_like w' u v O h k (by omega) hofs)
    rw [sameF_self] at CSF
    clear CF hf hl hok hn hfew hlen holen hofs
    go_enter Try.func3, Try.ntmps3
    go_wp2_with (first
      | (go_at_call 8; (with_reducible refine CF0.out.mono ?_); rintro e w1 ⟨rfl, rfl⟩)
      | (go_at_call 11; (with_reducible refine (CO1.out _ (bl _)).mono ?_); rintro e w2 ⟨u2, rfl, hl2, hb2⟩)
      | (go_at_call 12; (with_reducible refine (CO2.out _ hb2).mono ?_); rintro e w3 ⟨u3, rfl, hl3, hb3⟩; have hc3 := chain hb2 hb3)
      | (go_at_call 10; (with_reducible refine (CSV.out _ _ _ (hl2.below hb3) hl3).mono ?_); rintro e w4 ⟨rfl, hb4⟩; have hc4 := chain hc3 hb4)
      | (go_at_call 14; (with_reducible refine (CF1.out _ hc4).mono ?_); rintro e w5 ⟨u5, rfl, hl5, hb5⟩; have hc5 := chain hc4 hb5)
      | (go_at_call 15; (with_reducible refine (CF2.out _ hc5).mono ?_); rintro e w6 ⟨u6, rfl, hl6, hb6⟩; have hc6 := chain hc5 hb6)
      | (go_at_call 13; (with_reducible refine (CSF.out _ _ _ (hl5.below hb6) hl6).mono ?_); rintro e w7 ⟨rfl, hb7⟩; have hc7 := chain hc6 hb7)
      | (go_at_call 9; (with_reducible refine (CAL.out _).mono ?_); rintro e w8 ⟨rfl, hb8⟩; have hc8 := chain hc7 hb8))
    go_ret
    exact ⟨rfl, hc8⟩

set_option maxHeartbeats 4000000 in
set_option maxRecDepth 10000 in
theorem at_walk (t : Int) (u : Value) (l : List Vr) (s : ByteArray) (w : World) (hl : VersL w u l) (hok : ∀ v ∈ l, okF v.fs) (hn : l.length ≤ 9223372036854775807) : Ret 4 #[.int .i64 t, u, .string s] w (.bool true) := by
  have CAL := Lib.hid alive_any
  have CF := Lib.hid (fun w' (h : Below w.heap.size w w') => dfew_any w' u l 100 (hl.below h).1 hn)
  cases hf : fewB l 100 with
  | false =>
    rw [hf] at CF
    have CF0 := Lib.hid (CF.out w (bl w))
    clear CF hf hl hok hn
    go_enter Try.func4, Try.ntmps4
    go_wp2_with (first
      | (go_at_call 8; (with_reducible refine CF0.out.mono ?_); rintro e w1 ⟨rfl, rfl⟩)
      | (go_at_call 9; (with_reducible refine (CAL.out _).mono ?_); rintro e w2 ⟨rfl, hb⟩))
    go_ret
    exact ⟨rfl, hb⟩
  | true =>
    have hfew := few_of hf (by decide)
    rw [hf] at CF
    have CF0 := Lib.hid (CF.out w (bl w))
    have CS1 := Lib.hid (fun w' (h : Below w.heap.size w w') => psetter_any w' s u l (hl.below h) hfew)
    have CS2 := Lib.hid (fun w' (h : Below w.heap.size w w') => dsetter_any w' s u l (hl.below h) hfew)
    have CA1 := Lib.hid (fun w' (h : Below w.heap.size w w') => pat_any w' t u l (hl.below h) hfew hok)
    have CA2 := Lib.hid (fun w' (h : Below w.heap.size w w') => dat_any w' t u l (hl.below h) hfew)
    have hlen : (atL t l).length ≤ 20000 := of_length (few_filter _ hfew)
    generalize atL t l = R at *
    generalize (setL s l).getD 0 = q at *
    generalize (setL s l).isSome = qi at *
    have CSF := Lib.hid (fun w' u v (h : ListF w' u R) (k : ListF w' v R) => dsamef_any w' u v R R h k (by omega) (by omega))
    rw [sameF_self] at CSF
    clear CF hf hl hok hn hfew hlen
    go_enter Try.func4, Try.ntmps4
    go_wp2_with (first
      | (go_at_call 8; (with_reducible refine CF0.out.mono ?_); rintro e w1 ⟨rfl, rfl⟩)
      | (go_at_call 16; (with_reducible refine (CS1.out _ (bl _)).mono ?_); rintro e w2 ⟨rfl, hb2⟩)
      | (go_at_call 17; (with_reducible refine (CS2.out _ hb2).mono ?_); rintro e w3 ⟨rfl, hb3⟩; have hc3 := chain hb2 hb3)
      | (go_at_call 18; (with_reducible refine (CA1.out _ hc3).mono ?_); rintro e w5 ⟨u5, rfl, hl5, hb5⟩; have hc5 := chain hc3 hb5)
      | (go_at_call 19; (with_reducible refine (CA2.out _ hc5).mono ?_); rintro e w6 ⟨u6, rfl, hl6, hb6⟩; have hc6 := chain hc5 hb6)
      | (go_at_call 13; (with_reducible refine (CSF.out _ _ _ (hl5.below hb6) hl6).mono ?_); rintro e w7 ⟨rfl, hb7⟩; have hc7 := chain hc6 hb7)
      | (go_at_call 9; (with_reducible refine (CAL.out _).mono ?_); rintro e w8 ⟨rfl, hb8⟩; have hc8 := chain hc7 hb8))
    go_ret
    exact ⟨rfl, hc8⟩

set_option maxHeartbeats 4000000 in
set_option maxRecDepth 10000 in
theorem changes_walk (va vb : Value) (a b : List Fd) (w : World) (ha : ListF w va a) (hb : ListF w vb b) (oa : okF a) (ob : okF b) : Ret 5 #[va, vb] w (.bool true) := by
  have CAL := Lib.hid alive_any
  have HA := Lib.hid ha
  have HB := Lib.hid hb
  obtain ⟨A, c, rfl, hF, hc, hnc⟩ := ha
  obtain ⟨B, d, rfl, hG, hd, hnd⟩ := hb
  clear hF hG hc hnc hd hnd
  by_cases h3 : 100 < a.length
  · have h3' : (100 : Int) < (a.length : Int) := by omega
    have h3d : decide (100 < a.length) = true := by rw [decide_eq_true_eq]; exact h3
    clear HA HB
    generalize a.length = n at *
    generalize b.length = m at *
    go_enter Try.func5, Try.ntmps5
    go_wp2_with (go_at_call 9; with_reducible refine (CAL.out _).mono ?_; rintro e w2 ⟨rfl, hb⟩)
    go_ret
    exact ⟨rfl, hb⟩
  · have h3' : ¬ (100 : Int) < (a.length : Int) := by omega
    have h3d : decide (100 < a.length) = false := by rw [decide_eq_false_iff_not]; exact h3
    by_cases h4 : 100 < b.length
    · have h4' : (100 : Int) < (b.length : Int) := by omega
      have h4d : decide (100 < b.length) = true := by rw [decide_eq_true_eq]; exact h4
      clear HA HB
      generalize a.length = n at *
      generalize b.length = m at *
      go_enter Try.func5, Try.ntmps5
      go_wp2_with (go_at_call 9; with_reducible refine (CAL.out _).mono ?_; rintro e w2 ⟨rfl, hb⟩)
      go_ret
      exact ⟨rfl, hb⟩
    · have h4' : ¬ (100 : Int) < (b.length : Int) := by omega
      have h4d : decide (100 < b.length) = false := by rw [decide_eq_false_iff_not]; exact h4
      have CC1 := Lib.hid (fun w' (h : Below w.heap.size w w') => pchanged_any w' _ _ a b (HA.out.below h) (HB.out.below h) (by omega) (by omega) oa ob)
      have CC2 := Lib.hid (fun w' (h : Below w.heap.size w w') => dchanged_any w' _ _ a b (HA.out.below h) (HB.out.below h) (by omega) (by omega))
      have CC3 := Lib.hid (fun w' (h : Below w.heap.size w w') => pchanged_any w' _ _ b a (HB.out.below h) (HA.out.below h) (by omega) (by omega) ob oa)
      have CC4 := Lib.hid (fun w' (h : Below w.heap.size w w') => pchanged_any w' _ _ a a (HA.out.below h) (HA.out.below h) (by omega) (by omega) oa oa)
      rw [chg_comm] at CC3
      rw [chg_self] at CC4
      have hlen : (chgL a b).length ≤ 200 := by have := chg_length a b; omega
      generalize chgL a b = R at *
      have CST := Lib.hid (fun w' u v (h : ListE ES w' u R) (k : ListE ES w' v R) => dtexts_any w' u v R R h k (by omega) (by omega))
      rw [textsB_self] at CST
      clear HA HB oa ob hlen
      generalize a.length = n at *
      generalize b.length = m at *
      go_enter Try.func5, Try.ntmps5
      go_wp2_with (first
        | (go_at_call 20; (with_reducible refine (CC1.out _ (bl w)).mono ?_); rintro e w1 ⟨u1, rfl, hl1, hb1⟩)
        | (go_at_call 22; (with_reducible refine (CC2.out _ hb1).mono ?_); rintro e w2 ⟨u2, rfl, hl2, hb2⟩; have hc2 := chain hb1 hb2)
        | (go_at_call 21; (with_reducible refine (CST.out _ _ _ (hl1.below hb2) hl2).mono ?_); rintro e w3 ⟨rfl, hb3⟩; have hc3 := chain hc2 hb3; have hk1 := (hl1.below hb2).below hb3)
        | (go_at_call 20; (with_reducible refine (CC3.out _ hc3).mono ?_); rintro e w4 ⟨u4, rfl, hl4, hb4⟩; have hc4 := chain hc3 hb4)
        | (go_at_call 21; (with_reducible refine (CST.out _ _ _ hl4 (hk1.below hb4)).mono ?_); rintro e w5 ⟨rfl, hb5⟩; have hc5 := chain hc4 hb5)
        | (go_at_call 20; (with_reducible refine (CC4.out _ hc5).mono ?_); rintro e w6 ⟨u6, rfl, ⟨A6, c6, rfl, hl6⟩, hb6⟩; have hc6 := chain hc5 hb6)
        | (go_at_call 9; (with_reducible refine (CAL.out _).mono ?_); rintro e w8 ⟨rfl, hb8⟩; have hc8 := chain hc6 hb8))
      go_ret
      exact ⟨rfl, hc8⟩

end Go.Proofs.Ytjpkeadnccodjaa
