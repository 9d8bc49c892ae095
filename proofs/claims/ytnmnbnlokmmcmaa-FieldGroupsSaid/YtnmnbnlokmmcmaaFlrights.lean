/-
  FieldRights and FieldGets give back true for any text and any fields.
-/
import Derived.Test.YtnmnbnlokmmcmaaFalive
namespace Go.Proofs.Ytnmnbnlokmmcmaa
open Go.RowKit

theorem ret_bo {a b : Bool} (h : a = b) : Ending.returned (.bool a) = .returned (.bool b) := by rw [h]
theorem make_ok {l : List Fd} (h : okF l) : okF (makeF l).1 := by
  by_cases h8 : 8 < l.length
  · rw [make_big h8]; intro f hf; simp at hf
  · by_cases h2 : firstE l = 0
    · by_cases h3 : (overL l).length = l.length
      · rw [make_good h8 h2 h3]; intro f hf; exact h f (overL_mem hf)
      · rw [make_twice h8 h2 h3]; intro f hf; simp at hf
    · rw [make_bad h8 h2]; intro f hf; simp at hf

set_option maxHeartbeats 4000000 in
set_option maxRecDepth 10000 in
theorem rights_walk (s : ByteArray) (hs : s.size ≤ 9223372036854775807) (v : Value) (l : List Fd) (w : World) (hl : ListF w v l) (hok : okF l) (hn : l.length ≤ 9223372036854775807) :
    Ret 3 #[.string s, v] w (.bool true) := by
  have CAL := Lib.hid alive_any
  have HLF := Lib.hid hl
  obtain ⟨A, c, rfl, hF, hc, hnc⟩ := hl
  have CM1 := Lib.hid (fun w' (h : Below w.heap.size w w') => pmake_any w' _ l (HLF.out.below h) hok hn)
  have CM2 := Lib.hid (fun w' (h : Below w.heap.size w w') => dmake_any w' _ l (HLF.out.below h) hok hn)
  have CR1 := Lib.hid (fun w' (h : Below w.heap.size w w') => pright_any w' _ l (HLF.out.below h) hok hn)
  have CR2 := Lib.hid (fun w' (h : Below w.heap.size w w') => drightl_any w' _ l (HLF.out.below h) hok hn)
  have CN1 := Lib.hid (fun w' => pname_any s hs w')
  have CN2 := Lib.hid (fun w' => dname_any s hs w')
  obtain ⟨R, hR⟩ : ∃ R, (makeF l).1 = R := ⟨_, rfl⟩
  obtain ⟨z, hz⟩ : ∃ z, (makeF l).2 = z := ⟨_, rfl⟩
  have hR8 : R.length ≤ 8 := by rw [← hR]; exact make_length l
  have CRA := Lib.hid (fun w' u (h : ListF w' u R) => pright_any w' u R h (by rw [← hR]; exact make_ok hok) (by omega))
  have CSA := Lib.hid (fun w' u v (h : ListF w' u R) (k : ListF w' v R) => dsamel_any w' u v R R h k (by omega) (by omega))
  have HG := Lib.hid (show z = 0 → rightE R = 0 from fun h => by rw [← hR]; exact make_right (by rw [hz]; exact h))
  rw [hR, hz] at CM1 CM2
  rw [sameF_self] at CSA
  generalize rightE l = rl at *
  generalize nameB s = ns at *
  generalize l.length = n at *
  clear hF hc hnc hok hn hR hz hs HLF
  by_cases h3 : 300 < n
  · have h3' : (300 : Int) < (n : Int) := by omega
    go_enter Try.func3, Try.ntmps3
    go_wp2_with (go_at_call 9; with_reducible refine (CAL.out _).mono ?_; rintro e w2 ⟨rfl, hb⟩)
    go_ret
    exact ⟨rfl, hb⟩
  · have h3' : ¬ (300 : Int) < (n : Int) := by omega
    by_cases h0 : z = 0
    · have HZ := Lib.hid (HG.out h0)
      rw [HZ.out] at CRA
      subst h0
      clear HG HZ
      go_enter Try.func3, Try.ntmps3
      go_wp2_with (first
        | (go_at_call 10; (with_reducible refine (CM1.out _ (bl w)).mono ?_); rintro e w1 ⟨u1, rfl, hl1, hb1⟩)
        | (go_at_call 11; (with_reducible refine (CM2.out _ hb1).mono ?_); rintro e w2 ⟨u2, rfl, hl2, hb2⟩; have hc2 := chain hb1 hb2)
        | (go_at_call 12; (with_reducible refine (CN1.out _).mono ?_); rintro e w3 ⟨rfl, hb3⟩; have hc3 := chain hc2 hb3)
        | (go_at_call 13; (with_reducible refine (CN2.out _).mono ?_); rintro e w4 ⟨rfl, rfl⟩)
        | (go_at_call 15; (with_reducible refine (CR2.out _ hc5).mono ?_); rintro e w6 ⟨rfl, hb6⟩; have hc6 := chain hc5 hb6)
        | (go_at_call 16; (with_reducible refine (CSA.out _ _ _ ((((hl1.below hb2).below hb3).below hb5).below hb6) (((hl2.below hb3).below hb5).below hb6)).mono ?_); rintro e w7 ⟨rfl, hb7⟩; have hc7 := chain hc6 hb7)
        | (go_at_call 14; (with_reducible refine (CR1.out _ hc3).mono ?_); rintro e w5 ⟨rfl, hb5⟩; have hc5 := chain hc3 hb5)
        | (go_at_call 14; (with_reducible refine (CRA.out _ _ (((((hl1.below hb2).below hb3).below hb5).below hb6).below hb7)).mono ?_); rintro e w8 ⟨rfl, hb8⟩; have hc8 := chain hc7 hb8)
        | (go_at_call 9; (with_reducible refine (CAL.out _).mono ?_); rintro e w9 ⟨rfl, hb9⟩; have hc9 := chain hc8 hb9))
      go_ret
      exact ⟨rfl, hc9⟩
    · have h0' : ¬ (z : Int) = 0 := by omega
      clear HG
      go_enter Try.func3, Try.ntmps3
      go_wp2_with (first
        | (go_at_call 10; (with_reducible refine (CM1.out _ (bl w)).mono ?_); rintro e w1 ⟨u1, rfl, hl1, hb1⟩)
        | (go_at_call 11; (with_reducible refine (CM2.out _ hb1).mono ?_); rintro e w2 ⟨u2, rfl, hl2, hb2⟩; have hc2 := chain hb1 hb2)
        | (go_at_call 12; (with_reducible refine (CN1.out _).mono ?_); rintro e w3 ⟨rfl, hb3⟩; have hc3 := chain hc2 hb3)
        | (go_at_call 13; (with_reducible refine (CN2.out _).mono ?_); rintro e w4 ⟨rfl, rfl⟩)
        | (go_at_call 15; (with_reducible refine (CR2.out _ hc5).mono ?_); rintro e w6 ⟨rfl, hb6⟩; have hc6 := chain hc5 hb6)
        | (go_at_call 16; (with_reducible refine (CSA.out _ _ _ ((((hl1.below hb2).below hb3).below hb5).below hb6) (((hl2.below hb3).below hb5).below hb6)).mono ?_); rintro e w7 ⟨rfl, hb7⟩; have hc7 := chain hc6 hb7)
        | (go_at_call 14; (with_reducible refine (CR1.out _ hc3).mono ?_); rintro e w5 ⟨rfl, hb5⟩; have hc5 := chain hc3 hb5)
        | (go_at_call 9; (with_reducible refine (CAL.out _).mono ?_); rintro e w9 ⟨rfl, hb9⟩; have hc9 := chain hc7 hb9))
      go_ret
      exact ⟨rfl, hc9⟩

set_option maxHeartbeats 4000000 in
set_option maxRecDepth 10000 in
theorem gets_walk (va vb : Value) (a b : List Fd) (s : ByteArray) (w : World) (ha : ListF w va a) (hb : ListF w vb b) (hn : a.length ≤ 9223372036854775807) (hm : b.length ≤ 9223372036854775807) :
    Ret 4 #[va, vb, .string s] w (.bool true) := by
  have CAL := Lib.hid alive_any
  have HA := Lib.hid ha
  have HB := Lib.hid hb
  obtain ⟨A, c, rfl, hF, hc, hnc⟩ := ha
  obtain ⟨B, d, rfl, hG, hd, hnd⟩ := hb
  have CG1 := Lib.hid (fun w' (h : Below w.heap.size w w') => pget_any w' _ a s (HA.out.below h) hn)
  have CG2 := Lib.hid (fun w' (h : Below w.heap.size w w') => dgetl_any w' _ a s (HA.out.below h) hn)
  have CS1 := Lib.hid (fun w' (h : Below w.heap.size w w') => psame_any w' _ _ a b (HA.out.below h) (HB.out.below h) hn hm)
  have CS2 := Lib.hid (fun w' (h : Below w.heap.size w w') => dsamel_any w' _ _ a b (HA.out.below h) (HB.out.below h) hn hm)
  have CS3 := Lib.hid (fun w' (h : Below w.heap.size w w') => psame_any w' _ _ b b (HB.out.below h) (HB.out.below h) hm hm)
  rw [sameF_self] at CS3
  generalize (getL a s).getD 0 = g at *
  generalize (getL a s).isSome = gi at *
  generalize sameF a b = t at *
  generalize a.length = n at *
  generalize b.length = m at *
  clear hF hc hnc hn hG hd hnd hm HA HB
  by_cases h3 : 300 < n
  · have h3' : (300 : Int) < (n : Int) := by omega
    have h3d : decide (300 < n) = true := by rw [decide_eq_true_eq]; exact h3
    go_enter Try.func4, Try.ntmps4
    go_wp2_with (go_at_call 9; with_reducible refine (CAL.out _).mono ?_; rintro e w2 ⟨rfl, hb⟩)
    go_ret
    exact ⟨rfl, hb⟩
  · have h3' : ¬ (300 : Int) < (n : Int) := by omega
    have h3d : decide (300 < n) = false := by rw [decide_eq_false_iff_not]; exact h3
    by_cases h4 : 300 < m
    · have h4' : (300 : Int) < (m : Int) := by omega
      have h4d : decide (300 < m) = true := by rw [decide_eq_true_eq]; exact h4
      go_enter Try.func4, Try.ntmps4
      go_wp2_with (go_at_call 9; with_reducible refine (CAL.out _).mono ?_; rintro e w2 ⟨rfl, hb⟩)
      go_ret
      exact ⟨rfl, hb⟩
    · have h4' : ¬ (300 : Int) < (m : Int) := by omega
      have h4d : decide (300 < m) = false := by rw [decide_eq_false_iff_not]; exact h4
      go_enter Try.func4, Try.ntmps4
      go_wp2_with (first
        | (go_at_call 17; (with_reducible refine (CG1.out _ (bl w)).mono ?_); rintro e w1 ⟨rfl, hb1⟩)
        | (go_at_call 18; (with_reducible refine (CG2.out _ hb1).mono ?_); rintro e w2 ⟨rfl, hb2⟩; have hc2 := chain hb1 hb2)
        | (go_at_call 16; (with_reducible refine (CS2.out _ hc3).mono ?_); rintro e w4 ⟨rfl, hb4⟩; have hc4 := chain hc3 hb4)
        | (go_at_call 19; (with_reducible refine (CS1.out _ hc2).mono ?_); rintro e w3 ⟨rfl, hb3⟩; have hc3 := chain hc2 hb3)
        | (go_at_call 19; (with_reducible refine (CS3.out _ hc4).mono ?_); rintro e w5 ⟨rfl, hb5⟩; have hc5 := chain hc4 hb5)
        | (go_at_call 9; (with_reducible refine (CAL.out _).mono ?_); rintro e w9 ⟨rfl, hb9⟩; have hc9 := chain hc5 hb9))
      go_ret
      exact ⟨rfl, hc9⟩

end Go.Proofs.Ytnmnbnlokmmcmaa
