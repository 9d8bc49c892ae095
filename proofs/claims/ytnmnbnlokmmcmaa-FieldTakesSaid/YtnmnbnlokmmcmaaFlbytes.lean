/-
  FieldBytes and FieldTakes give back true for any fields and any text.
-/
import Derived.Test.YtnmnbnlokmmcmaaFlovers
namespace Go.Proofs.Ytnmnbnlokmmcmaa
open Go.RowKit

theorem many_size : ∀ (l : List Fd) (o : Option ByteArray), rightG o l = 0 → (manyS l).size ≤ 40 * l.length
  | [], _, _ => Nat.le_refl _
  | f :: l, o, h => by
    obtain ⟨h1, h2, h3⟩ := behind_right.1 h
    have ih := many_size l _ h3
    have t1 := text_small (name_size (behind_name h1))
    have t2 := int_small h2
    rw [manyS, oneS, ByteArray.size_append, ByteArray.size_append, List.length_cons]
    omega
theorem putS_size (l : List Fd) : (putS l).size ≤ 1000 := by
  unfold putS
  by_cases h : rightE l = 0
  · rw [if_pos h, ByteArray.size_append, encS_size]
    obtain ⟨h8, hg⟩ := right_in h
    have := many_size l none hg
    have := kN_le l.length
    omega
  · rw [if_neg h]; exact Nat.zero_le _
theorem take_ok (s : ByteArray) : okF (takeF s).1 := by
  by_cases h : (takeF s).2.2 = 0
  · intro f hf
    obtain ⟨_, hg⟩ := right_in (putF_take h).1
    have := name_size (right_at _ none hg f hf).1
    omega
  · have e : (takeF s).1 = [] := by
      unfold takeF at h ⊢
      by_cases h1 : tkE s ≠ 0
      · rw [if_pos h1]
      · rw [if_neg h1] at h ⊢
        by_cases h2 : 8 < tkN s
        · rw [if_pos h2]
        · rw [if_neg h2] at h ⊢
          rw [takeG_err h]
    rw [e]; intro f hf; simp at hf

set_option maxHeartbeats 4000000 in
set_option maxRecDepth 10000 in
theorem bytes_walk (v : Value) (l : List Fd) (b : ByteArray) (w : World) (hl : ListF w v l) (hok : okF l) (hn : l.length ≤ 9223372036854775807) (hb : b.size ≤ 140737488351232) :
    Ret 7 #[v, .string b] w (.bool true) := by
  have CAL := Lib.hid alive_any
  have HLF := Lib.hid hl
  obtain ⟨A, c, rfl, hF, hc, hnc⟩ := hl
  have CP1 := Lib.hid (fun w' (h : Below w.heap.size w w') => pput_any w' _ l (HLF.out.below h) hok hn)
  have CP2 := Lib.hid (fun w' (h : Below w.heap.size w w') => dput_any w' _ l (HLF.out.below h) hok hn)
  have hz := putS_size l
  have CT := Lib.hid (fun w' => ptakef_any (putS l ++ b) (by rw [ByteArray.size_append]; omega) w')
  have CSA := Lib.hid (fun w' u (h : Below w.heap.size w w') (k : ListF w' u l) => dsamel_any w' u _ l l k (HLF.out.below h) hn hn)
  rw [sameF_self] at CSA
  have HT := Lib.hid (fun h => takeF_put (l := l) h b)
  obtain ⟨T, hT⟩ : ∃ T, takeF (putS l ++ b) = T := ⟨_, rfl⟩
  rw [hT] at HT
  have CT2 := Lib.hid (show ∀ w', Calls Try.prog 24 #[.string (putS l ++ b)] w' fun e w2 => ∃ u, e = .returned (.tuple #[u, .string T.2.1, .int .i64 ((T.2.2 : Nat) : Int)]) ∧ ListF w2 u T.1 ∧ Below w'.heap.size w' w2 from fun w' => by
    have h := CT.out w'
    unfold TakeFPost at h
    rwa [hT] at h)
  have z1 : ¬ (putS l).size + b.size > 9223372036854775807 := by omega
  generalize putS l = P at *
  obtain ⟨z, hzz⟩ : ∃ z, rightE l = z := ⟨_, rfl⟩
  rw [hzz] at CP1 CP2 HT
  clear hF hc hnc hok hn HLF CT hT hzz hz hb
  by_cases h3 : 300 < l.length
  · have h3' : (300 : Int) < (l.length : Int) := by omega
    generalize l.length = n at *
    go_enter Try.func7, Try.ntmps7
    go_wp2_with (go_at_call 9; with_reducible refine (CAL.out _).mono ?_; rintro e w2 ⟨rfl, hb⟩)
    go_ret
    exact ⟨rfl, hb⟩
  · have h3' : ¬ (300 : Int) < (l.length : Int) := by omega
    by_cases h0 : z = 0
    · have hT0 := HT.out h0
      subst h0
      subst hT0
      clear HT
      generalize l.length = n at *
      go_enter Try.func7, Try.ntmps7
      go_wp2_with (first
        | (go_at_call 22; (with_reducible refine (CP1.out _ (bl w)).mono ?_); rintro e w1 ⟨rfl, hb1⟩)
        | (go_at_call 23; (with_reducible refine (CP2.out _ hb1).mono ?_); rintro e w2 ⟨rfl, hb2⟩; have hc2 := chain hb1 hb2)
        | (go_at_call 24; (with_reducible refine (CT2.out _).mono ?_); rintro e w3 ⟨u3, rfl, hl3, hb3⟩; have hc3 := chain hc2 hb3)
        | (go_at_call 16; (with_reducible refine (CSA.out _ _ hc3 hl3).mono ?_); rintro e w4 ⟨rfl, hb4⟩; have hc4 := chain hc3 hb4)
        | (go_at_call 9; (with_reducible refine (CAL.out _).mono ?_); rintro e w9 ⟨rfl, hb9⟩; have hc9 := chain hc4 hb9))
      go_ret
      exact ⟨rfl, hc9⟩
    · have h0' : ¬ (z : Int) = 0 := by omega
      clear HT CSA
      generalize l.length = n at *
      obtain ⟨T1, T2, T3⟩ := T
      go_enter Try.func7, Try.ntmps7
      go_wp2_with (first
        | (go_at_call 22; (with_reducible refine (CP1.out _ (bl w)).mono ?_); rintro e w1 ⟨rfl, hb1⟩)
        | (go_at_call 23; (with_reducible refine (CP2.out _ hb1).mono ?_); rintro e w2 ⟨rfl, hb2⟩; have hc2 := chain hb1 hb2)
        | (go_at_call 24; (with_reducible refine (CT2.out _).mono ?_); rintro e w3 ⟨u3, rfl, hl3, hb3⟩; have hc3 := chain hc2 hb3)
        | (go_at_call 9; (with_reducible refine (CAL.out _).mono ?_); rintro e w9 ⟨rfl, hb9⟩; have hc9 := chain hc3 hb9))
      go_ret
      exact ⟨rfl, hc9⟩

set_option maxHeartbeats 4000000 in
set_option maxRecDepth 10000 in
theorem takes_walk (s : ByteArray) (hs : s.size ≤ 9223372036854775807) (w : World) : Ret 8 #[.string s] w (.bool true) := by
  have CAL := Lib.hid alive_any
  by_cases h3 : 3000 < s.size
  · have h3' : (3000 : Int) < (s.size : Int) := by omega
    go_enter Try.func8, Try.ntmps8
    go_wp2_with (go_at_call 9; with_reducible refine (CAL.out _).mono ?_; rintro e w2 ⟨rfl, hb⟩)
    go_ret
    exact ⟨rfl, hb⟩
  · have h3' : ¬ (3000 : Int) < (s.size : Int) := by omega
    have CT1 := ptakef_any s (by omega) w
    have CT2 := fun w' => dtakef_any s (by omega) w'
    have hlen := take_length s
    have hok := take_ok s
    have HPT := fun h => putF_take (s := s) h
    unfold TakeFPost at CT1 CT2
    generalize takeF s = T at *
    obtain ⟨R, r, z⟩ := T
    have CT1 := Lib.hid CT1
    have CT2 := Lib.hid CT2
    have CSA := Lib.hid (fun w' u v (h : ListF w' u R) (k : ListF w' v R) => dsamel_any w' u v R R h k (by simp at hlen; omega) (by simp at hlen; omega))
    rw [sameF_self] at CSA
    have CP := Lib.hid (fun w' u (h : ListF w' u R) => pput_any w' u R h hok (by simp at hlen; omega))
    have hP := putS_size R
    by_cases h0 : z = 0
    · have HQ := HPT h0
      subst h0
      have hR0 : rightE R = 0 := HQ.1
      have hE : putS R ++ r = s := HQ.2
      rw [hR0] at CP
      have z1 : ¬ (putS R).size + r.size > 9223372036854775807 := by
        have := congrArg ByteArray.size hE
        rw [ByteArray.size_append] at this
        omega
      generalize putS R = P at *
      clear HQ HPT hR0 hok hlen hP
      go_enter Try.func8, Try.ntmps8
      go_wp2_with (first
        | (go_at_call 24; (with_reducible refine CT1.out.mono ?_); rintro e w1 ⟨u1, rfl, hl1, hb1⟩)
        | (go_at_call 25; (with_reducible refine (CT2.out _).mono ?_); rintro e w2 ⟨u2, rfl, hl2, hb2⟩; have hc2 := chain hb1 hb2)
        | (go_at_call 16; (with_reducible refine (CSA.out _ _ _ (hl1.below hb2) hl2).mono ?_); rintro e w3 ⟨rfl, hb3⟩; have hc3 := chain hc2 hb3)
        | (go_at_call 22; (with_reducible refine (CP.out _ _ ((hl1.below hb2).below hb3)).mono ?_); rintro e w4 ⟨rfl, hb4⟩; have hc4 := chain hc3 hb4)
        | (go_at_call 9; (with_reducible refine (CAL.out _).mono ?_); rintro e w9 ⟨rfl, hb9⟩; have hc9 := chain hc4 hb9))
      go_ret
      exact ⟨rfl, hc9⟩
    · have h0' : ¬ (z : Int) = 0 := by omega
      generalize putS R = P at *
      generalize rightE R = y at *
      clear HPT hok hlen hP
      go_enter Try.func8, Try.ntmps8
      go_wp2_with (first
        | (go_at_call 24; (with_reducible refine CT1.out.mono ?_); rintro e w1 ⟨u1, rfl, hl1, hb1⟩)
        | (go_at_call 25; (with_reducible refine (CT2.out _).mono ?_); rintro e w2 ⟨u2, rfl, hl2, hb2⟩; have hc2 := chain hb1 hb2)
        | (go_at_call 16; (with_reducible refine (CSA.out _ _ _ (hl1.below hb2) hl2).mono ?_); rintro e w3 ⟨rfl, hb3⟩; have hc3 := chain hc2 hb3)
        | (go_at_call 22; (with_reducible refine (CP.out _ _ ((hl1.below hb2).below hb3)).mono ?_); rintro e w4 ⟨rfl, hb4⟩; have hc4 := chain hc3 hb4)
        | (go_at_call 9; (with_reducible refine (CAL.out _).mono ?_); rintro e w9 ⟨rfl, hb9⟩; have hc9 := chain hc4 hb9))
      go_ret
      exact ⟨rfl, hc9⟩

end Go.Proofs.Ytnmnbnlokmmcmaa
