/-
  The law AllenCloses, walked: for any number and any sets it gives back true.
-/
import Derived.Test.YtegmegapkfbkeaaDoorDclose
import Derived.Test.YtegmegapkfbkeaaDoorNames
namespace Go.Proofs.YtegmegapkfbkeaaDoor
open Go.RowKit

/-- There are not as many sets as things want, or a number that is none. -/
def Bad (n : Int) (N : Nat) : Prop := n < 0 ∨ ∃ m : Nat, n = m ∧ m ≤ 8 ∧ N ≠ m * m
theorem none_false : Ending.returned (.tuple #[.slice none 0 0, .bool false]) = .returned (.tuple #[.slice none 0 0, .bool false]) := rfl

set_option maxHeartbeats 4000000 in
theorem close_bad (n : Int) (N c : Nat) (A : Option Addr) (w : World) (h : Bad n N) : Calls Tryd.prog 24 #[.int .i64 n, .slice A N c] w fun e w' => e = .returned (.tuple #[.slice none 0 0, .bool false]) ∧ w' = w := by
  rcases h with h | ⟨m, rfl, hm, hN⟩
  · go_enter Tryd.func24, Tryd.ntmps24
    go_wp2_with fail
    go_step3
    go_wp2_with fail
    try rw [Exit.noGoto_ret]
    go_ret2
    exact ⟨rfl, rfl⟩
  · have vn := wrap_mul hm hm
    have hnI : (m : Int) ≤ 8 := by omega
    have q0 : ((N : Int) != ((m * m : Nat) : Int)) = true := by simp only [bne_iff_ne, ne_eq, Int.natCast_inj]; exact hN
    clear hN
    obtain ⟨M, eM⟩ : ∃ M, m * m = M := ⟨_, rfl⟩
    rw [eM] at vn q0
    clear eM
    go_enter Tryd.func24, Tryd.ntmps24
    go_wp2_with fail
    go_step3
    go_wp2_with fail
    try rw [Exit.noGoto_ret]
    go_ret2
    exact ⟨rfl, rfl⟩

set_option maxRecDepth 100000 in
set_option maxHeartbeats 4000000 in
theorem dclose_bad (n : Int) (N c : Nat) (A : Option Addr) (w : World) (h : Bad n N) : Calls Tryd.prog 25 #[.int .i64 n, .slice A N c] w fun e w' => e = .returned (.tuple #[.slice none 0 0, .bool false]) ∧ w' = w := by
  rcases h with h | ⟨m, rfl, hm, hN⟩
  · go_enter Tryd.func25, Tryd.ntmps25
    go_wp2_with fail
    go_ret2
    exact ⟨rfl, rfl⟩
  · have vn := wrap_mul hm hm
    have hnI : (m : Int) ≤ 8 := by omega
    have q0 : ((N : Int) != ((m * m : Nat) : Int)) = true := by simp only [bne_iff_ne, ne_eq, Int.natCast_inj]; exact hN
    clear hN
    obtain ⟨M, eM⟩ : ∃ M, m * m = M := ⟨_, rfl⟩
    rw [eM] at vn q0
    clear eM
    go_enter Tryd.func25, Tryd.ntmps25
    go_wp2_with fail
    go_ret2
    exact ⟨rfl, rfl⟩

set_option maxHeartbeats 2000000 in
theorem dsame_true (w : World) (A B : Option Addr) (N c d : Nat) (zs : Nat → Int) (hA : Ints w A zs N) (hB : Ints w B zs N) (hN : N ≤ 1000000) :
    Calls Tryd.prog 26 #[.slice A N c, .slice B N d] w fun e w' => e = .returned (.bool true) ∧ Below w.heap.size w w' := by
  have HA := Lib.hid hA
  have HB := Lib.hid hB
  clear hA hB
  go_enter Tryd.func26, Tryd.ntmps26
  go_wp2_with fail
  go_loopg [5] N (fun g ii wr => ∃ p : Nat, p ≤ N ∧ g = N - p ∧ ii = .int .i64 p ∧ ∃ q, wr = w.drewN q)
  case atStart => exact ⟨0, Nat.zero_le _, rfl, rfl, 0, rfl⟩
  case round =>
    obtain ⟨p, hp, rfl, rfl, q, rfl⟩ := hrel
    by_cases hlt : p < N
    · have hltI : (p : Int) < N := by omega
      obtain ⟨g, off, rfl, c1⟩ := HA.out p hlt
      obtain ⟨g', off', rfl, c2⟩ := HB.out p hlt
      go_wp2_with fail
      go_quiet (fail)
      go_wp2_with fail
      go_roundg (N - (p + 1))
      case measure => omega
      case rel => exact ⟨p + 1, by omega, rfl, by go_num, _, rfl⟩
    · obtain rfl : p = N := by omega
      go_wp2_with fail
      go_ret
      exact ⟨rfl, below_drewN (bl _) _⟩

theorem Arr.ints {w : World} {g N : Nat} {T : Nat → Nat} (h : Arr w g T N) : Ints w (some ⟨g, 0, none⟩) (fun p => (T p : Int)) N := fun i hi => ⟨g, 0, rfl, by rw [Nat.zero_add]; exact (h.2 i hi).1⟩
theorem Ints.congr {w : World} {A : Option Addr} {N : Nat} {zs ys : Nat → Int} (h : Ints w A zs N) (e : ∀ p, p < N → zs p = ys p) : Ints w A ys N := fun i hi => by rw [← e i hi]; exact h i hi
theorem Ints.nil (w : World) (A : Option Addr) (zs : Nat → Int) : Ints w A zs 0 := fun i hi => by omega

set_option maxHeartbeats 8000000 in
theorem closes_walk (n : Int) (N c : Nat) (A : Option Addr) (zs : Nat → Int) (w : World) (hT : Tab w) (hI : Ints w A zs N) : Ret 7 #[.int .i64 n, .slice A N c] w (.bool true) := by
  have HT := Lib.hid hT
  clear hT
  by_cases hn : 4 < n
  · go_enter Tryd.func7, Tryd.ntmps7
    go_wp2_with fail
    (go_at_call 15; refine (alive_any _ HT.out).mono ?_; rintro e w1 ⟨rfl, hb1⟩)
    go_wp2_with fail
    go_ret
    exact ⟨rfl, hb1⟩
  have hn' : n ≤ 4 := by omega
  clear hn
  by_cases hN : (16 : Int) < N
  · clear hI
    go_enter Tryd.func7, Tryd.ntmps7
    go_wp2_with fail
    (go_at_call 15; refine (alive_any _ HT.out).mono ?_; rintro e w1 ⟨rfl, hb1⟩)
    go_wp2_with fail
    go_ret
    exact ⟨rfl, hb1⟩
  have hN' : (N : Int) ≤ 16 := by omega
  have hN2 : N ≤ 1000000 := by omega
  clear hN
  by_cases hbad : Bad n N
  · clear hI
    have CB := Lib.hid (fun w' => close_bad n N c A w' hbad)
    have DB := Lib.hid (fun w' => dclose_bad n N c A w' hbad)
    clear hbad
    go_enter Tryd.func7, Tryd.ntmps7
    go_wp2_with fail
    (go_at_call 24; refine (CB.out _).mono ?_; rintro e w1 ⟨rfl, rfl⟩)
    go_wp2_with fail
    (go_at_call 25; refine (DB.out _).mono ?_; rintro e w2 ⟨rfl, rfl⟩)
    go_wp2_with fail
    (go_at_call 26; refine (dsame_true _ none none 0 0 0 (fun _ => 0) (Ints.nil _ _ _) (Ints.nil _ _ _) (by omega)).mono ?_; rintro e w3 ⟨rfl, hb3⟩)
    have HB3 := Lib.hid hb3
    clear hb3
    go_wp2_with fail
    (go_at_call 15; refine (alive_any _ (HT.out.below HT.out.1 HB3.out)).mono ?_; rintro e w4 ⟨rfl, hb4⟩)
    go_wp2_with fail
    go_ret
    exact ⟨rfl, chain HB3.out hb4⟩
  · obtain ⟨m, hm, hNm, hm8⟩ : ∃ m : Nat, n = m ∧ N = m * m ∧ m ≤ 8 := by
      have h0 : ¬ n < 0 := fun h => hbad (.inl h)
      obtain ⟨m, rfl⟩ := Int.eq_ofNat_of_zero_le (show 0 ≤ n by omega)
      refine ⟨m, rfl, ?_, by omega⟩
      rcases Nat.decEq N (m * m) with h | h
      · exact absurd (.inr ⟨m, rfl, by omega, h⟩) hbad
      · exact h
    subst hm
    have HI := Lib.hid hI
    have CO := Lib.hid (show Calls Tryd.prog 24 #[.int .i64 m, .slice A N c] w (CloseOut w m (fun p => low (zs p))) by rw [hNm] at hI ⊢; exact close_ok m hm8 A c zs w HT.out hI)
    have DO := Lib.hid (fun w' (hb : Below w.heap.size w w') => show Calls Tryd.prog 25 #[.int .i64 m, .slice A N c] w' (DCloseOut w' m N (fun p => low (zs p))) by
      have h2 := HI.out.below hb
      rw [hNm] at h2 ⊢
      exact dclose_ok m hm8 A c zs w' h2)
    have HNm := Lib.hid hNm
    clear hbad hNm hI
    go_enter Tryd.func7, Tryd.ntmps7
    go_wp2_with fail
    (go_at_call 24; refine CO.out.mono ?_; rintro e w1 ⟨hb1, ⟨L, g, rfl, hA, hg, hG, hnz, hs⟩ | ⟨rfl, i, k, hi, hk, hz⟩⟩)
    · rw [← HNm.out] at hA hnz ⊢
      have HA1 := Lib.hid hA
      have HG1 := Lib.hid hG
      have HZ1 := Lib.hid hnz
      have HB1 := Lib.hid hb1
      clear hA hG hnz hs hg hb1
      go_wp2_with fail
      (go_at_call 25; refine (DO.out _ HB1.out).mono ?_; rintro e w2 ⟨hb2, L2, hG2, ⟨g2, rfl, hA2, hnz2⟩ | ⟨rfl, p, hp, hz⟩⟩)
      · have SA := Lib.hid (fun w' (hb : Below w2.heap.size w2 w') => dsame_true w2 (some ⟨g, 0, none⟩) (some ⟨g2, 0, none⟩) N N N (fun p => (L p : Int)) (HA1.out.below HA1.out.1 hb2).ints (hA2.ints.congr fun p hp => by rw [hG2.unique HG1.out (by rw [← HNm.out]; exact hp)]) hN2)
        have HB2 := Lib.hid (chain HB1.out hb2)
        clear hb2 hG2 hA2 hnz2
        go_wp2_with fail
        (go_at_call 26; refine (SA.out _ (bl _)).mono ?_; rintro e w3 ⟨rfl, hb3⟩)
        have HB3 := Lib.hid (chain HB2.out hb3)
        clear hb3
        go_wp2_with fail
        (go_at_call 15; refine (alive_any _ (HT.out.below HT.out.1 HB3.out)).mono ?_; rintro e w4 ⟨rfl, hb4⟩)
        go_wp2_with fail
        go_ret
        exact ⟨rfl, chain HB3.out hb4⟩
      · exact absurd ((hG2.unique HG1.out (by rw [← HNm.out]; exact hp)).symm.trans hz) (HZ1.out p hp)
    · have HZ := Lib.hid hz
      have HB1 := Lib.hid hb1
      clear hz hb1
      go_wp2_with fail
      (go_at_call 25; refine (DO.out _ HB1.out).mono ?_; rintro e w2 ⟨hb2, L2, hG2, ⟨g2, rfl, hA2, hnz2⟩ | ⟨rfl, p, hp, hz⟩⟩)
      · exact absurd (HZ.out L2 hG2.good hG2.below) (hnz2 _ (by rw [HNm.out]; exact place_lt hi hk))
      · have HB2 := Lib.hid (chain HB1.out hb2)
        clear hb2 hG2 hz
        go_wp2_with fail
        (go_at_call 26; refine (dsame_true _ none none 0 0 0 (fun _ => 0) (Ints.nil _ _ _) (Ints.nil _ _ _) (by omega)).mono ?_; rintro e w3 ⟨rfl, hb3⟩)
        have HB3 := Lib.hid (chain HB2.out hb3)
        clear hb3
        go_wp2_with fail
        (go_at_call 15; refine (alive_any _ (HT.out.below HT.out.1 HB3.out)).mono ?_; rintro e w4 ⟨rfl, hb4⟩)
        go_wp2_with fail
        go_ret
        exact ⟨rfl, chain HB3.out hb4⟩

end Go.Proofs.YtegmegapkfbkeaaDoor
