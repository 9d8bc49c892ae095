/-
  Numbers taken of a text, by the document, and by the program for any count; lists of numbers compared.
-/
import Derived.Test.YtlpcpmnahijgkaaPtakesl
namespace Go.Proofs.Ytlpcpmnahijgkaa
open Go.RowKit

set_option maxHeartbeats 4000000 in
set_option maxRecDepth 10000 in
theorem dtakes_good (s : ByteArray) (hs : s.size ≤ 4611686018427387903) (k : Nat) (hk : k ≤ 1000) (w : World) :
    Calls Try.prog 24 #[.string s, .int .i64 (k : Int)] w (TksPost (tks k s) w) := by
  obtain ⟨i0, hi, hz0, hz1, hz2⟩ := info_parts Try.infoInt
  obtain ⟨t, ht⟩ : ∃ t, tks k s = t := ⟨_, rfl⟩
  have HR0 := Lib.hid (show TR w t k 0 s (.slice none 0 0) w from ⟨⟨[], rfl, OI.nil w, by rw [← ht, Nat.sub_zero, glue_nil]⟩, hs⟩)
  rw [ht]
  clear ht
  have k0 : ¬ (k : Int) < 0 := by omega
  have k1 : ¬ (1000 : Int) < (k : Int) := by omega
  go_enter Try.func24, Try.ntmps24
  go_wp2_with fail
  go_loopw [0, 7, 8] (fun a v c wr => ∃ (i : Nat) (s : ByteArray), i ≤ k ∧ c = .int .i64 i ∧ a = .string s ∧ TR w t k i s v wr) (fun _ _ c _ => k - (intOf c).toNat)
  case atStart => exact ⟨0, s, Nat.zero_le _, rfl, rfl, HR0.out⟩
  case round =>
    obtain ⟨i, s, hik, rfl, rfl, hR⟩ := hrel
    obtain ⟨⟨acc, hacc, hO, ht⟩, hsz⟩ := hR
    have HO := Lib.hid hO
    have HT := Lib.hid ht
    have hsr := tkR_size s
    clear hO ht
    by_cases hlt : i < k
    · have hlt' : (i : Int) < (k : Int) := by omega
      have hki : k - i = k - (i + 1) + 1 := by omega
      by_cases hE : tkE s = 0
      · have NX := Lib.hid (HT.out.trans (show glue acc (tks (k - i) s) = glue (acc ++ [(tkN s : Int)]) (tks (k - (i + 1)) (tkR s)) by rw [hki]; exact glue_step hE))
        have hE' := Lib.hid hE
        have hown := HO.out.own
        have hsb := HO.out.bel.size
        clear hE
        clear hown
        go_wp2_with (first
          | (go_at_call 16; refine (dtake_at s hsz _).mono ?_; rintro e w2 ⟨rfl, hb2⟩; rw [hE'.out]; have hsb2 := hb2.size; have HO2 := Lib.hid (HO.out.below hb2); have hown2 := HO2.out.own)
          | (at_builtin; refine wpList_append_own _ rfl (.tmp 32) (.tmp 34) 32 rfl w.heap.size 3 i0 (.int .i64 0) 1 8 Try.underlying32 hi hz0 hz1 hz2 rfl (by decide) _ _ _ rfl (World.ownsRow.alloc hown2 _) ⟨w2.heap.size, 0, none⟩ 1 1 [.int .i64 (tkN s : Int)] rfl rfl (news_one w2 _ _) (by simp [Value.oneCell']) (by unfold maxLen; omega) (by omega) (by simp; omega) ?_; intro v' w3 hown3 hgrow3 _))
        have NO := Lib.hid (HO2.out.app rfl hgrow3 hown3)
        exact ⟨⟨i + 1, tkR s, by omega, by go_num, rfl, ⟨⟨_, by rw [List.length_append, hacc]; rfl, NO.out, NX.out⟩, by omega⟩⟩, by simp [intOf] <;> omega⟩
      · have NX := Lib.hid (HT.out.trans (show glue acc (tks (k - i) s) = ([], ⟨#[]⟩, tkE s) by rw [hki]; exact glue_err hE))
        have hE' : ¬ (tkE s : Int) = 0 := by omega
        go_wp2_with (go_at_call 16; refine (dtake_at s hsz _).mono ?_; rintro e w2 ⟨rfl, hb2⟩)
        go_ret3
        exact tks_none NX.out (chain HO.out.bel hb2)
    · obtain rfl : i = k := by omega
      have hlt' : ¬ (i : Int) < (i : Int) := by omega
      have NX := Lib.hid (HT.out.trans (show glue acc (tks (i - i) s) = (acc, s, 0) by rw [Nat.sub_self]; exact glue_end))
      go_wp2_with fail
      go_ret3
      exact tks_some NX.out HO.out

theorem TksPost.weaken {t : List Int × ByteArray × Nat} {w : World} {e : Ending} {w' : World} (h : TksPost t w e w') : ∃ A c L r x, e = .returned (.tuple #[.slice A (L : List Int).length c, .string r, .int .i64 ((x : Nat) : Int)]) ∧ t = (L, r, x) ∧ Ints w' A L ∧ Below w.heap.size w w' := by
  obtain ⟨A, c, he, hI, hb⟩ := h
  exact ⟨A, c, t.1, t.2.1, t.2.2, he, rfl, hI, hb⟩

set_option maxHeartbeats 1000000 in
theorem takes_any (s : ByteArray) (hs : s.size ≤ 4611686018427387903) (k : Int) (w : World) :
    Calls Try.prog 22 #[.string s, .int .i64 k] w (TksPost (tksI s k) w) := by
  by_cases h0 : k < 0
  · have HT := Lib.hid (tksI_bad (s := s) (k := k) (by omega))
    go_enter Try.func22, Try.ntmps22
    go_wp2_with fail
    go_ret3
    exact tks_none HT.out (bl _)
  · by_cases h1 : 1000 < k
    · have HT := Lib.hid (tksI_bad (s := s) (k := k) (by omega))
      go_enter Try.func22, Try.ntmps22
      go_wp2_with fail
      go_ret3
      exact tks_none HT.out (bl _)
    · obtain ⟨m, rfl⟩ : ∃ m : Nat, k = (m : Int) := ⟨k.toNat, by omega⟩
      have hm : m ≤ 1000 := by omega
      have C := Lib.hid (fun w => (each_any s hs m hm w).mono fun e w' h => TksPost.weaken h)
      rw [tksI_ok hm]
      have HT := Lib.hid (show TksPost (tks m s) w = fun e w' => TksPost (tks m s) w e w' from rfl)
      generalize tks m s = t at *
      go_enter Try.func22, Try.ntmps22
      go_wp2_with (go_at_call 34; refine (C.out _).mono ?_; rintro e w2 ⟨A, c, L, r, x, rfl, hrt, hI, hb⟩)
      go_ret3
      subst hrt
      exact ⟨A, c, rfl, hI, hb⟩

set_option maxHeartbeats 1000000 in
theorem dtakes_any (s : ByteArray) (hs : s.size ≤ 4611686018427387903) (k : Int) (w : World) :
    Calls Try.prog 24 #[.string s, .int .i64 k] w (TksPost (tksI s k) w) := by
  by_cases h0 : k < 0
  · have HT := Lib.hid (tksI_bad (s := s) (k := k) (by omega))
    go_enter Try.func24, Try.ntmps24
    go_wp2_with fail
    go_ret3
    exact tks_none HT.out (bl _)
  · by_cases h1 : 1000 < k
    · have HT := Lib.hid (tksI_bad (s := s) (k := k) (by omega))
      go_enter Try.func24, Try.ntmps24
      go_wp2_with fail
      go_ret3
      exact tks_none HT.out (bl _)
    · obtain ⟨m, rfl⟩ : ∃ m : Nat, k = (m : Int) := ⟨k.toNat, by omega⟩
      rw [tksI_ok (by omega)]
      exact dtakes_good s hs m (by omega) w

set_option maxHeartbeats 1000000 in
theorem same_any (w : World) (A B : Option Addr) (c d : Nat) (l : List Int) (ha : Ints w A l) (hb : Ints w B l) (hn : l.length ≤ 1000000) :
    Ret 23 #[.slice A l.length c, .slice B l.length d] w (.bool true) := by
  have HA := Lib.hid ha
  have HB := Lib.hid hb
  obtain ⟨n, hnm⟩ : ∃ n, n = l.length := ⟨_, rfl⟩
  rw [← hnm] at hn ⊢
  have HN := Lib.hid hnm
  clear ha hb hnm
  go_enter Try.func23, Try.ntmps23
  go_wp2_with fail
  go_loopw [5] (fun i wr => ∃ k : Nat, k ≤ n ∧ i = .int .i64 k ∧ Below w.heap.size w wr) (fun i _ => n - (intOf i).toNat)
  case atStart => exact ⟨0, Nat.zero_le _, rfl, bl w⟩
  case round =>
    obtain ⟨k, hk, rfl, hW⟩ := hrel
    have HW := Lib.hid hW
    clear hW
    by_cases hlt : k < n
    · have hlt' : (k : Int) < (n : Int) := by omega
      obtain ⟨x, hx⟩ : ∃ x, l[k]? = some x := ⟨_, List.getElem?_eq_getElem (by have := HN.out; omega)⟩
      obtain ⟨g, off, rfl, c0⟩ := (HA.out.below HW.out) k x hx
      obtain ⟨g', off', rfl, c1⟩ := (HB.out.below HW.out) k x hx
      clear hx
      go_wp2_with fail
      go_quiet (fail)
      go_wp2_with fail
      first
        | exact ⟨⟨k + 1, by omega, by go_num, belowN HW.out _⟩, by simp [intOf] <;> omega⟩
        | (go_roundw
           case rel => exact ⟨k + 1, by omega, by go_num, belowN HW.out _⟩
           case measure => simp [intOf] <;> omega)
    · obtain rfl : k = n := by omega
      have hlt' : ¬ (k : Int) < (k : Int) := by omega
      go_wp2_with fail
      go_ret
      exact ⟨rfl, HW.out⟩

end Go.Proofs.Ytlpcpmnahijgkaa
