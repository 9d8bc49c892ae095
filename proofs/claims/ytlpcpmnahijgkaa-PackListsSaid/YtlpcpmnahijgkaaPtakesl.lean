/-
  Numbers taken of a text, by the program and by the document: TakeNums; and lists of numbers compared.
-/
import Derived.Test.YtlpcpmnahijgkaaPnumsl
import Derived.Test.YtlpcpmnahijgkaaPdtext
namespace Go.Proofs.Ytlpcpmnahijgkaa
open Go.RowKit

theorem take_at (s : ByteArray) (hs : s.size ≤ 4611686018427387903) (w : World) : Calls Try.prog 13 #[.string s] w fun e w' => e = .returned (.tuple #[.int .i64 (tkN s : Int), .string (tkR s), .int .i64 (tkE s : Int)]) ∧ Below w.heap.size w w' := take_any s hs w
theorem dtake_at (s : ByteArray) (hs : s.size ≤ 4611686018427387903) (w : World) : Calls Try.prog 16 #[.string s] w fun e w' => e = .returned (.tuple #[.int .i64 (tkN s : Int), .string (tkR s), .int .i64 (tkE s : Int)]) ∧ Below w.heap.size w w' := dtake_any s hs w

/-- A list, what is behind it, and an error come back. -/
def TksPost (t : List Int × ByteArray × Nat) (w : World) (e : Ending) (w' : World) : Prop :=
  ∃ A c, e = .returned (.tuple #[.slice A t.1.length c, .string t.2.1, .int .i64 (t.2.2 : Int)]) ∧ Ints w' A t.1 ∧ Below w.heap.size w w'
theorem ret_lse {A : Option Addr} {n m c : Nat} {s t : ByteArray} {a b : Int} (h : n = m) (k : s = t) (l : a = b) : Ending.returned (.tuple #[.slice A n c, .string s, .int .i64 a]) = .returned (.tuple #[.slice A m c, .string t, .int .i64 b]) := by rw [h, k, l]
theorem tks_none {t : List Int × ByteArray × Nat} {w w' : World} {x : Nat} (h : t = ([], ⟨#[]⟩, x)) (hb : Below w.heap.size w w') : TksPost t w (.returned (.tuple #[.slice none 0 0, .string ⟨#[]⟩, .int .i64 (x : Int)])) w' := by
  subst h
  exact ⟨none, 0, rfl, Ints.nil _ _, hb⟩
theorem tks_some {t : List Int × ByteArray × Nat} {w w' : World} {acc : List Int} {s : ByteArray} {v : Value} (h : t = (acc, s, 0)) (ho : OI w acc v w') : TksPost t w (.returned (.tuple #[v, .string s, .int .i64 0])) w' := by
  subst h
  obtain ⟨A, c, rfl, hI, _⟩ := own_ints ho.own
  exact ⟨A, c, rfl, hI, ho.bel⟩

/-- What holds at the head of each round. -/
structure TR (W : World) (t : List Int × ByteArray × Nat) (k i : Nat) (s : ByteArray) (v : Value) (wr : World) : Prop where
  ex : ∃ acc, acc.length = i ∧ OI W acc v wr ∧ t = glue acc (tks (k - i) s)
  size : s.size ≤ 4611686018427387903

set_option maxHeartbeats 4000000 in
set_option maxRecDepth 10000 in
theorem each_any (s : ByteArray) (hs : s.size ≤ 4611686018427387903) (k : Nat) (hk : k ≤ 1000) (w : World) :
    Calls Try.prog 34 #[.string s, .int .i64 (k : Int), .func (.func 13) #[] #[]] w (TksPost (tks k s) w) := by
  obtain ⟨i0, hi, hz0, hz1, hz2⟩ := info_parts Try.infoInt
  obtain ⟨t, ht⟩ : ∃ t, tks k s = t := ⟨_, rfl⟩
  have HR0 := Lib.hid (show TR w t k 0 s (.slice none 0 0) w from ⟨⟨[], rfl, OI.nil w, by rw [← ht, Nat.sub_zero, glue_nil]⟩, hs⟩)
  rw [ht]
  clear ht
  go_enter Try.func34, Try.ntmps34
  go_wp2_with fail
  go_loopw [0, 9, 14] (fun a v c wr => ∃ (i : Nat) (s : ByteArray), i ≤ k ∧ c = .int .i64 i ∧ a = .string s ∧ TR w t k i s v wr) (fun _ _ c _ => k - (intOf c).toNat)
  case atStart => exact ⟨0, s, Nat.zero_le _, rfl, rfl, HR0.out⟩
  case round =>
    obtain ⟨i, s, hik, rfl, rfl, hR⟩ := hrel
    obtain ⟨⟨acc, hacc, hO, ht⟩, hsz⟩ := hR
    have HO := Lib.hid hO
    have HT := Lib.hid ht
    have hsr := tkR_size s
    clear hO ht
    by_cases hlt : i < k
    · have hlt' : (i : Int) < (k : Int) := by omega
      have hki : k - i = k - (i + 1) + 1 := by omega
      by_cases hE : tkE s = 0
      · have NX := Lib.hid (HT.out.trans (show glue acc (tks (k - i) s) = glue (acc ++ [(tkN s : Int)]) (tks (k - (i + 1)) (tkR s)) by rw [hki]; exact glue_step hE))
        have hE' := Lib.hid hE
        have hown := HO.out.own
        have hsb := HO.out.bel.size
        clear hE
        clear hown
        go_wp2_with (first
          | (go_at_call 13; refine (take_at s hsz _).mono ?_; rintro e w2 ⟨rfl, hb2⟩; rw [hE'.out]; have hsb2 := hb2.size; have HO2 := Lib.hid (HO.out.below hb2); have hown2 := HO2.out.own)
          | (at_builtin; refine wpList_append_own _ rfl (.tmp 26) (.tmp 28) 32 rfl w.heap.size 3 i0 (.int .i64 0) 1 8 Try.underlying32 hi hz0 hz1 hz2 rfl (by decide) _ _ _ rfl (World.ownsRow.alloc hown2 _) ⟨w2.heap.size, 0, none⟩ 1 1 [.int .i64 (tkN s : Int)] rfl rfl (news_one w2 _ _) (by simp [Value.oneCell']) (by unfold maxLen; omega) (by omega) (by simp; omega) ?_; intro v' w3 hown3 hgrow3 _))
        have NO := Lib.hid (HO2.out.app rfl hgrow3 hown3)
        exact ⟨⟨i + 1, tkR s, by omega, by go_num, rfl, ⟨⟨_, by rw [List.length_append, hacc]; rfl, NO.out, NX.out⟩, by omega⟩⟩, by simp [intOf] <;> omega⟩
      · have NX := Lib.hid (HT.out.trans (show glue acc (tks (k - i) s) = ([], ⟨#[]⟩, tkE s) by rw [hki]; exact glue_err hE))
        have hE' : ¬ (tkE s : Int) = 0 := by omega
        go_wp2_with (go_at_call 13; refine (take_at s hsz _).mono ?_; rintro e w2 ⟨rfl, hb2⟩)
        go_ret3
        exact tks_none NX.out (chain HO.out.bel hb2)
    · obtain rfl : i = k := by omega
      have hlt' : ¬ (i : Int) < (i : Int) := by omega
      have NX := Lib.hid (HT.out.trans (show glue acc (tks (i - i) s) = (acc, s, 0) by rw [Nat.sub_self]; exact glue_end))
      go_wp2_with fail
      go_ret3
      exact tks_some NX.out HO.out

end Go.Proofs.Ytlpcpmnahijgkaa
