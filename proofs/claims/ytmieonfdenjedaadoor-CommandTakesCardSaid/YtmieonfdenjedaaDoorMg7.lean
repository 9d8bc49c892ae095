/-
  Texts joined into one: what the program's and the document's calls give back, piece by piece.
-/
import Derived.Test.YtmieonfdenjedaaDoorMg1
import Derived.Test.YtmieonfdenjedaaDoorMg2
import Derived.Test.YtmieonfdenjedaaDoorMg3
import Derived.Test.YtmieonfdenjedaaDoorMg4
import Derived.Test.YtmieonfdenjedaaDoorMg6
import Derived.Test.YtmieonfdenjedaaDoorRows
import Derived.BigQuiet
import Derived.ChangeAlike
import Derived.ChangeKeysEq
import Derived.Deep.AppendLies
import Derived.Deep.CutBlock
import Derived.Deep.CutRange
import Derived.Deep.Light
import Derived.Deep.QuietTactic
import Derived.Deep.RegionHeld3
import Derived.Deep.RegionLaw
import Derived.Handy
import Derived.Laws.BytesArg
import Derived.Laws.Externs
import Derived.Laws.IdiomCopy
import Derived.Laws.OwnMore
import Derived.Laws.Strings
import Derived.Laws.StructEq
import Derived.Lib.AppendStr
import Derived.Lib.Builder
import Derived.Lib.Hide
import Derived.Lib.UnsafeStr
import Derived.Maps.AppendAt
import Derived.OneCell
import Derived.OwnWalk
import Derived.RegionTactic
import Derived.StillTailTactics
import Derived.WalkArith
import Derived.WalkKit
import Derived.WalkLawsBesides
import Derived.WalkSpells

/-
  The program's Batch of commands.
-/
namespace Go.Proofs.YtmieonfdenjedaaDoor
open Go.RowKit

set_option maxHeartbeats 4000000 in
set_option maxRecDepth 10000 in
theorem pcbatch_any (u : Value) (l : List Cm) (w : World) (hl : CmsL w u l) (hok : ∀ c ∈ l, okF c.fs ∧ c.fs.length ≤ 9223372036854775807 ∧ c.ent.size ≤ 9223372036854775807) (hn : l.length ≤ 9223372036854775807) (hT : TabK w) : Ret 23 #[u] w (.tuple #[.string (batchC l).1, .int .i64 (((batchC l).2 : Nat) : Int)]) := by
  have HL := Lib.hid hl
  have HOK := Lib.hid hok
  have HT := Lib.hid hT
  obtain ⟨⟨A, c, rfl, _⟩, _⟩ := hl
  obtain ⟨B, hB⟩ : ∃ B, batchC l = B := ⟨_, rfl⟩
  have HB := Lib.hid hB
  rw [hB]
  obtain ⟨n, hnm⟩ : ∃ n, l.length = n := ⟨_, rfl⟩
  have HN := Lib.hid hnm
  have CM := Lib.hid (fun w => plong14_any (n : Int) w)
  rw [hnm] at hn ⊢
  clear hB hok hnm hT
  by_cases h1 : n < 1
  · have HE := Lib.hid (show B = (⟨#[]⟩, 2) by rw [← HB.out]; unfold batchC; rw [if_pos (by rw [HN.out]; exact h1)])
    rw [show longE (n : Int) = 2 by unfold longE; rw [if_pos (by omega)]] at CM
    clear h1
    go_enter Tryd.func23, Tryd.ntmps23
    go_wp2_with (go_at_call 48; (with_reducible refine (CM.out _).mono ?_); rintro e w2 ⟨rfl, rfl⟩)
    go_ret2
    exact ⟨by rw [HE.out]; rfl, bl _⟩
  by_cases h2 : 8 < n
  · have HE := Lib.hid (show B = (⟨#[]⟩, 4) by rw [← HB.out]; unfold batchC; rw [if_neg (by rw [HN.out]; exact h1), if_pos (by rw [HN.out]; exact h2)])
    rw [show longE (n : Int) = 4 by unfold longE; rw [if_neg (by omega), if_pos (by omega)]] at CM
    clear h1 h2
    go_enter Tryd.func23, Tryd.ntmps23
    go_wp2_with (go_at_call 48; (with_reducible refine (CM.out _).mono ?_); rintro e w2 ⟨rfl, rfl⟩)
    go_ret2
    exact ⟨by rw [HE.out]; rfl, bl _⟩
  rw [show longE (n : Int) = 0 by unfold longE; rw [if_neg (by omega), if_neg (by omega)]] at CM
  have HE := Lib.hid (show B = if errB l ≠ 0 then (⟨#[]⟩, errB l) else (encS n ++ catC l, 0) by rw [← HB.out]; unfold batchC; rw [HN.out, if_neg h1, if_neg h2])
  have CO := Lib.hid (fun w => num_good_any n (by omega) w)
  have ZE := Lib.hid (enc_small n)
  have N0 := Lib.hid (show ([] : List Nat).length + (encS n).size ≤ 140000000000000 by have := enc_small n; simp; omega)
  have H2 := Lib.hid h2
  clear h1 h2
  go_enter Tryd.func23, Tryd.ntmps23
  go_wp2_with (first
    | (go_at_call 48; (with_reducible refine (CM.out _).mono ?_); rintro e w2 ⟨rfl, hw2⟩; obtain rfl := hw2.symm)
    | (go_at_call 50; (with_reducible refine (CO.out _).mono ?_); rintro e w3 ⟨rfl, hb3⟩; have HB3 := Lib.hid hb3; have B0 := Lib.hid (Bld.new w3); clear hb3)
    | (go_at_call 51; with_reducible refine (B0.out.text (encS n) N0.out).mono ?_; rintro e w4 ⟨rfl, hb4⟩; have B4 := Lib.hid hb4; clear hb4))
  go_loopw [28] (fun i wr => ∃ (k : Nat) (L : List Nat), k ≤ n ∧ i = .int .i64 (k : Nat) ∧ L = nats (encS n ++ catC (l.take k)) ∧ errB (l.take k) = 0 ∧ Bld w3 w3.heap.size L wr) (fun i _ => n - (intOf i).toNat)
  case atStart => exact ⟨0, _, Nat.zero_le _, rfl, rfl, rfl, by
    have := B4.out
    rwa [show ([] : List Nat) ++ nats (encS n) = nats (encS n ++ catC (l.take 0)) by
      rw [List.take_zero, List.nil_append]; show _ = nats (encS n ++ (⟨#[]⟩ : ByteArray)); rw [show encS n ++ (⟨#[]⟩ : ByteArray) = encS n from ByteArray.append_empty]] at this⟩
  case round =>
    obtain ⟨k, L, hk, rfl, hL, he, hb⟩ := hrel
    have HBR := Lib.hid hb
    have HER := Lib.hid he
    have HLL := Lib.hid hL
    have hbw : Below w.heap.size w wr := chain HB3.out hb.bel
    have HBW := Lib.hid hbw
    by_cases hlt : k < n
    · have hlt' : (k : Int) < (n : Int) := by omega
      obtain ⟨x, hx⟩ : ∃ x, l[k]? = some x := ⟨_, List.getElem?_eq_getElem (by have := HN.out; omega)⟩
      obtain ⟨⟨A', c', e1, r1, _⟩, vf1⟩ := HL.out.below hbw
      injection e1 with e1 e1b e1c
      rw [← e1] at r1
      obtain ⟨g, o, hA, x0, x1, x2, x3, x4, x5⟩ := cells6_at r1 hx
      have hxm := List.mem_of_getElem? hx
      have CP := Lib.hid (show ∀ w', Below wr.heap.size wr w' → Ret 15 #[cv14 x] w' (.tuple #[.string (putC x), .int .i64 ((rightC x : Nat) : Int)]) from fun w' h => pcput_any x w' ((vf1 x hxm).below h) (HOK.out x hxm).1 (HOK.out x hxm).2.1 (HOK.out x hxm).2.2 (HT.out.below (chain HBW.out h)))
      have HEN := Lib.hid (errB_next hx he)
      have HCN := Lib.hid (show L ++ nats (putC x) = nats (encS n ++ catC (l.take (k + 1))) by rw [HLL.out, catC_next hx, ← nats_append, ByteArray.append_assoc])
      have N1 := Lib.hid (show L.length + (putC x).size ≤ 140000000000000 by
        rw [HLL.out, nats_length, ByteArray.size_append]
        have := catC_size (l.take k)
        rw [List.length_take] at this
        have := putC_size x
        have := ZE.out
        have := H2.out
        omega)
      have hb1 : Below wr.heap.size wr (wr.alloc (ocC x)) := (bl wr).alloc (Nat.le_refl _) _
      have HB1 := Lib.hid hb1
      clear e1 e1b e1c r1 vf1 hx hxm he hb hL hbw hb1
      subst hA
      by_cases h0 : rightC x = 0
      · rw [h0] at CP HEN
        generalize putC x = PX at *
        clear h0
        go_wp2_with (first
          | (go_at_call 15; (with_reducible refine (CP.out _ HB1.out).mono ?_); rintro e w4 ⟨rfl, hb4⟩; have B5 := Lib.hid (HBR.out.below (chain HB1.out hb4)); clear hb4)
          | (go_at_call 51; with_reducible refine (B5.out.text PX N1.out).mono ?_; rintro e w6 ⟨rfl, hb6⟩; have B6 := Lib.hid hb6; clear hb6))
        exact ⟨⟨k + 1, _, by omega, by go_num, HCN.out, HEN.out, B6.out⟩, by simp [intOf]; omega⟩
      · have h0' : ¬ ((rightC x : Nat) : Int) = 0 := by omega
        have HER2 := Lib.hid (show B = (⟨#[]⟩, rightC x) by
          have := HEN.out
          rw [HE.out, if_pos (by rw [errB_stop (k := k + 1) (by omega)]; omega), errB_stop (k := k + 1) (by omega), this])
        generalize rightC x = z at *
        clear h0
        go_wp2_with (go_at_call 15; (with_reducible refine (CP.out _ HB1.out).mono ?_); rintro e w4 ⟨rfl, hb4⟩; have HB4 := Lib.hid (chain HBW.out (chain HB1.out hb4)); clear hb4)
        go_ret2
        exact ⟨by rw [HER2.out]; rfl, HB4.out⟩
    · obtain rfl : k = n := by omega
      have hlt' : ¬ (k : Int) < (k : Int) := by omega
      clear hb he hL hbw
      go_wp2_with (go_at_call 52; with_reducible refine HBR.out.read.mono ?_; rintro e w4 ⟨rfl, hb4⟩)
      go_ret2
      have ht : l.take k = l := List.take_of_length_le (by have := HN.out; omega)
      have h0 := HER.out
      have hL := HLL.out
      rw [ht] at h0 hL
      exact ⟨by rw [HE.out, if_neg (by omega), hL, bytes_nats]; rfl, chain HB3.out hb4⟩
end Go.Proofs.YtmieonfdenjedaaDoor

/-
  The program's Unbatch of commands.
-/
namespace Go.Proofs.YtmieonfdenjedaaDoor
open Go.RowKit

/-- What Unbatch leaves. -/
def UnbPost (s : ByteArray) (w : World) (e : Ending) (w' : World) : Prop := ∃ u l, e = .returned (.tuple #[u, .int .i64 (((unbatchC s).2 : Nat) : Int)]) ∧ CmsL w' u l ∧ l.map contC = (unbatchC s).1 ∧ Below w.heap.size w w'
theorem cms_nil (w : World) : CmsL w (.slice none 0 0) [] := ⟨ListE.nil _, fun c hc => by simp at hc⟩
theorem unb_bad {s : ByteArray} {w w' : World} {z : Nat} {z' : Int} (h : unbatchC s = ([], z)) (hz : z' = (z : Int)) (hb : Below w.heap.size w w') : UnbPost s w (.returned (.tuple #[.slice none 0 0, .int .i64 z'])) w' :=
  ⟨_, [], by rw [h, hz], cms_nil w', by rw [h]; rfl, hb⟩
/-- What is behind commands that were read. -/
def gB (s : ByteArray) (n : Nat) (acc : List Cm) (S : ByteArray) : Prop := readB (tkN s) (tkR s) = joinB acc (readB n S)
theorem gB_err {s S : ByteArray} {n : Nat} {acc : List Cm} (h : gB s (n + 1) acc S) (he : (takeCs S).2.2 ≠ 0) : (readB (tkN s) (tkR s)).2.2 = (takeCs S).2.2 := by
  unfold gB at h
  rw [h, readB, if_pos he]
  unfold joinB
  rw [if_pos he]
theorem gB_next {s S : ByteArray} {n : Nat} {acc : List Cm} (h : gB s (n + 1) acc S) (he : (takeCs S).2.2 = 0) : gB s n (acc ++ [(takeCs S).1]) (takeCs S).2.1 := by
  unfold gB at h ⊢
  rw [h, readB, if_neg (by omega), joinB_join]
theorem gB_end {s S : ByteArray} {acc : List Cm} (h : gB s 0 acc S) : readB (tkN s) (tkR s) = (acc, S, 0) := by
  unfold gB at h
  rw [h, readB]
  unfold joinB
  rw [if_neg (by simp), List.append_nil]
theorem takeCs_size (s : ByteArray) : (takeCs s).2.1.size ≤ s.size := by
  by_cases h : (takeCs s).2.2 = 0
  · obtain ⟨_, h2⟩ := putC_take h
    have := congrArg ByteArray.size h2
    rw [ByteArray.size_append] at this
    omega
  · have : (takeCs s).2.1 = ⟨#[]⟩ := by
      rw [takeCs_read] at h ⊢
      unfold endRd at h ⊢
      by_cases hz : (readP s).2.2 ≠ 0
      · rw [if_pos hz]; rfl
      · rw [if_neg hz] at h ⊢
        unfold endC at h ⊢
        by_cases h0 : rightC (readP s).1 = 0
        · rw [if_pos h0] at h; exact absurd rfl h
        · rw [if_neg h0]; rfl
    rw [this]
    exact Nat.zero_le _

set_option maxHeartbeats 8000000 in
set_option maxRecDepth 10000 in
theorem pcunbatch_any (s : ByteArray) (hs : s.size ≤ 4611686018427387903) (w : World) (hT : TabK w) : Calls Tryd.prog 20 #[.string s] w fun e w' => ∃ u l, e = .returned (.tuple #[u, .int .i64 (((unbatchC s).2 : Nat) : Int)]) ∧ CmsL w' u l ∧ l.map contC = (unbatchC s).1 ∧ Below w.heap.size w w' := by
  show Calls Tryd.prog 20 #[.string s] w (UnbPost s w)
  have CN := Lib.hid (show ∀ w, Calls Tryd.prog 47 #[.string s] w fun e w' => e = .returned (.tuple #[.int .i64 (tkN s : Int), .string (tkR s), .int .i64 (tkE s : Int)]) ∧ Below w.heap.size w w' from fun w => take_any s hs w)
  have HT := Lib.hid hT
  have HS1 := Lib.hid (Nat.le_trans (tkR_size s) hs)
  have CTK := Lib.hid (show ∀ (S : ByteArray), S.size ≤ 4611686018427387903 → ∀ w', Below w.heap.size w w' → Calls Tryd.prog 17 #[.string S] w' (TakeC14f S w') from fun S h w' hb => pctakef_any S h w' (hT.below hb))
  clear hT
  by_cases h0 : tkE s ≠ 0
  · have HE := Lib.hid (show unbatchC s = ([], tkE s) by unfold unbatchC; rw [if_pos h0])
    have h0' : ¬ ((tkE s : Nat) : Int) = 0 := by omega
    generalize tkE s = z at *
    generalize tkN s = n at *
    clear h0
    go_enter Tryd.func20, Tryd.ntmps20
    go_wp2_with (go_at_call 47; (with_reducible refine (CN.out _).mono ?_); rintro e w1 ⟨rfl, hb1⟩)
    go_ret2
    exact unb_bad HE.out rfl hb1
  have e0 : tkE s = 0 := by omega
  rw [e0] at CN
  have CM := Lib.hid (fun w => plong14_any ((tkN s : Nat) : Int) w)
  by_cases h1 : tkN s < 1
  · have HE := Lib.hid (show unbatchC s = ([], 2) by unfold unbatchC; rw [if_neg h0, if_pos h1])
    rw [show longE ((tkN s : Nat) : Int) = 2 by unfold longE; rw [if_pos (by omega)]] at CM
    generalize tkN s = n at *
    clear h0 e0 h1
    go_enter Tryd.func20, Tryd.ntmps20
    go_wp2_with (first
      | (go_at_call 47; (with_reducible refine (CN.out _).mono ?_); rintro e w1 ⟨rfl, hb1⟩)
      | (go_at_call 48; (with_reducible refine (CM.out _).mono ?_); rintro e w2 ⟨rfl, hw2⟩; obtain rfl := hw2.symm))
    go_ret2
    exact unb_bad HE.out rfl hb1
  by_cases h2 : 8 < tkN s
  · have HE := Lib.hid (show unbatchC s = ([], 4) by unfold unbatchC; rw [if_neg h0, if_neg h1, if_pos h2])
    rw [show longE ((tkN s : Nat) : Int) = 4 by unfold longE; rw [if_neg (by omega), if_pos (by omega)]] at CM
    generalize tkN s = n at *
    clear h0 e0 h1 h2
    go_enter Tryd.func20, Tryd.ntmps20
    go_wp2_with (first
      | (go_at_call 47; (with_reducible refine (CN.out _).mono ?_); rintro e w1 ⟨rfl, hb1⟩)
      | (go_at_call 48; (with_reducible refine (CM.out _).mono ?_); rintro e w2 ⟨rfl, hw2⟩; obtain rfl := hw2.symm))
    go_ret2
    exact unb_bad HE.out rfl hb1
  rw [show longE ((tkN s : Nat) : Int) = 0 by unfold longE; rw [if_neg (by omega), if_neg (by omega)]] at CM
  have HE := Lib.hid (show ∀ z, (readB (tkN s) (tkR s)).2.2 = z → z ≠ 0 → unbatchC s = ([], z) from fun z hz hz0 => by unfold unbatchC; rw [if_neg h0, if_neg h1, if_neg h2, hz, if_pos hz0])
  have HE2 := Lib.hid (show ∀ acc S, readB (tkN s) (tkR s) = (acc, S, 0) → unbatchC s = if S.size ≠ 0 then ([], 8) else (acc, 0) from fun acc S h => by unfold unbatchC; rw [if_neg h0, if_neg h1, if_neg h2, h, if_neg (by simp)])
  have HG := Lib.hid (show gB s (tkN s) [] (tkR s) from by
    unfold gB joinB
    by_cases h : (readB (tkN s) (tkR s)).2.2 ≠ 0
    · rw [if_pos h]
      exact readB_bad h
    · rw [if_neg h, List.nil_append]
      have : (readB (tkN s) (tkR s)).2.2 = 0 := by omega
      rw [← this])
  have HN := Lib.hid (show tkN s ≤ 8 by omega)
  have HERR := Lib.hid (show ∀ n acc S, gB s (n + 1) acc S → (takeCs S).2.2 ≠ 0 → unbatchC s = ([], (takeCs S).2.2) from fun n acc S h he => HE.out _ (gB_err h he) he)
  have HEND := Lib.hid (show ∀ acc S, gB s 0 acc S → unbatchC s = if S.size ≠ 0 then ([], 8) else (acc, 0) from fun acc S h => HE2.out acc S (gB_end h))
  obtain ⟨n, hn⟩ : ∃ n, tkN s = n := ⟨_, rfl⟩
  obtain ⟨S0, hS0⟩ : ∃ S0, tkR s = S0 := ⟨_, rfl⟩
  have HG := Lib.hid (show gB s n [] S0 by rw [← hn, ← hS0]; exact HG.out)
  rw [hn] at CN CM HN
  rw [hS0] at CN HS1
  clear h0 e0 h1 h2 hn hS0 HE HE2 hs
  go_enter Tryd.func20, Tryd.ntmps20
  go_wp2_with (first
    | (go_at_call 47; (with_reducible refine (CN.out _).mono ?_); rintro e w1 ⟨rfl, hb1⟩; have HB1 := Lib.hid hb1; clear hb1)
    | (go_at_call 48; (with_reducible refine (CM.out _).mono ?_); rintro e w2 ⟨rfl, hw2⟩; obtain rfl := hw2.symm))
  go_loopw [27, 5, 8] (fun i a v wr => ∃ (k : Nat) (S : ByteArray) (acc : List Cm), k ≤ n ∧ i = .int .i64 k ∧ a = .string S ∧ acc.length = k ∧ S.size ≤ 4611686018427387903 ∧ gB s (n - k) (acc.map contC) S ∧ OutC w acc v wr) (fun i _ _ _ => n - (intOf i).toNat)
  case atStart => exact ⟨0, S0, [], Nat.zero_le _, rfl, rfl, rfl, HS1.out, HG.out, (OutC.nil w).below HB1.out⟩
  case round =>
    obtain ⟨k, S, acc, hk, rfl, rfl, hacc, hS, hG, hO⟩ := hrel
    have HACC := Lib.hid hacc
    have HG2 := Lib.hid hG
    have HO := Lib.hid hO
    clear hacc hG hO
    by_cases hlt : k < n
    · have hlt' : (k : Int) < (n : Int) := by omega
      obtain ⟨m, hm⟩ : ∃ m, n - k = m + 1 := ⟨n - k - 1, by omega⟩
      have HG3 := Lib.hid (show gB s (m + 1) (acc.map contC) S by have := HG2.out; rwa [hm] at this)
      have HM := Lib.hid hm
      have CT := Lib.hid (CTK.out S hS wr HO.out.bel)
      have HSZ := Lib.hid (Nat.le_trans (takeCs_size S) hS)
      have HNX := Lib.hid (fun h => gB_next HG3.out h)
      have HER := Lib.hid (fun h => HERR.out m _ S HG3.out h)
      unfold TakeC14f at CT
      generalize takeCs S = T at *
      obtain ⟨T1, T2, T3⟩ := T
      simp only at CT HSZ HNX HER
      clear hm hS
      obtain ⟨Av, cv, hvv, _⟩ := HO.out.cms.1
      have HOS := Lib.hid HO.out
      subst hvv
      by_cases h0 : T3 = 0
      · have HNX2 := Lib.hid (HNX.out h0)
        have hn8 := HN.out
        clear HNX HER
        subst h0
        go_wp2_with (first
          | (go_at_call 17; (with_reducible refine CT.out.mono ?_); rintro e w4 ⟨x, rfl, hx, hf, hfa, hb4⟩; have HX := Lib.hid hx; have HO4 := Lib.hid ((HOS.out.below hb4).below ((bl w4).alloc (Nat.le_refl _) (ocC x))); have HK4 := Lib.hid ((HOS.out.newer hf hfa).below ((bl w4).alloc (Nat.le_refl _) (ocC x))); clear hx hf hfa hb4)
          | (at_builtin; refine wpList_appC rfl (.tmp 38) (.tmp 40) rfl rfl (World.ownsRow.alloc HO4.out.own _) (xs := [x]) rfl rfl (by have hrow := rowE_one (E := EC14) (w4.alloc (ocC x)) x #[.int .i64 x.k, .string x.ent, .int .i64 x.tg, .int .i64 x.sf, .int .i64 x.se, .slice x.fa x.fs.length x.fc] rfl 26; first | exact hrow | (simp at hrow ⊢; exact hrow)) (fun h => by cases h) (by simp; have := HACC.out; have := HN.out; omega) (by have := HO4.out.bel.size; simp at this ⊢; omega) ?_; intro v' w6 hown6 hg6 ho6; have HN6 := Lib.hid ((HO4.out.below ((bl _).alloc (Nat.le_refl _) _)).app (HK4.out.below ((bl _).alloc (Nat.le_refl _) _)) hg6 hown6 ho6); clear hown6 hg6 ho6))
        exact ⟨⟨k + 1, T2, acc ++ [x], by omega, by go_num, rfl, by rw [List.length_append, HACC.out]; rfl, HSZ.out, by rw [show n - (k + 1) = m by have := HM.out; omega, List.map_append]; have := HNX2.out; rw [← HX.out] at this; exact this, HN6.out⟩, by simp [intOf] <;> omega⟩
      · have h0' : ¬ ((T3 : Nat) : Int) = 0 := by omega
        have HX := Lib.hid (HER.out h0)
        clear h0 HNX HER
        go_wp2_with (go_at_call 17; (with_reducible refine CT.out.mono ?_); rintro e w4 ⟨x, rfl, hx, hf, hfa, hb4⟩; have HB4 := Lib.hid ((chain HOS.out.bel hb4).alloc (chain HOS.out.bel hb4).size (ocC x)); clear hx hf hfa hb4)
        go_ret2
        exact unb_bad HX.out rfl HB4.out
    · obtain rfl : k = n := by omega
      have hlt' : ¬ (k : Int) < (k : Int) := by omega
      have HX := Lib.hid (HEND.out _ S (by have := HG2.out; rwa [Nat.sub_self] at this))
      by_cases hz : S.size ≠ 0
      · have hz2 := not_empty14 hz
        have HX2 := Lib.hid (show unbatchC s = ([], 8) by rw [HX.out, if_pos hz])
        clear hz
        go_wp2_with fail
        go_ret2
        exact unb_bad HX2.out rfl HO.out.bel
      · have hz2 : S = ⟨#[]⟩ := size0 (by omega)
        have HX2 := Lib.hid (show unbatchC s = (acc.map contC, 0) by rw [HX.out, if_neg hz])
        clear hz
        subst hz2
        go_wp2_with fail
        go_ret2
        exact ⟨_, acc, by rw [HX2.out]; rfl, HO.out.cms, by rw [HX2.out], HO.out.bel⟩
end Go.Proofs.YtmieonfdenjedaaDoor

/-
  The document's Take of commands: how it stands while it reads.
-/
namespace Go.Proofs.YtmieonfdenjedaaDoor
open Go.RowKit

theorem unzig_val14 (s : ByteArray) : -2305843009213693952 ≤ unzig (tkN s) ∧ unzig (tkN s) ≤ 2305843009213693951 := by
  have h := valB_unzig (tkN_lt s)
  unfold valB at h
  simp only [Bool.and_eq_true, decide_eq_true_eq] at h
  omega
abbrev MBd (B : Nat) : Nat → Nat → Prop := fun c _ => c = B
theorem CF14.butd {B : Nat} {w w' : World} {c c' : Cm} (h : CF14 w c) (hb : But (MBd B) w w') (hM : ∀ a, c.fa = some a → a.block ≠ B) (e1 : c'.fa = c.fa) (e2 : c'.fc = c.fc) (e3 : c'.fs = c.fs) : CF14 w' c' := by
  unfold CF14 at h ⊢
  rw [e1, e2, e3]
  exact ⟨fun i f hf => by
    obtain ⟨g, off, he, c0, c1⟩ := h.1 i f hf
    exact ⟨g, off, he, hb.keep c0 (hM _ he), hb.keep c1 (hM _ he)⟩, h.2⟩
theorem six_butd (w : World) (b : Nat) (x0 x1 x2 x3 x4 x5 : Value) : But (MBd b) w ((((((w.setCell ⟨b, 0, none⟩ x0).setCell ⟨b, 1, none⟩ x1).setCell ⟨b, 2, none⟩ x2).setCell ⟨b, 3, none⟩ x3).setCell ⟨b, 4, none⟩ x4).setCell ⟨b, 5, none⟩ x5) := ((((((But.refl (MBd b) _).set rfl _).set rfl _).set rfl _).set rfl _).set rfl _).set rfl _
/-- How it stands while the document's Take reads: the result, the command, a command that says nothing. -/
structure DtI (w : World) (c : Cm) (W : World) : Prop where
  bel : Below w.heap.size w W
  res : HoldC W w.heap.size noC
  own : HoldC W (w.heap.size + 1) c
  zer : HoldC W (w.heap.size + 1 + 1) ⟨0, ⟨#[]⟩, 0, 0, 0, none, 0, []⟩
  vf : CF14 W c
  far : ∀ a, c.fa = some a → w.heap.size + 1 + 1 < a.block
theorem dtI_start (w : World) : DtI w ⟨0, ⟨#[]⟩, 0, 0, 0, none, 0, []⟩ (((w.alloc oZC14).alloc oZC14).alloc oZC14) := by
  have hb1 : Below w.heap.size w (w.alloc oZC14) := (bl w).alloc (Nat.le_refl _) _
  have hb2 : Below w.heap.size w ((w.alloc oZC14).alloc oZC14) := hb1.alloc hb1.size _
  refine ⟨hb2.alloc hb2.size _, ((holdC_new w).below ((bl _).alloc (Nat.le_refl _) _)).below ((bl _).alloc (Nat.le_refl _) _), ?_, ?_, ⟨Fields.nil _ _, Nat.le_refl _, fun _ => rfl⟩, fun a ha => by cases ha⟩
  · have := (holdC_new (w.alloc oZC14)).below ((bl ((w.alloc oZC14).alloc oZC14)).alloc (Nat.le_refl _) oZC14)
    rwa [show (w.alloc oZC14).heap.size = w.heap.size + 1 by simp] at this
  · have := holdC_new ((w.alloc oZC14).alloc oZC14)
    rwa [show ((w.alloc oZC14).alloc oZC14).heap.size = w.heap.size + 1 + 1 by simp] at this
section
variable {w W W' : World} {c c' : Cm}
theorem DtI.below (h : DtI w c W) (hb : Below W.heap.size W W') : DtI w c W' := ⟨chain h.bel hb, h.res.below hb, h.own.below hb, h.zer.below hb, h.vf.below hb, h.far⟩
theorem DtI.put (h : DtI w c W) {o : Nat} {u : Value} (ho : HoldC (W.setCell ⟨w.heap.size + 1, o, none⟩ u) (w.heap.size + 1) c') (e1 : c'.fa = c.fa) (e2 : c'.fc = c.fc) (e3 : c'.fs = c.fs) : DtI w c' (W.setCell ⟨w.heap.size + 1, o, none⟩ u) := by
  have hb : But (MBd (w.heap.size + 1)) W (W.setCell ⟨w.heap.size + 1, o, none⟩ u) := (But.refl (MBd (w.heap.size + 1)) _).set rfl _
  exact ⟨h.bel.setCell (p := ⟨w.heap.size + 1, o, none⟩) (by simp) _, h.res.other (by omega) _, ho, h.zer.other (by omega) _, h.vf.butd hb (fun a ha => by have := h.far a ha; omega) e1 e2 e3, fun a ha => h.far a (by rw [← e1]; exact ha)⟩
theorem DtI.fields (h : DtI w c W) {A : Option Addr} {n : Nat} {l : List Fd} (hf : CF14 W ⟨c.k, c.ent, c.tg, c.sf, c.se, A, n, l⟩) (hfar : ∀ a, A = some a → w.heap.size + 1 + 1 < a.block) : DtI w ⟨c.k, c.ent, c.tg, c.sf, c.se, A, n, l⟩ (W.setCell ⟨w.heap.size + 1, 5, none⟩ (.slice A l.length n)) := by
  have hb : But (MBd (w.heap.size + 1)) W (W.setCell ⟨w.heap.size + 1, 5, none⟩ (.slice A l.length n)) := (But.refl (MBd (w.heap.size + 1)) _).set rfl _
  exact ⟨h.bel.setCell (p := ⟨w.heap.size + 1, 5, none⟩) (by simp) _, h.res.other (by omega) _, h.own.set5 A n l, h.zer.other (by omega) _, hf.butd hb (fun a ha => by have := hfar a ha; omega) rfl rfl rfl, hfar⟩
theorem DtI.bad (h : DtI w c W) {s : ByteArray} {z : Nat} (hE : takeCs s = badC z) : TakeC14f s w (.returned (.tuple #[cv14 noC, .string ⟨#[]⟩, .int .i64 ((z : Nat) : Int)])) ((((((W.setCell ⟨w.heap.size, 0, none⟩ (.int .i64 0)).setCell ⟨w.heap.size, 1, none⟩ (.string ⟨#[]⟩)).setCell ⟨w.heap.size, 2, none⟩ (.int .i64 0)).setCell ⟨w.heap.size, 3, none⟩ (.int .i64 0)).setCell ⟨w.heap.size, 4, none⟩ (.int .i64 0)).setCell ⟨w.heap.size, 5, none⟩ (.slice none 0 0)) :=
  takeC_bad hE (six_below h.bel (Nat.le_refl _))
theorem DtI.good (h : DtI w c W) {s r : ByteArray} (hE : takeCs s = (contC c, r, 0)) : TakeC14f s w (.returned (.tuple #[cv14 c, .string r, .int .i64 0])) ((((((W.setCell ⟨w.heap.size, 0, none⟩ (.int .i64 c.k)).setCell ⟨w.heap.size, 1, none⟩ (.string c.ent)).setCell ⟨w.heap.size, 2, none⟩ (.int .i64 c.tg)).setCell ⟨w.heap.size, 3, none⟩ (.int .i64 c.sf)).setCell ⟨w.heap.size, 4, none⟩ (.int .i64 c.se)).setCell ⟨w.heap.size, 5, none⟩ (.slice c.fa c.fs.length c.fc)) :=
  takeC_ok hE (h.vf.butd (six_butd W w.heap.size _ _ _ _ _ _) (fun a ha => by have := h.far a ha; omega) rfl rfl rfl) (fun a ha => by have := h.far a ha; omega) (six_below h.bel (Nat.le_refl _))
end
theorem spanC_3 {k : Int} {ent : ByteArray} {tg : Int} {s : ByteArray} (h : tkE s ≠ 0) : spanC k ent tg s = badC (tkE s) := by unfold spanC; rw [if_pos h]
theorem spanC_4 {k : Int} {ent : ByteArray} {tg : Int} {s : ByteArray} (h : tkE s = 0) (h2 : tkE (tkR s) ≠ 0) : spanC k ent tg s = badC (tkE (tkR s)) := by unfold spanC; rw [if_neg (by omega), if_pos h2]
theorem spanC_5 {k : Int} {ent : ByteArray} {tg : Int} {s : ByteArray} (h : tkE s = 0) (h2 : tkE (tkR s) = 0) (h3 : (takeF (tkR (tkR s))).2.2 ≠ 0) : spanC k ent tg s = badC (takeF (tkR (tkR s))).2.2 := by unfold spanC; rw [if_neg (by omega), if_neg (by omega), if_pos h3]
theorem spanC_6 {k : Int} {ent : ByteArray} {tg : Int} {s : ByteArray} (h : tkE s = 0) (h2 : tkE (tkR s) = 0) (h3 : (takeF (tkR (tkR s))).2.2 = 0) : spanC k ent tg s = endC ⟨k, ent, tg, unzig (tkN s), unzig (tkN s) + (tkN (tkR s) : Int), none, 0, (takeF (tkR (tkR s))).1⟩ (takeF (tkR (tkR s))).2.1 := by unfold spanC; rw [if_neg (by omega), if_neg (by omega), if_neg (by omega)]
theorem endC_ok {c : Cm} (h : rightC c = 0) (r : ByteArray) : endC c r = (c, r, 0) := by unfold endC; rw [if_pos h]
theorem endC_bad {c : Cm} (h : rightC c ≠ 0) (r : ByteArray) : endC c r = badC 8 := by unfold endC; rw [if_neg h]
theorem takeCs_1 {s : ByteArray} (h0 : tkE s = 0) (hk : tkN s = 1) (h : ttE (tkR s) 24 = 0) : takeCs s = spanC 1 (ttS (tkR s) 24) 0 (ttR (tkR s) 24) := by unfold takeCs; rw [if_neg (by omega), if_neg (by omega), if_pos hk, if_neg (by omega)]
theorem takeCs_1e {s : ByteArray} (h0 : tkE s = 0) (hk : tkN s = 1) (h : ttE (tkR s) 24 ≠ 0) : takeCs s = badC (ttE (tkR s) 24) := by unfold takeCs; rw [if_neg (by omega), if_neg (by omega), if_pos hk, if_pos h]
theorem takeCs_23e {s : ByteArray} (h0 : tkE s = 0) (hk : tkN s = 2 ∨ tkN s = 3) (h : tkE (tkR s) ≠ 0) : takeCs s = badC (tkE (tkR s)) := by unfold takeCs; rw [if_neg (by omega), if_neg (by omega), if_neg (by omega), if_pos h]
theorem takeCs_2 {s : ByteArray} (h0 : tkE s = 0) (hk : tkN s = 2) (h : tkE (tkR s) = 0) : takeCs s = spanC 2 ⟨#[]⟩ (unzig (tkN (tkR s))) (tkR (tkR s)) := by unfold takeCs; rw [if_neg (by omega), if_neg (by omega), if_neg (by omega), if_neg (by omega), if_neg (by omega)]
theorem takeCs_3 {s : ByteArray} (h0 : tkE s = 0) (hk : tkN s = 3) (h : tkE (tkR s) = 0) : takeCs s = endC ⟨3, ⟨#[]⟩, unzig (tkN (tkR s)), 0, 0, none, 0, []⟩ (tkR (tkR s)) := by unfold takeCs; rw [if_neg (by omega), if_neg (by omega), if_neg (by omega), if_neg (by omega), if_pos hk]
theorem takeCs_0e {s : ByteArray} (h0 : tkE s ≠ 0) : takeCs s = badC (tkE s) := by unfold takeCs; rw [if_pos h0]
theorem takeCs_0k {s : ByteArray} (h0 : tkE s = 0) (hk : tkN s < 1 ∨ 3 < tkN s) : takeCs s = badC 8 := by unfold takeCs; rw [if_neg (by omega), if_pos hk]
end Go.Proofs.YtmieonfdenjedaaDoor

/-
  The document's Take of fields: what it gives back is the call's own.
-/
namespace Go.Proofs.YtmieonfdenjedaaDoor
open Go.RowKit

def TakeFOPost (s : ByteArray) (w : World) (e : Ending) (w' : World) : Prop := ∃ u, e = .returned (.tuple #[u, .string (takeF s).2.1, .int .i64 (((takeF s).2.2 : Nat) : Int)]) ∧ OF w (takeF s).1 u w'
theorem takeFo_end {s : ByteArray} {w w' : World} {u : Value} {l : List Fd} {r : ByteArray} {e : Nat} (h : takeF s = (l, r, e)) (ho : OF w l u w') : TakeFOPost s w (.returned (.tuple #[u, .string r, .int .i64 (e : Int)])) w' :=
  ⟨u, by rw [h], by rw [h]; exact ho⟩
set_option maxHeartbeats 4000000 in
set_option maxRecDepth 10000 in
theorem dtakefo_any (s : ByteArray) (hs : s.size ≤ 4611686018427387903) (w : World) : Calls Tryd.prog 46 #[.string s] w (TakeFOPost s w) := by
  have CN := Lib.hid (show Calls Tryd.prog 43 #[.string s] w fun e w' => e = .returned (.tuple #[.int .i64 (tkN s : Int), .string (tkR s), .int .i64 (tkE s : Int)]) ∧ Below w.heap.size w w' from dtake_any s hs w)
  have HZ := Lib.hid (tkR_size s)
  by_cases h0 : tkE s = 0
  · rw [h0] at CN
    by_cases h8 : 8 < tkN s
    · have HE := Lib.hid (show takeF s = ([], ⟨#[]⟩, 4) by unfold takeF; rw [if_neg (by omega), if_pos h8])
      have h8' : (8 : Int) < (tkN s : Int) := by omega
      generalize tkN s = n at *
      clear h0
      go_enter Tryd.func46, Tryd.ntmps46
      go_wp2_with (go_at_call 43; (with_reducible refine CN.out.mono ?_); rintro e w1 ⟨rfl, hb1⟩)
      go_ret3
      exact takeFo_end HE.out ((OF.nil w).below (hb1))
    · have HE := Lib.hid (show takeF s = goOn [] (takeG (tkN s) none (tkR s)) by
        rw [goOn_start _ (fun h => takeG_err h)]
        unfold takeF; rw [if_neg (by omega), if_neg h8])
      have h8' : ¬ (8 : Int) < (tkN s : Int) := by omega
      generalize tkN s = n at *
      obtain ⟨S0, hS0⟩ : ∃ S0, tkR s = S0 := ⟨_, rfl⟩
      rw [hS0] at CN HE HZ
      clear h0 hS0
      go_enter Tryd.func46, Tryd.ntmps46
      go_wp2_with (go_at_call 43; (with_reducible refine CN.out.mono ?_); rintro e w1 ⟨rfl, hb1⟩)
      have HB1 := Lib.hid hb1
      clear hb1
      go_loopw [0, 6, 7, 8] (fun a ee o i wr => ∃ (k : Nat) (S : ByteArray) (acc : List Fd) (pr : Option ByteArray), k ≤ n ∧ i = .int .i64 k ∧ a = .string S ∧ acc.length = k ∧ S.size ≤ 4611686018427387903 ∧ takeF s = goOn acc (takeG (n - k) pr S) ∧ AheadOf acc k pr ∧ OF w acc o wr) (fun _ _ _ i _ => n - (intOf i).toNat)
      case atStart => exact ⟨0, S0, [], none, Nat.zero_le _, rfl, rfl, rfl, by have := HZ.out; omega, HE.out, .inl ⟨rfl, rfl⟩, (OF.nil w).below HB1.out⟩
      case round =>
        obtain ⟨k, S, acc, pr, hk, rfl, rfl, hacc, hS, hT, hP, hO⟩ := hrel
        have HACC := Lib.hid hacc
        have HT := Lib.hid hT
        have HP := Lib.hid hP
        have HO := Lib.hid hO
        clear hacc hT hP hO
        by_cases hlt : k < n
        · have hlt' : (k : Int) < (n : Int) := by omega
          obtain ⟨m, hm⟩ : ∃ m, n - k = m + 1 := ⟨n - k - 1, by omega⟩
          rw [hm] at HT
          have HM := Lib.hid hm
          have CT := Lib.hid (show ∀ w, Calls Tryd.prog 44 #[.string S, .int .i64 12] w fun e w' => e = .returned (.tuple #[.string (ttS S 12), .string (ttR S 12), .int .i64 (ttE S 12 : Int)]) ∧ Below w.heap.size w w' from fun w => dtaketext_any S hS 12 w)
          have HZ2 := Lib.hid (ttR_sizeF S 12)
          have HZ1 := Lib.hid (show (ttS S 12).size ≤ 9223372036854775807 by have := ttS_sizeF S 12; omega)
          have GT := Lib.hid (fun h => goOn_text (acc := acc) (n := m) (o := pr) (s := S) h)
          have GF := Lib.hid (fun h h2 => goOn_form (acc := acc) (n := m) (o := pr) (s := S) h h2)
          have GI := Lib.hid (fun h h2 h3 => goOn_int (acc := acc) (n := m) (o := pr) (s := S) h h2 h3)
          have GN := Lib.hid (fun h h2 h3 => goOn_next (acc := acc) (n := m) (o := pr) (s := S) h h2 h3)
          generalize ttS S 12 = nm at *
          generalize ttR S 12 = S2 at *
          generalize ttE S 12 = tE at *
          clear hm
          obtain ⟨b, hb⟩ : ∃ b, wr.heap.size = b := ⟨_, rfl⟩
          have HBK := Lib.hid hb
          go_upto_region 12 with (go_at_call 44; (with_reducible refine (CT.out _).mono ?_); rintro e w2 ⟨rfl, hb2⟩; have HW2 := Lib.hid (FW.start (x := ⟨⟨#[]⟩, 0⟩) HO.out hb2); clear hb2; rw [HBK.out] at HW2; have x0 := HW2.out.c0; have y0 := HW2.out.f0)
          refine abstract_worldT (fun W => FW w acc u7 b ⟨nm, 0⟩ W) (HW2.out.set0 nm) ?_
          intro W hW
          have HW := Lib.hid hW
          clear hW x0 y0
          by_cases ht : tE = 0
          · subst ht
            have CNM := Lib.hid (fun w => dname_any nm HZ1.out w)
            have x0 := HW.out.c0
            obtain ⟨A, c, hu, hFa, hce, hne⟩ := HW.out.of.list
            rw [HACC.out] at hu
            subst hu
            cases hnm : nameB nm with
            | false =>
              have hbe : behindB pr nm = false := by cases pr <;> simp [behindB, hnm]
              rw [hnm] at CNM
              clear hnm hFa hce hne
              have HX := Lib.hid (show takeF s = ([], ⟨#[]⟩, 8) by rw [HT.out, GF.out rfl hbe])
              clear hbe
              go_wp2_with fail
              go_quiet (first | (go_at_call 71; exact (CNM.out _).mono fun e w' h => ⟨h.1, _, h.2⟩))
              go_wp2_with fail
              go_ret3
              exact takeFo_end HX.out ((OF.nil w).below ((belowN HW.out.of.bel _)))
            | true =>
              rw [hnm] at CNM
              rcases HP.out with ⟨hk0, hpr⟩ | ⟨j, p, hkj, hp, hpr⟩
              · have hbe : behindB pr nm = true := by rw [hpr, behindB, hnm]
                have kp : ¬ 0 < k := by omega
                have kq : decide (0 < k) = false := by rw [decide_eq_false_iff_not]; exact kp
                clear hnm hFa hce hne hk0 hpr
                have CI := Lib.hid (show ∀ w, Calls Tryd.prog 45 #[.string S2] w fun e w' => e = .returned (.tuple #[.int .i64 (unzig (tkN S2)), .string (tkR S2), .int .i64 (tkE S2 : Int)]) ∧ Below w.heap.size w w' from fun w => dtakeint_any S2 (by have := HZ2.out; omega) w)
                have GI2 := Lib.hid (fun h => (HT.out.trans (GI.out rfl hbe h)))
                have GN2 := Lib.hid (fun h => (HT.out.trans (GN.out rfl hbe h)))
                have HZ3 := Lib.hid (tkR_size S2)
                clear GI GN GF GT hbe
                generalize unzig (tkN S2) = vv at *
                generalize tkR S2 = S3 at *
                generalize tkE S2 = iE at *
                go_wp2_with fail
                go_quiet (first | (go_at_call 71; exact (CNM.out _).mono fun e w' h => ⟨h.1, _, h.2⟩))
                go_upto_region 17 with (go_at_call 45; (with_reducible refine (CI.out _).mono ?_); rintro e w3 ⟨rfl, hb3⟩; have HW3 := Lib.hid ((HW.out.drewN _).below hb3); clear hb3; have x1 := HW3.out.c1; have y1 := HW3.out.f1)
                refine abstract_worldT (fun W => FW w acc (.slice A k c) b ⟨nm, vv⟩ W) (HW3.out.set1 vv) ?_
                intro V hV
                have HV := Lib.hid hV
                clear hV x1 y1
                by_cases hi : iE = 0
                · subst hi
                  have HX := Lib.hid (GN2.out rfl)
                  have z0 := HV.out.c0
                  have z1 := HV.out.c1
                  go_wp2_with (first
                    | (at_builtin; refine wpList_appF rfl (.tmp 66) (.tmp 68) rfl (base := w.heap.size) rfl (World.ownsRow.alloc HV.out.of.own _) rfl rfl (field_one V ⟨nm, vv⟩ _) (by simp) (by have := HACC.out; simp; omega) (by have := HV.out.of.bel.size; simp; omega) ?_; intro v2 w4 hown4 hg4; have HO4 := Lib.hid ((HV.out.of.below ((bl V).alloc (Nat.le_refl _) _)).grown hg4 hown4)))
                  exact ⟨⟨k + 1, S3, _, some nm, by omega, by go_num, rfl, by rw [List.length_append, HACC.out]; rfl, by have := HZ2.out; have := HZ3.out; omega, by rw [HX.out, show n - (k + 1) = m by have := HM.out; omega], .inr ⟨k, ⟨nm, vv⟩, rfl, by rw [← HACC.out]; simp, rfl⟩, HO4.out⟩, by simp [intOf] <;> omega⟩
                · have hi' : ¬ (iE : Int) = 0 := by omega
                  have HX := Lib.hid (GI2.out hi)
                  go_wp2_with fail
                  go_ret3
                  exact takeFo_end HX.out ((OF.nil w).below (HV.out.of.bel))
              · obtain ⟨g, off, rfl, b0, _⟩ := hFa j p hp
                have w1 : IntKind.i64.wrap ((k : Int) - 1) = (j : Int) := by rw [IntKind.wrap_i64]; omega
                have kp : 0 < k := by omega
                have kq : decide (0 < k) = true := by rw [decide_eq_true_eq]; exact kp
                have jn : (j : Int) < (k : Int) := by omega
                have e1 := less_nats p.n nm
                clear hkj hp hce hne hFa
                cases ha : aheadB p.n nm with
                | false =>
                  have hbe : behindB pr nm = false := by rw [hpr, behindB, hnm, ha]; rfl
                  rw [show lessN (nats p.n) (nats nm) = false from ha] at e1
                  clear hnm ha hpr
                  have HX := Lib.hid (show takeF s = ([], ⟨#[]⟩, 8) by rw [HT.out, GF.out rfl hbe])
                  clear hbe
                  go_wp2_with fail
                  go_quiet (first | (go_at_call 71; exact (CNM.out _).mono fun e w' h => ⟨h.1, _, h.2⟩))
                  go_wp2_with fail
                  go_ret3
                  exact takeFo_end HX.out ((OF.nil w).below ((belowN HW.out.of.bel _)))
                | true =>
                  have hbe : behindB pr nm = true := by rw [hpr, behindB, hnm, ha]; rfl
                  rw [show lessN (nats p.n) (nats nm) = true from ha] at e1
                  clear hnm ha hpr
                  have CI := Lib.hid (show ∀ w, Calls Tryd.prog 45 #[.string S2] w fun e w' => e = .returned (.tuple #[.int .i64 (unzig (tkN S2)), .string (tkR S2), .int .i64 (tkE S2 : Int)]) ∧ Below w.heap.size w w' from fun w => dtakeint_any S2 (by have := HZ2.out; omega) w)
                  have GI2 := Lib.hid (fun h => (HT.out.trans (GI.out rfl hbe h)))
                  have GN2 := Lib.hid (fun h => (HT.out.trans (GN.out rfl hbe h)))
                  have HZ3 := Lib.hid (tkR_size S2)
                  clear GI GN GF GT hbe
                  generalize unzig (tkN S2) = vv at *
                  generalize tkR S2 = S3 at *
                  generalize tkE S2 = iE at *
                  go_wp2_with fail
                  go_quiet (first | (go_at_call 71; exact (CNM.out _).mono fun e w' h => ⟨h.1, _, h.2⟩))
                  go_upto_region 17 with (go_at_call 45; (with_reducible refine (CI.out _).mono ?_); rintro e w3 ⟨rfl, hb3⟩; have HW3 := Lib.hid ((HW.out.drewN _).below hb3); clear hb3; have x1 := HW3.out.c1; have y1 := HW3.out.f1)
                  refine abstract_worldT (fun W => FW w acc (.slice (some ⟨g, off, none⟩) k c) b ⟨nm, vv⟩ W) (HW3.out.set1 vv) ?_
                  intro V hV
                  have HV := Lib.hid hV
                  clear hV x1 y1
                  by_cases hi : iE = 0
                  · subst hi
                    have HX := Lib.hid (GN2.out rfl)
                    have z0 := HV.out.c0
                    have z1 := HV.out.c1
                    go_wp2_with (first
                      | (at_builtin; refine wpList_appF rfl (.tmp 66) (.tmp 68) rfl (base := w.heap.size) rfl (World.ownsRow.alloc HV.out.of.own _) rfl rfl (field_one V ⟨nm, vv⟩ _) (by simp) (by have := HACC.out; simp; omega) (by have := HV.out.of.bel.size; simp; omega) ?_; intro v2 w4 hown4 hg4; have HO4 := Lib.hid ((HV.out.of.below ((bl V).alloc (Nat.le_refl _) _)).grown hg4 hown4)))
                    exact ⟨⟨k + 1, S3, _, some nm, by omega, by go_num, rfl, by rw [List.length_append, HACC.out]; rfl, by have := HZ2.out; have := HZ3.out; omega, by rw [HX.out, show n - (k + 1) = m by have := HM.out; omega], .inr ⟨k, ⟨nm, vv⟩, rfl, by rw [← HACC.out]; simp, rfl⟩, HO4.out⟩, by simp [intOf] <;> omega⟩
                  · have hi' : ¬ (iE : Int) = 0 := by omega
                    have HX := Lib.hid (GI2.out hi)
                    go_wp2_with fail
                    go_ret3
                    exact takeFo_end HX.out ((OF.nil w).below (HV.out.of.bel))
          · have ht' : ¬ (tE : Int) = 0 := by omega
            have HX := Lib.hid (show takeF s = ([], ⟨#[]⟩, tE) by rw [HT.out, GT.out ht])
            go_wp2_with fail
            go_ret3
            exact takeFo_end HX.out ((OF.nil w).below (HW.out.of.bel))
        · obtain rfl : k = n := by omega
          have hlt' : ¬ (k : Int) < (k : Int) := by omega
          have HX := Lib.hid (show takeF s = (acc, S, 0) by rw [HT.out, Nat.sub_self, goOn_end])
          go_wp2_with fail
          go_ret3
          exact takeFo_end HX.out HO.out
  · have HE := Lib.hid (show takeF s = ([], ⟨#[]⟩, tkE s) by unfold takeF; rw [if_pos h0])
    have h0' : ¬ (tkE s : Int) = 0 := by omega
    generalize tkE s = z at *
    clear h0
    go_enter Tryd.func46, Tryd.ntmps46
    go_wp2_with (go_at_call 43; (with_reducible refine CN.out.mono ?_); rintro e w1 ⟨rfl, hb1⟩)
    go_ret3
    exact takeFo_end HE.out ((OF.nil w).below (hb1))

end Go.Proofs.YtmieonfdenjedaaDoor

/-
  The document's Take of commands: kind 1.
-/
namespace Go.Proofs.YtmieonfdenjedaaDoor
open Go.RowKit

set_option maxHeartbeats 8000000 in
set_option maxRecDepth 10000 in
theorem dtk_1 (s : ByteArray) (hs : s.size ≤ 4611686018427387903) (w : World) (h0 : tkE s = 0) (hk : tkN s = 1) : Calls Tryd.prog 19 #[.string s] w (TakeC14f s w) := by
  have C1 := Lib.hid (show ∀ w, Ret 43 #[.string s] w (.tuple #[.int .i64 1, .string (tkR s), .int .i64 0]) from fun w => by have : Ret 43 #[.string s] w (.tuple #[.int .i64 ((tkN s : Nat) : Int), .string (tkR s), .int .i64 ((tkE s : Nat) : Int)]) := dtake_any s hs w; rw [h0, hk] at this; exact this)
  have HI := Lib.hid (dtI_start w)
  have C2 := Lib.hid (show ∀ w, Ret 44 #[.string (tkR s), .int .i64 24] w (.tuple #[.string (ttS (tkR s) 24), .string (ttR (tkR s) 24), .int .i64 ((ttE (tkR s) 24 : Nat) : Int)]) from fun w => dtaketext_any (tkR s) (Nat.le_trans (tkR_size s) hs) 24 w)
  have EB := Lib.hid (fun h => takeCs_1e h0 hk h)
  have EG := Lib.hid (fun h => takeCs_1 h0 hk h)
  have HSZ := Lib.hid (Nat.le_trans (ttR_small (tkR s) 24) (Nat.le_trans (tkR_size s) hs))
  have HEN := Lib.hid (show (ttS (tkR s) 24).size ≤ 9223372036854775807 from by have := ttS_small (tkR s) 24; have := Nat.le_trans (tkR_size s) hs; omega)
  obtain ⟨ent, hent⟩ : ∃ ent, ttS (tkR s) 24 = ent := ⟨_, rfl⟩
  obtain ⟨S2, hS2⟩ : ∃ S2, ttR (tkR s) 24 = S2 := ⟨_, rfl⟩
  obtain ⟨z2, hz2⟩ : ∃ z2, ttE (tkR s) 24 = z2 := ⟨_, rfl⟩
  rw [hent, hS2, hz2] at C2
  rw [hz2] at EB
  rw [hent, hS2, hz2] at EG
  rw [hS2] at HSZ
  rw [hent] at HEN
  clear hent hS2 hz2
  obtain ⟨S1, hS1⟩ : ∃ S1, tkR s = S1 := ⟨_, rfl⟩
  rw [hS1] at C1 C2
  clear hS1 h0 hk hs
  go_enter Tryd.func19, Tryd.ntmps19
  go_upto_region 9 with (go_at_call 43; (with_reducible refine (C1.out _).mono ?_); rintro e v ⟨rfl, hb⟩; have HJ := Lib.hid (HI.out.below hb); obtain ⟨y0, y1, y2, y3, y4, y5⟩ := HJ.out.own.c; have yf := HJ.out.own.f; clear hb)
  refine abstract_worldW (fun W => DtI w ⟨1, ⟨#[]⟩, 0, 0, 0, none, 0, []⟩ W) (HJ.out.put (HJ.out.own.set0 1) rfl rfl rfl) ?_
  intro W2 hW2
  have H2 := Lib.hid hW2
  clear hW2 y0 y1 y2 y3 y4 y5 yf
  go_upto_region 11 with (go_at_call 44; (with_reducible refine (C2.out _).mono ?_); rintro e v ⟨rfl, hb⟩; have HJ := Lib.hid (H2.out.below hb); obtain ⟨y0, y1, y2, y3, y4, y5⟩ := HJ.out.own.c; have yf := HJ.out.own.f; clear hb)
  refine abstract_worldW (fun W => DtI w ⟨1, ent, 0, 0, 0, none, 0, []⟩ W) (HJ.out.put (HJ.out.own.set1 ent) rfl rfl rfl) ?_
  intro W3 hW3
  have H3 := Lib.hid hW3
  clear hW3 y0 y1 y2 y3 y4 y5 yf
  by_cases hz2 : z2 = 0
  · subst hz2
    have HTC := Lib.hid (EG.out (by trivial))
    clear EB EG
    have E3 := Lib.hid (fun h => HTC.out.trans (spanC_3 (k := 1) (ent := ent) (tg := 0) (s := S2) h))
    have E4 := Lib.hid (fun h h2 => HTC.out.trans (spanC_4 (k := 1) (ent := ent) (tg := 0) (s := S2) h h2))
    have E5 := Lib.hid (fun h h2 h3 => HTC.out.trans (spanC_5 (k := 1) (ent := ent) (tg := 0) (s := S2) h h2 h3))
    have E6 := Lib.hid (fun h h2 h3 => HTC.out.trans (spanC_6 (k := 1) (ent := ent) (tg := 0) (s := S2) h h2 h3))
    have C3 := Lib.hid (show ∀ w, Ret 45 #[.string S2] w (.tuple #[.int .i64 (unzig (tkN S2)), .string (tkR S2), .int .i64 ((tkE S2 : Nat) : Int)]) from fun w => dtakeint_any S2 HSZ.out w)
    have C4 := Lib.hid (show ∀ w, Ret 43 #[.string (tkR S2)] w (.tuple #[.int .i64 ((tkN (tkR S2) : Nat) : Int), .string (tkR (tkR S2)), .int .i64 ((tkE (tkR S2) : Nat) : Int)]) from fun w => dtake_any (tkR S2) (Nat.le_trans (tkR_size _) HSZ.out) w)
    have C5 := Lib.hid (show ∀ w, Calls Tryd.prog 46 #[.string (tkR (tkR S2))] w fun e w' => ∃ u, e = .returned (.tuple #[u, .string (takeF (tkR (tkR S2))).2.1, .int .i64 (((takeF (tkR (tkR S2))).2.2 : Nat) : Int)]) ∧ OF w (takeF (tkR (tkR S2))).1 u w' from fun w => dtakefo_any (tkR (tkR S2)) (Nat.le_trans (tkR_size _) (Nat.le_trans (tkR_size _) HSZ.out)) w)
    have HSM := Lib.hid (show okF (takeF (tkR (tkR S2))).1 ∧ (takeF (tkR (tkR S2))).1.length ≤ 9223372036854775807 ∧ (ent : ByteArray).size ≤ 9223372036854775807 from by
      have hsm := takeF_small (tkR (tkR S2))
      have hz := Nat.le_trans (tkR_size (tkR S2)) (Nat.le_trans (tkR_size S2) HSZ.out)
      exact ⟨fun f hf => by have := hsm.1 f hf; omega, by have := hsm.2; omega, HEN.out⟩)
    have b1 := unzig_val14 S2
    have b2 := tkN_lt (tkR S2)
    obtain ⟨fr, hfr⟩ : ∃ fr, unzig (tkN S2) = fr := ⟨_, rfl⟩
    obtain ⟨z3, hz3⟩ : ∃ z3, tkE S2 = z3 := ⟨_, rfl⟩
    obtain ⟨lg, hlg⟩ : ∃ lg, tkN (tkR S2) = lg := ⟨_, rfl⟩
    obtain ⟨z4, hz4⟩ : ∃ z4, tkE (tkR S2) = z4 := ⟨_, rfl⟩
    obtain ⟨TF, hTF⟩ : ∃ TF, takeF (tkR (tkR S2)) = TF := ⟨_, rfl⟩
    obtain ⟨S3, hS3⟩ : ∃ S3, tkR S2 = S3 := ⟨_, rfl⟩
    rw [hfr, hz3, hS3] at C3
    rw [hS3] at hlg hz4 hTF
    rw [hS3] at C4 C5 HSM E4 E5 E6 b2
    rw [hz3] at E3 E4 E5 E6
    rw [hlg, hz4] at C4
    rw [hz4] at E4 E5 E6
    rw [hTF] at C5 HSM E5 E6
    rw [hlg] at b2 E6
    rw [hfr] at b1 E6
    obtain ⟨S4, hS4⟩ : ∃ S4, tkR S3 = S4 := ⟨_, rfl⟩
    rw [hS4] at C4 C5
    clear hfr hz3 hlg hz4 hTF hS3 hS4 HTC HSZ
    have hlong : wrap64 (fr + (lg : Int)) = fr + (lg : Int) := IntWalk.wrap64_in _ (by omega)
    clear b1 b2
    obtain ⟨L, S5, z5⟩ := TF
    simp only at C5 HSM E5 E6
    go_upto_region 16 with (go_at_call 45; (with_reducible refine (C3.out _).mono ?_); rintro e v ⟨rfl, hb⟩; have HJ := Lib.hid (H3.out.below hb); obtain ⟨y0, y1, y2, y3, y4, y5⟩ := HJ.out.own.c; have yf := HJ.out.own.f; clear hb)
    refine abstract_worldW (fun W => DtI w ⟨1, ent, 0, fr, 0, none, 0, []⟩ W) (HJ.out.put (HJ.out.own.set3 fr) rfl rfl rfl) ?_
    intro W4 hW4
    have H4 := Lib.hid hW4
    clear hW4 y0 y1 y2 y3 y4 y5 yf
    by_cases hz3 : z3 = 0
    · subst hz3
      go_upto_region 19 with (go_at_call 43; (with_reducible refine (C4.out _).mono ?_); rintro e v ⟨rfl, hb⟩; have HJ := Lib.hid (H4.out.below hb); obtain ⟨y0, y1, y2, y3, y4, y5⟩ := HJ.out.own.c; have yf := HJ.out.own.f; clear hb)
      refine abstract_worldW (fun W => DtI w ⟨1, ent, 0, fr, 0, none, 0, []⟩ W) HJ.out ?_
      intro W5 hW5
      have H5 := Lib.hid hW5
      clear hW5 y0 y1 y2 y3 y4 y5 yf
      by_cases hz4 : z4 = 0
      · subst hz4
        obtain ⟨y0, y1, y2, y3, y4, y5⟩ := H5.out.own.c
        have yf := H5.out.own.f
        go_upto_region 22 with fail
        refine abstract_worldW (fun W => DtI w ⟨1, ent, 0, fr, fr + (lg : Int), none, 0, []⟩ W) (H5.out.put (H5.out.own.set4 (fr + (lg : Int))) rfl rfl rfl) ?_
        intro W6 hW6
        have H6 := Lib.hid hW6
        clear hW6 y0 y1 y2 y3 y4 y5 yf
        go_upto_region 23 with (go_at_call 46; (with_reducible refine (C5.out _).mono ?_); rintro e v ⟨u5, rfl, ho5⟩; obtain ⟨A, m, rfl, hF5, hc5, hn5⟩ := ho5.list; have HFA5 := Lib.hid (show ∀ a, A = some a → w.heap.size + 1 + 1 < a.block from fun a ha => by (have hlo := (ho5.own.lt a.block (by rw [ha]; rfl)).1; have := H6.out.zer.lt; omega)); have HJ := Lib.hid (H6.out.below ho5.bel); have HCF := Lib.hid (show CF14 v ⟨1, ent, 0, fr, fr + (lg : Int), A, m, L⟩ from ⟨hF5, hc5, hn5⟩); obtain ⟨y0, y1, y2, y3, y4, y5⟩ := HJ.out.own.c; have yf := HJ.out.own.f; clear ho5 hF5 hc5 hn5)
        refine abstract_worldW (fun W => DtI w ⟨1, ent, 0, fr, fr + (lg : Int), A, m, L⟩ W) (HJ.out.fields HCF.out HFA5.out) ?_
        intro W7 hW7
        have H7 := Lib.hid hW7
        clear hW7 y0 y1 y2 y3 y4 y5 yf
        by_cases hz5 : z5 = 0
        · subst hz5
          clear E3 E4 E5 C3 C4 C5
          obtain ⟨zr, hzr⟩ : ∃ zr, rightC ⟨1, ent, 0, fr, fr + (lg : Int), none, 0, L⟩ = zr := ⟨_, rfl⟩
          have CRT := Lib.hid (show ∀ w', CF14 w' ⟨1, ent, 0, fr, fr + (lg : Int), A, m, L⟩ → Ret 10 #[.agg #[.int .i64 1, .string ent, .int .i64 0, .int .i64 fr, .int .i64 (fr + (lg : Int)), .slice A L.length m]] w' (.int .i64 ((zr : Nat) : Int)) from fun w' h => by have := drightc14_any ⟨1, ent, 0, fr, fr + (lg : Int), A, m, L⟩ w' h HSM.out.1 HSM.out.2.1 HSM.out.2.2; rwa [show rightC ⟨1, ent, 0, fr, fr + (lg : Int), A, m, L⟩ = zr from hzr] at this)
          by_cases hzr0 : zr = 0
          · subst hzr0
            have HE := Lib.hid (show takeCs s = (contC ⟨1, ent, 0, fr, fr + (lg : Int), A, m, L⟩, S5, 0) from by rw [E6.out (by trivial) (by trivial) (by trivial), endC_ok hzr]; rfl)
            clear hzr
            obtain ⟨g0, g1, g2, g3, g4, g5⟩ := H7.out.own.c
            go_wp2_with (go_at_call 10; (with_reducible refine (CRT.out _ H7.out.vf).mono ?_); rintro e v ⟨rfl, hb⟩; have HR := Lib.hid (H7.out.below hb); obtain ⟨y0, y1, y2, y3, y4, y5⟩ := HR.out.own.c; obtain ⟨n0, n1, n2, n3, n4, n5⟩ := HR.out.zer.c; obtain ⟨x0, x1, x2, x3, x4, x5⟩ := HR.out.res.c; have xf := HR.out.res.f; clear hb)
            obtain ⟨q0, q1, q2, q3, q4, q5⟩ := (six_store HR.out.res (⟨1, ent, 0, fr, fr + (lg : Int), A, m, L⟩ : Cm).fa (⟨1, ent, 0, fr, fr + (lg : Int), A, m, L⟩ : Cm).fc (⟨1, ent, 0, fr, fr + (lg : Int), A, m, L⟩ : Cm).fs (⟨1, ent, 0, fr, fr + (lg : Int), A, m, L⟩ : Cm).k (⟨1, ent, 0, fr, fr + (lg : Int), A, m, L⟩ : Cm).ent (⟨1, ent, 0, fr, fr + (lg : Int), A, m, L⟩ : Cm).tg (⟨1, ent, 0, fr, fr + (lg : Int), A, m, L⟩ : Cm).sf (⟨1, ent, 0, fr, fr + (lg : Int), A, m, L⟩ : Cm).se).c
            simp only at q0 q1 q2 q3 q4 q5
            refine bodyPost_ret (v := .tuple #[cv14 ⟨1, ent, 0, fr, fr + (lg : Int), A, m, L⟩, .string S5, .int .i64 0]) (by simp [results, Tryd.results19, go_sem, q0, q1, q2, q3, q4, q5]) rfl (HR.out.good HE.out)
          · have HE := Lib.hid (show takeCs s = badC 8 from by rw [E6.out (by trivial) (by trivial) (by trivial), endC_bad (by rw [hzr]; exact hzr0)])
            have hz9 : ¬ ((zr : Nat) : Int) = 0 := by omega
            clear hzr hzr0
            obtain ⟨g0, g1, g2, g3, g4, g5⟩ := H7.out.own.c
            go_wp2_with (go_at_call 10; (with_reducible refine (CRT.out _ H7.out.vf).mono ?_); rintro e v ⟨rfl, hb⟩; have HR := Lib.hid (H7.out.below hb); obtain ⟨y0, y1, y2, y3, y4, y5⟩ := HR.out.own.c; obtain ⟨n0, n1, n2, n3, n4, n5⟩ := HR.out.zer.c; obtain ⟨x0, x1, x2, x3, x4, x5⟩ := HR.out.res.c; have xf := HR.out.res.f; clear hb)
            obtain ⟨q0, q1, q2, q3, q4, q5⟩ := (six_store HR.out.res none 0 [] 0 ⟨#[]⟩ 0 0 0).c
            simp only [List.length_nil] at q0 q1 q2 q3 q4 q5
            refine bodyPost_ret (v := .tuple #[cv14 noC, .string ⟨#[]⟩, .int .i64 8]) (by simp [results, Tryd.results19, go_sem, q0, q1, q2, q3, q4, q5, noC]) rfl (HR.out.bad (z := 8) HE.out)
        · have hz5' : ¬ ((z5 : Nat) : Int) = 0 := by omega
          have HE := Lib.hid (show takeCs s = badC z5 from E5.out (by trivial) (by trivial) hz5)
          obtain ⟨n0, n1, n2, n3, n4, n5⟩ := H7.out.zer.c
          obtain ⟨x0, x1, x2, x3, x4, x5⟩ := H7.out.res.c
          have xf := H7.out.res.f
          go_wp2_with fail
          obtain ⟨q0, q1, q2, q3, q4, q5⟩ := (six_store H7.out.res none 0 [] 0 ⟨#[]⟩ 0 0 0).c
          simp only [List.length_nil] at q0 q1 q2 q3 q4 q5
          refine bodyPost_ret (v := .tuple #[cv14 noC, .string ⟨#[]⟩, .int .i64 ((z5 : Nat) : Int)]) (by simp [results, Tryd.results19, go_sem, q0, q1, q2, q3, q4, q5, noC]) rfl (H7.out.bad HE.out)
      · have hz4' : ¬ ((z4 : Nat) : Int) = 0 := by omega
        have HE := Lib.hid (show takeCs s = badC z4 from E4.out (by trivial) hz4)
        obtain ⟨n0, n1, n2, n3, n4, n5⟩ := H5.out.zer.c
        obtain ⟨x0, x1, x2, x3, x4, x5⟩ := H5.out.res.c
        have xf := H5.out.res.f
        go_wp2_with fail
        obtain ⟨q0, q1, q2, q3, q4, q5⟩ := (six_store H5.out.res none 0 [] 0 ⟨#[]⟩ 0 0 0).c
        simp only [List.length_nil] at q0 q1 q2 q3 q4 q5
        refine bodyPost_ret (v := .tuple #[cv14 noC, .string ⟨#[]⟩, .int .i64 ((z4 : Nat) : Int)]) (by simp [results, Tryd.results19, go_sem, q0, q1, q2, q3, q4, q5, noC]) rfl (H5.out.bad HE.out)
    · have hz3' : ¬ ((z3 : Nat) : Int) = 0 := by omega
      have HE := Lib.hid (show takeCs s = badC z3 from E3.out hz3)
      obtain ⟨n0, n1, n2, n3, n4, n5⟩ := H4.out.zer.c
      obtain ⟨x0, x1, x2, x3, x4, x5⟩ := H4.out.res.c
      have xf := H4.out.res.f
      go_wp2_with fail
      obtain ⟨q0, q1, q2, q3, q4, q5⟩ := (six_store H4.out.res none 0 [] 0 ⟨#[]⟩ 0 0 0).c
      simp only [List.length_nil] at q0 q1 q2 q3 q4 q5
      refine bodyPost_ret (v := .tuple #[cv14 noC, .string ⟨#[]⟩, .int .i64 ((z3 : Nat) : Int)]) (by simp [results, Tryd.results19, go_sem, q0, q1, q2, q3, q4, q5, noC]) rfl (H4.out.bad HE.out)
  · have hz2' : ¬ ((z2 : Nat) : Int) = 0 := by omega
    have HE := Lib.hid (show takeCs s = badC z2 from EB.out hz2)
    obtain ⟨n0, n1, n2, n3, n4, n5⟩ := H3.out.zer.c
    obtain ⟨x0, x1, x2, x3, x4, x5⟩ := H3.out.res.c
    have xf := H3.out.res.f
    go_wp2_with fail
    obtain ⟨q0, q1, q2, q3, q4, q5⟩ := (six_store H3.out.res none 0 [] 0 ⟨#[]⟩ 0 0 0).c
    simp only [List.length_nil] at q0 q1 q2 q3 q4 q5
    refine bodyPost_ret (v := .tuple #[cv14 noC, .string ⟨#[]⟩, .int .i64 ((z2 : Nat) : Int)]) (by simp [results, Tryd.results19, go_sem, q0, q1, q2, q3, q4, q5, noC]) rfl (H3.out.bad HE.out)

end Go.Proofs.YtmieonfdenjedaaDoor

/-
  The document's Take of commands: kind 2.
-/
namespace Go.Proofs.YtmieonfdenjedaaDoor
open Go.RowKit

set_option maxHeartbeats 8000000 in
set_option maxRecDepth 10000 in
theorem dtk_2 (s : ByteArray) (hs : s.size ≤ 4611686018427387903) (w : World) (h0 : tkE s = 0) (hk : tkN s = 2) : Calls Tryd.prog 19 #[.string s] w (TakeC14f s w) := by
  have C1 := Lib.hid (show ∀ w, Ret 43 #[.string s] w (.tuple #[.int .i64 2, .string (tkR s), .int .i64 0]) from fun w => by have : Ret 43 #[.string s] w (.tuple #[.int .i64 ((tkN s : Nat) : Int), .string (tkR s), .int .i64 ((tkE s : Nat) : Int)]) := dtake_any s hs w; rw [h0, hk] at this; exact this)
  have HI := Lib.hid (dtI_start w)
  have C2 := Lib.hid (show ∀ w, Ret 45 #[.string (tkR s)] w (.tuple #[.int .i64 (unzig (tkN (tkR s))), .string (tkR (tkR s)), .int .i64 ((tkE (tkR s) : Nat) : Int)]) from fun w => dtakeint_any (tkR s) (Nat.le_trans (tkR_size s) hs) w)
  have EB := Lib.hid (fun h => takeCs_23e h0 (.inl hk) h)
  have EG := Lib.hid (fun h => takeCs_2 h0 hk h)
  have HSZ := Lib.hid (Nat.le_trans (tkR_size (tkR s)) (Nat.le_trans (tkR_size s) hs))
  have HEN := Lib.hid (show (⟨#[]⟩ : ByteArray).size ≤ 9223372036854775807 from Nat.zero_le _)
  obtain ⟨tg, htg⟩ : ∃ tg, unzig (tkN (tkR s)) = tg := ⟨_, rfl⟩
  obtain ⟨S2, hS2⟩ : ∃ S2, tkR (tkR s) = S2 := ⟨_, rfl⟩
  obtain ⟨z2, hz2⟩ : ∃ z2, tkE (tkR s) = z2 := ⟨_, rfl⟩
  rw [htg, hS2, hz2] at C2
  rw [hz2] at EB
  rw [htg, hS2, hz2] at EG
  rw [hS2] at HSZ
  clear htg hS2 hz2
  obtain ⟨S1, hS1⟩ : ∃ S1, tkR s = S1 := ⟨_, rfl⟩
  rw [hS1] at C1 C2
  clear hS1 h0 hk hs
  go_enter Tryd.func19, Tryd.ntmps19
  go_upto_region 10 with (go_at_call 43; (with_reducible refine (C1.out _).mono ?_); rintro e v ⟨rfl, hb⟩; have HJ := Lib.hid (HI.out.below hb); obtain ⟨y0, y1, y2, y3, y4, y5⟩ := HJ.out.own.c; have yf := HJ.out.own.f; clear hb)
  refine abstract_worldW (fun W => DtI w ⟨2, ⟨#[]⟩, 0, 0, 0, none, 0, []⟩ W) (HJ.out.put (HJ.out.own.set0 2) rfl rfl rfl) ?_
  intro W2 hW2
  have H2 := Lib.hid hW2
  clear hW2 y0 y1 y2 y3 y4 y5 yf
  go_upto_region 11 with (go_at_call 45; (with_reducible refine (C2.out _).mono ?_); rintro e v ⟨rfl, hb⟩; have HJ := Lib.hid (H2.out.below hb); obtain ⟨y0, y1, y2, y3, y4, y5⟩ := HJ.out.own.c; have yf := HJ.out.own.f; clear hb)
  refine abstract_worldW (fun W => DtI w ⟨2, ⟨#[]⟩, tg, 0, 0, none, 0, []⟩ W) (HJ.out.put (HJ.out.own.set2 tg) rfl rfl rfl) ?_
  intro W3 hW3
  have H3 := Lib.hid hW3
  clear hW3 y0 y1 y2 y3 y4 y5 yf
  by_cases hz2 : z2 = 0
  · subst hz2
    have HTC := Lib.hid (EG.out (by trivial))
    clear EB EG
    have E3 := Lib.hid (fun h => HTC.out.trans (spanC_3 (k := 2) (ent := ⟨#[]⟩) (tg := tg) (s := S2) h))
    have E4 := Lib.hid (fun h h2 => HTC.out.trans (spanC_4 (k := 2) (ent := ⟨#[]⟩) (tg := tg) (s := S2) h h2))
    have E5 := Lib.hid (fun h h2 h3 => HTC.out.trans (spanC_5 (k := 2) (ent := ⟨#[]⟩) (tg := tg) (s := S2) h h2 h3))
    have E6 := Lib.hid (fun h h2 h3 => HTC.out.trans (spanC_6 (k := 2) (ent := ⟨#[]⟩) (tg := tg) (s := S2) h h2 h3))
    have C3 := Lib.hid (show ∀ w, Ret 45 #[.string S2] w (.tuple #[.int .i64 (unzig (tkN S2)), .string (tkR S2), .int .i64 ((tkE S2 : Nat) : Int)]) from fun w => dtakeint_any S2 HSZ.out w)
    have C4 := Lib.hid (show ∀ w, Ret 43 #[.string (tkR S2)] w (.tuple #[.int .i64 ((tkN (tkR S2) : Nat) : Int), .string (tkR (tkR S2)), .int .i64 ((tkE (tkR S2) : Nat) : Int)]) from fun w => dtake_any (tkR S2) (Nat.le_trans (tkR_size _) HSZ.out) w)
    have C5 := Lib.hid (show ∀ w, Calls Tryd.prog 46 #[.string (tkR (tkR S2))] w fun e w' => ∃ u, e = .returned (.tuple #[u, .string (takeF (tkR (tkR S2))).2.1, .int .i64 (((takeF (tkR (tkR S2))).2.2 : Nat) : Int)]) ∧ OF w (takeF (tkR (tkR S2))).1 u w' from fun w => dtakefo_any (tkR (tkR S2)) (Nat.le_trans (tkR_size _) (Nat.le_trans (tkR_size _) HSZ.out)) w)
    have HSM := Lib.hid (show okF (takeF (tkR (tkR S2))).1 ∧ (takeF (tkR (tkR S2))).1.length ≤ 9223372036854775807 ∧ (⟨#[]⟩ : ByteArray).size ≤ 9223372036854775807 from by
      have hsm := takeF_small (tkR (tkR S2))
      have hz := Nat.le_trans (tkR_size (tkR S2)) (Nat.le_trans (tkR_size S2) HSZ.out)
      exact ⟨fun f hf => by have := hsm.1 f hf; omega, by have := hsm.2; omega, HEN.out⟩)
    have b1 := unzig_val14 S2
    have b2 := tkN_lt (tkR S2)
    obtain ⟨fr, hfr⟩ : ∃ fr, unzig (tkN S2) = fr := ⟨_, rfl⟩
    obtain ⟨z3, hz3⟩ : ∃ z3, tkE S2 = z3 := ⟨_, rfl⟩
    obtain ⟨lg, hlg⟩ : ∃ lg, tkN (tkR S2) = lg := ⟨_, rfl⟩
    obtain ⟨z4, hz4⟩ : ∃ z4, tkE (tkR S2) = z4 := ⟨_, rfl⟩
    obtain ⟨TF, hTF⟩ : ∃ TF, takeF (tkR (tkR S2)) = TF := ⟨_, rfl⟩
    obtain ⟨S3, hS3⟩ : ∃ S3, tkR S2 = S3 := ⟨_, rfl⟩
    rw [hfr, hz3, hS3] at C3
    rw [hS3] at hlg hz4 hTF
    rw [hS3] at C4 C5 HSM E4 E5 E6 b2
    rw [hz3] at E3 E4 E5 E6
    rw [hlg, hz4] at C4
    rw [hz4] at E4 E5 E6
    rw [hTF] at C5 HSM E5 E6
    rw [hlg] at b2 E6
    rw [hfr] at b1 E6
    obtain ⟨S4, hS4⟩ : ∃ S4, tkR S3 = S4 := ⟨_, rfl⟩
    rw [hS4] at C4 C5
    clear hfr hz3 hlg hz4 hTF hS3 hS4 HTC HSZ
    have hlong : wrap64 (fr + (lg : Int)) = fr + (lg : Int) := IntWalk.wrap64_in _ (by omega)
    clear b1 b2
    obtain ⟨L, S5, z5⟩ := TF
    simp only at C5 HSM E5 E6
    go_upto_region 16 with (go_at_call 45; (with_reducible refine (C3.out _).mono ?_); rintro e v ⟨rfl, hb⟩; have HJ := Lib.hid (H3.out.below hb); obtain ⟨y0, y1, y2, y3, y4, y5⟩ := HJ.out.own.c; have yf := HJ.out.own.f; clear hb)
    refine abstract_worldW (fun W => DtI w ⟨2, ⟨#[]⟩, tg, fr, 0, none, 0, []⟩ W) (HJ.out.put (HJ.out.own.set3 fr) rfl rfl rfl) ?_
    intro W4 hW4
    have H4 := Lib.hid hW4
    clear hW4 y0 y1 y2 y3 y4 y5 yf
    by_cases hz3 : z3 = 0
    · subst hz3
      go_upto_region 19 with (go_at_call 43; (with_reducible refine (C4.out _).mono ?_); rintro e v ⟨rfl, hb⟩; have HJ := Lib.hid (H4.out.below hb); obtain ⟨y0, y1, y2, y3, y4, y5⟩ := HJ.out.own.c; have yf := HJ.out.own.f; clear hb)
      refine abstract_worldW (fun W => DtI w ⟨2, ⟨#[]⟩, tg, fr, 0, none, 0, []⟩ W) HJ.out ?_
      intro W5 hW5
      have H5 := Lib.hid hW5
      clear hW5 y0 y1 y2 y3 y4 y5 yf
      by_cases hz4 : z4 = 0
      · subst hz4
        obtain ⟨y0, y1, y2, y3, y4, y5⟩ := H5.out.own.c
        have yf := H5.out.own.f
        go_upto_region 22 with fail
        refine abstract_worldW (fun W => DtI w ⟨2, ⟨#[]⟩, tg, fr, fr + (lg : Int), none, 0, []⟩ W) (H5.out.put (H5.out.own.set4 (fr + (lg : Int))) rfl rfl rfl) ?_
        intro W6 hW6
        have H6 := Lib.hid hW6
        clear hW6 y0 y1 y2 y3 y4 y5 yf
        go_upto_region 23 with (go_at_call 46; (with_reducible refine (C5.out _).mono ?_); rintro e v ⟨u5, rfl, ho5⟩; obtain ⟨A, m, rfl, hF5, hc5, hn5⟩ := ho5.list; have HFA5 := Lib.hid (show ∀ a, A = some a → w.heap.size + 1 + 1 < a.block from fun a ha => by (have hlo := (ho5.own.lt a.block (by rw [ha]; rfl)).1; have := H6.out.zer.lt; omega)); have HJ := Lib.hid (H6.out.below ho5.bel); have HCF := Lib.hid (show CF14 v ⟨2, ⟨#[]⟩, tg, fr, fr + (lg : Int), A, m, L⟩ from ⟨hF5, hc5, hn5⟩); obtain ⟨y0, y1, y2, y3, y4, y5⟩ := HJ.out.own.c; have yf := HJ.out.own.f; clear ho5 hF5 hc5 hn5)
        refine abstract_worldW (fun W => DtI w ⟨2, ⟨#[]⟩, tg, fr, fr + (lg : Int), A, m, L⟩ W) (HJ.out.fields HCF.out HFA5.out) ?_
        intro W7 hW7
        have H7 := Lib.hid hW7
        clear hW7 y0 y1 y2 y3 y4 y5 yf
        by_cases hz5 : z5 = 0
        · subst hz5
          clear E3 E4 E5 C3 C4 C5
          obtain ⟨zr, hzr⟩ : ∃ zr, rightC ⟨2, ⟨#[]⟩, tg, fr, fr + (lg : Int), none, 0, L⟩ = zr := ⟨_, rfl⟩
          have CRT := Lib.hid (show ∀ w', CF14 w' ⟨2, ⟨#[]⟩, tg, fr, fr + (lg : Int), A, m, L⟩ → Ret 10 #[.agg #[.int .i64 2, .string ⟨#[]⟩, .int .i64 tg, .int .i64 fr, .int .i64 (fr + (lg : Int)), .slice A L.length m]] w' (.int .i64 ((zr : Nat) : Int)) from fun w' h => by have := drightc14_any ⟨2, ⟨#[]⟩, tg, fr, fr + (lg : Int), A, m, L⟩ w' h HSM.out.1 HSM.out.2.1 HSM.out.2.2; rwa [show rightC ⟨2, ⟨#[]⟩, tg, fr, fr + (lg : Int), A, m, L⟩ = zr from hzr] at this)
          by_cases hzr0 : zr = 0
          · subst hzr0
            have HE := Lib.hid (show takeCs s = (contC ⟨2, ⟨#[]⟩, tg, fr, fr + (lg : Int), A, m, L⟩, S5, 0) from by rw [E6.out (by trivial) (by trivial) (by trivial), endC_ok hzr]; rfl)
            clear hzr
            obtain ⟨g0, g1, g2, g3, g4, g5⟩ := H7.out.own.c
            go_wp2_with (go_at_call 10; (with_reducible refine (CRT.out _ H7.out.vf).mono ?_); rintro e v ⟨rfl, hb⟩; have HR := Lib.hid (H7.out.below hb); obtain ⟨y0, y1, y2, y3, y4, y5⟩ := HR.out.own.c; obtain ⟨n0, n1, n2, n3, n4, n5⟩ := HR.out.zer.c; obtain ⟨x0, x1, x2, x3, x4, x5⟩ := HR.out.res.c; have xf := HR.out.res.f; clear hb)
            obtain ⟨q0, q1, q2, q3, q4, q5⟩ := (six_store HR.out.res (⟨2, ⟨#[]⟩, tg, fr, fr + (lg : Int), A, m, L⟩ : Cm).fa (⟨2, ⟨#[]⟩, tg, fr, fr + (lg : Int), A, m, L⟩ : Cm).fc (⟨2, ⟨#[]⟩, tg, fr, fr + (lg : Int), A, m, L⟩ : Cm).fs (⟨2, ⟨#[]⟩, tg, fr, fr + (lg : Int), A, m, L⟩ : Cm).k (⟨2, ⟨#[]⟩, tg, fr, fr + (lg : Int), A, m, L⟩ : Cm).ent (⟨2, ⟨#[]⟩, tg, fr, fr + (lg : Int), A, m, L⟩ : Cm).tg (⟨2, ⟨#[]⟩, tg, fr, fr + (lg : Int), A, m, L⟩ : Cm).sf (⟨2, ⟨#[]⟩, tg, fr, fr + (lg : Int), A, m, L⟩ : Cm).se).c
            simp only at q0 q1 q2 q3 q4 q5
            refine bodyPost_ret (v := .tuple #[cv14 ⟨2, ⟨#[]⟩, tg, fr, fr + (lg : Int), A, m, L⟩, .string S5, .int .i64 0]) (by simp [results, Tryd.results19, go_sem, q0, q1, q2, q3, q4, q5]) rfl (HR.out.good HE.out)
          · have HE := Lib.hid (show takeCs s = badC 8 from by rw [E6.out (by trivial) (by trivial) (by trivial), endC_bad (by rw [hzr]; exact hzr0)])
            have hz9 : ¬ ((zr : Nat) : Int) = 0 := by omega
            clear hzr hzr0
            obtain ⟨g0, g1, g2, g3, g4, g5⟩ := H7.out.own.c
            go_wp2_with (go_at_call 10; (with_reducible refine (CRT.out _ H7.out.vf).mono ?_); rintro e v ⟨rfl, hb⟩; have HR := Lib.hid (H7.out.below hb); obtain ⟨y0, y1, y2, y3, y4, y5⟩ := HR.out.own.c; obtain ⟨n0, n1, n2, n3, n4, n5⟩ := HR.out.zer.c; obtain ⟨x0, x1, x2, x3, x4, x5⟩ := HR.out.res.c; have xf := HR.out.res.f; clear hb)
            obtain ⟨q0, q1, q2, q3, q4, q5⟩ := (six_store HR.out.res none 0 [] 0 ⟨#[]⟩ 0 0 0).c
            simp only [List.length_nil] at q0 q1 q2 q3 q4 q5
            refine bodyPost_ret (v := .tuple #[cv14 noC, .string ⟨#[]⟩, .int .i64 8]) (by simp [results, Tryd.results19, go_sem, q0, q1, q2, q3, q4, q5, noC]) rfl (HR.out.bad (z := 8) HE.out)
        · have hz5' : ¬ ((z5 : Nat) : Int) = 0 := by omega
          have HE := Lib.hid (show takeCs s = badC z5 from E5.out (by trivial) (by trivial) hz5)
          obtain ⟨n0, n1, n2, n3, n4, n5⟩ := H7.out.zer.c
          obtain ⟨x0, x1, x2, x3, x4, x5⟩ := H7.out.res.c
          have xf := H7.out.res.f
          go_wp2_with fail
          obtain ⟨q0, q1, q2, q3, q4, q5⟩ := (six_store H7.out.res none 0 [] 0 ⟨#[]⟩ 0 0 0).c
          simp only [List.length_nil] at q0 q1 q2 q3 q4 q5
          refine bodyPost_ret (v := .tuple #[cv14 noC, .string ⟨#[]⟩, .int .i64 ((z5 : Nat) : Int)]) (by simp [results, Tryd.results19, go_sem, q0, q1, q2, q3, q4, q5, noC]) rfl (H7.out.bad HE.out)
      · have hz4' : ¬ ((z4 : Nat) : Int) = 0 := by omega
        have HE := Lib.hid (show takeCs s = badC z4 from E4.out (by trivial) hz4)
        obtain ⟨n0, n1, n2, n3, n4, n5⟩ := H5.out.zer.c
        obtain ⟨x0, x1, x2, x3, x4, x5⟩ := H5.out.res.c
        have xf := H5.out.res.f
        go_wp2_with fail
        obtain ⟨q0, q1, q2, q3, q4, q5⟩ := (six_store H5.out.res none 0 [] 0 ⟨#[]⟩ 0 0 0).c
        simp only [List.length_nil] at q0 q1 q2 q3 q4 q5
        refine bodyPost_ret (v := .tuple #[cv14 noC, .string ⟨#[]⟩, .int .i64 ((z4 : Nat) : Int)]) (by simp [results, Tryd.results19, go_sem, q0, q1, q2, q3, q4, q5, noC]) rfl (H5.out.bad HE.out)
    · have hz3' : ¬ ((z3 : Nat) : Int) = 0 := by omega
      have HE := Lib.hid (show takeCs s = badC z3 from E3.out hz3)
      obtain ⟨n0, n1, n2, n3, n4, n5⟩ := H4.out.zer.c
      obtain ⟨x0, x1, x2, x3, x4, x5⟩ := H4.out.res.c
      have xf := H4.out.res.f
      go_wp2_with fail
      obtain ⟨q0, q1, q2, q3, q4, q5⟩ := (six_store H4.out.res none 0 [] 0 ⟨#[]⟩ 0 0 0).c
      simp only [List.length_nil] at q0 q1 q2 q3 q4 q5
      refine bodyPost_ret (v := .tuple #[cv14 noC, .string ⟨#[]⟩, .int .i64 ((z3 : Nat) : Int)]) (by simp [results, Tryd.results19, go_sem, q0, q1, q2, q3, q4, q5, noC]) rfl (H4.out.bad HE.out)
  · have hz2' : ¬ ((z2 : Nat) : Int) = 0 := by omega
    have HE := Lib.hid (show takeCs s = badC z2 from EB.out hz2)
    obtain ⟨n0, n1, n2, n3, n4, n5⟩ := H3.out.zer.c
    obtain ⟨x0, x1, x2, x3, x4, x5⟩ := H3.out.res.c
    have xf := H3.out.res.f
    go_wp2_with fail
    obtain ⟨q0, q1, q2, q3, q4, q5⟩ := (six_store H3.out.res none 0 [] 0 ⟨#[]⟩ 0 0 0).c
    simp only [List.length_nil] at q0 q1 q2 q3 q4 q5
    refine bodyPost_ret (v := .tuple #[cv14 noC, .string ⟨#[]⟩, .int .i64 ((z2 : Nat) : Int)]) (by simp [results, Tryd.results19, go_sem, q0, q1, q2, q3, q4, q5, noC]) rfl (H3.out.bad HE.out)

end Go.Proofs.YtmieonfdenjedaaDoor

/-
  The document's Take of commands: kind 3.
-/
namespace Go.Proofs.YtmieonfdenjedaaDoor
open Go.RowKit

set_option maxHeartbeats 8000000 in
set_option maxRecDepth 10000 in
theorem dtk_3 (s : ByteArray) (hs : s.size ≤ 4611686018427387903) (w : World) (h0 : tkE s = 0) (hk : tkN s = 3) : Calls Tryd.prog 19 #[.string s] w (TakeC14f s w) := by
  have C1 := Lib.hid (show ∀ w, Ret 43 #[.string s] w (.tuple #[.int .i64 3, .string (tkR s), .int .i64 0]) from fun w => by have : Ret 43 #[.string s] w (.tuple #[.int .i64 ((tkN s : Nat) : Int), .string (tkR s), .int .i64 ((tkE s : Nat) : Int)]) := dtake_any s hs w; rw [h0, hk] at this; exact this)
  have HI := Lib.hid (dtI_start w)
  have C2 := Lib.hid (show ∀ w, Ret 45 #[.string (tkR s)] w (.tuple #[.int .i64 (unzig (tkN (tkR s))), .string (tkR (tkR s)), .int .i64 ((tkE (tkR s) : Nat) : Int)]) from fun w => dtakeint_any (tkR s) (Nat.le_trans (tkR_size s) hs) w)
  have EB := Lib.hid (fun h => takeCs_23e h0 (.inr hk) h)
  have EG := Lib.hid (fun h => takeCs_3 h0 hk h)
  have HSZ := Lib.hid (Nat.le_trans (tkR_size (tkR s)) (Nat.le_trans (tkR_size s) hs))
  have HEN := Lib.hid (show (⟨#[]⟩ : ByteArray).size ≤ 9223372036854775807 from Nat.zero_le _)
  obtain ⟨tg, htg⟩ : ∃ tg, unzig (tkN (tkR s)) = tg := ⟨_, rfl⟩
  obtain ⟨S2, hS2⟩ : ∃ S2, tkR (tkR s) = S2 := ⟨_, rfl⟩
  obtain ⟨z2, hz2⟩ : ∃ z2, tkE (tkR s) = z2 := ⟨_, rfl⟩
  rw [htg, hS2, hz2] at C2
  rw [hz2] at EB
  rw [htg, hS2, hz2] at EG
  rw [hS2] at HSZ
  clear htg hS2 hz2
  obtain ⟨S1, hS1⟩ : ∃ S1, tkR s = S1 := ⟨_, rfl⟩
  rw [hS1] at C1 C2
  clear hS1 h0 hk hs
  go_enter Tryd.func19, Tryd.ntmps19
  go_upto_region 10 with (go_at_call 43; (with_reducible refine (C1.out _).mono ?_); rintro e v ⟨rfl, hb⟩; have HJ := Lib.hid (HI.out.below hb); obtain ⟨y0, y1, y2, y3, y4, y5⟩ := HJ.out.own.c; have yf := HJ.out.own.f; clear hb)
  refine abstract_worldW (fun W => DtI w ⟨3, ⟨#[]⟩, 0, 0, 0, none, 0, []⟩ W) (HJ.out.put (HJ.out.own.set0 3) rfl rfl rfl) ?_
  intro W2 hW2
  have H2 := Lib.hid hW2
  clear hW2 y0 y1 y2 y3 y4 y5 yf
  go_upto_region 11 with (go_at_call 45; (with_reducible refine (C2.out _).mono ?_); rintro e v ⟨rfl, hb⟩; have HJ := Lib.hid (H2.out.below hb); obtain ⟨y0, y1, y2, y3, y4, y5⟩ := HJ.out.own.c; have yf := HJ.out.own.f; clear hb)
  refine abstract_worldW (fun W => DtI w ⟨3, ⟨#[]⟩, tg, 0, 0, none, 0, []⟩ W) (HJ.out.put (HJ.out.own.set2 tg) rfl rfl rfl) ?_
  intro W3 hW3
  have H3 := Lib.hid hW3
  clear hW3 y0 y1 y2 y3 y4 y5 yf
  by_cases hz2 : z2 = 0
  · subst hz2
    have HSM := Lib.hid (show okF ([] : List Fd) ∧ ([] : List Fd).length ≤ 9223372036854775807 ∧ (⟨#[]⟩ : ByteArray).size ≤ 9223372036854775807 from ⟨fun f hf => by simp at hf, by simp, HEN.out⟩)
    obtain ⟨zr, hzr⟩ : ∃ zr, rightC ⟨3, ⟨#[]⟩, tg, 0, 0, none, 0, []⟩ = zr := ⟨_, rfl⟩
    have CRT := Lib.hid (show ∀ w', CF14 w' ⟨3, ⟨#[]⟩, tg, 0, 0, none, 0, []⟩ → Ret 10 #[.agg #[.int .i64 3, .string ⟨#[]⟩, .int .i64 tg, .int .i64 0, .int .i64 (0), .slice none 0 0]] w' (.int .i64 ((zr : Nat) : Int)) from fun w' h => by have := drightc14_any ⟨3, ⟨#[]⟩, tg, 0, 0, none, 0, []⟩ w' h HSM.out.1 HSM.out.2.1 HSM.out.2.2; rwa [show rightC ⟨3, ⟨#[]⟩, tg, 0, 0, none, 0, []⟩ = zr from hzr] at this)
    by_cases hzr0 : zr = 0
    · subst hzr0
      have HE := Lib.hid (show takeCs s = (contC ⟨3, ⟨#[]⟩, tg, 0, 0, none, 0, []⟩, S2, 0) from by rw [EG.out (by trivial), endC_ok hzr]; rfl)
      clear hzr
      obtain ⟨g0, g1, g2, g3, g4, g5⟩ := H3.out.own.c
      go_wp2_with (go_at_call 10; (with_reducible refine (CRT.out _ H3.out.vf).mono ?_); rintro e v ⟨rfl, hb⟩; have HR := Lib.hid (H3.out.below hb); obtain ⟨y0, y1, y2, y3, y4, y5⟩ := HR.out.own.c; obtain ⟨n0, n1, n2, n3, n4, n5⟩ := HR.out.zer.c; obtain ⟨x0, x1, x2, x3, x4, x5⟩ := HR.out.res.c; have xf := HR.out.res.f; clear hb)
      obtain ⟨q0, q1, q2, q3, q4, q5⟩ := (six_store HR.out.res (⟨3, ⟨#[]⟩, tg, 0, 0, none, 0, []⟩ : Cm).fa (⟨3, ⟨#[]⟩, tg, 0, 0, none, 0, []⟩ : Cm).fc (⟨3, ⟨#[]⟩, tg, 0, 0, none, 0, []⟩ : Cm).fs (⟨3, ⟨#[]⟩, tg, 0, 0, none, 0, []⟩ : Cm).k (⟨3, ⟨#[]⟩, tg, 0, 0, none, 0, []⟩ : Cm).ent (⟨3, ⟨#[]⟩, tg, 0, 0, none, 0, []⟩ : Cm).tg (⟨3, ⟨#[]⟩, tg, 0, 0, none, 0, []⟩ : Cm).sf (⟨3, ⟨#[]⟩, tg, 0, 0, none, 0, []⟩ : Cm).se).c
      simp only [List.length_nil] at q0 q1 q2 q3 q4 q5
      refine bodyPost_ret (v := .tuple #[cv14 ⟨3, ⟨#[]⟩, tg, 0, 0, none, 0, []⟩, .string S2, .int .i64 0]) (by simp [results, Tryd.results19, go_sem, q0, q1, q2, q3, q4, q5]) rfl (HR.out.good HE.out)
    · have HE := Lib.hid (show takeCs s = badC 8 from by rw [EG.out (by trivial), endC_bad (by rw [hzr]; exact hzr0)])
      have hz9 : ¬ ((zr : Nat) : Int) = 0 := by omega
      clear hzr hzr0
      obtain ⟨g0, g1, g2, g3, g4, g5⟩ := H3.out.own.c
      go_wp2_with (go_at_call 10; (with_reducible refine (CRT.out _ H3.out.vf).mono ?_); rintro e v ⟨rfl, hb⟩; have HR := Lib.hid (H3.out.below hb); obtain ⟨y0, y1, y2, y3, y4, y5⟩ := HR.out.own.c; obtain ⟨n0, n1, n2, n3, n4, n5⟩ := HR.out.zer.c; obtain ⟨x0, x1, x2, x3, x4, x5⟩ := HR.out.res.c; have xf := HR.out.res.f; clear hb)
      obtain ⟨q0, q1, q2, q3, q4, q5⟩ := (six_store HR.out.res none 0 [] 0 ⟨#[]⟩ 0 0 0).c
      simp only [List.length_nil] at q0 q1 q2 q3 q4 q5
      refine bodyPost_ret (v := .tuple #[cv14 noC, .string ⟨#[]⟩, .int .i64 8]) (by simp [results, Tryd.results19, go_sem, q0, q1, q2, q3, q4, q5, noC]) rfl (HR.out.bad (z := 8) HE.out)
  · have hz2' : ¬ ((z2 : Nat) : Int) = 0 := by omega
    have HE := Lib.hid (show takeCs s = badC z2 from EB.out hz2)
    obtain ⟨n0, n1, n2, n3, n4, n5⟩ := H3.out.zer.c
    obtain ⟨x0, x1, x2, x3, x4, x5⟩ := H3.out.res.c
    have xf := H3.out.res.f
    go_wp2_with fail
    obtain ⟨q0, q1, q2, q3, q4, q5⟩ := (six_store H3.out.res none 0 [] 0 ⟨#[]⟩ 0 0 0).c
    simp only [List.length_nil] at q0 q1 q2 q3 q4 q5
    refine bodyPost_ret (v := .tuple #[cv14 noC, .string ⟨#[]⟩, .int .i64 ((z2 : Nat) : Int)]) (by simp [results, Tryd.results19, go_sem, q0, q1, q2, q3, q4, q5, noC]) rfl (H3.out.bad HE.out)

end Go.Proofs.YtmieonfdenjedaaDoor

/-
  The document's Take of commands.
-/
namespace Go.Proofs.YtmieonfdenjedaaDoor
open Go.RowKit

set_option maxHeartbeats 8000000 in
set_option maxRecDepth 10000 in
theorem dtakec14_any (s : ByteArray) (hs : s.size ≤ 4611686018427387903) (w : World) : Calls Tryd.prog 19 #[.string s] w (TakeC14f s w) := by
  have C1 := Lib.hid (show ∀ w, Ret 43 #[.string s] w (.tuple #[.int .i64 ((tkN s : Nat) : Int), .string (tkR s), .int .i64 ((tkE s : Nat) : Int)]) from fun w => dtake_any s hs w)
  have HI := Lib.hid (dtI_start w)
  by_cases h0 : tkE s ≠ 0
  · have EB := Lib.hid (takeCs_0e h0)
    have h0' : ¬ ((tkE s : Nat) : Int) = 0 := by omega
    generalize tkE s = z at *
    generalize tkN s = n at *
    clear h0
    go_enter Tryd.func19, Tryd.ntmps19
    go_upto_region 3 with (go_at_call 43; (with_reducible refine (C1.out _).mono ?_); rintro e v ⟨rfl, hb⟩; have HJ := Lib.hid (HI.out.below hb); clear hb)
    have HE := Lib.hid (show takeCs s = badC z from EB.out)
    obtain ⟨n0, n1, n2, n3, n4, n5⟩ := HJ.out.zer.c
    obtain ⟨x0, x1, x2, x3, x4, x5⟩ := HJ.out.res.c
    have xf := HJ.out.res.f
    go_wp2_with fail
    obtain ⟨q0, q1, q2, q3, q4, q5⟩ := (six_store HJ.out.res none 0 [] 0 ⟨#[]⟩ 0 0 0).c
    simp only [List.length_nil] at q0 q1 q2 q3 q4 q5
    refine bodyPost_ret (v := .tuple #[cv14 noC, .string ⟨#[]⟩, .int .i64 ((z : Nat) : Int)]) (by simp [results, Tryd.results19, go_sem, q0, q1, q2, q3, q4, q5, noC]) rfl (HJ.out.bad HE.out)
  have e0 : tkE s = 0 := by omega
  by_cases h1 : tkN s < 1
  · have EB := Lib.hid (takeCs_0k e0 (.inl h1))
    rw [e0] at C1
    generalize tkN s = n at *
    have h1' : (n : Int) < 1 := by omega
    clear h0 e0 h1
    go_enter Tryd.func19, Tryd.ntmps19
    go_upto_region 5 with (go_at_call 43; (with_reducible refine (C1.out _).mono ?_); rintro e v ⟨rfl, hb⟩; have HJ := Lib.hid (HI.out.below hb); clear hb)
    have HE := Lib.hid (show takeCs s = badC 8 from EB.out)
    obtain ⟨n0, n1, n2, n3, n4, n5⟩ := HJ.out.zer.c
    obtain ⟨x0, x1, x2, x3, x4, x5⟩ := HJ.out.res.c
    have xf := HJ.out.res.f
    go_wp2_with fail
    obtain ⟨q0, q1, q2, q3, q4, q5⟩ := (six_store HJ.out.res none 0 [] 0 ⟨#[]⟩ 0 0 0).c
    simp only [List.length_nil] at q0 q1 q2 q3 q4 q5
    refine bodyPost_ret (v := .tuple #[cv14 noC, .string ⟨#[]⟩, .int .i64 ((8 : Nat) : Int)]) (by simp [results, Tryd.results19, go_sem, q0, q1, q2, q3, q4, q5, noC]) rfl (HJ.out.bad HE.out)
  by_cases h3 : 3 < tkN s
  · have EB := Lib.hid (takeCs_0k e0 (.inr h3))
    rw [e0] at C1
    generalize tkN s = n at *
    have h1' : ¬ (n : Int) < 1 := by omega
    have h3' : (3 : Int) < (n : Int) := by omega
    clear h0 e0 h1 h3
    go_enter Tryd.func19, Tryd.ntmps19
    go_upto_region 5 with (go_at_call 43; (with_reducible refine (C1.out _).mono ?_); rintro e v ⟨rfl, hb⟩; have HJ := Lib.hid (HI.out.below hb); clear hb)
    have HE := Lib.hid (show takeCs s = badC 8 from EB.out)
    obtain ⟨n0, n1, n2, n3, n4, n5⟩ := HJ.out.zer.c
    obtain ⟨x0, x1, x2, x3, x4, x5⟩ := HJ.out.res.c
    have xf := HJ.out.res.f
    go_wp2_with fail
    obtain ⟨q0, q1, q2, q3, q4, q5⟩ := (six_store HJ.out.res none 0 [] 0 ⟨#[]⟩ 0 0 0).c
    simp only [List.length_nil] at q0 q1 q2 q3 q4 q5
    refine bodyPost_ret (v := .tuple #[cv14 noC, .string ⟨#[]⟩, .int .i64 ((8 : Nat) : Int)]) (by simp [results, Tryd.results19, go_sem, q0, q1, q2, q3, q4, q5, noC]) rfl (HJ.out.bad HE.out)
  clear C1 HI
  by_cases k1 : tkN s = 1
  · exact dtk_1 s hs w e0 k1
  by_cases k2 : tkN s = 2
  · exact dtk_2 s hs w e0 k2
  · exact dtk_3 s hs w e0 (by omega)

end Go.Proofs.YtmieonfdenjedaaDoor

/-
  The document's Unbatch of commands.
-/
namespace Go.Proofs.YtmieonfdenjedaaDoor
open Go.RowKit

abbrev six14 (w : World) (b : Nat) (x : Cm) : World := (((((w.setCell ⟨b, 0, none⟩ (.int .i64 x.k)).setCell ⟨b, 1, none⟩ (.string x.ent)).setCell ⟨b, 2, none⟩ (.int .i64 x.tg)).setCell ⟨b, 3, none⟩ (.int .i64 x.sf)).setCell ⟨b, 4, none⟩ (.int .i64 x.se)).setCell ⟨b, 5, none⟩ (.slice x.fa x.fs.length x.fc)
set_option maxHeartbeats 8000000 in
set_option maxRecDepth 10000 in
theorem dunbatch14_any (s : ByteArray) (hs : s.size ≤ 4611686018427387903) (w : World) : Calls Tryd.prog 21 #[.string s] w (UnbPost s w) := by
  have CN := Lib.hid (show ∀ w, Ret 43 #[.string s] w (.tuple #[.int .i64 ((tkN s : Nat) : Int), .string (tkR s), .int .i64 ((tkE s : Nat) : Int)]) from fun w => dtake_any s hs w)
  have HS1 := Lib.hid (Nat.le_trans (tkR_size s) hs)
  have CTK := Lib.hid (show ∀ (S : ByteArray), S.size ≤ 4611686018427387903 → ∀ w', Calls Tryd.prog 19 #[.string S] w' (TakeC14f S w') from fun S h w' => dtakec14_any S h w')
  by_cases h0 : tkE s ≠ 0
  · have HE := Lib.hid (show unbatchC s = ([], tkE s) by unfold unbatchC; rw [if_pos h0])
    have h0' : ¬ ((tkE s : Nat) : Int) = 0 := by omega
    generalize tkE s = z at *
    generalize tkN s = n at *
    clear h0
    go_enter Tryd.func21, Tryd.ntmps21
    go_wp2_with (go_at_call 43; (with_reducible refine (CN.out _).mono ?_); rintro e w1 ⟨rfl, hb1⟩)
    go_ret2
    exact unb_bad HE.out rfl hb1
  have e0 : tkE s = 0 := by omega
  rw [e0] at CN
  have CM := Lib.hid (fun w => dmany14_any ((tkN s : Nat) : Int) w)
  by_cases h1 : tkN s < 1
  · have HE := Lib.hid (show unbatchC s = ([], 2) by unfold unbatchC; rw [if_neg h0, if_pos h1])
    rw [if_pos (by omega)] at CM
    generalize tkN s = n at *
    clear h0 e0 h1
    go_enter Tryd.func21, Tryd.ntmps21
    go_wp2_with (first
      | (go_at_call 43; (with_reducible refine (CN.out _).mono ?_); rintro e w1 ⟨rfl, hb1⟩)
      | (go_at_call 49; (with_reducible refine (CM.out _).mono ?_); rintro e w2 ⟨rfl, hw2⟩; obtain rfl := hw2.symm))
    go_ret2
    exact unb_bad HE.out rfl hb1
  by_cases h2 : 8 < tkN s
  · have HE := Lib.hid (show unbatchC s = ([], 4) by unfold unbatchC; rw [if_neg h0, if_neg h1, if_pos h2])
    rw [if_neg (by omega), if_pos (by omega)] at CM
    generalize tkN s = n at *
    clear h0 e0 h1 h2
    go_enter Tryd.func21, Tryd.ntmps21
    go_wp2_with (first
      | (go_at_call 43; (with_reducible refine (CN.out _).mono ?_); rintro e w1 ⟨rfl, hb1⟩)
      | (go_at_call 49; (with_reducible refine (CM.out _).mono ?_); rintro e w2 ⟨rfl, hw2⟩; obtain rfl := hw2.symm))
    go_ret2
    exact unb_bad HE.out rfl hb1
  rw [if_neg (by omega), if_neg (by omega)] at CM
  have HE := Lib.hid (show ∀ z, (readB (tkN s) (tkR s)).2.2 = z → z ≠ 0 → unbatchC s = ([], z) from fun z hz hz0 => by unfold unbatchC; rw [if_neg h0, if_neg h1, if_neg h2, hz, if_pos hz0])
  have HE2 := Lib.hid (show ∀ acc S, readB (tkN s) (tkR s) = (acc, S, 0) → unbatchC s = if S.size ≠ 0 then ([], 8) else (acc, 0) from fun acc S h => by unfold unbatchC; rw [if_neg h0, if_neg h1, if_neg h2, h, if_neg (by simp)])
  have HG := Lib.hid (show gB s (tkN s) [] (tkR s) from by
    unfold gB joinB
    by_cases h : (readB (tkN s) (tkR s)).2.2 ≠ 0
    · rw [if_pos h]
      exact readB_bad h
    · rw [if_neg h, List.nil_append]
      have : (readB (tkN s) (tkR s)).2.2 = 0 := by omega
      rw [← this])
  have HN := Lib.hid (show tkN s ≤ 8 by omega)
  have HERR := Lib.hid (show ∀ n acc S, gB s (n + 1) acc S → (takeCs S).2.2 ≠ 0 → unbatchC s = ([], (takeCs S).2.2) from fun n acc S h he => HE.out _ (gB_err h he) he)
  have HEND := Lib.hid (show ∀ acc S, gB s 0 acc S → unbatchC s = if S.size ≠ 0 then ([], 8) else (acc, 0) from fun acc S h => HE2.out acc S (gB_end h))
  obtain ⟨n, hn⟩ : ∃ n, tkN s = n := ⟨_, rfl⟩
  obtain ⟨S0, hS0⟩ : ∃ S0, tkR s = S0 := ⟨_, rfl⟩
  have HG := Lib.hid (show gB s n [] S0 by rw [← hn, ← hS0]; exact HG.out)
  rw [hn] at CN CM HN
  rw [hS0] at CN HS1
  clear h0 e0 h1 h2 hn hS0 HE HE2 hs
  go_enter Tryd.func21, Tryd.ntmps21
  go_wp2_with (first
    | (go_at_call 43; (with_reducible refine (CN.out _).mono ?_); rintro e w1 ⟨rfl, hb1⟩; have HB1 := Lib.hid hb1; clear hb1)
    | (go_at_call 49; (with_reducible refine (CM.out _).mono ?_); rintro e w2 ⟨rfl, hw2⟩; obtain rfl := hw2.symm))
  go_loopw [0, 7, 8] (fun a v i wr => ∃ (k : Nat) (S : ByteArray) (acc : List Cm), k ≤ n ∧ i = .int .i64 k ∧ a = .string S ∧ acc.length = k ∧ S.size ≤ 4611686018427387903 ∧ gB s (n - k) (acc.map contC) S ∧ OutC w acc v wr) (fun _ _ i _ => n - (intOf i).toNat)
  case atStart => exact ⟨0, S0, [], Nat.zero_le _, rfl, rfl, rfl, HS1.out, HG.out, (OutC.nil w).below HB1.out⟩
  case round =>
    obtain ⟨k, S, acc, hk, rfl, rfl, hacc, hS, hG, hO⟩ := hrel
    have HACC := Lib.hid hacc
    have HG2 := Lib.hid hG
    have HO := Lib.hid hO
    clear hacc hG hO
    by_cases hlt : k < n
    · have hlt' : (k : Int) < (n : Int) := by omega
      obtain ⟨m, hm⟩ : ∃ m, n - k = m + 1 := ⟨n - k - 1, by omega⟩
      have HG3 := Lib.hid (show gB s (m + 1) (acc.map contC) S by have := HG2.out; rwa [hm] at this)
      have HM := Lib.hid hm
      have hba : Below wr.heap.size wr (wr.alloc oZC14) := (bl wr).alloc (Nat.le_refl _) _
      have HBA := Lib.hid hba
      have HZ := Lib.hid (holdC_new wr)
      have CT := Lib.hid (CTK.out S hS (wr.alloc oZC14))
      have HSZ := Lib.hid (Nat.le_trans (takeCs_size S) hS)
      have HNX := Lib.hid (fun h => gB_next HG3.out h)
      have HER := Lib.hid (fun h => HERR.out m _ S HG3.out h)
      unfold TakeC14f at CT
      generalize takeCs S = T at *
      obtain ⟨T1, T2, T3⟩ := T
      simp only at CT HSZ HNX HER
      clear hm hS hba
      obtain ⟨Av, cv, hvv, _⟩ := HO.out.cms.1
      have HOS := Lib.hid HO.out
      subst hvv
      by_cases h0 : T3 = 0
      · have HNX2 := Lib.hid (HNX.out h0)
        have hn8 := HN.out
        clear HNX HER
        subst h0
        go_upto_region 13 with (go_at_call 19; (with_reducible refine CT.out.mono ?_); rintro e w4 ⟨x, rfl, hx, hf, hfa, hb4⟩; have HX := Lib.hid hx; have HH4 := Lib.hid (HZ.out.below hb4); obtain ⟨z0, z1, z2, z3, z4, z5⟩ := HH4.out.c; have zf := HH4.out.f; have HFX := Lib.hid (show ∀ a, x.fa = some a → wr.heap.size + 1 ≤ a.block from fun a ha => by have := hfa a ha; simp at this; omega); have HO4 := Lib.hid (show OutC w acc (.slice Av acc.length cv) (six14 w4 wr.heap.size x) from HOS.out.below (six_below (chain HBA.out hb4) (Nat.le_refl _))); have HK4 := Lib.hid (show KC (six14 w4 wr.heap.size x) (Value.slice Av acc.length cv).ownBlock x from HOS.out.newer (hf.butd (six_butd w4 wr.heap.size _ _ _ _ _ _) (fun a ha => by have := HFX.out a ha; omega) rfl rfl rfl) (fun a ha => by have := HFX.out a ha; omega)); clear hx hf hfa hb4)
        refine abstract_worldW (fun W => OutC w acc (.slice Av acc.length cv) W ∧ KC W (Value.slice Av acc.length cv).ownBlock x ∧ BoxC W wr.heap.size x) ⟨HO4.out, HK4.out, (six_store HH4.out x.fa x.fc x.fs x.k x.ent x.tg x.sf x.se).c⟩ ?_
        rintro W4 ⟨ho5, hk5, q0, q1, q2, q3, q4, q5⟩
        have HO5 := Lib.hid ho5
        have HK5 := Lib.hid hk5
        clear ho5 hk5 HO4 HK4 HH4 HFX z0 z1 z2 z3 z4 z5 zf
        go_wp2_with (at_builtin; refine wpList_appC rfl (.tmp 38) (.tmp 40) rfl rfl (World.ownsRow.alloc HO5.out.own _) (xs := [x]) rfl rfl (by have hrow := rowE_one (E := EC14) W4 x #[.int .i64 x.k, .string x.ent, .int .i64 x.tg, .int .i64 x.sf, .int .i64 x.se, .slice x.fa x.fs.length x.fc] rfl 26; first | exact hrow | (simp at hrow ⊢; exact hrow)) (fun h => by cases h) (by simp; have := HACC.out; have := HN.out; omega) (by have := HO5.out.bel.size; simp at this ⊢; omega) ?_; intro v' w6 hown6 hg6 ho6; have HN6 := Lib.hid ((HO5.out.below ((bl _).alloc (Nat.le_refl _) _)).app (HK5.out.below ((bl _).alloc (Nat.le_refl _) _)) hg6 hown6 ho6); clear hown6 hg6 ho6)
        exact ⟨⟨k + 1, T2, acc ++ [x], by omega, by go_num, rfl, by rw [List.length_append, HACC.out]; rfl, HSZ.out, by rw [show n - (k + 1) = m by have := HM.out; omega, List.map_append]; have := HNX2.out; rw [← HX.out] at this; exact this, HN6.out⟩, by simp [intOf] <;> omega⟩
      · have h0' : ¬ ((T3 : Nat) : Int) = 0 := by omega
        have HX := Lib.hid (HER.out h0)
        clear h0 HNX HER
        go_wp2_with (go_at_call 19; (with_reducible refine CT.out.mono ?_); rintro e w4 ⟨x, rfl, hx, hf, hfa, hb4⟩; have HH4 := Lib.hid (HZ.out.below hb4); obtain ⟨z0, z1, z2, z3, z4, z5⟩ := HH4.out.c; have zf := HH4.out.f; have HB4 := Lib.hid (show Below w.heap.size w (six14 w4 wr.heap.size x) from chain HOS.out.bel (six_below (chain HBA.out hb4) (Nat.le_refl _))); clear hx hf hfa hb4)
        go_ret2
        exact unb_bad HX.out rfl HB4.out
    · obtain rfl : k = n := by omega
      have hlt' : ¬ (k : Int) < (k : Int) := by omega
      have HX := Lib.hid (HEND.out _ S (by have := HG2.out; rwa [Nat.sub_self] at this))
      by_cases hz : S.size ≠ 0
      · have hz2 := not_empty14 hz
        have HX2 := Lib.hid (show unbatchC s = ([], 8) by rw [HX.out, if_pos hz])
        clear hz
        go_wp2_with fail
        go_ret2
        exact unb_bad HX2.out rfl HO.out.bel
      · have hz2 : S = ⟨#[]⟩ := size0 (by omega)
        have HX2 := Lib.hid (show unbatchC s = (acc.map contC, 0) by rw [HX.out, if_neg hz])
        clear hz
        subst hz2
        go_wp2_with fail
        go_ret2
        exact ⟨_, acc, by rw [HX2.out]; rfl, HO.out.cms, by rw [HX2.out], HO.out.bel⟩
end Go.Proofs.YtmieonfdenjedaaDoor

/-
  CommandTakes gives back true.
-/
namespace Go.Proofs.YtmieonfdenjedaaDoor
open Go.RowKit

theorem putC_cont (c : Cm) : putC (contC c) = putC c := rfl
theorem catC_cont : ∀ l : List Cm, catC (l.map contC) = catC l
  | [] => rfl
  | c :: l => by rw [List.map_cons, catC, catC, catC_cont l, putC_cont]
theorem errB_cont : ∀ l : List Cm, errB (l.map contC) = errB l
  | [] => rfl
  | c :: l => by rw [List.map_cons, errB, errB, errB_cont l, right_contC]
theorem batchC_cont (l : List Cm) : batchC (l.map contC) = batchC l := by
  unfold batchC
  rw [errB_cont, catC_cont, List.length_map]
theorem takeCs_err {s : ByteArray} (h : (takeCs s).2.2 ≠ 0) : (takeCs s).1 = noC := by
  rw [takeCs_read] at h ⊢
  unfold endRd at h ⊢
  by_cases hz : (readP s).2.2 ≠ 0
  · rw [if_pos hz]; rfl
  · rw [if_neg hz] at h ⊢
    unfold endC at h ⊢
    by_cases h0 : rightC (readP s).1 = 0
    · rw [if_pos h0] at h; exact absurd rfl h
    · rw [if_neg h0]; rfl
theorem noC_small : smallC noC := ⟨fun f hf => by simp [noC] at hf, by simp [noC], Nat.zero_le _⟩
theorem takeCs_small {s : ByteArray} (hs : s.size ≤ 4611686018427387903) : smallC (takeCs s).1 := by
  by_cases h : (takeCs s).2.2 ≠ 0
  · rw [takeCs_err h]; exact noC_small
  · have hr := readP_small hs
    rw [takeCs_read] at h ⊢
    unfold endRd at h ⊢
    by_cases hz : (readP s).2.2 ≠ 0
    · rw [if_pos hz] at h; exact absurd hz h
    · rw [if_neg hz] at h ⊢
      unfold endC at h ⊢
      by_cases h0 : rightC (readP s).1 = 0
      · rw [if_pos h0]; exact hr
      · rw [if_neg h0]; exact noC_small
theorem readB_small : ∀ (n : Nat) {s : ByteArray}, s.size ≤ 4611686018427387903 → ∀ c ∈ (readB n s).1, smallC c
  | 0, _, _, c, hc => by simp [readB] at hc
  | n + 1, s, hs, c, hc => by
    rw [readB] at hc
    by_cases h1 : (takeCs s).2.2 ≠ 0
    · rw [if_pos h1] at hc; simp at hc
    rw [if_neg h1] at hc
    unfold joinB at hc
    by_cases h2 : (readB n (takeCs s).2.1).2.2 ≠ 0
    · rw [if_pos h2] at hc; simp at hc
    · rw [if_neg h2] at hc
      rcases List.mem_append.1 hc with hc | hc
      · obtain rfl := List.mem_singleton.1 hc
        exact takeCs_small hs
      · exact readB_small n (Nat.le_trans (takeCs_size s) hs) c hc
theorem unbatch_small {s : ByteArray} (hs : s.size ≤ 4611686018427387903) : (unbatchC s).1.length ≤ 8 ∧ ∀ c ∈ (unbatchC s).1, smallC c := by
  unfold unbatchC
  by_cases h1 : tkE s ≠ 0
  · rw [if_pos h1]; exact ⟨by simp, fun c hc => by simp at hc⟩
  rw [if_neg h1]
  by_cases h2 : tkN s < 1
  · rw [if_pos h2]; exact ⟨by simp, fun c hc => by simp at hc⟩
  rw [if_neg h2]
  by_cases h3 : 8 < tkN s
  · rw [if_pos h3]; exact ⟨by simp, fun c hc => by simp at hc⟩
  rw [if_neg h3]
  by_cases h4 : (readB (tkN s) (tkR s)).2.2 ≠ 0
  · rw [if_pos h4]; exact ⟨by simp, fun c hc => by simp at hc⟩
  rw [if_neg h4]
  by_cases h5 : (readB (tkN s) (tkR s)).2.1.size ≠ 0
  · rw [if_pos h5]; exact ⟨by simp, fun c hc => by simp at hc⟩
  rw [if_neg h5]
  obtain ⟨i1, _, _⟩ := readB_back (tkN s) (tkR s) (by omega)
  exact ⟨by show (readB (tkN s) (tkR s)).1.length ≤ 8; omega, readB_small _ (Nat.le_trans (tkR_size s) hs)⟩
theorem small_map {l m : List Cm} (h : l.map contC = m) (hm : ∀ c ∈ m, smallC c) : ∀ c ∈ l, smallC c := fun c hc => by
  have := hm (contC c) (by rw [← h]; exact List.mem_map_of_mem hc)
  exact this

set_option maxHeartbeats 8000000 in
set_option maxRecDepth 10000 in
theorem takes14_walk (s : ByteArray) (w : World) (hz : s.size ≤ 140737488351232) (hT : TabK w) : Ret 6 #[.string s] w (.bool true) := by
  have CAL := Lib.hid (fun w' (h : Below w.heap.size w w') => alive14_any w' (hT.below h))
  by_cases h3 : 3000 < s.size
  · have h3' : (3000 : Int) < (s.size : Int) := by omega
    clear hT
    go_enter Tryd.func6, Tryd.ntmps6
    go_wp2_with (go_at_call 8; (with_reducible refine (CAL.out _ (bl _)).mono ?_); rintro e w2 ⟨rfl, hb⟩)
    go_ret
    exact ⟨rfl, hb⟩
  have h3' : ¬ (3000 : Int) < (s.size : Int) := by omega
  have hs : s.size ≤ 4611686018427387903 := by omega
  have C1 := Lib.hid (show ∀ w', Below w.heap.size w w' → Calls Tryd.prog 17 #[.string s] w' fun e w'' => ∃ x, e = .returned (.tuple #[cv14 x, .string (takeCs s).2.1, .int .i64 (((takeCs s).2.2 : Nat) : Int)]) ∧ contC x = (takeCs s).1 ∧ CF14 w'' x ∧ Below w'.heap.size w' w'' from fun w' h => pctake_any s hs w' (hT.below h))
  have C2 := Lib.hid (show ∀ w', Calls Tryd.prog 19 #[.string s] w' fun e w'' => ∃ x, e = .returned (.tuple #[cv14 x, .string (takeCs s).2.1, .int .i64 (((takeCs s).2.2 : Nat) : Int)]) ∧ contC x = (takeCs s).1 ∧ CF14 w'' x ∧ Below w'.heap.size w' w'' from fun w' => (dtakec14_any s hs w').mono fun _ _ ⟨x, h1, h2, h3, _, h5⟩ => ⟨x, h1, h2, h3, h5⟩)
  have C3 := Lib.hid (show ∀ w', Below w.heap.size w w' → Calls Tryd.prog 20 #[.string s] w' fun e w'' => ∃ u l, e = .returned (.tuple #[u, .int .i64 (((unbatchC s).2 : Nat) : Int)]) ∧ CmsL w'' u l ∧ l.map contC = (unbatchC s).1 ∧ Below w'.heap.size w' w'' from fun w' h => pcunbatch_any s hs w' (hT.below h))
  have C4 := Lib.hid (show ∀ w', Calls Tryd.prog 21 #[.string s] w' fun e w'' => ∃ u l, e = .returned (.tuple #[u, .int .i64 (((unbatchC s).2 : Nat) : Int)]) ∧ CmsL w'' u l ∧ l.map contC = (unbatchC s).1 ∧ Below w'.heap.size w' w'' from fun w' => dunbatch14_any s hs w')
  have HSM := Lib.hid (takeCs_small hs)
  have HUS := Lib.hid (unbatch_small hs)
  have HPT := Lib.hid (fun h => putC_take (s := s) h)
  have HBB := Lib.hid (fun h => batch_back (s := s) h)
  have CP0 := Lib.hid (fun (x : Cm) (hx : smallC x) w' (hf : CF14 w' x) (h : Below w.heap.size w w') => pcput_any x w' hf hx.1 hx.2.1 hx.2.2 (hT.below h))
  have CB0 := Lib.hid (fun (u : Value) (l : List Cm) w' (hl : CmsL w' u l) (hx : ∀ c ∈ l, smallC c) (hn : l.length ≤ 9223372036854775807) (h : Below w.heap.size w w') => pcbatch_any u l w' hl hx hn (hT.below h))
  obtain ⟨⟨T, r, z⟩, hTT⟩ : ∃ T, takeCs s = T := ⟨_, rfl⟩
  obtain ⟨⟨U, y⟩, hUU⟩ : ∃ U, unbatchC s = U := ⟨_, rfl⟩
  rw [hTT] at C1 C2 HSM HPT
  rw [hUU] at C3 C4 HUS HBB
  simp only at C1 C2 C3 C4 HSM HUS HPT HBB
  have CP := Lib.hid (show ∀ (x : Cm), contC x = T → ∀ w', CF14 w' x → Below w.heap.size w w' → Ret 15 #[cv14 x] w' (.tuple #[.string (putC T), .int .i64 ((rightC T : Nat) : Int)]) from fun x hx w' hf h => by
    subst hx
    exact CP0.out x HSM.out w' hf h)
  have CB := Lib.hid (show ∀ (u : Value) (l : List Cm), l.map contC = U → ∀ w', CmsL w' u l → Below w.heap.size w w' → Ret 23 #[u] w' (.tuple #[.string (batchC U).1, .int .i64 (((batchC U).2 : Nat) : Int)]) from fun u l hl w' hc h => by
    subst hl
    rw [batchC_cont]
    exact CB0.out u l w' hc (small_map rfl HUS.out.2) (by have := HUS.out.1; rw [List.length_map] at this; omega) h)
  have CO := Lib.hid (show ∀ (x x' : Cm), contC x = T → contC x' = T → ∀ w', CF14 w' x → CF14 w' x' → Ret 18 #[cv14 x, cv14 x'] w' (.bool true) from fun x x' hx hx' w' hf hf' => done14_any x x' w' hf hf' (hx.trans hx'.symm) (by subst hx; exact HSM.out.2.1))
  have CS := Lib.hid (show ∀ (u u' : Value) (l l' : List Cm), l.map contC = U → l'.map contC = U → ∀ w', CmsL w' u l → CmsL w' u' l' → Ret 22 #[u, u'] w' (.bool true) from fun u u' l l' hl hl' w' hc hc' => dsame14_any w' u u' l l' hc hc' (hl.trans hl'.symm) (by have := HUS.out.1; rw [← hl, List.length_map] at this; omega) (fun c hc => (small_map hl HUS.out.2 c hc).2.1))
  have HRZ := Lib.hid (show (putC T).size + r.size ≤ 9223372036854775807 ∨ z ≠ 0 from by
    by_cases h : z = 0
    · left
      have := congrArg ByteArray.size (HPT.out h).2
      rw [ByteArray.size_append] at this
      omega
    · exact .inr h)
  clear CP0 CB0 hTT hUU hT hs HSM
  go_enter Tryd.func6, Tryd.ntmps6
  go_upto_region 7 with (first
    | (go_at_call 17; (with_reducible refine (C1.out _ (bl _)).mono ?_); rintro e w1 ⟨x1, rfl, hx1, hf1, hb1⟩; have hd1 := hb1.alloc hb1.size (ocC x1); have HX1 := Lib.hid hx1; have HF1 := Lib.hid (hf1.below ((bl w1).alloc (Nat.le_refl _) (ocC x1))); have HB1 := Lib.hid (boxC_new w1 x1); have HD1 := Lib.hid hd1; clear hx1 hf1 hb1 hd1)
    | (go_at_call 19; (with_reducible refine (C2.out _).mono ?_); rintro e w2 ⟨x2, rfl, hx2, hf2, hb2⟩; have hd2 := hb2.alloc hb2.size (ocC x2); have HX2 := Lib.hid hx2; have HF2 := Lib.hid (hf2.below ((bl w2).alloc (Nat.le_refl _) (ocC x2))); have HB2 := Lib.hid (boxC_new w2 x2); have HF12 := Lib.hid (HF1.out.below hd2); have HB12 := Lib.hid (HB1.out.below hd2); have HD2 := Lib.hid (chain HD1.out hd2); clear hx2 hf2 hb2 hd2)
    | (go_at_call 20; (with_reducible refine (C3.out _ HD2.out).mono ?_); rintro e w3 ⟨u3, l3, rfl, hc3, hl3, hb3⟩; have HF13 := Lib.hid (HF12.out.below hb3); have HB13 := Lib.hid (HB12.out.below hb3); have HF23 := Lib.hid (HF2.out.below hb3); have HB23 := Lib.hid (HB2.out.below hb3); have HC3 := Lib.hid hc3; have HL3 := Lib.hid hl3; have HD3 := Lib.hid (chain HD2.out hb3); obtain ⟨⟨A3, c3, rfl, _⟩, _⟩ := hc3; clear hl3 hb3)
    | (go_at_call 21; (with_reducible refine (C4.out _).mono ?_); rintro e w4 ⟨u4, l4, rfl, hc4, hl4, hb4⟩; have HF14 := Lib.hid (HF13.out.below hb4); have HB14 := Lib.hid (HB13.out.below hb4); have HF24 := Lib.hid (HF23.out.below hb4); have HB24 := Lib.hid (HB23.out.below hb4); have HC34 := Lib.hid (HC3.out.below hb4); have HC4 := Lib.hid hc4; have HL4 := Lib.hid hl4; have HD4 := Lib.hid (chain HD3.out hb4); obtain ⟨⟨A4, c4, rfl, _⟩, _⟩ := hc4; clear hl4 hb4))
  obtain ⟨b1, hb1⟩ : ∃ b1, w1.heap.size = b1 := ⟨_, rfl⟩
  obtain ⟨b2, hb2⟩ : ∃ b2, w2.heap.size = b2 := ⟨_, rfl⟩
  rw [hb1] at HB14
  rw [hb2] at HB24
  rw [hb1, hb2]
  clear HF1 HB1 HD1 HF2 HB2 HF12 HB12 HD2 HF13 HB13 HF23 HB23 HC3 HD3 hb1 hb2
  have CO2 := Lib.hid (CO.out x1 x2 HX1.out HX2.out w4 HF14.out HF24.out)
  have CS2 := Lib.hid (show ∀ w', Below w4.heap.size w4 w' → Ret 22 #[.slice A3 l3.length c3, .slice A4 l4.length c4] w' (.bool true) from fun w' h => CS.out _ _ l3 l4 HL3.out HL4.out w' (HC34.out.below h) (HC4.out.below h))
  have CP2 := Lib.hid (show ∀ w', Below w4.heap.size w4 w' → Ret 15 #[cv14 x1] w' (.tuple #[.string (putC T), .int .i64 ((rightC T : Nat) : Int)]) from fun w' h => CP.out x1 HX1.out w' (HF14.out.below h) (chain HD4.out h))
  have CB2 := Lib.hid (show ∀ w', Below w4.heap.size w4 w' → Ret 23 #[.slice A3 l3.length c3] w' (.tuple #[.string (batchC U).1, .int .i64 (((batchC U).2 : Nat) : Int)]) from fun w' h => CB.out _ l3 HL3.out w' (HC34.out.below h) (chain HD4.out h))
  have CAL2 := Lib.hid (show ∀ w', Below w4.heap.size w4 w' → Ret 8 #[] w' (.bool true) from fun w' h => CAL.out w' (chain HD4.out h))
  obtain ⟨k0, k1, k2, k3, k4, k5⟩ := HB14.out
  obtain ⟨g0, g1, g2, g3, g4, g5⟩ := HB24.out
  clear CO CS CP CB CAL C1 C2 C3 C4 HX1 HX2 HF14 HF24 HL3 HL4 HC34 HC4 HUS
  have hb0 : Below w4.heap.size w4 w4 := bl w4
  by_cases hz0 : z = 0
  · obtain ⟨hp1, hp2⟩ := HPT.out hz0
    rw [hp1] at CP2
    have hsz : ¬ (putC T).size + r.size > 9223372036854775807 := by
      rcases HRZ.out with h | h
      · omega
      · exact absurd hz0 h
    generalize putC T = P at *
    clear HPT HRZ hp1
    subst hz0
    by_cases hy0 : y = 0
    · have hbb := HBB.out hy0
      rw [hbb] at CB2
      clear HBB hbb
      subst hy0
      have HP2 := Lib.hid hp2
      clear hp2
      go_wp2_with (first
        | (go_at_call 18; (with_reducible refine CO2.out.mono ?_); rintro e w5 ⟨rfl, hb5⟩; obtain ⟨m0, m1, m2, m3, m4, m5⟩ := HB14.out.below hb5)
        | (go_at_call 22; (with_reducible refine (CS2.out _ hb5).mono ?_); rintro e w6 ⟨rfl, hb6⟩; have hb65 := chain hb5 hb6; obtain ⟨o0, o1, o2, o3, o4, o5⟩ := HB14.out.below hb65)
        | (go_at_call 15; (with_reducible refine (CP2.out _ hb65).mono ?_); rintro e w7 ⟨rfl, hb7⟩; have hb75 := chain hb65 hb7)
        | (go_at_call 23; (with_reducible refine (CB2.out _ hb75).mono ?_); rintro e w8 ⟨rfl, hb8⟩; have hb85 := chain hb75 hb8; have hps := HP2.out)
        | (go_at_call 8; (with_reducible refine (CAL2.out _ hb85).mono ?_); rintro e w9 ⟨rfl, hb9⟩))
      go_ret
      exact ⟨rfl, chain HD4.out (chain hb85 hb9)⟩
    · have hy0' : ¬ ((y : Nat) : Int) = 0 := by omega
      obtain ⟨⟨Q, q⟩, hQ⟩ : ∃ Q, batchC U = Q := ⟨_, rfl⟩
      rw [hQ] at CB2
      simp only at CB2
      have HP2 := Lib.hid hp2
      clear HBB hQ hp2
      go_wp2_with (first
        | (go_at_call 18; (with_reducible refine CO2.out.mono ?_); rintro e w5 ⟨rfl, hb5⟩; obtain ⟨m0, m1, m2, m3, m4, m5⟩ := HB14.out.below hb5)
        | (go_at_call 22; (with_reducible refine (CS2.out _ hb5).mono ?_); rintro e w6 ⟨rfl, hb6⟩; have hb65 := chain hb5 hb6; obtain ⟨o0, o1, o2, o3, o4, o5⟩ := HB14.out.below hb65)
        | (go_at_call 15; (with_reducible refine (CP2.out _ hb65).mono ?_); rintro e w7 ⟨rfl, hb7⟩; have hb75 := chain hb65 hb7)
        | (go_at_call 23; (with_reducible refine (CB2.out _ hb75).mono ?_); rintro e w8 ⟨rfl, hb8⟩; have hb85 := chain hb75 hb8; have hps := HP2.out)
        | (go_at_call 8; (with_reducible refine (CAL2.out _ hb85).mono ?_); rintro e w9 ⟨rfl, hb9⟩))
      go_ret
      exact ⟨rfl, chain HD4.out (chain hb85 hb9)⟩
  · have hz0' : ¬ ((z : Nat) : Int) = 0 := by omega
    generalize putC T = P at *
    generalize rightC T = zr at *
    clear HPT HRZ hz0
    by_cases hy0 : y = 0
    · have hbb := HBB.out hy0
      rw [hbb] at CB2
      clear HBB hbb
      subst hy0
      go_wp2_with (first
        | (go_at_call 18; (with_reducible refine CO2.out.mono ?_); rintro e w5 ⟨rfl, hb5⟩; obtain ⟨m0, m1, m2, m3, m4, m5⟩ := HB14.out.below hb5)
        | (go_at_call 22; (with_reducible refine (CS2.out _ hb5).mono ?_); rintro e w6 ⟨rfl, hb6⟩; have hb65 := chain hb5 hb6; obtain ⟨o0, o1, o2, o3, o4, o5⟩ := HB14.out.below hb65)
        | (go_at_call 15; (with_reducible refine (CP2.out _ hb65).mono ?_); rintro e w7 ⟨rfl, hb7⟩; have hb75 := chain hb65 hb7)
        | (go_at_call 23; (with_reducible refine (CB2.out _ hb75).mono ?_); rintro e w8 ⟨rfl, hb8⟩; have hb85 := chain hb75 hb8)
        | (go_at_call 8; (with_reducible refine (CAL2.out _ hb85).mono ?_); rintro e w9 ⟨rfl, hb9⟩))
      go_ret
      exact ⟨rfl, chain HD4.out (chain hb85 hb9)⟩
    · have hy0' : ¬ ((y : Nat) : Int) = 0 := by omega
      obtain ⟨⟨Q, q⟩, hQ⟩ : ∃ Q, batchC U = Q := ⟨_, rfl⟩
      rw [hQ] at CB2
      simp only at CB2
      clear HBB hQ
      go_wp2_with (first
        | (go_at_call 18; (with_reducible refine CO2.out.mono ?_); rintro e w5 ⟨rfl, hb5⟩; obtain ⟨m0, m1, m2, m3, m4, m5⟩ := HB14.out.below hb5)
        | (go_at_call 22; (with_reducible refine (CS2.out _ hb5).mono ?_); rintro e w6 ⟨rfl, hb6⟩; have hb65 := chain hb5 hb6; obtain ⟨o0, o1, o2, o3, o4, o5⟩ := HB14.out.below hb65)
        | (go_at_call 15; (with_reducible refine (CP2.out _ hb65).mono ?_); rintro e w7 ⟨rfl, hb7⟩; have hb75 := chain hb65 hb7)
        | (go_at_call 23; (with_reducible refine (CB2.out _ hb75).mono ?_); rintro e w8 ⟨rfl, hb8⟩; have hb85 := chain hb75 hb8)
        | (go_at_call 8; (with_reducible refine (CAL2.out _ hb85).mono ?_); rintro e w9 ⟨rfl, hb9⟩))
      go_ret
      exact ⟨rfl, chain HD4.out (chain hb85 hb9)⟩
end Go.Proofs.YtmieonfdenjedaaDoor
