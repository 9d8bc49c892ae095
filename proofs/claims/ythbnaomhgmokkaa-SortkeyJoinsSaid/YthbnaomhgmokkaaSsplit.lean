/-
  The parts that bytes are, by the document: its Split.
-/
import Derived.Test.YthbnaomhgmokkaaSsame
namespace Go.Proofs.Ythbnaomhgmokkaa
open Go.RowKit

def kindOk (l : List Nat) : Prop := ∀ c ∈ l, c = 105 ∨ c = 116
instance (l : List Nat) : Decidable (kindOk l) := by unfold kindOk; infer_instance
/-- What Split gives back. -/
def spL (s kinds : ByteArray) : List Prt × Nat := if kindOk (nats kinds) then splitP (nats kinds) (nats s) else ([], 2)
def glueS (acc : List Prt) (t : List Prt × Nat) : List Prt × Nat := if t.2 = 0 then (acc ++ t.1, 0) else ([], t.2)
theorem glueS_nil : ∀ (ks s : List Nat), glueS [] (splitP ks s) = splitP ks s := by
  intro ks s
  have key : (splitP ks s).2 = 0 ∨ (splitP ks s).1 = [] := by
    cases ks with
    | nil => unfold splitP; split <;> simp
    | cons k ks =>
      by_cases hk : k = 105
      · subst hk
        rw [splitP]
        split
        · split <;> simp
        · simp
      · rw [splitP]
        · split
          · split <;> simp
          · simp
        · exact hk
  unfold glueS
  rcases key with h | h
  · rw [if_pos h, List.nil_append, ← h]
  · by_cases h2 : (splitP ks s).2 = 0
    · rw [if_pos h2, List.nil_append, ← h2]
    · rw [if_neg h2, ← h]
theorem glueS_int {acc : List Prt} {ks s : List Nat} (h : (takI s).2.2 = 0) : glueS acc (splitP (105 :: ks) s) = glueS (acc ++ [⟨true, (takI s).1, ⟨#[]⟩⟩]) (splitP ks (takI s).2.1) := by
  unfold glueS
  rw [splitP, if_pos h]
  by_cases h2 : (splitP ks (takI s).2.1).2 = 0
  · rw [if_pos h2]; simp [h2]
  · rw [if_neg h2]; simp [h2]
theorem glueS_int_err {acc : List Prt} {ks s : List Nat} (h : (takI s).2.2 ≠ 0) : glueS acc (splitP (105 :: ks) s) = ([], (takI s).2.2) := by
  unfold glueS
  rw [splitP, if_neg h]
  simp [h]
theorem glueS_text {acc : List Prt} {ks s : List Nat} (h : (takT s).2.2 = 0) : glueS acc (splitP (116 :: ks) s) = glueS (acc ++ [⟨false, 0, bytesN (takT s).1⟩]) (splitP ks (takT s).2.1) := by
  unfold glueS
  rw [splitP, if_pos h]
  · by_cases h2 : (splitP ks (takT s).2.1).2 = 0
    · rw [if_pos h2]; simp [h2]
    · rw [if_neg h2]; simp [h2]
  · decide
theorem glueS_text_err {acc : List Prt} {ks s : List Nat} (h : (takT s).2.2 ≠ 0) : glueS acc (splitP (116 :: ks) s) = ([], (takT s).2.2) := by
  unfold glueS
  rw [splitP, if_neg h]
  · simp [h]
  · decide
theorem glueS_end {acc : List Prt} : glueS acc (splitP [] []) = (acc, 0) := by simp [glueS, splitP]
theorem glueS_big {acc : List Prt} {s : List Nat} (h : s ≠ []) : glueS acc (splitP [] s) = ([], 4) := by simp [glueS, splitP, h]
theorem nats_tiR (s : ByteArray) : nats (tiR s) = (takI (nats s)).2.1 := by
  unfold tiR
  refine nats_bytes ?_
  unfold takI
  split
  · simp
  · exact fun b hb => nats_lt s b (List.mem_of_mem_drop hb)
theorem takT_sub : ∀ s : List Nat, (∀ b ∈ (takT s).2.1, b ∈ s) ∧ (takT s).2.1.length ≤ s.length
  | [] => by simp [takT]
  | [0] => by simp [takT]
  | 0 :: 0 :: r => by
    refine ⟨fun b hb => ?_, ?_⟩
    · exact List.mem_cons_of_mem _ (List.mem_cons_of_mem _ hb)
    · simp [takT]; omega
  | 0 :: (d + 1) :: r => by
    have ih := takT_sub r
    rw [takT]
    split
    · split
      · exact ⟨fun b hb => List.mem_cons_of_mem _ (List.mem_cons_of_mem _ (ih.1 b hb)), by simp; omega⟩
      · simp
    · simp
  | (c + 1) :: r => by
    have ih := takT_sub r
    rw [takT]
    split
    · exact ⟨fun b hb => List.mem_cons_of_mem _ (ih.1 b hb), by simp; omega⟩
    · simp
theorem nats_txR (s : ByteArray) : nats (txR s) = (takT (nats s)).2.1 := nats_bytes fun b hb => nats_lt s b ((takT_sub _).1 b hb)
theorem tiR_size (s : ByteArray) : (tiR s).size ≤ s.size := by
  rw [← nats_length, nats_tiR, takI]
  split
  · simp
  · rw [List.length_drop, nats_length]; omega
theorem txR_size (s : ByteArray) : (txR s).size ≤ s.size := by
  rw [← nats_length, nats_txR, ← nats_length]
  exact (takT_sub _).2

/-- Parts, and an error, come back. -/
def SplitPost (t : List Prt × Nat) (w : World) (e : Ending) (w' : World) : Prop := ∃ v, e = .returned (.tuple #[v, .int .i64 ((t.2 : Nat) : Int)]) ∧ OP w t.1 v w'
theorem split_none {t : List Prt × Nat} {w w' : World} {x : Nat} (h : t = ([], x)) (hb : Below w.heap.size w w') : SplitPost t w (.returned (.tuple #[.slice none 0 0, .int .i64 (x : Int)])) w' := by
  subst h
  exact ⟨_, rfl, World.ownsRow_nil _ _ _ _, hb⟩
theorem split_some {t : List Prt × Nat} {w w' : World} {acc : List Prt} {v : Value} (h : t = (acc, 0)) (ho : OP w acc v w') : SplitPost t w (.returned (.tuple #[v, .int .i64 0])) w' := by
  subst h
  exact ⟨_, rfl, ho⟩

theorem OP.set {W w : World} {l : List Prt} {v : Value} (h : OP W l v w) {b o : Nat} (u : Value) (hne : v.ownBlock ≠ some b) (hb : W.heap.size ≤ b) : OP W l v (w.setCell ⟨b, o, none⟩ u) :=
  ⟨h.own.kept (row := some b) ⟨rfl, rfl, rfl, by simp [World.setCell], fun k _ hk => Below.heap_setCell _ _ _ _ (fun e => hk (by simp [e]))⟩ (Or.inr hne), h.bel.setCell (p := ⟨b, o, none⟩) hb u⟩
theorem keepf {w w1 : World} (hb : Below w.heap.size w w1) {b o : Nat} (hlt : b < w.heap.size) (h : w.frozen? ⟨b, o, none⟩ = false) : w1.frozen? ⟨b, o, none⟩ = false := (hb.frozen (p := ⟨b, o, none⟩) hlt).trans h
theorem OP.ne {W w : World} {l : List Prt} {v : Value} (h : OP W l v w) : v.ownBlock ≠ some w.heap.size := fun e => by
  have := (h.own.lt _ e).2
  omega

/-- What After gives back. -/
def aftS (p : ByteArray) : ByteArray := bytesN ((aftL (nats p)).getD [])
def aftB (p : ByteArray) : Bool := (aftL (nats p)).isSome
/-- Parts, and an error, come back, in whatever list. -/
def PartsPost (t : List Prt × Nat) (w : World) (e : Ending) (w' : World) : Prop := ∃ A c, e = .returned (.tuple #[.slice A t.1.length c, .int .i64 ((t.2 : Nat) : Int)]) ∧ Parts w' A t.1 ∧ Below w.heap.size w w'

set_option maxHeartbeats 4000000 in
set_option maxRecDepth 10000 in
theorem dsplit_any (s kinds : ByteArray) (hs : s.size ≤ 1152921504606846976) (hk : kinds.size ≤ 1048576) (w : World) :
    Calls Try.prog 21 #[.string s, .string kinds] w (SplitPost (spL s kinds) w) := by
  obtain ⟨i0, hi, hz0, hz1, hz2⟩ := info_parts Try.infoPart
  obtain ⟨n, hn⟩ : ∃ n, kinds.size = n := ⟨_, rfl⟩
  obtain ⟨t, ht⟩ : ∃ t, spL s kinds = t := ⟨_, rfl⟩
  have HN := Lib.hid hn
  have HT := Lib.hid ht
  rw [ht]
  clear ht
  go_enter Try.func21, Try.ntmps21
  go_wp2_with fail
  go_loopw [6] (fun i wr => ∃ k : Nat, k ≤ n ∧ i = .int .i64 k ∧ kindOk ((nats kinds).take k) ∧ wr = w) (fun i _ => n - (intOf i).toNat)
  case atStart => exact ⟨0, Nat.zero_le _, rfl, (by intro x hx; simp at hx), rfl⟩
  case round =>
    obtain ⟨k, hkn, rfl, hko, hwr⟩ := hrel
    obtain rfl := hwr.symm
    have HKO := Lib.hid hko
    clear hko
    by_cases hlt : k < n
    · have hlt' : (k : Int) < (n : Int) := by omega
      obtain ⟨c, hc⟩ : ∃ c, (nats kinds)[k]? = some c := ⟨_, List.getElem?_eq_getElem (by rw [nats_length]; omega)⟩
      have hix := index_run hc
      have HC := Lib.hid hc
      clear hc
      by_cases h1 : c = 105
      · subst h1
        have hix : ∀ w, (Instr.index 9 (.string kinds) (.int .i64 (k : Int))).run Try.prog w = .ok (.int .u8 105) w := hix
        have NX := Lib.hid (show kindOk ((nats kinds).take (k + 1)) from by
          rw [List.take_add_one, HC.out]
          intro x hx
          rcases List.mem_append.1 hx with h | h
          · exact HKO.out x h
          · obtain rfl := List.mem_singleton.1 h; exact .inl rfl)
        go_wp2_with fail
        exact ⟨⟨k + 1, by omega, by go_num, NX.out, trivial⟩, by simp [intOf] <;> omega⟩
      · have h1' : ¬ (c : Int) = 105 := by omega
        by_cases h2 : c = 116
        · subst h2
          have hix : ∀ w, (Instr.index 9 (.string kinds) (.int .i64 (k : Int))).run Try.prog w = .ok (.int .u8 116) w := hix
          have NX := Lib.hid (show kindOk ((nats kinds).take (k + 1)) from by
            rw [List.take_add_one, HC.out]
            intro x hx
            rcases List.mem_append.1 hx with h | h
            · exact HKO.out x h
            · obtain rfl := List.mem_singleton.1 h; exact .inr rfl)
          go_wp2_with fail
          exact ⟨⟨k + 1, by omega, by go_num, NX.out, trivial⟩, by simp [intOf] <;> omega⟩
        · have h2' : ¬ (c : Int) = 116 := by omega
          have b1 : ((c : Int) != 105) = true := by rw [bne_iff_ne]; exact h1'
          have b2 : ((c : Int) != 116) = true := by rw [bne_iff_ne]; exact h2'
          have BAD := Lib.hid (show t = ([], 2) from by
            rw [← HT.out, spL, if_neg fun h => ?_]
            have := h c (List.mem_of_getElem? HC.out)
            omega)
          go_wp2_with fail
          go_ret2
          exact split_none BAD.out (bl _)
    · obtain rfl : k = n := by omega
      have hlt' : ¬ (k : Int) < (k : Int) := by omega
      have hall : (nats kinds).take k = nats kinds := List.take_of_length_le (by rw [nats_length, hn]; exact Nat.le_refl _)
      have T0 := Lib.hid (show t = glueS [] (splitP ((nats kinds).drop 0) (nats s)) from by
        rw [← HT.out, spL, if_pos (by have := HKO.out; rw [hall] at this; exact this), List.drop_zero, glueS_nil])
      have KO := Lib.hid (show kindOk (nats kinds) from by have := HKO.out; rw [hall] at this; exact this)
      clear hall
      go_wp2_with fail
      go_loopw [0, 7, 8] (fun a v i wr => ∃ (j : Nat) (si : ByteArray) (acc : List Prt), j ≤ k ∧ i = .int .i64 j ∧ a = .string si ∧ acc.length = j ∧ OP w acc v wr ∧ si.size ≤ 1152921504606846976 ∧ t = glueS acc (splitP ((nats kinds).drop j) (nats si))) (fun _ _ i _ => k - (intOf i).toNat)
      case atStart => exact ⟨0, s, [], Nat.zero_le _, rfl, rfl, rfl, OP.nil w, hs, T0.out⟩
      case round =>
        obtain ⟨j, si, acc, hj, rfl, rfl, hacc, hO, hsi, ht⟩ := hrel
        have HO := Lib.hid hO
        have HTT := Lib.hid ht
        clear hO ht
        by_cases hjl : j < k
        · have hjl' : (j : Int) < (k : Int) := by omega
          obtain ⟨c, hc⟩ : ∃ c, (nats kinds)[j]? = some c := ⟨_, List.getElem?_eq_getElem (by rw [nats_length]; omega)⟩
          have hix := index_run hc
          have DC := Lib.hid (drop_cons hc)
          rcases KO.out c (List.mem_of_getElem? hc) with h1 | h1
          · subst h1
            have hix : ∀ w, (Instr.index 9 (.string kinds) (.int .i64 (j : Int))).run Try.prog w = .ok (.int .u8 105) w := hix
            have CI := Lib.hid (fun w => dtakeint_any si (by omega) w)
            have hB : w.heap.size ≤ wr.heap.size := HO.out.bel.size
            have hzs := tiR_size si
            clear hc
            by_cases hE : tiE si = 0
            · have NX := Lib.hid (show t = glueS (acc ++ [⟨true, tiN si, ⟨#[]⟩⟩]) (splitP ((nats kinds).drop (j + 1)) (nats (tiR si))) by
                rw [HTT.out, DC.out, glueS_int hE, nats_tiR] <;> rfl)
              have hE' := Lib.hid hE
              clear hE
              go_wp2_with (first
                | (go_at_call 17; refine (CI.out _).mono ?_; rintro e w2 ⟨rfl, hb2⟩; rw [hE'.out]; have HO2 := Lib.hid (((HO.out.below (bl wr |>.alloc (Nat.le_refl _) _)).below hb2).set (o := 1) (.int .i64 (tiN si)) (HO.out.ne) hB); have k0 := keepc hb2 (o := 0) (b := wr.heap.size) (v := .bool true) (by simp [go_sem]); have k1 := keepc hb2 (o := 1) (b := wr.heap.size) (v := .int .i64 0) (by simp [go_sem]); have k2 := keepc hb2 (o := 2) (b := wr.heap.size) (v := .string ⟨#[]⟩) (by simp [go_sem]); have f1 := keepf hb2 (o := 1) (b := wr.heap.size) (by simp) (by simp [go_sem]); have hown := HO2.out.own; have hse : (w2.setCell ⟨wr.heap.size, 1, none⟩ (.int .i64 (tiN si))).heap.size = w2.heap.size := (by simp [World.setCell]); have hsb := HO2.out.bel.size; rw [hse] at hsb; have nws := news_three (w2.setCell ⟨wr.heap.size, 1, none⟩ (.int .i64 (tiN si))) ⟨true, tiN si, ⟨#[]⟩⟩ 51; rw [hse] at nws; clear hb2)
                | (at_builtin; refine wpList_append_own _ rfl (.tmp 58) (.tmp 60) 36 rfl w.heap.size 51 i0 (.agg #[.bool false, .int .i64 0, .string ⟨#[]⟩]) 3 32 Try.underlying36 hi hz0 hz1 hz2 rfl (by decide) _ _ _ rfl (World.ownsRow.alloc hown _) ⟨w2.heap.size, 0, none⟩ 1 1 [.bool true, .int .i64 (tiN si), .string ⟨#[]⟩] rfl rfl nws (by simp [Value.oneCell']) (by unfold maxLen; omega) (by omega) (by simp [hse]; omega) ?_; intro v' w3 hown3 hgrow3 _; have NO := Lib.hid (HO2.out.app (p := ⟨true, tiN si, ⟨#[]⟩⟩) rfl hgrow3 hown3); clear hown3 hgrow3))
              exact ⟨⟨j + 1, _, _, by omega, by go_num, rfl, by rw [List.length_append, hacc]; rfl, NO.out, by omega, NX.out⟩, by simp [intOf] <;> omega⟩
            · have NX := Lib.hid (show t = ([], tiE si) by rw [HTT.out, DC.out]; exact glueS_int_err hE)
              have hE' : ¬ (tiE si : Int) = 0 := by omega
              go_wp2_with (go_at_call 17; refine (CI.out _).mono ?_; rintro e w2 ⟨rfl, hb2⟩; have HO2 := Lib.hid (((HO.out.below (bl wr |>.alloc (Nat.le_refl _) _)).below hb2).set (o := 1) (.int .i64 (tiN si)) (HO.out.ne) hB); have k0 := keepc hb2 (o := 0) (b := wr.heap.size) (v := .bool true) (by simp [go_sem]); have k1 := keepc hb2 (o := 1) (b := wr.heap.size) (v := .int .i64 0) (by simp [go_sem]); have k2 := keepc hb2 (o := 2) (b := wr.heap.size) (v := .string ⟨#[]⟩) (by simp [go_sem]); have f1 := keepf hb2 (o := 1) (b := wr.heap.size) (by simp) (by simp [go_sem]); clear hb2)
              go_ret2
              exact split_none NX.out HO2.out.bel
          · subst h1
            have hix : ∀ w, (Instr.index 9 (.string kinds) (.int .i64 (j : Int))).run Try.prog w = .ok (.int .u8 116) w := hix
            have CI := Lib.hid (fun w => dtaketext_any si (by omega) w)
            have hB : w.heap.size ≤ wr.heap.size := HO.out.bel.size
            have hzs := txR_size si
            clear hc
            by_cases hE : txE si = 0
            · have NX := Lib.hid (show t = glueS (acc ++ [⟨false, 0, txS si⟩]) (splitP ((nats kinds).drop (j + 1)) (nats (txR si))) by
                rw [HTT.out, DC.out, glueS_text hE, nats_txR] <;> rfl)
              have hE' := Lib.hid hE
              clear hE
              go_wp2_with (first
                | (go_at_call 18; refine (CI.out _).mono ?_; rintro e w2 ⟨rfl, hb2⟩; rw [hE'.out]; have HO2 := Lib.hid (((HO.out.below (bl wr |>.alloc (Nat.le_refl _) _)).below hb2).set (o := 2) (.string (txS si)) (HO.out.ne) hB); have k0 := keepc hb2 (o := 0) (b := wr.heap.size) (v := .bool false) (by simp [go_sem]); have k1 := keepc hb2 (o := 1) (b := wr.heap.size) (v := .int .i64 0) (by simp [go_sem]); have k2 := keepc hb2 (o := 2) (b := wr.heap.size) (v := .string ⟨#[]⟩) (by simp [go_sem]); have f1 := keepf hb2 (o := 2) (b := wr.heap.size) (by simp) (by simp [go_sem]); have hown := HO2.out.own; have hse : (w2.setCell ⟨wr.heap.size, 2, none⟩ (.string (txS si))).heap.size = w2.heap.size := (by simp [World.setCell]); have hsb := HO2.out.bel.size; rw [hse] at hsb; have nws := news_three (w2.setCell ⟨wr.heap.size, 2, none⟩ (.string (txS si))) ⟨false, 0, txS si⟩ 51; rw [hse] at nws; clear hb2)
                | (at_builtin; refine wpList_append_own _ rfl (.tmp 58) (.tmp 60) 36 rfl w.heap.size 51 i0 (.agg #[.bool false, .int .i64 0, .string ⟨#[]⟩]) 3 32 Try.underlying36 hi hz0 hz1 hz2 rfl (by decide) _ _ _ rfl (World.ownsRow.alloc hown _) ⟨w2.heap.size, 0, none⟩ 1 1 [.bool false, .int .i64 0, .string (txS si)] rfl rfl nws (by simp [Value.oneCell']) (by unfold maxLen; omega) (by omega) (by simp [hse]; omega) ?_; intro v' w3 hown3 hgrow3 _; have NO := Lib.hid (HO2.out.app (p := ⟨false, 0, txS si⟩) rfl hgrow3 hown3); clear hown3 hgrow3))
              exact ⟨⟨j + 1, _, _, by omega, by go_num, rfl, by rw [List.length_append, hacc]; rfl, NO.out, by omega, NX.out⟩, by simp [intOf] <;> omega⟩
            · have NX := Lib.hid (show t = ([], txE si) by rw [HTT.out, DC.out]; exact glueS_text_err hE)
              have hE' : ¬ (txE si : Int) = 0 := by omega
              go_wp2_with (go_at_call 18; refine (CI.out _).mono ?_; rintro e w2 ⟨rfl, hb2⟩; have HO2 := Lib.hid (((HO.out.below (bl wr |>.alloc (Nat.le_refl _) _)).below hb2).set (o := 2) (.string (txS si)) (HO.out.ne) hB); have k0 := keepc hb2 (o := 0) (b := wr.heap.size) (v := .bool false) (by simp [go_sem]); have k1 := keepc hb2 (o := 1) (b := wr.heap.size) (v := .int .i64 0) (by simp [go_sem]); have k2 := keepc hb2 (o := 2) (b := wr.heap.size) (v := .string ⟨#[]⟩) (by simp [go_sem]); have f1 := keepf hb2 (o := 2) (b := wr.heap.size) (by simp) (by simp [go_sem]); clear hb2)
              go_ret2
              exact split_none NX.out HO2.out.bel
        · obtain rfl : j = k := by omega
          have hjl' : ¬ (j : Int) < (j : Int) := by omega
          have hnil : (nats kinds).drop j = [] := List.drop_of_length_le (by rw [nats_length, hn]; exact Nat.le_refl _)
          have T1 := HTT.out
          rw [hnil] at T1
          by_cases he : si = ⟨#[]⟩
          · subst he
            rw [nats_nil, glueS_end] at T1
            have T2 := Lib.hid T1
            clear T1 hnil
            go_wp2_with fail
            go_ret2
            exact split_some T2.out HO.out
          · have hne : si.toList.isEmpty = false := by
              rw [ByteArray.toList_eq]
              cases h3 : si.data.toList with
              | nil => exact absurd (nats_inj (a := si) (b := ⟨#[]⟩) (by unfold nats; rw [h3]; first | done | rfl)) he
              | cons => rfl
            rw [glueS_big (fun h => he (nats_inj (b := ⟨#[]⟩) h))] at T1
            have T2 := Lib.hid T1
            clear T1 hnil he
            go_wp2_with fail
            go_ret2
            exact split_none T2.out HO.out.bel

end Go.Proofs.Ythbnaomhgmokkaa
