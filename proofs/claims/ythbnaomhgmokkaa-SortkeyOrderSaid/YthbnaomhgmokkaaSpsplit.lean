/-
  The parts that bytes are, by the program: its known, take and Split.
-/
import Derived.Test.YthbnaomhgmokkaaSpjoin
namespace Go.Proofs.Ythbnaomhgmokkaa
open Go.RowKit

set_option maxHeartbeats 4000000 in
set_option maxRecDepth 10000 in
theorem known_any (s : ByteArray) (hs : s.size ≤ 1048576) (w : World) : Same 30 #[.string s] w (.bool (decide (kindOk (nats s)))) := by
  obtain ⟨n, hn⟩ : ∃ n, s.size = n := ⟨_, rfl⟩
  have HN := Lib.hid hn
  obtain ⟨r, hr⟩ : ∃ r, decide (kindOk (nats s)) = r := ⟨_, rfl⟩
  have HR := Lib.hid hr
  rw [hr]
  clear hr
  go_enter Try.func30, Try.ntmps30
  go_wp2_with fail
  go_loopw [6] (fun i wr => ∃ k : Nat, k ≤ n ∧ i = .int .i64 k ∧ kindOk ((nats s).take k) ∧ wr = w) (fun i _ => n - (intOf i).toNat)
  case atStart => exact ⟨0, Nat.zero_le _, rfl, (by intro x hx; simp at hx), rfl⟩
  case round =>
    obtain ⟨k, hkn, rfl, hko, hwr⟩ := hrel
    obtain rfl := hwr.symm
    have HKO := Lib.hid hko
    clear hko
    by_cases hlt : k < n
    · have hlt' : (k : Int) < (n : Int) := by omega
      obtain ⟨c, hc⟩ : ∃ c, (nats s)[k]? = some c := ⟨_, List.getElem?_eq_getElem (by rw [nats_length]; omega)⟩
      have hix := index_run hc
      have HC := Lib.hid hc
      clear hc
      by_cases h1 : c = 105
      · subst h1
        have hix : ∀ w, (Instr.index 9 (.string s) (.int .i64 (k : Int))).run Try.prog w = .ok (.int .u8 105) w := hix
        have NX := Lib.hid (show kindOk ((nats s).take (k + 1)) from by
          rw [List.take_add_one, HC.out]
          intro x hx
          rcases List.mem_append.1 hx with h | h
          · exact HKO.out x h
          · obtain rfl := List.mem_singleton.1 h; exact .inl rfl)
        go_wp2_with fail
        exact ⟨⟨k + 1, by omega, by go_num, NX.out, trivial⟩, by simp [intOf] <;> omega⟩
      · have h1' : ¬ (c : Int) = 105 := by omega
        by_cases h2 : c = 116
        · subst h2
          have hix : ∀ w, (Instr.index 9 (.string s) (.int .i64 (k : Int))).run Try.prog w = .ok (.int .u8 116) w := hix
          have NX := Lib.hid (show kindOk ((nats s).take (k + 1)) from by
            rw [List.take_add_one, HC.out]
            intro x hx
            rcases List.mem_append.1 hx with h | h
            · exact HKO.out x h
            · obtain rfl := List.mem_singleton.1 h; exact .inr rfl)
          go_wp2_with fail
          exact ⟨⟨k + 1, by omega, by go_num, NX.out, trivial⟩, by simp [intOf] <;> omega⟩
        · have h2' : ¬ (c : Int) = 116 := by omega
          have b1 : ((c : Int) != 105) = true := by rw [bne_iff_ne]; exact h1'
          have b2 : ((c : Int) != 116) = true := by rw [bne_iff_ne]; exact h2'
          have BAD := Lib.hid (show r = false from by
            rw [← HR.out, decide_eq_false_iff_not]
            intro h
            have := h c (List.mem_of_getElem? HC.out)
            omega)
          go_wp2_with fail
          go_ret
          exact ⟨by rw [BAD.out]; rfl, rfl⟩
    · obtain rfl : k = n := by omega
      have hlt' : ¬ (k : Int) < (k : Int) := by omega
      have hall : (nats s).take k = nats s := List.take_of_length_le (by rw [nats_length, hn]; exact Nat.le_refl _)
      have GOOD := Lib.hid (show r = true from by
        rw [← HR.out, decide_eq_true_eq, ← hall]; exact HKO.out)
      clear hall
      go_wp2_with fail
      go_ret
      exact ⟨by rw [GOOD.out]; rfl, rfl⟩

/-- Three cells of one block, stored one behind the other. -/
theorem three_set {w : World} {b : Nat} {u0 u1 u2 : Value} (x y z : Value) (h0 : w.cell? ⟨b, 0, none⟩ = some u0) (h1 : w.cell? ⟨b, 1, none⟩ = some u1) (h2 : w.cell? ⟨b, 2, none⟩ = some u2) :
    (((w.setCell ⟨b, 0, none⟩ x).setCell ⟨b, 1, none⟩ y).setCell ⟨b, 2, none⟩ z).cell? ⟨b, 0, none⟩ = some x ∧ (((w.setCell ⟨b, 0, none⟩ x).setCell ⟨b, 1, none⟩ y).setCell ⟨b, 2, none⟩ z).cell? ⟨b, 1, none⟩ = some y ∧ (((w.setCell ⟨b, 0, none⟩ x).setCell ⟨b, 1, none⟩ y).setCell ⟨b, 2, none⟩ z).cell? ⟨b, 2, none⟩ = some z := by
  have a1 := (World.cell?_setCell_other w ⟨b, 0, none⟩ ⟨b, 1, none⟩ x (by simp)).trans h1
  have a2 := (World.cell?_setCell_other w ⟨b, 0, none⟩ ⟨b, 2, none⟩ x (by simp)).trans h2
  have a3 := (World.cell?_setCell_other (w.setCell ⟨b, 0, none⟩ x) ⟨b, 1, none⟩ ⟨b, 2, none⟩ y (by simp)).trans a2
  refine ⟨?_, ?_, World.cell?_setCell_same _ _ _ a3⟩
  · exact (World.cell?_setCell_other _ _ _ _ (by simp)).trans ((World.cell?_setCell_other _ _ _ _ (by simp)).trans (World.cell?_setCell_same _ _ _ h0))
  · exact (World.cell?_setCell_other _ _ _ _ (by simp)).trans (World.cell?_setCell_same _ _ _ a1)

/-- A part is laid of the call's own, and cells of it are read behind a call. -/
theorem keep3 {w w2 : World} {T : TypeId} {u0 u1 u2 : Value} (hb2 : Below (w.alloc (.cells #[u0, u1, u2] T)).heap.size (w.alloc (.cells #[u0, u1, u2] T)) w2) :
    (w2.cell? ⟨w.heap.size, 0, none⟩ = some u0 ∧ w2.cell? ⟨w.heap.size, 1, none⟩ = some u1 ∧ w2.cell? ⟨w.heap.size, 2, none⟩ = some u2) ∧ (w2.frozen? ⟨w.heap.size, 0, none⟩ = false ∧ w2.frozen? ⟨w.heap.size, 1, none⟩ = false ∧ w2.frozen? ⟨w.heap.size, 2, none⟩ = false) ∧ Below w.heap.size w w2 :=
  ⟨⟨keepc hb2 (by simp [go_sem]), keepc hb2 (by simp [go_sem]), keepc hb2 (by simp [go_sem])⟩, ⟨keepf hb2 (by simp) (by simp [go_sem]), keepf hb2 (by simp) (by simp [go_sem]), keepf hb2 (by simp) (by simp [go_sem])⟩, ((bl w).alloc (Nat.le_refl _) _).trans (hb2.mono (by simp))⟩

set_option maxHeartbeats 4000000 in
set_option maxRecDepth 10000 in
theorem take_int (s : ByteArray) (hs : s.size ≤ 120000000000000) (w : World) : Calls Try.prog 31 #[.string s, .int .u8 105] w fun e w' => e = .returned (.tuple #[.agg #[.bool true, .int .i64 (tiN s), .string ⟨#[]⟩], .string (tiR s), .int .i64 (tiE s : Int)]) ∧ Below w.heap.size w w' := by
  have CI := Lib.hid (fun w => takeint_any s (by omega) w)
  go_enter Try.func31, Try.ntmps31
  go_wp2_with (go_at_call 10; with_reducible refine (CI.out _).mono ?_; rintro e w2 ⟨rfl, hb2⟩; obtain ⟨⟨k0, k1, k2⟩, ⟨f0, f1, f2⟩, hb3⟩ := keep3 hb2; clear hb2)
  obtain ⟨q0, q1, q2⟩ := three_set (.bool true) (.int .i64 (tiN s)) (.string ⟨#[]⟩) k0 k1 k2
  refine bodyPost_ret (v := .tuple #[.agg #[.bool true, .int .i64 (tiN s), .string ⟨#[]⟩], .string (tiR s), .int .i64 (tiE s : Int)]) (by simp [results, Try.results31, go_sem, q0, q1, q2]) rfl ⟨rfl, ?_⟩
  exact ((hb3.setCell (Nat.le_refl _) _).setCell (Nat.le_refl _) _).setCell (Nat.le_refl _) _

set_option maxHeartbeats 4000000 in
set_option maxRecDepth 10000 in
theorem take_text (s : ByteArray) (hs : s.size ≤ 120000000000000) (w : World) : Calls Try.prog 31 #[.string s, .int .u8 116] w fun e w' => e = .returned (.tuple #[.agg #[.bool false, .int .i64 0, .string (txS s)], .string (txR s), .int .i64 (txE s : Int)]) ∧ Below w.heap.size w w' := by
  have CI := Lib.hid (fun w => taketext_any s (by omega) w)
  go_enter Try.func31, Try.ntmps31
  go_wp2_with (go_at_call 14; with_reducible refine (CI.out _).mono ?_; rintro e w2 ⟨rfl, hb2⟩; obtain ⟨⟨k0, k1, k2⟩, ⟨f0, f1, f2⟩, hb3⟩ := keep3 hb2; clear hb2)
  obtain ⟨q0, q1, q2⟩ := three_set (.bool false) (.int .i64 0) (.string (txS s)) k0 k1 k2
  refine bodyPost_ret (v := .tuple #[.agg #[.bool false, .int .i64 0, .string (txS s)], .string (txR s), .int .i64 (txE s : Int)]) (by simp [results, Try.results31, go_sem, q0, q1, q2]) rfl ⟨rfl, ?_⟩
  exact ((hb3.setCell (Nat.le_refl _) _).setCell (Nat.le_refl _) _).setCell (Nat.le_refl _) _

theorem Try.infoPartP : (Try.prog.info? 50).map (fun i => (i.zero, i.size, i.bytes)) = some (some (.agg #[.bool false, .int .i64 0, .string ⟨#[]⟩]), 3, 32) := by kernel_rfl
abbrev ownQ (w : World) (base : Nat) (v : Value) (l : List Prt) : Prop := w.ownsRow base 50 3 v l.length (flatP l)
/-- v is a list of the call's own, with the parts l, of the program's type. -/
structure OQ (W : World) (l : List Prt) (v : Value) (wr : World) : Prop where
  own : ownQ wr W.heap.size v l
  bel : Below W.heap.size W wr
theorem OQ.nil (W : World) : OQ W [] (.slice none 0 0) W := ⟨World.ownsRow_nil _ _ _ _, bl W⟩
theorem OQ.below {W w w' : World} {l : List Prt} {v : Value} (h : OQ W l v w) (hb : Below w.heap.size w w') : OQ W l v w' := ⟨own_below h.own hb, chain h.bel hb⟩
theorem OQ.app {W wr w2 : World} {l : List Prt} {v v' : Value} {p : Prt} {ty : TypeId} {o : Option Nat} (h : OQ W l v wr) (ho : o = v.ownBlock) (hg : (wr.alloc (.cells #[.bool p.i, .int .i64 p.n, .string p.s] ty)).grownBy w2 o)
    (hown : w2.ownsRow W.heap.size 50 3 v' (l.length + 1) (flatP l ++ [.bool p.i, .int .i64 p.n, .string p.s])) : OQ W (l ++ [p]) v' w2 := by
  subst ho
  refine ⟨by simpa [ownQ, flatP_append, flatP] using hown, (h.bel.alloc h.bel.size _).grown hg (by have := h.bel.size; simp; omega) fun r hr => (h.own.lt r hr).1⟩
theorem OQ.parts {W w : World} {l : List Prt} {v : Value} (h : OQ W l v w) : ∃ A c, v = .slice A l.length c ∧ Parts w A l := by
  rcases h.own.2 with ⟨hv, h0⟩ | ⟨g, cap, cur, hv, _⟩
  · obtain rfl : l = [] := List.eq_nil_of_length_eq_zero h0
    exact ⟨_, _, hv, Parts.nil _ _⟩
  · refine ⟨_, _, hv, fun i p hp => ?_⟩
    have add : ∀ n, (⟨g, 0, none⟩ : Addr).add n = ⟨g, 0 + n, none⟩ := fun n => by unfold Addr.add; split <;> simp_all
    obtain ⟨f0, f1, f2⟩ := flatP_get l i p hp
    have c0 := h.own.cells (g := g) (by rw [hv]; rfl) _ _ f0
    have c1 := h.own.cells (g := g) (by rw [hv]; rfl) _ _ f1
    have c2 := h.own.cells (g := g) (by rw [hv]; rfl) _ _ f2
    rw [add] at c0 c1 c2
    exact ⟨g, 0, rfl, c0, by rw [Nat.add_assoc]; exact c1, by rw [Nat.add_assoc]; exact c2⟩
theorem parts_none {t : List Prt × Nat} {w w' : World} {x : Nat} (h : t = ([], x)) (hb : Below w.heap.size w w') : PartsPost t w (.returned (.tuple #[.slice none 0 0, .int .i64 (x : Int)])) w' := by
  subst h
  exact ⟨_, _, rfl, Parts.nil _ _, hb⟩
theorem parts_some {t : List Prt × Nat} {w w' : World} {acc : List Prt} {v : Value} (h : t = (acc, 0)) (ho : OQ w acc v w') : PartsPost t w (.returned (.tuple #[v, .int .i64 0])) w' := by
  subst h
  obtain ⟨A, c, rfl, hp⟩ := ho.parts
  exact ⟨_, _, rfl, hp, ho.bel⟩

set_option maxHeartbeats 4000000 in
set_option maxRecDepth 10000 in
theorem split_any (s kinds : ByteArray) (hs : s.size ≤ 120000000000000) (hk : kinds.size ≤ 1048576) (w : World) :
    Calls Try.prog 20 #[.string s, .string kinds] w (PartsPost (spL s kinds) w) := by
  obtain ⟨i0, hi, hz0, hz1, hz2⟩ := info_parts Try.infoPartP
  obtain ⟨n, hn⟩ : ∃ n, kinds.size = n := ⟨_, rfl⟩
  obtain ⟨t, ht⟩ : ∃ t, spL s kinds = t := ⟨_, rfl⟩
  have HN := Lib.hid hn
  have HT := Lib.hid ht
  rw [ht]
  clear ht
  by_cases hko : kindOk (nats kinds)
  · have KN := Lib.hid (fun w => known_any kinds hk w)
    rw [decide_eq_true hko] at KN
    have T0 := Lib.hid (show t = glueS [] (splitP ((nats kinds).drop 0) (nats s)) from by
      rw [← HT.out, spL, if_pos hko, List.drop_zero, glueS_nil])
    have KO := Lib.hid hko
    clear hko
    go_enter Try.func20, Try.ntmps20
    go_wp2_with (go_at_call 30; with_reducible refine (KN.out _).mono ?_; rintro e w1 ⟨rfl, rfl⟩)
    go_loopw [0, 6, 16] (fun a v i wr => ∃ (j : Nat) (si : ByteArray) (acc : List Prt), j ≤ n ∧ i = .int .i64 j ∧ a = .string si ∧ acc.length = j ∧ OQ w1 acc v wr ∧ si.size ≤ 120000000000000 ∧ t = glueS acc (splitP ((nats kinds).drop j) (nats si))) (fun _ _ i _ => n - (intOf i).toNat)
    case atStart => exact ⟨0, s, [], Nat.zero_le _, rfl, rfl, rfl, OQ.nil w1, hs, T0.out⟩
    case round =>
      obtain ⟨j, si, acc, hj, rfl, rfl, hacc, hO, hsi, ht⟩ := hrel
      have HO := Lib.hid hO
      have HTT := Lib.hid ht
      clear hO ht
      by_cases hjl : j < n
      · have hjl' : (j : Int) < (n : Int) := by omega
        obtain ⟨c, hc⟩ : ∃ c, (nats kinds)[j]? = some c := ⟨_, List.getElem?_eq_getElem (by rw [nats_length]; omega)⟩
        have hix := index_run hc
        have DC := Lib.hid (drop_cons hc)
        rcases KO.out c (List.mem_of_getElem? hc) with h1 | h1
        · subst h1
          have hix : ∀ w, (Instr.index 9 (.string kinds) (.int .i64 (j : Int))).run Try.prog w = .ok (.int .u8 105) w := hix
          have CI := Lib.hid (fun w => take_int si hsi w)
          have hB : w1.heap.size ≤ wr.heap.size := HO.out.bel.size
          have hzs := tiR_size si
          clear hc
          by_cases hE : tiE si = 0
          · have NX := Lib.hid (show t = glueS (acc ++ [⟨true, tiN si, ⟨#[]⟩⟩]) (splitP ((nats kinds).drop (j + 1)) (nats (tiR si))) by
              rw [HTT.out, DC.out, glueS_int hE, nats_tiR] <;> rfl)
            have hE' := Lib.hid hE
            clear hE
            go_wp2_with (first
              | (go_at_call 31; with_reducible refine (CI.out _).mono ?_; rintro e w2 ⟨rfl, hb2⟩; rw [hE'.out]; have HO2 := Lib.hid ((HO.out.below hb2).below ((bl w2).alloc (Nat.le_refl _) (.cells #[.bool true, .int .i64 (tiN si), .string ⟨#[]⟩] 50))); have hown := HO2.out.own; have hse : (w2.alloc (.cells #[.bool true, .int .i64 (tiN si), .string ⟨#[]⟩] 50)).heap.size = w2.heap.size + 1 := (by simp); have hsb := HO2.out.bel.size; rw [hse] at hsb; have nws := news_three (w2.alloc (.cells #[.bool true, .int .i64 (tiN si), .string ⟨#[]⟩] 50)) ⟨true, tiN si, ⟨#[]⟩⟩ 50; rw [hse] at nws; clear hb2)
              | (at_builtin; refine wpList_append_own _ rfl (.tmp 31) (.tmp 33) 34 rfl w1.heap.size 50 i0 (.agg #[.bool false, .int .i64 0, .string ⟨#[]⟩]) 3 32 Try.underlying34 hi hz0 hz1 hz2 rfl (by decide) _ _ _ rfl (World.ownsRow.alloc hown _) ⟨w2.heap.size + 1, 0, none⟩ 1 1 [.bool true, .int .i64 (tiN si), .string ⟨#[]⟩] rfl rfl nws (by simp [Value.oneCell']) (by unfold maxLen; omega) (by omega) (by simp [hse]; omega) ?_; intro v' w3 hown3 hgrow3 _; have NO := Lib.hid (HO2.out.app (p := ⟨true, tiN si, ⟨#[]⟩⟩) rfl hgrow3 hown3); clear hown3 hgrow3))
            exact ⟨⟨j + 1, _, _, by omega, by go_num, rfl, by rw [List.length_append, hacc]; rfl, NO.out, by omega, NX.out⟩, by simp [intOf] <;> omega⟩
          · have NX := Lib.hid (show t = ([], tiE si) by rw [HTT.out, DC.out]; exact glueS_int_err hE)
            have hE' : ¬ (tiE si : Int) = 0 := by omega
            go_wp2_with (go_at_call 31; with_reducible refine (CI.out _).mono ?_; rintro e w2 ⟨rfl, hb2⟩; have HB2 := Lib.hid ((chain HO.out.bel hb2).alloc (HO.out.below hb2).bel.size (.cells #[.bool true, .int .i64 (tiN si), .string ⟨#[]⟩] 50)); clear hb2)
            go_ret2
            exact parts_none NX.out HB2.out
        · subst h1
          have hix : ∀ w, (Instr.index 9 (.string kinds) (.int .i64 (j : Int))).run Try.prog w = .ok (.int .u8 116) w := hix
          have CI := Lib.hid (fun w => take_text si hsi w)
          have hB : w1.heap.size ≤ wr.heap.size := HO.out.bel.size
          have hzs := txR_size si
          clear hc
          by_cases hE : txE si = 0
          · have NX := Lib.hid (show t = glueS (acc ++ [⟨false, 0, txS si⟩]) (splitP ((nats kinds).drop (j + 1)) (nats (txR si))) by
              rw [HTT.out, DC.out, glueS_text hE, nats_txR] <;> rfl)
            have hE' := Lib.hid hE
            clear hE
            go_wp2_with (first
              | (go_at_call 31; with_reducible refine (CI.out _).mono ?_; rintro e w2 ⟨rfl, hb2⟩; rw [hE'.out]; have HO2 := Lib.hid ((HO.out.below hb2).below ((bl w2).alloc (Nat.le_refl _) (.cells #[.bool false, .int .i64 0, .string (txS si)] 50))); have hown := HO2.out.own; have hse : (w2.alloc (.cells #[.bool false, .int .i64 0, .string (txS si)] 50)).heap.size = w2.heap.size + 1 := (by simp); have hsb := HO2.out.bel.size; rw [hse] at hsb; have nws := news_three (w2.alloc (.cells #[.bool false, .int .i64 0, .string (txS si)] 50)) ⟨false, 0, txS si⟩ 50; rw [hse] at nws; clear hb2)
              | (at_builtin; refine wpList_append_own _ rfl (.tmp 31) (.tmp 33) 34 rfl w1.heap.size 50 i0 (.agg #[.bool false, .int .i64 0, .string ⟨#[]⟩]) 3 32 Try.underlying34 hi hz0 hz1 hz2 rfl (by decide) _ _ _ rfl (World.ownsRow.alloc hown _) ⟨w2.heap.size + 1, 0, none⟩ 1 1 [.bool false, .int .i64 0, .string (txS si)] rfl rfl nws (by simp [Value.oneCell']) (by unfold maxLen; omega) (by omega) (by simp [hse]; omega) ?_; intro v' w3 hown3 hgrow3 _; have NO := Lib.hid (HO2.out.app (p := ⟨false, 0, txS si⟩) rfl hgrow3 hown3); clear hown3 hgrow3))
            exact ⟨⟨j + 1, _, _, by omega, by go_num, rfl, by rw [List.length_append, hacc]; rfl, NO.out, by omega, NX.out⟩, by simp [intOf] <;> omega⟩
          · have NX := Lib.hid (show t = ([], txE si) by rw [HTT.out, DC.out]; exact glueS_text_err hE)
            have hE' : ¬ (txE si : Int) = 0 := by omega
            go_wp2_with (go_at_call 31; with_reducible refine (CI.out _).mono ?_; rintro e w2 ⟨rfl, hb2⟩; have HB2 := Lib.hid ((chain HO.out.bel hb2).alloc (HO.out.below hb2).bel.size (.cells #[.bool false, .int .i64 0, .string (txS si)] 50)); clear hb2)
            go_ret2
            exact parts_none NX.out HB2.out
      · obtain rfl : j = n := by omega
        have hjl' : ¬ (j : Int) < (j : Int) := by omega
        have hnil : (nats kinds).drop j = [] := List.drop_of_length_le (by rw [nats_length, hn]; exact Nat.le_refl _)
        have T1 := HTT.out
        rw [hnil] at T1
        by_cases he : si = ⟨#[]⟩
        · subst he
          rw [nats_nil, glueS_end] at T1
          have T2 := Lib.hid T1
          clear T1 hnil
          go_wp2_with fail
          go_ret2
          exact parts_some T2.out HO.out
        · have hne : si.toList.isEmpty = false := by
            rw [ByteArray.toList_eq]
            cases h3 : si.data.toList with
            | nil => exact absurd (nats_inj (a := si) (b := ⟨#[]⟩) (by unfold nats; rw [h3]; first | done | rfl)) he
            | cons => rfl
          rw [glueS_big (fun h => he (nats_inj (b := ⟨#[]⟩) h))] at T1
          have T2 := Lib.hid T1
          clear T1 hnil he
          go_wp2_with fail
          go_ret2
          exact parts_none T2.out HO.out.bel
  · have KN := Lib.hid (fun w => known_any kinds hk w)
    rw [decide_eq_false hko] at KN
    have BAD := Lib.hid (show t = ([], 2) from by rw [← HT.out, spL, if_neg hko])
    clear hko
    go_enter Try.func20, Try.ntmps20
    go_wp2_with (go_at_call 30; with_reducible refine (KN.out _).mono ?_; rintro e w1 ⟨rfl, rfl⟩)
    go_ret2
    exact parts_none BAD.out (bl _)

end Go.Proofs.Ythbnaomhgmokkaa
