/-
  Make: the cover that has just the times that the list has.
-/
import Derived.Test.YtmfkcbanjlmmhaaCrising
import Derived.StillTailTactics
namespace Go.Proofs.Ytmfkcbanjlmmhaa
open Go.RowKit Go.Sort Go.Shelf

theorem own_block {w : World} {base e size n g cap : Nat} {xs : List Value} (h : w.ownsRow base e size (.slice (some ⟨g, 0, none⟩) n cap) n xs) : ∃ cur, w.heap[g]? = some (.cells cur e (0, 0)) ∧ n ≤ cap ∧ cap ≤ maxLen ∧ cur.size = cap * size ∧ cur.toList.take (n * size) = xs ∧ base ≤ g := by
  rcases h.2 with ⟨hv, _⟩ | ⟨g', cap', cur, hv, h1, h2, h3⟩
  · cases hv
  · injection hv with e1 e2 e3
    injection e1 with e1
    injection e1 with e1
    subst e1 e3
    exact ⟨cur, h2, h3.1, h3.2.1, h3.2.2.1, h3.2.2.2, h1⟩
theorem own_frozen {w : World} {base e size n g cap : Nat} {xs : List Value} (h : w.ownsRow base e size (.slice (some ⟨g, 0, none⟩) n cap) n xs) (o : Nat) : w.frozen? ⟨g, o, none⟩ = false := by
  obtain ⟨cur, hb, _⟩ := own_block h
  simp [World.frozen?, hb]
/-- One cell of a row of the call's own is stored. -/
theorem own_set {w : World} {base e size n g cap : Nat} {xs : List Value} (h : w.ownsRow base e size (.slice (some ⟨g, 0, none⟩) n cap) n xs) (j : Nat) (u : Value) : (w.setCell ⟨g, j, none⟩ u).ownsRow base e size (.slice (some ⟨g, 0, none⟩) n cap) n (xs.set j u) := by
  obtain ⟨cur, hb, h1, h2, h3, h4, h5⟩ := own_block h
  refine ⟨by rw [List.length_set]; exact h.1, .inr ⟨g, cap, cur.setIfInBounds j u, rfl, h5, ?_, h1, h2, by simpa using h3, ?_⟩⟩
  · simp [World.setCell, Array.getElem?_modify, hb]
  · rw [← h4, Array.toList_setIfInBounds, List.take_set]
theorem flat_length (l : List Sp) : (flat l).length = l.length * 2 := by
  induction l with
  | nil => rfl
  | cons p l ih =>
    have e : flat (p :: l) = .int .i64 p.1 :: .int .i64 p.2 :: flat l := by simp [flat]
    rw [e]
    simp only [List.length_cons, ih]
    omega
theorem flat_set (m : List Sp) (a b y : Int) : (flat (m ++ [(a, b)])).set (m.length * 2 + 1) (.int .i64 y) = flat (m ++ [(a, y)]) := by
  rw [flat_snoc, flat_snoc, List.set_append_right _ _ (by rw [flat_length]; omega), flat_length]
  rw [show m.length * 2 + 1 - m.length * 2 = 1 from by omega]
  rfl
theorem SpRel.set {W wr : World} {m : List Sp} {a b y : Int} {g c : Nat} (h : SpRel W (m ++ [(a, b)]) (.slice (some ⟨g, 0, none⟩) (m ++ [(a, b)]).length c) wr) : SpRel W (m ++ [(a, y)]) (.slice (some ⟨g, 0, none⟩) (m ++ [(a, b)]).length c) (wr.setCell ⟨g, m.length * 2 + 1, none⟩ (.int .i64 y)) := by
  have h1 := own_set h.1 (m.length * 2 + 1) (.int .i64 y)
  rw [flat_set] at h1
  obtain ⟨cur, _, _, _, _, _, h5⟩ := own_block h.1
  exact ⟨by simpa using h1, h.2.setCell (p := ⟨g, _, none⟩) h5 _⟩

/-- A cover comes back, in a list of its own. -/
def CovPost (S : Int → Prop) (K : Nat) (w : World) (e : Ending) (w' : World) : Prop :=
  ∃ A c m, e = .returned (.slice A m.length c) ∧ Spans w' A m ∧ CovOf m S ∧ m.length ≤ K ∧ Below w.heap.size w w'
theorem take_snoc {s : List Sp} {k : Nat} {p : Sp} (h : s[k]? = some p) : s.take (k + 1) = s.take k ++ [p] := by rw [List.take_add_one, h]; rfl
theorem take_le {s : List Sp} (hs : ∀ (i j : Nat) (p q : Sp), i < j → s[i]? = some p → s[j]? = some q → p.1 ≤ q.1) {k : Nat} {a : Sp} (h : s[k]? = some a) : ∀ p ∈ s.take k, p.1 ≤ a.1 := fun p hp => by
  obtain ⟨i, hi⟩ := List.getElem?_of_mem hp
  rw [List.getElem?_take] at hi
  split at hi
  · exact hs i k p a (by omega) hi h
  · cases hi
/-- A cover comes back, and the call owns its list. -/
def MakePost (S : Int → Prop) (K : Nat) (w : World) (e : Ending) (w' : World) : Prop :=
  ∃ v m, e = .returned v ∧ SpRel w m v w' ∧ CovOf m S ∧ m.length ≤ K
theorem own_lower {w : World} {b b' e size n : Nat} {v : Value} {xs : List Value} (hb : b ≤ b') (h : w.ownsRow b' e size v n xs) : w.ownsRow b e size v n xs := by
  refine ⟨h.1, ?_⟩
  rcases h.2 with h2 | ⟨g, cap, cur, hv, hg, r⟩
  · exact .inl h2
  · exact .inr ⟨g, cap, cur, hv, by omega, r⟩
/-- What holds at the head of each round of Make. -/
def MkRel (W : World) (s m : List Sp) (k : Nat) (v : Value) (wr : World) : Prop := Made m (s.take k) ∧ SpRel W m v wr

set_option maxHeartbeats 4000000 in
theorem make_own (w : World) (A : Option Addr) (c : Nat) (l : List Sp) (hl : Spans w A l) (hn : l.length ≤ 1000000) :
    Calls Try.prog 10 #[.slice A l.length c] w (MakePost (Mem l) l.length w) := by
  obtain ⟨i0, hi, hz0, hz1, hz2⟩ := info_parts Try.infoSpan
  go_enter Try.func10, Try.ntmps10
  go_wp2_with (go_at_call 28; refine (rising_any _ _ _ _ hl hn).mono ?_; rintro e w1 ⟨A1, c1, s, rfl, hsp, hpm, hso, hb1⟩)
  have hsn : s.length ≤ l.length := by rw [hpm.length_eq]; exact List.length_filter_le _ _
  obtain ⟨n, hnm⟩ : ∃ n, n = s.length := ⟨_, rfl⟩
  rw [← hnm]
  have hn' : n ≤ 1000000 := by omega
  have HN := Lib.hid hnm
  have HSP := Lib.hid hsp
  have HPM := Lib.hid hpm
  have HSO := Lib.hid hso
  have HB1 := Lib.hid hb1
  have HSN := Lib.hid hsn
  clear hnm hsp hpm hso hb1 hsn hn hl
  go_wp2_with fail
  go_loopw [3, 10] (fun v i wr => ∃ k : Nat, k ≤ n ∧ i = .int .i64 k ∧ ∃ m, MkRel w1 s m k v wr) (fun _ i _ => n - (intOf i).toNat)
  case atStart => exact ⟨0, Nat.zero_le _, rfl, [], by simpa using Made.nil, SpRel.nil w1⟩
  case round =>
    obtain ⟨k, hk, rfl, m, hM, hR⟩ := hrel
    have HM := Lib.hid hM
    have HR := Lib.hid hR
    have hsz := hR.2.size
    have hle : m.length ≤ k := by have h1 := hM.len; have h2 := List.length_take_le k s; omega
    clear hM hR
    by_cases hlt : k < n
    · obtain ⟨⟨f, t⟩, hp⟩ : ∃ p, s[k]? = some p := ⟨_, List.getElem?_eq_getElem (by have := HN.out; omega)⟩
      obtain ⟨g, off, rfl, c0, c1⟩ := HSP.out.at hp
      have d0 := keepc HR.out.2 c0
      have d1 := keepc HR.out.2 c1
      have hr : rightB f t = true := by
        have := HPM.out.mem_iff.1 (List.mem_of_getElem? hp)
        simpa using (List.mem_filter.1 this).2
      have HP := Lib.hid hp
      have TL := Lib.hid (take_le HSO.out hp)
      clear c0 c1 hp
      have HY := Lib.hid (show Below wr.heap.size wr (wr.alloc (.cells #[.int .i64 f, .int .i64 t] 36)) from (bl _).alloc (Nat.le_refl _) _)
      rcases List.eq_nil_or_concat m with rfl | ⟨m', ⟨q1, q2⟩, hmq⟩
      · obtain ⟨A3, c3, rfl, _⟩ := own_spans HR.out.1
        have HS := Lib.hid (HR.out.step HY.out)
        have hown1 := HS.out.1
        simp only [List.length_nil] at hown1 ⊢
        go_wp2_with fail
        go_quiet (fail)
        have HQ := Lib.hid (SpRel.step HS.out (belowN (bl _) nq))
        have a0 : ((wr.alloc (.cells #[.int .i64 f, .int .i64 t] 36)).drewN nq).cell? ⟨wr.heap.size, 0, none⟩ = some (.int .i64 f) := by simp [go_sem]
        have a1 : ((wr.alloc (.cells #[.int .i64 f, .int .i64 t] 36)).drewN nq).cell? ⟨wr.heap.size, 1, none⟩ = some (.int .i64 t) := by simp [go_sem]
        obtain ⟨w2, hw2⟩ : ∃ W, (wr.alloc (.cells #[.int .i64 f, .int .i64 t] 36)).drewN nq = W := ⟨_, rfl⟩
        rw [hw2] at a0 a1 HQ ⊢
        clear hw2
        have hown2 := HQ.out.1
        have hsz2 := HQ.out.2.size
        simp only [List.length_nil] at hown2
        go_wp2_with (at_builtin; refine wpList_append_lies _ rfl (.tmp 41) (.tmp 43) 22 rfl w1.heap.size 36 i0 (.agg #[.int .i64 0, .int .i64 0]) 2 16 Try.underlying22 hi hz0 hz1 hz2 rfl (by decide) _ 0 (flat []) rfl (World.ownsRow.alloc hown2 _) ⟨w2.heap.size, 0, none⟩ 1 1 [.int .i64 f, .int .i64 t] rfl rfl (news_two w2 f t _) (by simp [Value.oneCell']) (by decide) (by unfold maxLen; omega) (by omega) (by simp; omega) _ rfl ?_; intro g3 cap3 w3 hown3 hg3 hat3 hlt3; have NX := Lib.hid (SpRel.app (l := []) HQ.out hg3 hown3))
        go_roundw
        case rel => exact ⟨k + 1, by omega, by go_num, [] ++ [(f, t)], by rw [take_snoc HP.out]; exact HM.out.adds hr (by simp), NX.out⟩
        case measure => simp [intOf]; omega
      · obtain rfl : m = m' ++ [(q1, q2)] := by rw [hmq]; simp
        clear hmq
        obtain ⟨g3, c3, rfl, hat, hg1, hg2⟩ := own_spansAt HR.out.1 (by simp)
        obtain ⟨x0, x1⟩ := hat m'.length (q1, q2) (by simp)
        have hfz := own_frozen HR.out.1 (m'.length * 2 + 1)
        simp only [List.length_append, List.length_cons, List.length_nil, Nat.zero_add] at hle HR ⊢ x0 x1
        have LEN : m'.length + 1 ≤ 1000000 := by omega
        obtain ⟨z, hz⟩ : ∃ z, m'.length = z := ⟨_, rfl⟩
        rw [hz] at x0 x1 hfz LEN HR ⊢
        clear hat
        have HS := Lib.hid (HR.out.step HY.out)
        have y1 : (wr.alloc (.cells #[.int .i64 f, .int .i64 t] 36)).cell? ⟨g3, z * 2 + 1, none⟩ = some (.int .i64 q2) := keepc HY.out x1
        have b0 : (wr.alloc (.cells #[.int .i64 f, .int .i64 t] 36)).cell? ⟨wr.heap.size, 0, none⟩ = some (.int .i64 f) := by simp [go_sem]
        have b1 : (wr.alloc (.cells #[.int .i64 f, .int .i64 t] 36)).cell? ⟨wr.heap.size, 1, none⟩ = some (.int .i64 t) := by simp [go_sem]
        have yf : (wr.alloc (.cells #[.int .i64 f, .int .i64 t] 36)).frozen? ⟨g3, z * 2 + 1, none⟩ = false := (HY.out.frozen (p := ⟨g3, z * 2 + 1, none⟩) hg2).trans hfz
        have HZ := Lib.hid hz
        clear hz x0 x1 hfz
        by_cases hjoin : f ≤ q2
        · go_wp2_with fail
          go_quiet (fail)
          have HQ := Lib.hid (SpRel.step HS.out (belowN (bl _) nq))
          obtain ⟨w2, hw2⟩ : ∃ W, (wr.alloc (.cells #[.int .i64 f, .int .i64 t] 36)).drewN nq = W := ⟨_, rfl⟩
          have a0 : w2.cell? ⟨wr.heap.size, 0, none⟩ = some (.int .i64 f) := by rw [← hw2]; exact b0
          have a1 : w2.cell? ⟨wr.heap.size, 1, none⟩ = some (.int .i64 t) := by rw [← hw2]; exact b1
          have v1 : w2.cell? ⟨g3, z * 2 + 1, none⟩ = some (.int .i64 q2) := by rw [← hw2]; exact y1
          have vf : w2.frozen? ⟨g3, z * 2 + 1, none⟩ = false := by rw [← hw2]; exact yf
          rw [hw2] at HQ ⊢
          clear hw2 b0 b1 y1 yf
          go_wp2_with fail
          go_region
          all_goals
            have NX := Lib.hid (SpRel.step (SpRel.set (y := max q2 t) (by rw [List.length_append, HZ.out]; exact HQ.out)) ((bl _).drew))
            rw [HZ.out] at NX
            go_wp2_with fail
            go_roundw
            case rel => exact ⟨k + 1, by omega, by go_num, m' ++ [(q1, max q2 t)], by rw [take_snoc HP.out]; exact HM.out.joins (a := (f, t)) hr TL.out hjoin, by have h := NX.out; simp only [List.length_append, List.length_cons, List.length_nil, Nat.zero_add, HZ.out] at h; exact h⟩
            case measure => simp [intOf]; omega
        · have hj2 : q2 < f := by omega
          have hj3 : decide (f ≤ q2) = false := by simpa using hjoin
          have HJ := Lib.hid hj2
          go_wp2_with fail
          go_quiet (fail)
          clear hjoin hj2 hj3
          have HQ := Lib.hid (SpRel.step HS.out (belowN (bl _) nq))
          obtain ⟨w2, hw2⟩ : ∃ W, (wr.alloc (.cells #[.int .i64 f, .int .i64 t] 36)).drewN nq = W := ⟨_, rfl⟩
          have a0 : w2.cell? ⟨wr.heap.size, 0, none⟩ = some (.int .i64 f) := by rw [← hw2]; exact b0
          have a1 : w2.cell? ⟨wr.heap.size, 1, none⟩ = some (.int .i64 t) := by rw [← hw2]; exact b1
          rw [hw2] at HQ ⊢
          clear hw2 b0 b1 y1 yf
          have hown2 := HQ.out.1
          have hsz2 := HQ.out.2.size
          simp only [List.length_append, List.length_cons, List.length_nil, Nat.zero_add, HZ.out] at hown2
          clear HS HY TL
          go_wp2_with (at_builtin; refine wpList_append_lies _ rfl (.tmp 41) (.tmp 43) 22 rfl w1.heap.size 36 i0 (.agg #[.int .i64 0, .int .i64 0]) 2 16 Try.underlying22 hi hz0 hz1 hz2 rfl (by decide) _ (z + 1) (flat (m' ++ [(q1, q2)])) rfl (World.ownsRow.alloc hown2 _) ⟨w2.heap.size, 0, none⟩ 1 1 [.int .i64 f, .int .i64 t] rfl rfl (news_two w2 f t _) (by simp [Value.oneCell']) (by decide) (by unfold maxLen; omega) (by omega) (by simp; omega) _ rfl ?_; intro g4 cap3 w3 hown3 hg3 hat3 hlt3; have NX := Lib.hid (SpRel.app (l := m' ++ [(q1, q2)]) HQ.out hg3 (by simpa [HZ.out] using hown3)); clear hown3)
          go_roundw
          case rel => exact ⟨k + 1, by omega, by go_num, m' ++ [(q1, q2)] ++ [(f, t)], by rw [take_snoc HP.out]; exact HM.out.adds hr (HM.out.cov.ends HJ.out), NX.out⟩
          case measure => simp [intOf]; omega
    · go_wp2_with fail
      go_ret
      have hM := HM.out
      rw [List.take_of_length_le (by have := HN.out; omega)] at hM
      exact ⟨_, m, rfl, ⟨own_lower HB1.out.size HR.out.1, chain HB1.out HR.out.2⟩, ⟨hM.cov, fun x => by rw [hM.mem x, mem_perm HPM.out, mem_filter]⟩, by have h1 := hM.len; have h2 := HSN.out; omega⟩

theorem make_any (w : World) (A : Option Addr) (c : Nat) (l : List Sp) (hl : Spans w A l) (hn : l.length ≤ 1000000) :
    Calls Try.prog 10 #[.slice A l.length c] w (CovPost (Mem l) l.length w) := by
  refine (make_own w A c l hl hn).mono ?_
  rintro e w1 ⟨v, m, rfl, hR, hc, hm⟩
  obtain ⟨A3, c3, rfl, hsp3⟩ := own_spans hR.1
  exact ⟨A3, c3, m, rfl, hsp3, hc, hm, hR.2⟩

end Go.Proofs.Ytmfkcbanjlmmhaa
