/-
  The program's Make: a list put in order by names.
-/
import Derived.Test.YtnmnbnlokmmcmaaFpover
namespace Go.Proofs.Ytnmnbnlokmmcmaa
open Go.RowKit

set_option maxHeartbeats 1000000 in
set_option maxRecDepth 100000 in
theorem clone_any (w : World) (A : Option Addr) (c : Nat) (l : List Fd) (hF : Fields w A l) (hnc : A = none → c = 0) (hn : l.length ≤ 1000) :
    Calls Try.prog 27 #[.slice A l.length c] w fun e w' => ∃ v, e = .returned v ∧ OF w l v w' := by
  have q22 : ∀ (w : World) (a : Option Addr) (n c n' c' : Nat), (binOp .eql 22 (.slice a n c) (.slice none n' c')).run Try.prog w = .ok (.bool a.isNone) w := fun w a n c n' c' => Lib.run_eql_slice_nil w _ _ a n c n' c' Try.underlying22
  rcases A with _ | ad
  · obtain rfl : l = [] := by
      rcases l with _ | ⟨x, xs⟩
      · rfl
      · obtain ⟨_, _, h, _⟩ := hF 0 x (by simp)
        cases h
    obtain rfl := hnc rfl
    go_enter Try.func27, Try.ntmps27
    go_wp2_with fail
    go_ret
    exact ⟨_, rfl, OF.nil w⟩
  · have HF := Lib.hid hF
    have HO := Lib.hid (show OF w [] (.slice (some ⟨w.heap.size, 0, none⟩) 0 0) (w.alloc (.cells #[] FT)) from ⟨own_emptyF (heap_alloc_new w _) (Nat.le_refl _), (bl w).alloc (Nat.le_refl _) _⟩)
    clear hF hnc
    obtain ⟨n, hnm⟩ : ∃ n, l.length = n := ⟨_, rfl⟩
    rw [hnm] at hn ⊢
    have HN := Lib.hid hnm
    clear hnm
    go_enter Try.func27, Try.ntmps27
    go_wp2_with (first
      | (at_builtin; refine wpList_appF rfl (.tmp 5) (.tmp 6) rfl rfl HO.out.own rfl HN.out.symm (HF.out.below ((bl w).alloc (Nat.le_refl _) _)) (fun h => by cases h) (by simp; have := HN.out; omega) (by simp) ?_; intro v' w3 hown3 hg3; have HN3 := Lib.hid (HO.out.grown hg3 hown3); clear hown3 hg3)
      | go_in)
    go_ret
    exact ⟨_, rfl, by simpa using HN3.out⟩

/-- The name of the one ahead. -/
def aheadM (m : List Fd) : Nat → ByteArray
  | 0 => ⟨#[]⟩
  | k + 1 => match m[k]? with
    | some f => f.n
    | none => ⟨#[]⟩
/-- The first k of them differ, each from the one ahead. -/
def AdjTo (m : List Fd) (k : Nat) : Prop := ∀ (j : Nat) (f g : Fd), j + 1 < k → m[j]? = some f → m[j + 1]? = some g → nats f.n ≠ nats g.n
theorem AdjTo.next {m : List Fd} {k : Nat} {f : Fd} (h : AdjTo m k) (hf : m[k]? = some f) (hne : nats f.n ≠ nats (aheadM m k)) : AdjTo m (k + 1) := fun j x g hj hx hg => by
  rcases Nat.lt_or_ge (j + 1) k with h1 | h1
  · exact h j x g h1 hx hg
  · obtain rfl : k = j + 1 := by omega
    rw [hf] at hg
    obtain rfl := Option.some.inj hg
    rw [aheadM, hx] at hne
    exact fun e => hne e.symm
theorem adj_rises : ∀ (m : List Fd) (n : Nat), n = m.length → AdjTo m n → m.Pairwise (fun x y => aheadB y.n x.n = false) → Rises m
  | [], _, _, _, _ => trivial
  | [f], _, _, _, _ => ⟨by simp, trivial⟩
  | f :: h :: t, n, hn, ha, hs => by
    obtain ⟨h1, h2⟩ := List.pairwise_cons.1 hs
    have ih := adj_rises (h :: t) (t.length + 1) rfl (fun j x g hj hx hg => ha (j + 1) x g (by rw [hn, List.length_cons, List.length_cons]; omega) (by simpa using hx) (by simpa using hg)) h2
    have hfh : aheadB f.n h.n = true := by
      have e := ha 0 f h (by rw [hn, List.length_cons, List.length_cons]; omega) rfl rfl
      have := h1 h List.mem_cons_self
      unfold aheadB at this ⊢
      rcases lessN_or (nats f.n) (nats h.n) with k | k | k
      · exact k
      · rw [k] at this; cases this
      · exact absurd k e
    refine ⟨fun g hg => ?_, ih⟩
    rcases List.mem_cons.1 hg with rfl | hg
    · exact hfh
    · exact lessN_trans _ _ _ hfh (ih.1 g hg)
theorem twice_no {m : List Fd} {k : Nat} {f : Fd} (hf : m[k]? = some f) (hn : nameB f.n = true) (he : nats f.n = nats (aheadM m k)) : ¬ Apart m := by
  intro ha
  cases k with
  | zero =>
    unfold aheadM at he
    unfold nameB at hn
    rw [he] at hn
    cases hn
  | succ j =>
    have hj1 := (List.getElem?_eq_some_iff.1 hf).1
    have hg : m[j]? = some m[j] := List.getElem?_eq_getElem (by omega)
    rw [aheadM, hg] at he
    have := (List.pairwise_iff_getElem.1 ha) j (j + 1) (by omega) hj1 (by omega)
    have e := (List.getElem?_eq_some_iff.1 hf).2
    rw [e] at this
    exact this he.symm
theorem firstE_cons (f : Fd) (l : List Fd) : firstE (f :: l) = if oneE f = 0 then firstE l else oneE f := rfl

set_option maxHeartbeats 4000000 in
set_option maxRecDepth 100000 in
theorem pmake_any (w : World) (v : Value) (l : List Fd) (hl : ListF w v l) (hok : okF l) (hn : l.length ≤ 9223372036854775807) :
    Calls Try.prog 10 #[v] w fun e w' => ∃ u, e = .returned (.tuple #[u, .int .i64 (((makeF l).2 : Nat) : Int)]) ∧ ListF w' u (makeF l).1 ∧ Below w.heap.size w w' := by
  obtain ⟨A, c, rfl, hF, hlc, hnc⟩ := hl
  by_cases h8 : 8 < l.length
  · have h8' : (8 : Int) < (l.length : Int) := by omega
    have HE := Lib.hid (make_big h8)
    go_enter Try.func10, Try.ntmps10
    go_wp2_with fail
    go_ret2
    exact ⟨_, by rw [HE.out]; rfl, by rw [HE.out]; exact ListF.nil _, bl w⟩
  · have h8' : ¬ (8 : Int) < (l.length : Int) := by omega
    have HL := Lib.hid hF
    have HO := Lib.hid hok
    have HNC := Lib.hid hnc
    have MB := Lib.hid (fun h => make_bad h8 h)
    have MT2 := Lib.hid (fun h h2 => make_twice h8 h h2)
    have MG := Lib.hid (fun h h2 => make_good h8 h h2)
    obtain ⟨n, hnm⟩ : ∃ n, l.length = n := ⟨_, rfl⟩
    rw [hnm] at hn h8 h8' ⊢
    have HN := Lib.hid hnm
    clear hF hnm hok hnc hlc
    go_enter Try.func10, Try.ntmps10
    go_wp2_with fail
    go_loopw [16] (fun i wr => ∃ k : Nat, k ≤ n ∧ i = .int .i64 k ∧ firstE l = firstE (l.drop k) ∧ Below w.heap.size w wr) (fun i _ => n - (intOf i).toNat)
    case atStart => exact ⟨0, Nat.zero_le _, rfl, rfl, bl w⟩
    case round =>
      obtain ⟨k, hk, rfl, hg, hB⟩ := hrel
      have HB := Lib.hid hB
      clear hB
      by_cases hlt : k < n
      · have hlt' : (k : Int) < (n : Int) := by omega
        obtain ⟨f, hf⟩ : ∃ f, l[k]? = some f := ⟨_, List.getElem?_eq_getElem (by have := HN.out; omega)⟩
        have FL := (HL.out.below HB.out)
        obtain ⟨g, off, rfl, c0, c1⟩ := FL k f hf
        have CO := Lib.hid (fun w => alone_any f (HO.out f (List.mem_of_getElem? hf)) w)
        rw [drop_consF hf, firstE_cons] at hg
        by_cases h0 : oneE f = 0
        · have E0 := Lib.hid h0
          rw [if_pos h0] at hg
          have NX := Lib.hid hg
          clear hg h0 FL hf
          go_wp2_with (go_at_call 26; with_reducible refine (CO.out _).mono ?_; rintro e w2 ⟨rfl, hb⟩; rw [E0.out]; have HB2 := Lib.hid (chain HB.out (chain ((bl wr).alloc (Nat.le_refl _) _) hb)); clear hb)
          exact ⟨⟨k + 1, by omega, by go_num, NX.out, HB2.out⟩, by simp [intOf] <;> omega⟩
        · rw [if_neg h0] at hg
          have NX := Lib.hid (show makeF l = ([], oneE f) by rw [MB.out (by omega), hg])
          have h0' : ¬ ((oneE f : Nat) : Int) = 0 := by omega
          clear hg FL
          generalize oneE f = z at *
          go_wp2_with (go_at_call 26; with_reducible refine (CO.out _).mono ?_; rintro e w2 ⟨rfl, hb⟩; have HB2 := Lib.hid (chain HB.out (chain ((bl wr).alloc (Nat.le_refl _) _) hb)); clear hb)
          go_ret2
          exact ⟨_, by rw [NX.out]; rfl, by rw [NX.out]; exact ListF.nil _, HB2.out⟩
      · obtain rfl : k = n := by omega
        have hlt' : ¬ (k : Int) < (k : Int) := by omega
        rw [List.drop_of_length_le (by have := HN.out; omega)] at hg
        have HE := Lib.hid (show firstE l = 0 from hg)
        have CC := Lib.hid (show Calls Try.prog 27 #[.slice A k c] wr fun e w' => ∃ v, e = .returned v ∧ OF wr l v w' by have := clone_any wr A c l (HL.out.below HB.out) HNC.out (by have := HN.out; omega); rw [HN.out] at this; exact this)
        clear hg
        go_wp2_with (first
          | (go_at_call 27; (with_reducible refine CC.out.mono ?_); rintro e w2 ⟨u, rfl, hO2⟩; have CS := Lib.hid (sort_fields w2 hO2.own (by have := HN.out; omega) hO2.bel.size); have HO2 := Lib.hid hO2; clear hO2)
          | (go_at_call 28; (with_reducible refine CS.out.mono ?_); rintro e w3 ⟨rfl, m, hp, hs, ⟨A1, c1, rfl, hF1, hc1, hn1⟩, hb2⟩; have HNM := Lib.hid (show m.length = k by rw [← hp.length_eq]; exact HN.out); rw [HNM.out]; have HP := Lib.hid hp; have HS := Lib.hid hs; have HF1 := Lib.hid hF1; have HC1 := Lib.hid hc1; have HNC1 := Lib.hid hn1; have HB2 := Lib.hid (chain HB.out (HO2.out.bel.trans hb2)); clear hp hs hF1 hc1 hn1 hb2))
        have HFE := Lib.hid (fun f hf => firstE_all l HE.out f (HP.out.mem_iff.2 hf))
        go_loopw [8, 32] (fun a i wr' => ∃ j : Nat, j ≤ k ∧ i = .int .i64 j ∧ a = .string (aheadM m j) ∧ AdjTo m j ∧ Below w3.heap.size w3 wr') (fun _ i _ => k - (intOf i).toNat)
        case atStart => exact ⟨0, Nat.zero_le _, rfl, rfl, fun j f g h => absurd h (by omega), bl w3⟩
        case round =>
          obtain ⟨j, hj, rfl, rfl, hA, hB3⟩ := hrel
          have HB3 := Lib.hid hB3
          have HA := Lib.hid hA
          clear hB3 hA
          by_cases hlt2 : j < k
          · have hlt2' : (j : Int) < (k : Int) := by omega
            obtain ⟨f, hf⟩ : ∃ f, m[j]? = some f := ⟨_, List.getElem?_eq_getElem (by have := HNM.out; omega)⟩
            obtain ⟨g, off, rfl, c0, c1⟩ := (HF1.out.below HB3.out) j f hf
            have NXT := Lib.hid (fun h => HA.out.next hf h)
            have TWI := Lib.hid (fun h => twice_no hf (one_name (HFE.out f (List.mem_of_getElem? hf))) h)
            have AM : aheadM m (j + 1) = f.n := by rw [aheadM, hf]
            have HAM := Lib.hid AM
            clear hf AM
            generalize hp : aheadM m j = p at *
            by_cases h : nats f.n = nats p
            · have he : (f.n.toList == p.toList) = true := by rw [beq_iff_eq]; exact bytes_is.2 h
              have NX := Lib.hid (show makeF l = ([], 7) from MT2.out HE.out (fun e => TWI.out h ((over_long _ l rfl (by rw [e, HN.out])).perm HP.out)))
              clear h
              go_wp2_with fail
              go_ret2
              exact ⟨_, by rw [NX.out]; rfl, by rw [NX.out]; exact ListF.nil _, chain HB2.out (chain HB3.out ((bl _).alloc (Nat.le_refl _) _))⟩
            · have he : (f.n.toList == p.toList) = false := by rw [beq_eq_false_iff_ne]; exact fun e => h (bytes_is.1 e)
              have NX := Lib.hid (NXT.out h)
              clear h
              go_wp2_with fail
              exact ⟨⟨j + 1, by omega, by go_num, by rw [HAM.out], NX.out, chain HB3.out ((bl _).alloc (Nat.le_refl _) _)⟩, by simp [intOf] <;> omega⟩
          · obtain rfl : j = k := by omega
            have hlt2' : ¬ (j : Int) < (j : Int) := by omega
            have HRI := Lib.hid (adj_rises m j HNM.out.symm HA.out HS.out)
            have HAL := Lib.hid (show Apart l from (rises_apart m HRI.out).perm HP.out.symm)
            have NX := Lib.hid (show makeF l = (m, 0) by rw [MG.out HE.out (by rw [apart_over HAL.out, HN.out]), ← over_perm HAL.out HP.out HRI.out])
            go_wp2_with fail
            go_ret2
            exact ⟨_, by rw [NX.out]; rfl, by rw [NX.out]; exact ⟨A1, c1, by rw [HNM.out]; rfl, HF1.out.below HB3.out, HC1.out, HNC1.out⟩, chain HB2.out HB3.out⟩

end Go.Proofs.Ytnmnbnlokmmcmaa
