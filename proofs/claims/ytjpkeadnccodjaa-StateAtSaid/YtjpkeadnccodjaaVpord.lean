/-
  The program's Order: a list of its own, in order, each version's fields cloned.
-/
import Derived.Test.YtjpkeadnccodjaaVprise
import Derived.Test.YtjpkeadnccodjaaVsame
namespace Go.Proofs.Ytjpkeadnccodjaa
open Go.RowKit

/-- All that a version says. -/
abbrev sayV (v : Vr) : Int × Int × ByteArray × Int × Int × List Fd × Bool := (v.id, v.st, v.ent, v.sf, v.se, v.fs, v.gone)
/-- Two lists of versions say the same. -/
def Alike (L O : List Vr) : Prop := L.map sayV = O.map sayV
theorem alike_same : ∀ L O : List Vr, Alike L O → sameVs L O = true
  | [], [], _ => rfl
  | [], _ :: _, h => by simp [Alike] at h
  | _ :: _, [], h => by simp [Alike] at h
  | a :: L, b :: O, h => by
    unfold Alike at h
    rw [List.map_cons, List.map_cons] at h
    injection h with h1 h2
    rw [sameVs, alike_same L O h2]
    obtain ⟨id, st, ent, sf, se, fa, fc, fs, gone⟩ := a
    obtain ⟨id', st', ent', sf', se', fa', fc', fs', gone'⟩ := b
    simp only [sayV, Prod.mk.injEq] at h1
    obtain ⟨rfl, rfl, rfl, rfl, rfl, rfl, rfl⟩ := h1
    simp [sameV, sameF_self]
theorem alike_set {L O : List Vr} (h : Alike L O) {t : Nat} {v : Vr} (hv : L[t]? = some v) (fa : Option Addr) (fc : Nat) : Alike (L.set t { v with fa := fa, fc := fc }) O := by
  unfold Alike at *
  rw [List.map_set, ← h]
  apply List.ext_getElem?
  intro j
  rw [List.getElem?_set]
  split
  · rename_i e
    subst e
    rw [List.getElem?_map, hv, List.length_map, if_pos (List.getElem?_eq_some_iff.1 hv).1]
    rfl
  · rfl
theorem alike_len {L O : List Vr} (h : Alike L O) : L.length = O.length := by
  have := congrArg List.length h
  simpa using this
theorem alike_mem {L O : List Vr} (h : Alike L O) {v : Vr} (hv : v ∈ L) : ∃ x ∈ O, x.fs = v.fs := by
  have : sayV v ∈ O.map sayV := by rw [← h]; exact List.mem_map.2 ⟨v, hv, rfl⟩
  obtain ⟨x, hx, e⟩ := List.mem_map.1 this
  simp only [sayV, Prod.mk.injEq] at e
  exact ⟨x, hx, e.2.2.2.2.2.1⟩
/-- A list of versions that say what those of O say. -/
def LikeV (w : World) (u : Value) (O : List Vr) : Prop := ∃ L, VersL w u L ∧ Alike L O
theorem LikeV.below {w w' : World} {u : Value} {O : List Vr} (h : LikeV w u O) (hb : Below w.heap.size w w') : LikeV w' u O := by
  obtain ⟨L, h1, h2⟩ := h
  exact ⟨L, h1.below hb, h2⟩
theorem dsamev_like (w : World) (ua ub : Value) (O : List Vr) (ha : LikeV w ua O) (hb : VersL w ub O) (hn : O.length ≤ 100000) (ho : ∀ v ∈ O, v.fs.length ≤ 100000) : Ret 10 #[ua, ub] w (.bool true) := by
  obtain ⟨L, h1, h2⟩ := ha
  have := dsamev_any w ua ub L O h1 hb (by rw [alike_len h2]; exact hn) hn (fun v hv => by
    obtain ⟨x, hx, e⟩ := alike_mem h2 hv
    rw [← e]; exact ho x hx) ho
  rwa [alike_same L O h2] at this

/-- The fields of a version lie, and outside of a block. -/
def KV (w : World) (g : Nat) (v : Vr) : Prop := VF w v ∧ ∀ (k : Nat) (f : Fd), v.fs[k]? = some f → ∀ a, v.fa = some a → a.block ≠ g
theorem KV.below {w w' : World} {g : Nat} {v : Vr} (h : KV w g v) (hb : Below w.heap.size w w') : KV w' g v := ⟨h.1.below hb, h.2⟩
theorem KV.set {w : World} {g : Nat} {v : Vr} (h : KV w g v) (o : Nat) (u : Value) : KV (w.setCell ⟨g, o, none⟩ u) g v := by
  refine ⟨⟨fun k f hf => ?_, h.1.2⟩, h.2⟩
  obtain ⟨b, off, e, c0, c1⟩ := h.1.1 k f hf
  have hne : b ≠ g := h.2 k f hf _ e
  exact ⟨b, off, e, (World.cell?_setCell_other _ _ _ _ (fun e => hne (by injection e with e; exact e.symm))).trans c0, (World.cell?_setCell_other _ _ _ _ (fun e => hne (by injection e with e; exact e.symm))).trans c1⟩
theorem KV.old {w w' : World} {g : Nat} {v : Vr} (h : VF w v) (hb : Below w.heap.size w w') (hg : w.heap.size ≤ g) : KV w' g v := by
  refine ⟨h.below hb, fun k f hf a ha => ?_⟩
  obtain ⟨b, off, e, c0, _⟩ := h.1 k f hf
  rw [ha] at e
  obtain rfl := Option.some.inj e
  have := lt_of_cell c0
  show b ≠ g
  omega
theorem KV.new {W w : World} {g : Nat} {v : Vr} {u : Value} (ho : OF W v.fs u w) (hg : g < W.heap.size) : ∃ A c, u = .slice A v.fs.length c ∧ KV w g { v with fa := A, fc := c } := by
  obtain ⟨A, c, e, h1, h2, h3⟩ := ho.list
  refine ⟨A, c, e, ⟨h1, h2, h3⟩, fun k f hf a ha => ?_⟩
  have hA : A = some a := ha
  have := ho.own.lt a.block (by rw [e, hA]; rfl)
  omega
theorem flat_set : ∀ (L : List Vr) (t : Nat) (v : Vr) (fa : Option Addr) (fc : Nat), L[t]? = some v → (flatE EV L).set (t * 7 + 5) (.slice fa v.fs.length fc) = flatE EV (L.set t { v with fa := fa, fc := fc })
  | [], _, _, _, _, h => by simp at h
  | x :: L, 0, v, fa, fc, h => by
    obtain rfl : x = v := by simpa using h
    rw [flatE_cons, List.set_cons_zero, flatE_cons]
    rfl
  | x :: L, t + 1, v, fa, fc, h => by
    have ih := flat_set L t v fa fc (by simpa using h)
    have hl : (EV.cells x).length = 7 := EV.len x
    rw [flatE_cons, List.set_append_right _ _ (by rw [hl]; omega), hl, show (t + 1) * 7 + 5 - 7 = t * 7 + 5 by omega, ih, List.set_cons_succ, flatE_cons]
theorem ownE_set {w : World} {base g n c : Nat} {L : List Vr} (h : ownE EV w base (.slice (some ⟨g, 0, none⟩) n c) L) (hn : L.length = n) {t : Nat} {v : Vr} (hv : L[t]? = some v) (fa : Option Addr) (fc : Nat) :
    ownE EV (w.setCell ⟨g, t * 7 + 5, none⟩ (.slice fa v.fs.length fc)) base (.slice (some ⟨g, 0, none⟩) n c) (L.set t { v with fa := fa, fc := fc }) := by
  subst hn
  have := (World.ownsRow.stored h (t * 7 + 5) (.slice fa v.fs.length fc)).1
  rw [flat_set L t v fa fc hv] at this
  unfold ownE
  rw [List.length_set]
  exact this

set_option maxHeartbeats 4000000 in
set_option maxRecDepth 10000 in
theorem porder_any (w : World) (u : Value) (l : List Vr) (hl : VersL w u l) (hf : fewV l) : Calls Try.prog 11 #[u] w fun e w' => ∃ x, e = .returned x ∧ LikeV w' x (ordL l) ∧ Below w.heap.size w w' := by
  have CR := Lib.hid (prising_any w u l hl (by have := hf.1; omega))
  obtain ⟨O, hO⟩ : ∃ O, ordL l = O := ⟨_, rfl⟩
  rw [hO] at CR ⊢
  have hOn : O.length ≤ 200 := by rw [← hO, ordL_length]; exact hf.1
  have HVF := Lib.hid (show ∀ v ∈ O, VF w v ∧ v.fs.length ≤ 100 from fun v hv => by
    rw [← hO] at hv
    have hv := (ordL_perm l).mem_iff.1 hv
    exact ⟨hl.2 v hv, hf.2 v hv⟩)
  clear hl hf hO
  obtain ⟨n, hnm⟩ : ∃ n, O.length = n := ⟨_, rfl⟩
  have HN := Lib.hid hnm
  rw [hnm] at hOn
  go_enter Try.func11, Try.ntmps11
  go_wp2_with (go_at_call 25; (with_reducible refine CR.out.mono ?_); rintro e w1 ⟨x1, rfl, hO1⟩; obtain ⟨A1, c1, rfl, _⟩ := hO1.list; rw [HN.out] at hO1 ⊢; have HO1 := Lib.hid hO1; clear hO1)
  clear hnm CR
  go_loopw [9] (fun i wr => ∃ t L, t ≤ n ∧ i = .int .i64 (t : Nat) ∧ Alike L O ∧ (∀ v ∈ L, ∀ g c, A1 = some ⟨g, c, none⟩ → KV wr g v) ∧ OE EV w L (.slice A1 n c1) wr) (fun i _ => n - (intOf i).toNat)
  case atStart =>
    refine ⟨0, O, Nat.zero_le _, rfl, rfl, fun v hv g c e => KV.old (HVF.out v hv).1 HO1.out.bel ?_, HO1.out⟩
    exact (HO1.out.own.lt g (by rw [e]; rfl)).1
  case round =>
    obtain ⟨t, L, ht, rfl, hal, hkv, hOw⟩ := hrel
    have HAL := Lib.hid hal
    have HKV := Lib.hid hkv
    have HOW := Lib.hid hOw
    have hLn : L.length = n := by rw [alike_len hal]; exact HN.out
    have HL := Lib.hid hLn
    clear hal hkv hOw hLn
    by_cases hlt : t < n
    · have hlt' : (t : Int) < (n : Int) := by omega
      obtain ⟨v, hv⟩ : ∃ v, L[t]? = some v := ⟨_, List.getElem?_eq_getElem (by have := HL.out; omega)⟩
      obtain ⟨g, hA⟩ : ∃ g, A1 = some ⟨g, 0, none⟩ := by
        rcases HOW.out.own.2 with ⟨e, h0⟩ | ⟨g, cap, cur, e, _⟩
        · have := HL.out; omega
        · injection e with e1
          exact ⟨g, e1⟩
      subst hA
      have z5 : wr.cell? ⟨g, t * 7 + 5, none⟩ = some (.slice v.fa v.fs.length v.fc) := by
        obtain ⟨A2, c2, e2, hr, _⟩ := HOW.out.list
        injection e2 with e2
        rw [← e2] at hr
        have := hr.at hv (j := 5) rfl
        rwa [Nat.zero_add] at this
      have HG := Lib.hid (show g < wr.heap.size from (HOW.out.own.lt g rfl).2)
      have HFZ := Lib.hid (show ∀ w', Below wr.heap.size wr w' → w'.frozen? ⟨g, t * 7 + 5, none⟩ = false from fun w' h => World.ownsRow.frozenAt (by have := HL.out; have e := ownE_below HOW.out.own h; unfold ownE at e; rw [this] at e; exact e) _)
      have hvk := HKV.out v (List.mem_of_getElem? hv) g 0 rfl
      have CC := Lib.hid (cloneF_any wr v.fa v.fc v.fs hvk.1.1 hvk.1.2.2 (by
        obtain ⟨x, hx, e⟩ := alike_mem HAL.out (List.mem_of_getElem? hv)
        rw [← e]; have := (HVF.out x hx).2; omega))
      have HV := Lib.hid hv
      clear hv hvk
      have K5 := Lib.hid (fun w' (h : Below wr.heap.size wr w') => keepc h z5)
      go_wp2_with (go_at_call 26; (with_reducible refine CC.out.mono ?_); rintro e w2 ⟨u2, rfl, hO2⟩; obtain ⟨A2, c2, rfl, hk2⟩ := KV.new (g := g) hO2 HG.out; have k5 := K5.out w2 hO2.bel; have f5 := HFZ.out w2 hO2.bel; have HO2 := Lib.hid hO2; have HK2 := Lib.hid hk2; clear hO2 hk2)
      refine ⟨⟨t + 1, L.set t { v with fa := A2, fc := c2 }, by omega, by go_num, alike_set HAL.out HV.out _ _, ?_, ?_⟩, by simp [intOf] <;> omega⟩
      · intro x hx g' c' e
        injection e with e
        injection e with e1
        subst e1
        refine KV.set ?_ _ _
        rcases List.mem_or_eq_of_mem_set hx with hx | rfl
        · exact (HKV.out x hx g 0 rfl).below HO2.out.bel
        · exact HK2.out
      · have h2 := HOW.out.below HO2.out.bel
        exact ⟨ownE_set h2.own HL.out HV.out A2 c2, h2.bel.setCell (p := ⟨g, _, none⟩) (HOW.out.own.lt g rfl).1 _⟩
    · obtain rfl : t = n := by omega
      have hlt' : ¬ (t : Int) < (t : Int) := by omega
      have HVL := Lib.hid (show ∀ v ∈ L, VF wr v from fun v hv => by
        rcases HOW.out.own.2 with ⟨e, h0⟩ | ⟨g, cap, cur, e, _⟩
        · have := List.eq_nil_of_length_eq_zero h0
          rw [this] at hv; cases hv
        · injection e with e1
          exact (HKV.out v hv g 0 e1).1)
      go_wp2_with fail
      go_ret
      exact ⟨_, rfl, ⟨L, ⟨by have := HOW.out.list; exact this, HVL.out⟩, HAL.out⟩, HOW.out.bel⟩

end Go.Proofs.Ytjpkeadnccodjaa
