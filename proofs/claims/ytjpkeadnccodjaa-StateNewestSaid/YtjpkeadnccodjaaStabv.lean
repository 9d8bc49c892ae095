/-
  slices.SortStableFunc on a list of versions of the call's own: by rising stamps, those of one stamp as they stood.
-/
import Derived.Test.YtjpkeadnccodjaaStabf
import Derived.Test.YtjpkeadnccodjaaVmem
import Derived.Test.YtjpkeadnccodjaaShelfC
namespace Go.Proofs.Ytjpkeadnccodjaa
open Go.RowKit Go.Lib Go.Sort Go.Shelf

instance inhabitedVr : Inhabited Vr := ⟨⟨0, 0, ⟨#[]⟩, 0, 0, none, 0, [], false⟩⟩
theorem stabL : StabL Try.prog 7 where
  mixed := by kernel_rfl
  fSwap := Try.func74
  fRot := Try.func67
  fSym := Try.func55
  t3 := Try.underlying3
  a3 := Try.isAgg3
  z3 := Try.sizeOf3
  v3 := Try.zeroValue3
  t4 := Try.underlying4
  a4 := Try.isAgg4
  z4 := Try.sizeOf4
  v4 := Try.zeroValue4
  tU := Try.underlying75
  aU := Try.isAgg75
  zU := Try.sizeOf75
  tS := Try.underlying22
  aS := Try.isAgg22
  zS := Try.sizeOf22
  vS := Try.zeroValue22
  aE := Try.isAgg45
  zE := Try.sizeOf45

section
variable {β : Type}
/-- Each with its place. -/
def tagF : Nat → List β → List (β × Nat)
  | _, [] => []
  | n, x :: l => (x, n) :: tagF (n + 1) l
theorem tagF_length : ∀ (n : Nat) (l : List β), (tagF n l).length = l.length
  | _, [] => rfl
  | n, _ :: l => by rw [tagF, List.length_cons, List.length_cons, tagF_length]
theorem tagF_fst : ∀ (n : Nat) (l : List β), (tagF n l).map Prod.fst = l
  | _, [] => rfl
  | n, _ :: l => by rw [tagF, List.map_cons, tagF_fst]
theorem tagF_ge : ∀ (n : Nat) (l : List β), ∀ x ∈ tagF n l, n ≤ x.2
  | _, [], x, h => by simp [tagF] at h
  | n, y :: l, x, h => by
    rcases List.mem_cons.1 h with rfl | h
    · exact Nat.le_refl _
    · have := tagF_ge (n + 1) l x h; omega
theorem tagF_asc : ∀ (n : Nat) (l : List β), (tagF n l).Pairwise fun x y => x.2 < y.2
  | _, [] => List.Pairwise.nil
  | n, _ :: l => List.pairwise_cons.2 ⟨fun y hy => by have := tagF_ge (n + 1) l y hy; show n < y.2; omega, tagF_asc (n + 1) l⟩
theorem tagF_get : ∀ (n : Nat) (l : List β) (i : Nat) (x : β), l[i]? = some x → (tagF n l)[i]? = some (x, n + i)
  | _, [], _, _, h => by simp at h
  | n, y :: l, 0, x, h => by
    obtain rfl : y = x := by simpa using h
    rfl
  | n, y :: l, i + 1, x, h => by
    have := tagF_get (n + 1) l i x (by simpa using h)
    rw [show n + (i + 1) = n + 1 + i by omega]
    exact this
end
/-- How versions are told apart: by their stamps. -/
def StampLt (cf : Vr → Vr → Int) : Prop := ∀ x y, ltOf cf x y = decide (x.st < y.st)
theorem StampLt.swo {cf : Vr → Vr → Int} (h : StampLt cf) : SWO (ltOf cf) where
  irrefl x := by rw [h]; simp
  trans x y z h1 h2 := by rw [h] at *; simp at *; omega
  ntrans x y z h1 h2 := by rw [h] at *; simp at *; omega
def insT : List (Vr × Nat) → Vr × Nat → List (Vr × Nat)
  | [], x => [x]
  | y :: l, x => if y.1.st ≤ x.1.st then y :: insT l x else x :: y :: l
theorem insT_fst : ∀ (l : List (Vr × Nat)) (x : Vr × Nat), (insT l x).map Prod.fst = insV (l.map Prod.fst) x.1
  | [], _ => rfl
  | y :: l, x => by
    rw [insT, List.map_cons, insV]
    split
    · rw [List.map_cons, insT_fst]
    · rfl
theorem insT_perm : ∀ (l : List (Vr × Nat)) (x : Vr × Nat), (insT l x).Perm (x :: l)
  | [], _ => .refl _
  | y :: l, x => by
    rw [insT]
    split
    · exact ((insT_perm l x).cons y).trans (List.Perm.swap x y l)
    · exact .refl _
theorem insT_ord {cf : Vr → Vr → Int} (h : StampLt cf) : ∀ (l : List (Vr × Nat)) (x : Vr × Nat), Ord (ltOf cf) l → (∀ y ∈ l, y.2 < x.2) → Ord (ltOf cf) (insT l x)
  | [], x, _, _ => List.pairwise_singleton _ _
  | y :: l, x, ho, hx => by
    obtain ⟨o1, o2⟩ := List.pairwise_cons.1 ho
    rw [insT]
    split
    · rename_i hle
      refine List.pairwise_cons.2 ⟨fun z hz => ?_, insT_ord h l x o2 (fun z hz => hx z (List.mem_cons_of_mem _ hz))⟩
      rcases List.mem_cons.1 ((insT_perm l x).mem_iff.1 hz) with rfl | hz
      · exact .inr ⟨by rw [h]; simp; omega, hx y List.mem_cons_self⟩
      · exact o1 z hz
    · rename_i hle
      have hxy : TL (ltOf cf) x y := .inl (by rw [h]; simp; omega)
      refine List.pairwise_cons.2 ⟨fun z hz => ?_, ho⟩
      rcases List.mem_cons.1 hz with rfl | hz
      · exact hxy
      · exact TL.trans h.swo hxy (o1 z hz)
theorem foldT {cf : Vr → Vr → Int} (h : StampLt cf) : ∀ (D a : List (Vr × Nat)), Ord (ltOf cf) a → Asc D → Cross a D → Ord (ltOf cf) (D.foldl insT a) ∧ (D.foldl insT a).Perm (a ++ D) ∧ (D.foldl insT a).map Prod.fst = (D.map Prod.fst).foldl insV (a.map Prod.fst)
  | [], a, ho, _, _ => ⟨ho, by simp, rfl⟩
  | x :: D, a, ho, hasc, hc => by
    obtain ⟨a1, a2⟩ := List.pairwise_cons.1 hasc
    obtain ⟨r1, r2, r3⟩ := foldT h D (insT a x) (insT_ord h a x ho (fun y hy => hc y hy x List.mem_cons_self)) a2 (fun u hu v hv => by
      rcases List.mem_cons.1 ((insT_perm a x).mem_iff.1 hu) with rfl | hu
      · exact a1 v hv
      · exact hc u hu v (List.mem_cons_of_mem _ hv))
    refine ⟨r1, r2.trans ?_, ?_⟩
    · refine ((insT_perm a x).append_right D).trans ?_
      rw [List.cons_append]
      exact (List.perm_middle (a := x) (l₁ := a) (l₂ := D)).symm
    · rw [List.foldl_cons, r3, insT_fst, List.map_cons, List.foldl_cons]
/-- In order with their places: they are in the document's order. -/
theorem ord_is {cf : Vr → Vr → Int} (h : StampLt cf) {l : List Vr} {M : List (Vr × Nat)} (hp : M.Perm (tagF 0 l)) (ho : Ord (ltOf cf) M) : M.map Prod.fst = ordL l := by
  obtain ⟨r1, r2, r3⟩ := foldT h (tagF 0 l) [] List.Pairwise.nil (tagF_asc 0 l) (fun _ hu => by simp at hu)
  rw [List.nil_append] at r2
  have e : M = (tagF 0 l).foldl insT [] := by
    refine List.Perm.eq_of_pairwise (le := TL (ltOf cf)) (fun a b _ _ h1 h2 => ?_) ho r1 (hp.trans r2.symm)
    rcases h1 with h1 | ⟨h1, h3⟩
    · have := h2.not h.swo
      rw [h1] at this; cases this
    · rcases h2 with h2 | ⟨_, h4⟩
      · rw [h1] at h2; cases h2
      · omega
  rw [e, r3, tagF_fst]
  rfl

section
variable {α : Type} {E : El α}
theorem holds_ownE [Inhabited α] {w : World} {g : Nat} {cur : Array Value} {ty : TypeId} {l : List α} (hb : w.heap[g]? = some (.cells cur ty (0, 0))) (ht : cur.toList.take (l.length * E.sz) = flatE E l) : HoldsK (encT E.cells) E.sz w g 0 (tagF 0 l).toArray := by
  intro j hj
  rw [size_flatK, List.size_toArray, tagF_length] at hj
  have hc : cur[j]? = (flatE E l)[j]? := by
    rw [← ht, List.getElem?_take, if_pos hj]
    simp
  have hq : j / E.sz < l.length := (Nat.div_lt_iff_lt_mul E.pos).2 hj
  obtain ⟨x, hx⟩ : ∃ x, l[j / E.sz]? = some x := ⟨_, List.getElem?_eq_getElem hq⟩
  have hr : j % E.sz < (E.cells x).length := by rw [E.len]; exact Nat.mod_lt _ E.pos
  obtain ⟨u, hu⟩ : ∃ u, (E.cells x)[j % E.sz]? = some u := ⟨_, List.getElem?_eq_getElem hr⟩
  have e1 := flatE_get l _ x hx _ u hu
  rw [Nat.mul_comm, Nat.div_add_mod j E.sz] at e1
  refine ⟨?_, by simp [World.frozen?, hb]⟩
  rw [get_flatK _ _ _ _ (by rw [List.size_toArray, tagF_length]; exact hj), getBangT (tagF_get 0 l _ x hx)]
  rw [e1] at hc
  have eu : (encT E.cells (x, 0 + j / E.sz))[j % E.sz]! = u := by
    show (E.cells x)[j % E.sz]! = u
    rw [List.getElem!_eq_getElem?_getD, hu]; rfl
  rw [eu]
  simp [World.cell?, hb, hc]
theorem grown_sortedE [Inhabited α] {w : World} {g n k : Nat} {enc : α → List Value} {d : Array (α × Nat)} {os : Array Obj} (_hg : g < w.heap.size) : w.grownBy (sortWorldK (encT enc) k w g 0 n d os) (some g) := by
  refine ⟨rfl, rfl, rfl, ?_, fun i hi hne => ?_⟩
  · simp [sortWorldK, putRowK, putRow, mapBlock, grow, Sort.ahead]
  · simp only [sortWorldK, putRowK, putRow, mapBlock, grow, Sort.ahead]
    rw [Array.getElem?_append_left (by simp; omega), Array.getElem?_modify, if_neg (fun e => hne (by rw [e]))]
/-- Rows that lie in a block of the call's own. -/
theorem ownE_of_row {w : World} {base g cap : Nat} {cur : Array Value} {L : List α} (hb : w.heap[g]? = some (.cells cur E.e (0, 0))) (hbase : base ≤ g) (hr : RowE E w (some ⟨g, 0, none⟩) L) (hn : L.length ≤ cap) (hm : cap ≤ maxLen) (hs : cur.size = cap * E.sz) : ownE E w base (.slice (some ⟨g, 0, none⟩) L.length cap) L := by
  refine ⟨flatE_length L, .inr ⟨g, cap, cur, rfl, hbase, hb, hn, hm, hs, ?_⟩⟩
  apply List.ext_getElem?
  intro j
  by_cases hj : j < L.length * E.sz
  · obtain ⟨u, hu⟩ : ∃ u, (flatE E L)[j]? = some u := ⟨_, List.getElem?_eq_getElem (by rw [flatE_length]; exact hj)⟩
    have c := flatE_cell hr hu
    rw [List.getElem?_take_of_lt hj, hu]
    simp only [Go.WideShapes.add_plain, Nat.zero_add] at c
    rw [cell_of_row w g j cur E.e (0, 0) hb] at c
    rw [Array.getElem?_toList]
    exact c
  · rw [List.getElem?_take_eq_none (by omega), List.getElem?_eq_none (by rw [flatE_length]; omega)]
theorem heap_sortedE [Inhabited α] {w : World} {g n k : Nat} {enc : α → List Value} {d : Array (α × Nat)} {os : Array Obj} {cur : Array Value} {e : TypeId} {fr : Nat × Nat} (hb : w.heap[g]? = some (.cells cur e fr)) : ∃ cur', (sortWorldK (encT enc) k w g 0 n d os).heap[g]? = some (.cells cur' e fr) ∧ cur'.size = cur.size := by
  have hg : g < w.heap.size := (Array.getElem?_eq_some_iff.1 hb).1
  refine ⟨putCells id 0 (flatK (encT enc) k d) cur, ?_, by simp [putCells]⟩
  unfold sortWorldK putRowK
  rw [heap_grow_old _ _ (by simpa using hg)]
  simp [putRow, mapBlock, Sort.ahead, Array.getElem?_modify, hb, onCells]
end
/-- What a function that tells versions apart answers. -/
def CmpV (g : Nat) (cb : Array Value) (cf : Vr → Vr → Int) : Prop := ∀ (x y : Vr) (W : World), Calls Try.prog g (#[vv x, vv y] ++ cb) W fun e w' => e = .returned (.int .i64 (cf x y)) ∧ ∃ q os', w' = grow (W.drewN q) os'
set_option maxHeartbeats 1000000 in
set_option maxRecDepth 100000 in
theorem stable_none (fv : Value) (w : World) : Calls Try.prog 48 #[.slice none 0 0, .int .i64 0, fv] w fun e w' => e = .returned (.tuple #[]) ∧ w' = w := by
  have CI := Lib.hid (show ∀ w, Calls Try.prog 54 #[.slice none 0 0, .int .i64 0, .int .i64 0, fv] w fun e w' => e = .returned (.tuple #[]) ∧ w' = w from fun w => AnyF.insertionSortCmpFunc_none Try.insVer none 0 fv w)
  go_enter Try.func48, Try.ntmps48
  go_wp2
  refine wp_loop_rounds 1 ?_
  rw [rounds_succ]
  go_wp2_with (go_at_call 54; (with_reducible refine (CI.out _).mono ?_); rintro e w2 ⟨rfl, hw2⟩; obtain rfl := hw2.symm)
  refine wp_loop_rounds 1 ?_
  rw [rounds_succ]
  go_wp2_with fail
  go_end0
  exact ⟨rfl, rfl⟩
theorem swo_tag {cf : Vr → Vr → Int} (h : SWO (ltOf cf)) : SWO (ltOf (cfP cf)) := ⟨fun x => h.irrefl x.1, fun x y z => h.trans x.1 y.1 z.1, fun x y z => h.ntrans x.1 y.1 z.1⟩
set_option maxHeartbeats 1000000 in
theorem sort_vers {base : Nat} {v : Value} {l : List Vr} (w : World) (hown : ownE EV w base v l) (hl : l.length < 1000000) (cf : Vr → Vr → Int) (hcf : StampLt cf) (g : Nat) (cb : Array Value) (eg : ∀ args w, (callFunc g args).run Try.prog w = .ok (.enter g args) w) (hcmp : CmpV g cb cf) :
    Calls Try.prog 39 #[v, .func (.func g) #[] cb] w fun e w' => e = .returned (.tuple #[]) ∧ ownE EV w' base v (ordL l) ∧ w.grownBy w' v.ownBlock := by
  rcases hown.2 with ⟨rfl, h0⟩ | ⟨g1, cap, cur, rfl, hbase, hb, hn, hcap, hcs, ht⟩
  · obtain rfl := List.eq_nil_of_length_eq_zero h0
    have CS := Lib.hid (fun w => stable_none (.func (.func g) #[] cb) w)
    go_enter Try.func39, Try.ntmps39
    go_wp2_with (go_at_call 48; (with_reducible refine (CS.out _).mono ?_); rintro e w2 ⟨rfl, hw2⟩; obtain rfl := hw2.symm)
    go_end0
    exact ⟨rfl, ownE_nil _ _, World.grownBy.refl _ _⟩
  · have hlt : g1 < w.heap.size := (Array.getElem?_eq_some_iff.1 hb).1
    obtain ⟨d0, hd0⟩ : ∃ d0, d0 = (tagF 0 l).toArray := ⟨_, rfl⟩
    have hsz : d0.size = l.length := by rw [hd0, List.size_toArray, tagF_length]
    have hH : HoldsK (encT EV.cells) 7 w g1 0 d0 := by rw [hd0]; exact holds_ownE (E := EV) hb ht
    have R : RowK (encT EV.cells) 7 w g1 0 d0 := ⟨fun x => EV.len x.1, fun x => EV.one x.1, hH, hlt⟩
    have hC : CmpLays Try.prog g cb (encT EV.cells) 7 (cfP cf) g1 0 d0.size w := fun _ _ _ _ x y => hcmp x.1 y.1 _
    have hins : ∀ (a b : Nat) (d : Array (Vr × Nat)) (w1 : World), d.size = d0.size → SWK (encT EV.cells) 7 w g1 0 d w1 → a ≤ b → b ≤ d0.size → Calls Try.prog 54 #[.slice (some ⟨g1, 0, none⟩) d0.size cap, .int .i64 (a : Int), .int .i64 (b : Int), .func (.func g) #[] cb] w1 fun e w' => e = .returned (.tuple #[]) ∧ SWK (encT EV.cells) 7 w g1 0 (insertionSort (ltp (ltOf cf)) d a b) w' := fun a b d w1 hd S ha hb2 => by
      have := AnyQ.insertionSortCmpFunc_w Try.insVer 7 Try.isAgg45 Try.sizeOf45 (encT EV.cells) (cfP cf) g cb g1 0 cap a b d0 d w w1 eg hC R hd.symm S (swo_tag hcf.swo) ha (by omega) (by omega)
      rw [hd] at this
      exact this
    have CS := stable_w stabL EV.cells cf hcf.swo g cb g1 0 cap d0 w eg hC R (by omega) Try.func48 (enters_of Try.func54 (by kernel_rfl) rfl) hins (tagF 0 l) (by rw [tagF_length, hsz]) (tagF_asc 0 l) w (by rw [← hd0]; exact SWK.start hH)
    have CS2 : Hid (Calls Try.prog 48 #[.slice (some ⟨g1, 0, none⟩) l.length cap, .int .i64 (l.length : Int), .func (.func g) #[] cb] w fun e w' => e = .returned (.tuple #[]) ∧ ownE EV w' base (.slice (some ⟨g1, 0, none⟩) l.length cap) (ordL l) ∧ w.grownBy w' (some g1)) := by
      rw [hsz] at CS
      refine CS.mono ?_
      rintro e w' ⟨rfl, M, pm, om, n, os, rfl⟩
      have hM := ord_is hcf pm om
      have hml : M.length = l.length := by rw [pm.length_eq, tagF_length]
      obtain ⟨cur', hb', hs'⟩ := heap_sortedE (n := n) (k := 7) (enc := EV.cells) (d := M.toArray) (os := os) hb
      rw [← ordL_length l]
      refine ⟨rfl, ownE_of_row hb' hbase (fun i x hx => ⟨g1, 0, rfl, fun j u hu => ?_⟩) (by rw [ordL_length]; exact hn) hcap (by rw [hs']; exact hcs), grown_sortedE hlt⟩
      rw [← hM, List.getElem?_map] at hx
      obtain ⟨y, hy, rfl⟩ := Option.map_eq_some_iff.1 hx
      have hil : i < M.length := (List.getElem?_eq_some_iff.1 hy).1
      have hK := holdsK_sortWorldK (encT EV.cells) 7 w g1 0 n d0 M.toArray os hlt hH (by rw [List.size_toArray, hml, hsz])
      have hj : j < 7 := by
        have := (List.getElem?_eq_some_iff.1 hu).1
        rwa [EV.len] at this
      have c := (hK.cell (i := i) (c := j) (by simpa using hil) hj).1
      rw [getBangT hy] at c
      have eu : (encT EV.cells y)[j]! = u := by
        show (EV.cells y.1)[j]! = u
        rw [List.getElem!_eq_getElem?_getD, hu]; rfl
      rw [eu] at c
      rw [Nat.zero_add] at c ⊢
      exact c
    clear CS hins hC R hH hsz hd0 ht hcs hb
    generalize l.length = n at *
    go_enter Try.func39, Try.ntmps39
    go_wp2_with (go_at_call 48; (with_reducible refine CS2.out.mono ?_); rintro e w2 ⟨rfl, h1, h2⟩)
    go_end0
    exact ⟨rfl, h1, h2⟩

end Go.Proofs.Ytjpkeadnccodjaa
