/-
  The program's table of sixteen: what becomes of half a byte.
-/
import Derived.Test.YtdigbcglokjbjaaKone
import Derived.Deep.MidRow
namespace Go.Proofs.Ytdigbcglokjbjaa
open Go.RowKit

abbrev TT : TypeId := 38
theorem Try.infoTT : (Try.prog.info? TT).map (·.size) = some 16 := by kernel_rfl
/-- Block g holds the n words of T. -/
def Ar32 (w : World) (g : Nat) (T : Nat → Nat) (n : Nat) : Prop := g < w.heap.size ∧ ∀ i, i < n → w.cell? ⟨g, i, none⟩ = some (.int .u32 (T i)) ∧ w.frozen? ⟨g, i, none⟩ = false
theorem Ar32.below {W w : World} {g n : Nat} {T : Nat → Nat} (h : Ar32 W g T n) {B : Nat} (hg : g < B) (hb : Below B W w) : Ar32 w g T n :=
  ⟨Nat.lt_of_lt_of_le h.1 hb.size, fun i hi => ⟨(hb.cell (p := ⟨g, i, none⟩) hg).trans (h.2 i hi).1, (hb.frozen (p := ⟨g, i, none⟩) hg).trans (h.2 i hi).2⟩⟩
theorem Ar32.put {w : World} {g n p v : Nat} {T : Nat → Nat} (h : Ar32 w g T n) (hp : p < n) : Ar32 (w.setCell ⟨g, p, none⟩ (.int .u32 v)) g (upd T p v) n := by
  refine ⟨by simpa [World.setCell] using h.1, fun i hi => ?_⟩
  obtain ⟨c, f⟩ := h.2 i hi
  unfold upd
  by_cases e : i = p
  · subst e
    rw [if_pos rfl]
    exact ⟨World.cell?_setCell_same w _ _ c, by simpa [go_sem] using f⟩
  · rw [if_neg e]
    exact ⟨(World.cell?_setCell_other w _ _ _ (by simp [e])).trans c, by simpa [go_sem] using f⟩
theorem Ar32.aside {w : World} {g n h o : Nat} {v : Value} {T : Nat → Nat} (hA : Ar32 w g T n) (hn : h ≠ g) : Ar32 (w.setCell ⟨h, o, none⟩ v) g T n :=
  ⟨by simpa [World.setCell] using hA.1, fun i hi => ⟨(World.cell?_setCell_other w _ _ _ (by simp [hn])).trans (hA.2 i hi).1, by simpa [go_sem] using (hA.2 i hi).2⟩⟩
theorem Ar32.congr {w : World} {g n : Nat} {T U : Nat → Nat} (h : Ar32 w g T n) (e : ∀ i, i < n → T i = U i) : Ar32 w g U n := ⟨h.1, fun i hi => by rw [← e i hi]; exact h.2 i hi⟩
def noughts : Array Value := #[.int .u32 0, .int .u32 0, .int .u32 0, .int .u32 0, .int .u32 0, .int .u32 0, .int .u32 0, .int .u32 0, .int .u32 0, .int .u32 0, .int .u32 0, .int .u32 0, .int .u32 0, .int .u32 0, .int .u32 0, .int .u32 0]
theorem noughts_get : ∀ i, i < 16 → noughts[i]? = some (.int .u32 0) := by
  intro i hi
  have h : i = 0 ∨ i = 1 ∨ i = 2 ∨ i = 3 ∨ i = 4 ∨ i = 5 ∨ i = 6 ∨ i = 7 ∨ i = 8 ∨ i = 9 ∨ i = 10 ∨ i = 11 ∨ i = 12 ∨ i = 13 ∨ i = 14 ∨ i = 15 := by omega
  rcases h with rfl | rfl | rfl | rfl | rfl | rfl | rfl | rfl | rfl | rfl | rfl | rfl | rfl | rfl | rfl | rfl <;> rfl
theorem ar_new (w : World) (T : TypeId) : Ar32 (w.alloc (.cells noughts T)) w.heap.size (fun _ => 0) 16 := by
  refine ⟨by simp, fun i hi => ⟨?_, ?_⟩⟩
  · rw [cell_of_row _ _ i noughts T (0, 0) (heap_alloc_new w _)]
    exact noughts_get i hi
  · simp [go_sem]

/-- The table's words. -/
def tabV : List Value := (List.range 16).map fun i => .int .u32 ((zz 4 i : Nat) : Int)
def tabT (k : Nat) : Nat → Nat := fun j => if j < k then zz 4 j else 0
theorem tabT_put {k : Nat} : ∀ j, j < 16 → upd (tabT k) k (zz 4 k) j = tabT (k + 1) j := by
  intro j _
  unfold upd tabT
  by_cases e : j = k
  · rw [if_pos e, if_pos (by omega), e]
  · rw [if_neg e]
    by_cases h : j < k
    · rw [if_pos h, if_pos (by omega)]
    · rw [if_neg h, if_neg (by omega)]
theorem tab_range {w : World} {g : Nat} (h : Ar32 w g (tabT 16) 16) : w.rangeAt g 0 tabV := by
  intro j v hv
  unfold tabV at hv
  rw [List.getElem?_map] at hv
  rcases Nat.lt_or_ge j 16 with hj | hj
  · rw [List.getElem?_range hj] at hv
    rw [Nat.zero_add, (h.2 j hj).1]
    unfold tabT
    rw [if_pos hj]
    exact hv
  · rw [List.getElem?_eq_none (by simpa using hj)] at hv
    cases hv

def tabA : Array Value := tabV.toArray
theorem tabA_size : tabA.size = 16 := by kernel_rfl
theorem tabA_all : tabA.all (·.oneCell') = true := all_oneCell_toArray (by
  intro v hv
  unfold tabV at hv
  obtain ⟨i, _, rfl⟩ := List.mem_map.1 hv
  rfl)
theorem below_setCells {n b : Nat} {W : World} (hn : n ≤ b) : ∀ (vs : List Value) (o : Nat) (w : World), Below n W w → Below n W (w.setCells b o vs)
  | [], _, _, h => h
  | v :: r, o, w, h => by
    rw [World.setCells]
    exact below_setCells hn r (o + 1) _ (h.setCell hn _)
theorem results_one_cell {fn : Func} {p : Tmp} {ty : TypeId} {a : Addr} {v : Value} {tmps : Array Value} {P : Program} {w : World} (h : fn.results = #[.cell p ty]) (ht : tmps[p]? = some (.pointer (some a)))
    (hl : (loadVar ty a).run P w = .ok v w) : (results fn tmps).run P w = .ok v w := by
  simp only [results, h]
  simp [Sem.run_bind, Result.andThen, ht, asAddr, hl]
theorem ar_there {w : World} {g n : Nat} {T : Nat → Nat} (h : Ar32 w g T n) : w.there g 0 n := fun j hj => by
  rw [Nat.zero_add]
  exact ⟨by rw [(h.2 j hj).1]; rfl, (h.2 j hj).2⟩

set_option maxHeartbeats 4000000 in
set_option maxRecDepth 10000 in
theorem table_any (w : World) : Calls Try.prog 19 #[] w fun e w' => e = .returned (.agg tabA) ∧ Below w.heap.size w w' := by
  have A0 := Lib.hid (show Ar32 ((w.alloc (.cells noughts TT)).alloc (.cells noughts TT)) w.heap.size (fun _ => 0) 16 from (ar_new w TT).below (B := (w.alloc (.cells noughts TT)).heap.size) (by simp) ((bl _).alloc (Nat.le_refl _) _))
  have A1 := Lib.hid (show Ar32 ((w.alloc (.cells noughts TT)).alloc (.cells noughts TT)) (w.heap.size + 1) (fun _ => 0) 16 from by
    have := ar_new (w.alloc (.cells noughts TT)) TT
    rwa [show (w.alloc (.cells noughts TT)).heap.size = w.heap.size + 1 by simp] at this)
  go_enter Try.func19, Try.ntmps19
  go_wp2_with fail
  go_loopw [4] (fun i wr => ∃ k : Nat, k ≤ 16 ∧ i = .int .i64 k ∧ Ar32 wr (w.heap.size + 1) (tabT k) 16 ∧ Ar32 wr w.heap.size (fun _ => 0) 16 ∧ Below w.heap.size w wr) (fun i _ => 16 - (intOf i).toNat)
  case atStart => exact ⟨0, Nat.zero_le _, rfl, A1.out.congr fun j hj => by unfold tabT; rw [if_neg (by omega)], A0.out, ((bl w).alloc (Nat.le_refl _) _).alloc (by simp) _⟩
  case round =>
    obtain ⟨k, hk, rfl, hA, hA0, hB⟩ := hrel
    have HA := Lib.hid hA
    have HA0 := Lib.hid hA0
    have HB := Lib.hid hB
    clear hA hA0 hB
    by_cases hlt : k < 16
    · have hlt' : (k : Int) < 16 := by omega
      have hw : IntKind.u32.wrap (k : Int) = (k : Int) := by rw [IntKind.wrap_u32]; omega
      obtain ⟨c0, f0⟩ := HA.out.2 k hlt
      have NX := Lib.hid ((HA.out.put (v := zz 4 k) hlt).congr (tabT_put (k := k)))
      have NX0 := Lib.hid (HA0.out.aside (h := w.heap.size + 1) (o := k) (v := .int .u32 (zz 4 k)) (by omega))
      go_wp2_with fail
      go_loopw [3, 9] (fun x j wr' => ∃ t X : Nat, t ≤ 4 ∧ j = .int .i64 t ∧ zz t k = X ∧ X < 4294967296 ∧ x = .int .u32 (X : Int) ∧ wr' = wr) (fun _ j _ => 4 - (intOf j).toNat)
      case atStart => exact ⟨0, k, Nat.zero_le _, rfl, rfl, by omega, by go_num, rfl⟩
      case round =>
        obtain ⟨t, X, ht, rfl, hX, hXl, rfl, hwr⟩ := hrel
        obtain rfl := hwr.symm
        by_cases hl4 : t < 4
        · have hl4' : (t : Int) < 4 := by omega
          have CS := Lib.hid (fun w => pstep_any X hXl w)
          have NZ := Lib.hid (show zz (t + 1) k = z1 X by rw [zz_succ, hX])
          have NL := Lib.hid (show z1 X < 4294967296 from z1_lt hXl)
          clear hX
          generalize z1 X = Y at *
          go_wp2_with (go_at_call 25; with_reducible refine (CS.out _).mono ?_; rintro e w2 ⟨rfl, rfl⟩)
          exact ⟨⟨t + 1, Y, by omega, by go_num, NZ.out, NL.out, rfl, trivial⟩, by simp [intOf] <;> omega⟩
        · obtain rfl : t = 4 := by omega
          have HX := Lib.hid hX
          clear hX
          rw [HX.out] at NX NX0
          go_wp2_with fail
          exact ⟨⟨k + 1, by omega, by go_num, NX.out, NX0.out, HB.out.setCell (p := ⟨w.heap.size + 1, k, none⟩) (Nat.le_succ _) _⟩, by simp [intOf] <;> omega⟩
    · obtain rfl : k = 16 := by omega
      have HBS := Lib.hid (below_setCells (Nat.le_refl _) tabV 0 wr HB.out)
      have RG := Lib.hid (World.rangeAt_setCells_same wr w.heap.size 0 tabV (ar_there HA0.out))
      go_upto_region 12 with fail
      refine wp_region_list ?_
      refine wpList_load_mid rfl TT (.tmp 1) rfl (w.heap.size + 1) 0 rfl tabV _ (tab_range HA.out) Try.underlying38 rfl Try.infoTT ?_
      refine wpList_store_mid rfl TT (.tmp 0) (.tmp 18) rfl w.heap.size 0 tabA rfl rfl (ar_there HA0.out) Try.infoTT tabA_all ?_
      have HT := Lib.hid (show tabA.toList = tabV from rfl)
      rw [HT.out]
      generalize wr.setCells w.heap.size 0 tabV = wS at *
      go_wp2_with fail
      refine bodyPost_ret (v := .agg tabA) ?_ rfl ⟨rfl, HBS.out⟩
      exact results_one_cell (a := ⟨w.heap.size, 0, none⟩) rfl rfl (run_loadVar_mid (P := Try.prog) wS w.heap.size 0 TT tabV _ RG.out Try.underlying38 rfl Try.infoTT)

end Go.Proofs.Ytdigbcglokjbjaa
