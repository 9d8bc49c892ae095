/-
  The program's Setter: the newest version that sets a name, found in one walk over the versions as they stand.
-/
import Derived.Test.YtjpkeadnccodjaaGpget1
import Derived.Test.YtjpkeadnccodjaaVof
namespace Go.Proofs.Ytjpkeadnccodjaa
open Go.RowKit

theorem counts_any (v : Vr) (w : World) : Calls Try.prog 30 #[vv v] w fun e w' => e = .returned (.bool (!v.gone)) ∧ w' = w.alloc (ocV v) := by
  obtain ⟨id, st, ent, sf, se, fa, fc, fs, gone⟩ := v
  cases gone
  all_goals
    go_enter Try.func30, Try.ntmps30
    go_wp2_with fail
    go_ret
    exact ⟨rfl, rfl⟩

theorem lastS_mem : ∀ {O : List Vr} {s : ByteArray} {n : Int}, lastS O s = some n → ∃ v ∈ O, v.st = n
  | [], _, _, h => by simp [lastS] at h
  | v :: O, s, n, h => by
    rw [lastS] at h
    cases hr : lastS O s with
    | some m =>
      rw [hr] at h
      obtain ⟨x, hx, e⟩ := lastS_mem hr
      exact ⟨x, List.mem_cons_of_mem _ hx, e.trans (Option.some.inj h)⟩
    | none =>
      rw [hr] at h
      by_cases hb : setsB v s = true
      · simp only [if_pos hb, Option.some.injEq] at h
        exact ⟨v, List.mem_cons_self, h⟩
      · simp [if_neg hb] at h
/-- One version more. -/
def nextS (T : Option Int) (x : Vr) (s : ByteArray) : Option Int := if setsB x s then (match T with | some n => if n ≤ x.st then some x.st else some n | none => some x.st) else T
theorem lastS_ins : ∀ (O : List Vr) (x : Vr) (s : ByteArray), SortedV O → lastS (insV O x) s = nextS (lastS O s) x s
  | [], x, s, _ => by simp [insV, lastS, nextS]
  | y :: O, x, s, h => by
    obtain ⟨h1, h2⟩ := List.pairwise_cons.1 h
    rw [insV]
    split
    · rename_i hle
      rw [lastS, lastS_ins O x s h2, lastS]
      unfold nextS
      by_cases hb : setsB x s = true
      · rw [if_pos hb, if_pos hb]
        cases lastS O s with
        | some n => by_cases hn : n ≤ x.st <;> simp [hn]
        | none =>
          simp only []
          by_cases hy : setsB y s = true
          · simp [if_pos hy, hle]
          · simp [if_neg hy]
      · rw [if_neg hb, if_neg hb]
    · rename_i hgt
      rw [lastS]
      unfold nextS
      cases hr : lastS (y :: O) s with
      | none => simp only []
      | some n =>
        obtain ⟨z, hz, e⟩ := lastS_mem hr
        have : x.st < n := by
          rw [← e]
          rcases List.mem_cons.1 hz with rfl | hz
          · omega
          · have := h1 z hz; omega
        simp only []
        rw [if_neg (by omega : ¬ n ≤ x.st)]
        split <;> rfl
theorem setL_next {l : List Vr} {k : Nat} {x : Vr} (h : l[k]? = some x) (s : ByteArray) : setL s (l.take (k + 1)) = nextS (setL s (l.take k)) x s := by
  unfold setL
  rw [List.take_add_one, h, Option.toList_some, ordL_snoc, lastS_ins _ _ _ (ordL_sorted _)]

set_option maxHeartbeats 4000000 in
set_option maxRecDepth 10000 in
theorem psetter_any (w : World) (s : ByteArray) (u : Value) (l : List Vr) (hl : VersL w u l) (hf : fewV l) : Ret 16 #[.string s, u] w (.tuple #[.int .i64 ((setL s l).getD 0), .bool (setL s l).isSome]) := by
  obtain ⟨⟨A, c, rfl, hA, hc, hnc⟩, hVF⟩ := hl
  have HA := Lib.hid hA
  have HVF := Lib.hid hVF
  have HFS := Lib.hid hf.2
  obtain ⟨n, hnm⟩ : ∃ n, l.length = n := ⟨_, rfl⟩
  have hn2 : n ≤ 200 := by rw [← hnm]; exact hf.1
  rw [hnm] at hc ⊢
  have HN := Lib.hid hnm
  obtain ⟨R, hR⟩ : ∃ R, setL s l = R := ⟨_, rfl⟩
  rw [hR]
  have HR := Lib.hid hR
  clear hA hc hnc hVF hnm hf hR
  go_enter Try.func16, Try.ntmps16
  go_wp2_with fail
  go_loopw [6, 7, 14] (fun st fd i wr => ∃ (t : Nat) (T : Option Int), t ≤ n ∧ i = .int .i64 (t : Nat) ∧ T = setL s (l.take t) ∧ st = .int .i64 (T.getD 0) ∧ fd = .bool T.isSome ∧ Below w.heap.size w wr) (fun _ _ i _ => n - (intOf i).toNat)
  case atStart => exact ⟨0, none, Nat.zero_le _, rfl, rfl, rfl, rfl, bl w⟩
  case round =>
    obtain ⟨t, T, ht, rfl, hT, rfl, rfl, hB⟩ := hrel
    have HB := Lib.hid hB
    clear hB
    by_cases hlt : t < n
    · have hlt' : (t : Int) < (n : Int) := by omega
      obtain ⟨v, hx⟩ : ∃ v, l[t]? = some v := ⟨_, List.getElem?_eq_getElem (by have := HN.out; omega)⟩
      obtain ⟨g, off, rfl, hX⟩ := (HA.out.below HB.out).cells7 hx
      have hv := HVF.out v (List.mem_of_getElem? hx)
      have CG := Lib.hid (fun w' (h : Below w.heap.size w w') => pget_any w' (.slice v.fa v.fs.length v.fc) v.fs s (hv.below h).list (by have := HFS.out v (List.mem_of_getElem? hx); omega))
      have CC := Lib.hid (fun w' => counts_any v w')
      have NX := setL_next hx s
      rw [← hT] at NX
      obtain ⟨z0, z1, z2, z3, z4, z5, z6⟩ := hX
      clear hv hx hT
      have E : setsB v s = ((getL v.fs s).isSome && !v.gone) := rfl
      unfold nextS at NX
      rw [E] at NX
      clear E
      have HNX := Lib.hid NX
      clear NX
      generalize (getL v.fs s).isSome = is at *
      generalize (getL v.fs s).getD 0 = q at *
      obtain ⟨id, st, ent, sf, se, fa, fc, fs, gone⟩ := v
      dsimp only at *
      cases gone with
      | true =>
        have NX := Lib.hid (show T = setL s (l.take (t + 1)) by rw [HNX.out]; simp)
        go_wp2_with (go_at_call 30; (with_reducible refine (CC.out _).mono ?_); rintro e w2 ⟨rfl, rfl⟩)
        exact ⟨⟨t + 1, T, by omega, by go_num, NX.out, rfl, rfl, by (repeat (first | exact HB.out | refine belowN ?_ _ | refine Below.alloc ?_ (by have hsz := Below.size HB.out; first | omega | (simp; done) | (simp; omega) | (simp at hsz ⊢; omega)) _))⟩, by simp [intOf] <;> omega⟩
      | false =>
        cases T with
        | none =>
          cases is with
          | false =>
            have NX := Lib.hid (show none = setL s (l.take (t + 1)) by rw [HNX.out]; simp)
            clear HNX
            go_wp2_with (first
              | (go_at_call 30; (with_reducible refine (CC.out _).mono ?_); rintro e w2 ⟨rfl, rfl⟩)
              | (go_at_call 31; (with_reducible refine (CG.out _ (by (repeat (first | exact HB.out | refine belowN ?_ _ | refine Below.alloc ?_ (by have hsz := Below.size HB.out; first | omega | (simp; done) | (simp; omega) | (simp at hsz ⊢; omega)) _)))).mono ?_); rintro e w3 ⟨rfl, hb3⟩; have k1 : w3.cell? ⟨wr.heap.size, 1, none⟩ = some (.int .i64 st) := keepc hb3 (by simp [go_sem])))
            exact ⟨⟨t + 1, none, by omega, by go_num, NX.out, rfl, rfl, chain (by (repeat (first | exact HB.out | refine belowN ?_ _ | refine Below.alloc ?_ (by have hsz := Below.size HB.out; first | omega | (simp; done) | (simp; omega) | (simp at hsz ⊢; omega)) _))) hb3⟩, by simp [intOf] <;> omega⟩
          | true =>
            have NX := Lib.hid (show some st = setL s (l.take (t + 1)) by rw [HNX.out]; simp)
            clear HNX
            go_wp2_with (first
              | (go_at_call 30; (with_reducible refine (CC.out _).mono ?_); rintro e w2 ⟨rfl, rfl⟩)
              | (go_at_call 31; (with_reducible refine (CG.out _ (by (repeat (first | exact HB.out | refine belowN ?_ _ | refine Below.alloc ?_ (by have hsz := Below.size HB.out; first | omega | (simp; done) | (simp; omega) | (simp at hsz ⊢; omega)) _)))).mono ?_); rintro e w3 ⟨rfl, hb3⟩; have k1 : w3.cell? ⟨wr.heap.size, 1, none⟩ = some (.int .i64 st) := keepc hb3 (by simp [go_sem])))
            exact ⟨⟨t + 1, some st, by omega, by go_num, NX.out, rfl, rfl, chain (by (repeat (first | exact HB.out | refine belowN ?_ _ | refine Below.alloc ?_ (by have hsz := Below.size HB.out; first | omega | (simp; done) | (simp; omega) | (simp at hsz ⊢; omega)) _))) hb3⟩, by simp [intOf] <;> omega⟩
        | some m =>
          by_cases hm : st < m
          · have NX := Lib.hid (show some m = setL s (l.take (t + 1)) by rw [HNX.out]; cases is <;> simp <;> omega)
            clear HNX
            have hm' : st < (some m).getD 0 := hm
            go_wp2_with (go_at_call 30; (with_reducible refine (CC.out _).mono ?_); rintro e w2 ⟨rfl, rfl⟩)
            exact ⟨⟨t + 1, some m, by omega, by go_num, NX.out, rfl, rfl, by (repeat (first | exact HB.out | refine belowN ?_ _ | refine Below.alloc ?_ (by have hsz := Below.size HB.out; first | omega | (simp; done) | (simp; omega) | (simp at hsz ⊢; omega)) _))⟩, by simp [intOf] <;> omega⟩
          · have hm' : ¬ st < (some m).getD 0 := hm
            cases is with
            | false =>
              have NX := Lib.hid (show some m = setL s (l.take (t + 1)) by rw [HNX.out]; simp)
              clear HNX
              go_wp2_with (first
                | (go_at_call 30; (with_reducible refine (CC.out _).mono ?_); rintro e w2 ⟨rfl, rfl⟩)
                | (go_at_call 31; (with_reducible refine (CG.out _ (by (repeat (first | exact HB.out | refine belowN ?_ _ | refine Below.alloc ?_ (by have hsz := Below.size HB.out; first | omega | (simp; done) | (simp; omega) | (simp at hsz ⊢; omega)) _)))).mono ?_); rintro e w3 ⟨rfl, hb3⟩; have k1 : w3.cell? ⟨wr.heap.size, 1, none⟩ = some (.int .i64 st) := keepc hb3 (by simp [go_sem])))
              exact ⟨⟨t + 1, some m, by omega, by go_num, NX.out, rfl, rfl, chain (by (repeat (first | exact HB.out | refine belowN ?_ _ | refine Below.alloc ?_ (by have hsz := Below.size HB.out; first | omega | (simp; done) | (simp; omega) | (simp at hsz ⊢; omega)) _))) hb3⟩, by simp [intOf] <;> omega⟩
            | true =>
              have NX := Lib.hid (show some st = setL s (l.take (t + 1)) by rw [HNX.out]; simp; omega)
              clear HNX
              go_wp2_with (first
                | (go_at_call 30; (with_reducible refine (CC.out _).mono ?_); rintro e w2 ⟨rfl, rfl⟩)
                | (go_at_call 31; (with_reducible refine (CG.out _ (by (repeat (first | exact HB.out | refine belowN ?_ _ | refine Below.alloc ?_ (by have hsz := Below.size HB.out; first | omega | (simp; done) | (simp; omega) | (simp at hsz ⊢; omega)) _)))).mono ?_); rintro e w3 ⟨rfl, hb3⟩; have k1 : w3.cell? ⟨wr.heap.size, 1, none⟩ = some (.int .i64 st) := keepc hb3 (by simp [go_sem])))
              exact ⟨⟨t + 1, some st, by omega, by go_num, NX.out, rfl, rfl, chain (by (repeat (first | exact HB.out | refine belowN ?_ _ | refine Below.alloc ?_ (by have hsz := Below.size HB.out; first | omega | (simp; done) | (simp; omega) | (simp at hsz ⊢; omega)) _))) hb3⟩, by simp [intOf] <;> omega⟩
    · obtain rfl : t = n := by omega
      have hlt' : ¬ (t : Int) < (t : Int) := by omega
      have HE := Lib.hid (show T = R by rw [hT, List.take_of_length_le (by have := HN.out; omega), HR.out])
      clear hT
      go_wp2_with fail
      go_ret2
      exact ⟨by rw [HE.out]; rfl, HB.out⟩

end Go.Proofs.Ytjpkeadnccodjaa
