/-
  StateNewest gives back true for any versions.
-/
import Derived.Test.YtjpkeadnccodjaaVlorder
namespace Go.Proofs.Ytjpkeadnccodjaa
open Go.RowKit

/-- The first fields give what their names give. -/
def FirstV (v : Vr) (k : Nat) : Prop := ∀ j f, j < k → v.fs[j]? = some f → (getL v.fs f.n).getD 0 = f.v
theorem getL_isSome {l : List Fd} {f : Fd} (h : f ∈ l) : (getL l f.n).isSome = true := by
  induction l with
  | nil => simp at h
  | cons g l ih =>
    rw [getL]
    by_cases e : nats g.n = nats f.n
    · rw [if_pos e]; rfl
    · rw [if_neg e]
      rcases List.mem_cons.1 h with rfl | h
      · exact absurd rfl e
      · exact ih h
theorem first_sole {v : Vr} (h : FirstV v v.fs.length) : SoleV v := fun f hf => by
  obtain ⟨j, hj, e⟩ := List.getElem_of_mem hf
  have h1 := h j f hj (by rw [List.getElem?_eq_getElem hj, e])
  have h2 := getL_isSome hf
  cases hg : getL v.fs f.n with
  | none => rw [hg] at h2; cases h2
  | some n => rw [hg] at h1; rw [← h1]; rfl
/-- What is told of a field that versions make. -/
theorem newest_of {l : List Vr} (hs : ∀ v ∈ l, SoleV v) {f : Fd} (hf : f ∈ ofL l) : ∃ v ∈ l, setL f.n l = some v.st ∧ v.gone = false ∧ getL v.fs f.n = some f.v := by
  have h1 : getL (ofL l) f.n = some f.v := by
    have hr : Rises (ofL l) := overL_rises _
    clear hs
    generalize ofL l = R at *
    induction R with
    | nil => simp at hf
    | cons g R ih =>
      rw [getL]
      rcases List.mem_cons.1 hf with rfl | hf
      · rw [if_pos rfl]
      · rw [if_neg (fun e => ahead_ne (hr.1 f hf) e)]
        exact ih hf hr.2
  unfold ofL at h1
  rw [overL_get] at h1
  obtain ⟨v, hv, k1, k2, k3⟩ := newest (ordL l) f.n f.v (fun v hv => hs v ((ordL_perm l).mem_iff.1 hv)) h1
  exact ⟨v, (ordL_perm l).mem_iff.1 hv, k1, k2, k3⟩

set_option maxHeartbeats 4000000 in
set_option maxRecDepth 10000 in
theorem newest_walk (u : Value) (l : List Vr) (w : World) (hl : VersL w u l) (hok : ∀ v ∈ l, okF v.fs) (hn : l.length ≤ 9223372036854775807) : Ret 7 #[u] w (.bool true) := by
  have CAL := Lib.hid alive_any
  have CF := Lib.hid (dfew_any w u l 100 hl.1 hn)
  have HV := Lib.hid hl
  obtain ⟨⟨A, c, rfl, hA, hc, hnc⟩, hVF⟩ := hl
  have HA := Lib.hid hA
  have HVF := Lib.hid hVF
  have HOK := Lib.hid hok
  clear hVF hok hA hnc hc
  cases hf : fewB l 100 with
  | false =>
    rw [hf] at CF
    clear hf
    generalize l.length = N at *
    go_enter Try.func7, Try.ntmps7
    go_wp2_with (first
      | (go_at_call 8; (with_reducible refine CF.out.mono ?_); rintro e w1 ⟨rfl, rfl⟩)
      | (go_at_call 9; (with_reducible refine (CAL.out _).mono ?_); rintro e w2 ⟨rfl, hb⟩))
    go_ret
    exact ⟨rfl, hb⟩
  | true =>
    have hfew := few_of hf (by decide)
    rw [hf] at CF
    have HFEW := Lib.hid hfew
    clear hf
    obtain ⟨N, hN⟩ : ∃ N, l.length = N := ⟨_, rfl⟩
    have hN2 : N ≤ 200 := by rw [← hN]; exact hfew.1
    rw [hN] at CF HV ⊢
    have HN := Lib.hid hN
    clear hfew hN hn
    go_enter Try.func7, Try.ntmps7
    go_wp2_with (first
      | (go_at_call 8; (with_reducible refine CF.out.mono ?_); rintro e w1 ⟨rfl, rfl⟩))
    go_loopw [23] (fun i wr => ∃ t q, t ≤ N ∧ i = .int .i64 (t : Nat) ∧ ApartV l t ∧ (∀ j v, j < t → l[j]? = some v → SoleV v) ∧ wr = w1.drewN q) (fun i _ => N - (intOf i).toNat)
    case atStart =>
      refine ⟨0, 0, Nat.zero_le _, rfl, fun i j x y hi => absurd hi (by omega), ?_, rfl⟩
      intro j v hj
      exact absurd hj (by omega)
    case round =>
      obtain ⟨t, q, ht, rfl, hap, hso, rfl⟩ := hrel
      have HAP := Lib.hid hap
      have HSO := Lib.hid hso
      clear hap hso
      by_cases hlt : t < N
      · have hlt' : (t : Int) < (N : Int) := by omega
        obtain ⟨v, hv⟩ : ∃ v, l[t]? = some v := ⟨_, List.getElem?_eq_getElem (by have := HN.out; omega)⟩
        obtain ⟨g, off, rfl, hX⟩ := HA.out.cells7 hv
        have HVt := Lib.hid hv
        have HX1 := Lib.hid hX.2.1
        have HX5 := Lib.hid hX.2.2.2.2.2.1
        have HVv := Lib.hid (HVF.out v (List.mem_of_getElem? hv))
        have z5 := HX5.out
        have CG := Lib.hid (fun p s => dget_any (w1.drewN p) v.fa v.fc v.fs s ((HVv.out.below (belowN (bl w1) p)).1) (by have := HFEW.out.2 v (List.mem_of_getElem? hv); omega))
        clear hX hv
        obtain ⟨m, hm⟩ : ∃ m, v.fs.length = m := ⟨_, rfl⟩
        have hm2 : m ≤ 100 := by rw [← hm]; exact HFEW.out.2 v (List.mem_of_getElem? HVt.out)
        rw [hm] at z5
        have HM := Lib.hid hm
        go_wp2_with fail
        go_loopw [32] (fun i wr => ∃ k p, k ≤ m ∧ i = .int .i64 (k : Nat) ∧ FirstV v k ∧ wr = w1.drewN p) (fun i _ => m - (intOf i).toNat)
        case atStart => exact ⟨0, q, Nat.zero_le _, rfl, fun j y hj => absurd hj (by omega), rfl⟩
        case round =>
          obtain ⟨k, p, hk, rfl, hfi, rfl⟩ := hrel
          have HFI := Lib.hid hfi
          clear hfi
          by_cases hkm : k < m
          · have hkm' : (k : Int) < (m : Int) := by omega
            obtain ⟨f, hff⟩ : ∃ f, v.fs[k]? = some f := ⟨_, List.getElem?_eq_getElem (by have := HM.out; omega)⟩
            obtain ⟨g2, off2, hfa, b0, b1⟩ := HVv.out.1 k f hff
            have CGf := Lib.hid (show ∀ p, Same 23 #[.slice (some ⟨g2, off2, none⟩) m v.fc, .string f.n] (w1.drewN p) (.tuple #[.int .i64 ((getL v.fs f.n).getD 0), .bool (getL v.fs f.n).isSome]) from fun p => by
              have := CG.out p f.n
              rwa [hfa, HM.out] at this)
            have z5' := z5
            rw [hfa] at z5'
            have HFF := Lib.hid hff
            clear hff z5
            generalize hq : (getL v.fs f.n).getD 0 = q1 at *
            generalize (getL v.fs f.n).isSome = q2 at *
            by_cases hqv : q1 = f.v
            · have hqb : (q1 != f.v) = false := by rw [bne_eq_false_iff_eq]; exact hqv
              have NX := Lib.hid (show FirstV v (k + 1) from fun j y hj hy => by
                rcases Nat.lt_or_ge j k with h1 | h1
                · exact HFI.out j y h1 hy
                · obtain rfl : j = k := by omega
                  rw [HFF.out] at hy
                  rw [← Option.some.inj hy, hq, hqv])
              subst hqv
              clear hq hfa
              go_wp2_with fail
              go_quiet (first | (go_at_call 23; exact (CGf.out _).mono fun e w' h => ⟨h.1, _, h.2⟩))
              go_wp2_with fail
              exact ⟨⟨k + 1, _, by omega, by go_num, NX.out, rfl⟩, by simp [intOf] <;> omega⟩
            · have hqb : (q1 != f.v) = true := by rw [bne_iff_ne]; exact hqv
              have hqd : ¬ q1 = f.v := hqv
              clear hq hfa hqv
              go_wp2_with fail
              go_quiet (first | (go_at_call 23; exact (CGf.out _).mono fun e w' h => ⟨h.1, _, h.2⟩))
              go_wp2_with (go_at_call 9; (with_reducible refine (CAL.out _).mono ?_); rintro e w2 ⟨rfl, hb⟩)
              go_ret
              exact ⟨rfl, (belowN (bl w1) _).trans (hb.mono (by simp))⟩
          · obtain rfl : k = m := by omega
            have hkm' : ¬ (k : Int) < (k : Int) := by omega
            have HSV := Lib.hid (first_sole (v := v) (by rw [HM.out]; exact HFI.out))
            go_wp2_with fail
            go_loopw [67] (fun i wr => ∃ k p, k ≤ t ∧ i = .int .i64 (k : Nat) ∧ (∀ j y, j < k → l[j]? = some y → v.st ≠ y.st) ∧ wr = w1.drewN p) (fun i _ => t - (intOf i).toNat)
            case atStart => exact ⟨0, p, Nat.zero_le _, rfl, fun j y hj => absurd hj (by omega), rfl⟩
            case round =>
              obtain ⟨k2, p2, hk2, rfl, hne, rfl⟩ := hrel
              have HNE := Lib.hid hne
              clear hne
              by_cases hkt : k2 < t
              · have hkt' : (k2 : Int) < (t : Int) := by omega
                have hkN : (k2 : Int) < (N : Int) := by omega
                obtain ⟨y, hy⟩ : ∃ y, l[k2]? = some y := ⟨_, List.getElem?_eq_getElem (by have := HN.out; omega)⟩
                have y1 : w1.cell? ⟨g, off + k2 * 7 + 1, none⟩ = some (.int .i64 y.st) := HA.out.at hy (j := 1) rfl
                have x1 := HX1.out
                by_cases hst : v.st = y.st
                · rw [← hst] at y1
                  clear hst hy z5
                  go_wp2_with fail
                  go_quiet (fail)
                  go_wp2_with (go_at_call 9; (with_reducible refine (CAL.out _).mono ?_); rintro e w2 ⟨rfl, hb⟩)
                  go_ret
                  exact ⟨rfl, (belowN (bl w1) _).trans (hb.mono (by simp))⟩
                · have hsb : (v.st == y.st) = false := by rw [beq_eq_false_iff_ne]; exact hst
                  have hsd : ¬ v.st = y.st := hst
                  have NX := Lib.hid (show ∀ j z, j < k2 + 1 → l[j]? = some z → v.st ≠ z.st from fun j z hj hz => by
                    rcases Nat.lt_or_ge j k2 with h1 | h1
                    · exact HNE.out j z h1 hz
                    · obtain rfl : j = k2 := by omega
                      rw [hy] at hz
                      rw [← Option.some.inj hz]; exact hst)
                  clear hy hst z5
                  go_wp2_with fail
                  go_quiet (fail)
                  go_wp2_with fail
                  exact ⟨⟨k2 + 1, _, by omega, by go_num, NX.out, rfl⟩, by simp [intOf] <;> omega⟩
              · obtain rfl : k2 = t := by omega
                have hkt' : ¬ (k2 : Int) < (k2 : Int) := by omega
                have NX := Lib.hid (show ApartV l (k2 + 1) from fun i j x y hi hj hx hy => by
                  rcases Nat.lt_or_ge i k2 with h1 | h1
                  · exact HAP.out i j x y h1 hj hx hy
                  · obtain rfl : i = k2 := by omega
                    rw [HVt.out] at hx
                    rw [← Option.some.inj hx]
                    exact HNE.out j y hj hy)
                have NX2 := Lib.hid (show ∀ j x, j < k2 + 1 → l[j]? = some x → SoleV x from fun j x hj hx => by
                  rcases Nat.lt_or_ge j k2 with h1 | h1
                  · exact HSO.out j x h1 hx
                  · obtain rfl : j = k2 := by omega
                    rw [HVt.out] at hx
                    rw [← Option.some.inj hx]; exact HSV.out)
                clear z5
                go_wp2_with fail
                exact ⟨⟨k2 + 1, p2, by omega, by go_num, NX.out, NX2.out, rfl⟩, by simp [intOf] <;> omega⟩
      · obtain rfl : t = N := by omega
        have hlt' : ¬ (t : Int) < (t : Int) := by omega
        have HD := Lib.hid (show DistV l from apart_dist (by rw [HN.out]; exact HAP.out))
        have HSA := Lib.hid (show ∀ v ∈ l, SoleV v from fun v hv => by
          obtain ⟨j, hj, e⟩ := List.getElem_of_mem hv
          exact HSO.out j v (by have := HN.out; omega) (by rw [List.getElem?_eq_getElem hj, e]))
        have HNW := Lib.hid (fun f hf => newest_of (l := l) HSA.out (f := f) hf)
        have CO := Lib.hid (pof_any (w1.drewN q) _ l (HV.out.below (belowN (bl w1) q)) HFEW.out HOK.out)
        have CS := Lib.hid (fun w' s (h : Below w1.heap.size w1 w') => psetter_any w' s _ l (HV.out.below h) HFEW.out)
        have hRn := of_length HFEW.out
        obtain ⟨R, hR⟩ : ∃ R, ofL l = R := ⟨_, rfl⟩
        rw [hR] at CO HNW hRn
        clear hR
        go_wp2_with (go_at_call 14; (with_reducible refine CO.out.mono ?_); rintro e w5 ⟨u5, rfl, ⟨A5, c5, rfl, hr5, hc5, hn5⟩, hb5⟩; have HR5 := Lib.hid hr5; have HB5 := Lib.hid ((belowN (bl w1) q).trans (hb5.mono (by simp))); clear hr5 hc5 hn5 hb5)
        obtain ⟨M, hM⟩ : ∃ M, R.length = M := ⟨_, rfl⟩
        rw [hM] at hRn ⊢
        have HM := Lib.hid hM
        clear hM
        go_loopw [3, 88] (fun nm i wr => ∃ t', t' ≤ M ∧ i = .int .i64 (t' : Nat) ∧ nm = .int .i64 (t' : Nat) ∧ Below w1.heap.size w1 wr ∧ Below w5.heap.size w5 wr) (fun _ i _ => M - (intOf i).toNat)
        case atStart => exact ⟨0, Nat.zero_le _, rfl, rfl, HB5.out, bl w5⟩
        case round =>
          obtain ⟨r, hr, rfl, rfl, hBa, hBb⟩ := hrel
          have HBa := Lib.hid hBa
          have HBb := Lib.hid hBb
          clear hBa hBb
          by_cases hrM : r < M
          · have hrM' : (r : Int) < (M : Int) := by omega
            obtain ⟨f, hf⟩ : ∃ f, R[r]? = some f := ⟨_, List.getElem?_eq_getElem (by have := HM.out; omega)⟩
            obtain ⟨g, off, rfl, c0, c1⟩ := (HR5.out.below HBb.out) r f hf
            obtain ⟨v, hv, k1, k2, k3⟩ := HNW.out f (List.mem_of_getElem? hf)
            obtain ⟨i0, hi0, e0⟩ := List.getElem_of_mem hv
            have HI0 := Lib.hid (show l[i0]? = some v by rw [List.getElem?_eq_getElem hi0, e0])
            have hi0N : i0 < t := by have := HN.out; omega
            have C1 := Lib.hid (show ∀ w', Below w1.heap.size w1 w' → Ret 16 #[.string f.n, .slice A t c] w' (.tuple #[.int .i64 v.st, .bool true]) from fun w' h => by
              have := CS.out w' f.n h
              rwa [k1] at this)
            have HK2 := Lib.hid k2
            have HK3 := Lib.hid k3
            clear hf hv k1 k2 k3 hi0 e0
            obtain ⟨b, hb⟩ : ∃ b, wr.heap.size = b := ⟨_, rfl⟩
            have HBK := Lib.hid hb
            clear hb
            go_wp2_with (go_at_call 16; (refine (C1.out _ (HBa.out.alloc HBa.out.size _)).mono ?_); rintro e w6 ⟨rfl, hb6⟩; have b0 : w6.cell? ⟨wr.heap.size, 0, none⟩ = some (.string f.n) := keepc hb6 (by simp [go_sem]); have b1 : w6.cell? ⟨wr.heap.size, 1, none⟩ = some (.int .i64 f.v) := keepc hb6 (by simp [go_sem]); have HB6 := Lib.hid (show Below wr.heap.size wr w6 from ((bl wr).alloc (Nat.le_refl _) _).trans (hb6.mono (by simp))); clear hb6)
            have HW6 := Lib.hid (chain HBa.out HB6.out)
            have HW65 := Lib.hid (chain HBb.out HB6.out)
            go_loopw [3, 103] (fun nm i wr' => ∃ (i' p e : Nat), i' ≤ t ∧ i = .int .i64 (i' : Nat) ∧ nm = .int .i64 (e : Nat) ∧ (e = r ∧ i' ≤ i0 ∨ e = r + 1 ∧ i0 < i') ∧ wr' = w6.drewN p) (fun _ i _ => t - (intOf i).toNat)
            case atStart => exact ⟨0, 0, r, Nat.zero_le _, rfl, rfl, .inl ⟨rfl, Nat.zero_le _⟩, rfl⟩
            case round =>
              obtain ⟨i', p, e, hi', rfl, rfl, he, rfl⟩ := hrel
              have he2 : e ≤ 30000 := by omega
              have HE := Lib.hid he
              clear he
              by_cases hit : i' < t
              · have hit' : (i' : Int) < (t : Int) := by omega
                obtain ⟨x, hx⟩ : ∃ x, l[i']? = some x := ⟨_, List.getElem?_eq_getElem (by have := HN.out; omega)⟩
                obtain ⟨g3, off3, rfl, hX⟩ := (HA.out.below HW6.out).cells7 hx
                have CG := Lib.hid (fun p => dget_any (w6.drewN p) x.fa x.fc x.fs f.n (((HVF.out x (List.mem_of_getElem? hx)).below (HW6.out.trans (belowN (bl w6) p |>.mono HW6.out.size))).1) (by have := HFEW.out.2 x (List.mem_of_getElem? hx); omega))
                have z1 := hX.2.1
                have z5 := hX.2.2.2.2.2.1
                have z6 := hX.2.2.2.2.2.2
                by_cases hst : x.st = v.st
                · have hii : i' = i0 := by
                    have hdd := HD.out
                    rcases Nat.lt_trichotomy i' i0 with h1 | h1 | h1
                    · have hia : i' < l.length := by have := HN.out; omega
                      have hib : i0 < l.length := by have := HN.out; omega
                      have := List.pairwise_iff_getElem.1 hdd i' i0 hia hib h1
                      have ex : l[i'] = x := by rw [List.getElem?_eq_getElem hia] at hx; exact Option.some.inj hx
                      have ev : l[i0] = v := by have h := HI0.out; rw [List.getElem?_eq_getElem hib] at h; exact Option.some.inj h
                      rw [ex, ev] at this
                      exact absurd hst this
                    · exact h1
                    · have hia : i' < l.length := by have := HN.out; omega
                      have hib : i0 < l.length := by have := HN.out; omega
                      have := List.pairwise_iff_getElem.1 hdd i0 i' hib hia h1
                      have ex : l[i'] = x := by rw [List.getElem?_eq_getElem hia] at hx; exact Option.some.inj hx
                      have ev : l[i0] = v := by have h := HI0.out; rw [List.getElem?_eq_getElem hib] at h; exact Option.some.inj h
                      rw [ex, ev] at this
                      exact absurd hst.symm this
                  obtain rfl : x = v := by
                    have h := HI0.out
                    rw [← hii, hx] at h
                    exact Option.some.inj h
                  have NX := Lib.hid (show e + 1 = r ∧ i' + 1 ≤ i0 ∨ e + 1 = r + 1 ∧ i0 < i' + 1 by
                    rcases HE.out with h | h
                    · right; omega
                    · omega)
                  have CG2 := Lib.hid (show ∀ p, Same 23 #[.slice x.fa x.fs.length x.fc, .string f.n] (w6.drewN p) (.tuple #[.int .i64 f.v, .bool true]) from fun p => by
                    have := CG.out p
                    rwa [HK3.out] at this)
                  rw [HK2.out] at z6
                  clear hX hx hst hii CG
                  go_wp2_with fail
                  go_quiet (first | (go_at_call 23; exact (CG2.out _).mono fun e w' h => ⟨h.1, _, h.2⟩))
                  go_wp2_with fail
                  exact ⟨⟨i' + 1, _, e + 1, by omega, by go_num, by go_num, NX.out, rfl⟩, by simp [intOf] <;> omega⟩
                · have NX := Lib.hid (show e = r ∧ i' + 1 ≤ i0 ∨ e = r + 1 ∧ i0 < i' + 1 by
                    have hne : i' ≠ i0 := fun h => by
                      have h2 := HI0.out
                      rw [← h, hx] at h2
                      exact hst (by rw [Option.some.inj h2])
                    rcases HE.out with h | h
                    · left; omega
                    · right; omega)
                  have hsb : (x.st == v.st) = false := by rw [beq_eq_false_iff_ne]; exact hst
                  have hsd : ¬ x.st = v.st := hst
                  generalize hq1 : (getL x.fs f.n).getD 0 = q1 at *
                  generalize hq2 : (getL x.fs f.n).isSome = q2 at *
                  clear hX hx hst hq1 hq2
                  go_wp2_with fail
                  go_quiet (first | (go_at_call 23; exact (CG.out _).mono fun e w' h => ⟨h.1, _, h.2⟩))
                  go_wp2_with fail
                  exact ⟨⟨i' + 1, _, e, by omega, by go_num, rfl, NX.out, rfl⟩, by simp [intOf] <;> omega⟩
              · obtain rfl : i' = t := by omega
                have hit' : ¬ (i' : Int) < (i' : Int) := by omega
                obtain rfl : e = r + 1 := by
                  rcases HE.out with h | h
                  · omega
                  · exact h.1
                have HFa := Lib.hid (chain HBa.out HB6.out)
                go_wp2_with fail
                exact ⟨⟨r + 1, by omega, by go_num, by go_num, belowN HW6.out _, belowN HW65.out _⟩, by simp [intOf] <;> omega⟩
          · obtain rfl : r = M := by omega
            have hrM' : ¬ (r : Int) < (r : Int) := by omega
            go_wp2_with (go_at_call 9; (with_reducible refine (CAL.out _).mono ?_); rintro e w9 ⟨rfl, hb9⟩)
            go_ret
            exact ⟨rfl, chain HBa.out hb9⟩

end Go.Proofs.Ytjpkeadnccodjaa
