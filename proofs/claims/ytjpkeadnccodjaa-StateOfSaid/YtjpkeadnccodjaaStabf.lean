/-
  slices.SortStableFunc's symMergeCmpFunc with its recursion, and stableCmpFunc: a list is put in order, equals stand as they stood.
-/
import Derived.Test.YtjpkeadnccodjaaStabg
namespace Go.Proofs.Ytjpkeadnccodjaa
open Go.RowKit Go.Lib Go.Sort Go.Shelf

section
variable {α : Type} {lt : α → α → Bool}
theorem split3 (d : List (α × Nat)) (q t : Nat) : d.take q ++ ((d.drop q).take t ++ d.drop (q + t)) = d := by
  rw [← List.drop_drop, List.take_append_drop, List.take_append_drop]
theorem mem_seg [Inhabited α] {d : List (α × Nat)} {q t : Nat} {x : α × Nat} (h : x ∈ (d.drop q).take t) : ∃ i, q ≤ i ∧ i < q + t ∧ d[i]? = some x := by
  obtain ⟨i, hi, hx⟩ := mem_takeAt h
  rw [List.getElem?_drop] at hx
  exact ⟨q + i, by omega, by omega, hx⟩
theorem seg_pair {d : List (α × Nat)} {q t : Nat} {T : α × Nat → α × Nat → Prop} (h : ∀ i j x y, q ≤ i → i < j → j < q + t → d[i]? = some x → d[j]? = some y → T x y) : ((d.drop q).take t).Pairwise T := by
  rw [List.pairwise_iff_getElem]
  intro i j hi hj hij
  have ti : i < t := by rw [List.length_take] at hi; omega
  have tj : j < t := by rw [List.length_take] at hj; omega
  have gi : ((d.drop q).take t)[i]? = some ((d.drop q).take t)[i] := List.getElem?_eq_getElem hi
  have gj : ((d.drop q).take t)[j]? = some ((d.drop q).take t)[j] := List.getElem?_eq_getElem hj
  rw [List.getElem?_take_of_lt ti, List.getElem?_drop] at gi
  rw [List.getElem?_take_of_lt tj, List.getElem?_drop] at gj
  exact h (q + i) (q + j) _ _ (by omega) (by omega) (by omega) gi gj
theorem HB.asc {s2 q t : Nat} {d : List (α × Nat)} (h : HB lt 1 s2 q d) : Asc ((d.drop q).take t) := seg_pair fun i j x y h1 h2 _ hx hy => by
  have := (h i j h2).2 (by omega) x y hx hy
  rw [Nat.div_one, Nat.div_one] at this
  exact this.2 h2
theorem HB.block {s s2 q q' u t : Nat} {d : List (α × Nat)} (h0 : 0 < s) (h : HB lt s s2 q d) (hq : q ≤ q') (hu : q' = u * s) (ht : t ≤ s) : Ord lt ((d.drop q').take t) := seg_pair fun i j x y h1 h2 h3 hx hy => by
  have := (h i j h2).2 (by omega) x y hx hy
  refine this.1 ?_
  rw [div_same (k := u) h0 (by omega) (by omega), div_same (k := u) h0 (by omega) (by omega)]
theorem HB.cross [Inhabited α] {s s2 q u t : Nat} {d : List (α × Nat)} (h0 : 0 < s) (h : HB lt s s2 q d) (hu : q = u * s) : Cross ((d.drop q).take s) ((d.drop (q + s)).take t) := fun x hx y hy => by
  obtain ⟨i, i1, i2, hi⟩ := mem_seg hx
  obtain ⟨j, j1, j2, hj⟩ := mem_seg hy
  refine ((h i j (by omega)).2 (by omega) x y hi hj).2 ?_
  rw [div_same (p := i) (k := u) h0 (by omega) (by omega)]
  have := div_ge (p := j) (k := u + 1) h0 (by rw [Nat.add_mul]; omega)
  omega
theorem HB.full {s1 s2 n : Nat} {d : List (α × Nat)} (h : HB lt s1 s2 n d) (hn : d.length = n) : ∀ p q, p < q → GB lt s2 d p q := fun p q hpq x y hx hy => by
  have hq := (List.getElem?_eq_some_iff.1 hy).1
  exact (h p q hpq).1 (by omega) x y hx hy
end

variable {P : Program} {k : Nat} {α : Type}

theorem symMerge_w [Inhabited α] (L : StabL P k) (enc : α → List Value) (cf : α → α → Int) (hO : SWO (ltOf cf)) (g : Nat) (cb : Array Value) (blk off cap : Nat) (d0 : Array (α × Nat)) (w0 : World) (eg : ∀ args w, (callFunc g args).run P w = .ok (.enter g args) w) (hcmp : CmpLays P g cb (encT enc) k (cfP cf) blk off d0.size w0) (R : RowK (encT enc) k w0 blk off d0) (hsz : d0.size < 4611686018427387904) :
    ∀ (N : Nat) (w : World) (Q A B S : List (α × Nat)), A.length + B.length ≤ N → 0 < A.length → 0 < B.length → Ord (ltOf cf) A → Ord (ltOf cf) B → Cross A B → Q.length + A.length + B.length + S.length = d0.size → SWK (encT enc) k w0 blk off (Q ++ (A ++ (B ++ S))).toArray w →
      Calls P 55 #[.slice (some ⟨blk, off, none⟩) d0.size cap, .int .i64 (Q.length : Int), .int .i64 ((Q.length + A.length : Nat) : Int), .int .i64 ((Q.length + A.length + B.length : Nat) : Int), .func (.func g) #[] cb] w (SymPost (ltOf cf) enc k w0 blk off Q A B S)
  | 0, w, Q, A, B, S, hN, hA, hB, _, _, _, _, _ => by omega
  | N + 1, w, Q, A, B, S, hN, hA, hB, hoA, hoB, hc, hs, S0 => by
    by_cases h1 : A.length = 1
    · obtain ⟨x, rfl⟩ := List.length_eq_one_iff.1 h1
      exact symLeft_w L enc cf hO g cb blk off cap d0 w0 eg hcmp R hsz w Q B S x hoB hc (by rw [List.length_singleton] at hs; omega) S0
    · by_cases h2 : B.length = 1
      · obtain ⟨y, rfl⟩ := List.length_eq_one_iff.1 h2
        exact symRight_w L enc cf hO g cb blk off cap d0 w0 eg hcmp R hsz w Q A S y (by omega) hoA hc (by rw [List.length_singleton] at hs; omega) S0
      · exact symGen_w L enc cf hO g cb blk off cap d0 w0 eg hcmp R hsz N (symMerge_w L enc cf hO g cb blk off cap d0 w0 eg hcmp R hsz N) w Q A B S hN (by omega) (by omega) hoA hoB hc hs S0

set_option maxHeartbeats 8000000 in
set_option maxRecDepth 1000000 in
theorem stable_w [Inhabited α] (L : StabL P k) (enc : α → List Value) (cf : α → α → Int) (hO : SWO (ltOf cf)) (g : Nat) (cb : Array Value) (blk off cap : Nat) (d0 : Array (α × Nat)) (w0 : World) (eg : ∀ args w, (callFunc g args).run P w = .ok (.enter g args) w) (hcmp : CmpLays P g cb (encT enc) k (cfP cf) blk off d0.size w0) (R : RowK (encT enc) k w0 blk off d0) (hsz : d0.size < 2305843009213693952)
    (fStab : P.funcs[48]? = some Try.f48) (eIns : ∀ args w, (callFunc 54 args).run P w = .ok (.enter 54 args) w)
    (hins : ∀ (a b : Nat) (d : Array (α × Nat)) (w : World), d.size = d0.size → SWK (encT enc) k w0 blk off d w → a ≤ b → b ≤ d0.size → Calls P 54 #[.slice (some ⟨blk, off, none⟩) d0.size cap, .int .i64 (a : Int), .int .i64 (b : Int), .func (.func g) #[] cb] w fun e w' => e = .returned (.tuple #[]) ∧ SWK (encT enc) k w0 blk off (insertionSort (ltp (ltOf cf)) d a b) w')
    (D : List (α × Nat)) (hD : D.length = d0.size) (hasc : Asc D) (w : World) (S0 : SWK (encT enc) k w0 blk off D.toArray w) :
    Calls P 48 #[.slice (some ⟨blk, off, none⟩) d0.size cap, .int .i64 (d0.size : Int), .func (.func g) #[] cb] w fun e w' => e = .returned (.tuple #[]) ∧ ∃ M, M.Perm D ∧ Ord (ltOf cf) M ∧ SWK (encT enc) k w0 blk off M.toArray w' := by
  have mixed := L.mixed; have t3 := L.t3; have a3 := L.a3; have z3 := L.z3; have v3 := L.v3; have t4 := L.t4; have a4 := L.a4; have z4 := L.z4; have v4 := L.v4; have tS := L.tS; have aS := L.aS; have zS := L.zS; have vS := L.vS; have aE := L.aE; have zE := L.zE
  have eSym : ∀ args w, (callFunc 55 args).run P w = .ok (.enter 55 args) w := enters_of L.fSym (by kernel_rfl) rfl
  have S1 : Aside (SWK (encT enc) k w0 blk off D.toArray w) := S0
  have HD : Hid (D.length = d0.size) := hD
  have HI := Lib.hid hins
  have HSY := Lib.hid (symMerge_w L enc cf hO g cb blk off cap d0 w0 eg hcmp R (by omega))
  have H0 : Hid (HB (ltOf cf) 1 20 0 D) := HB.start (asc_one hasc)
  clear S0 hD hins hasc hcmp
  obtain ⟨n, hn⟩ : ∃ n, n = d0.size := ⟨_, rfl⟩
  rw [← hn] at hsz HD HI HSY ⊢
  clear hn
  go_enter fStab, Try.ntmps48
  go_wp2
  go_loopw [7, 8] (fun u v wr => ∃ (q kk : Nat) (d : List (α × Nat)), u = .int .i64 q ∧ v = .int .i64 ((q : Int) + 20) ∧ q ≤ n ∧ Hid (q = kk * 20 ∧ d.Perm D ∧ HB (ltOf cf) 1 20 q d) ∧ Aside (SWK (encT enc) k w0 blk off d.toArray wr)) (fun u _ _ => n - (intOf u).toNat)
  case atStart => exact ⟨0, 0, D, rfl, rfl, Nat.zero_le _, ⟨rfl, List.Perm.refl _, H0.out⟩, S1⟩
  case round =>
    clear S1
    obtain ⟨q, kk, d, rfl, rfl, hqn, HQ, S2⟩ := hrel
    by_cases hlt : q + 20 ≤ n
    · have hltz : (q : Int) + 20 ≤ (n : Int) := by omega
      obtain ⟨h1, h2, h3⟩ := HQ.out
      have hdl : d.length = n := by rw [h2.length_eq]; exact HD.out
      obtain ⟨M, p1, o1, e1⟩ := insertion_stable hO ((d.drop q).take 20) (d.take q) (d.drop (q + 20)) h3.asc
      have lt1 : (d.take q).length = q := by rw [List.length_take]; omega
      have lt2 : ((d.drop q).take 20).length = 20 := by rw [List.length_take, List.length_drop]; omega
      rw [split3, lt1, lt2] at e1
      have CI := Lib.hid (HI.out q (q + 20) d.toArray wr (by rw [List.size_toArray]; exact hdl) S2.out (by omega) hlt)
      rw [e1, show ((q + 20 : Nat) : Int) = (q : Int) + 20 by omega] at CI
      have NX : Hid (q + 20 = (kk + 1) * 20 ∧ (d.take q ++ (M ++ d.drop (q + 20))).Perm D ∧ HB (ltOf cf) 1 20 (q + 20) (d.take q ++ (M ++ d.drop (q + 20)))) := by
        refine ⟨by omega, ?_, ?_⟩
        · refine List.Perm.trans ?_ h2
          have := (p1.append_right (d.drop (q + 20))).append_left (d.take q)
          rwa [split3] at this
        · have := HB.step (lt := ltOf cf) (s1 := 1) (s2 := 20) (k := kk) (P := d.take q) (X := (d.drop q).take 20) (X' := M) (S := d.drop (q + 20)) (t := kk * 20 + 20) (by omega) (by omega) (by omega) (.inl (by omega)) (.inr ⟨kk * 20, by omega⟩) (by omega) (.inr lt2) (by rw [split3, lt1]; exact h3) p1 o1
          rw [lt1, lt2] at this
          exact this
      clear h1 h2 h3 hdl p1 o1 e1 lt1 lt2 S2 HQ
      go_wp2_with (go_at_fn 54; (with_reducible refine CI.out.mono ?_); rintro e w2 ⟨rfl, T3⟩; have S3 : Aside (SWK (encT enc) k w0 blk off (d.take q ++ (M ++ d.drop (q + 20))).toArray w2) := T3; clear T3)
      exact ⟨⟨q + 20, kk + 1, _, by first | rfl | go_num, by first | rfl | go_num, hlt, NX.out, S3⟩, by simp [intOf] <;> omega⟩
    · have hltz : ¬ (q : Int) + 20 ≤ (n : Int) := by omega
      obtain ⟨h1, h2, h3⟩ := HQ.out
      have hdl : d.length = n := by rw [h2.length_eq]; exact HD.out
      obtain ⟨M, p1, o1, e1⟩ := insertion_stable hO ((d.drop q).take (n - q)) (d.take q) (d.drop (q + (n - q))) h3.asc
      have lt1 : (d.take q).length = q := by rw [List.length_take]; omega
      have lt2 : ((d.drop q).take (n - q)).length = n - q := by rw [List.length_take, List.length_drop]; omega
      have hdn : d.drop (q + (n - q)) = [] := List.drop_of_length_le (by omega)
      rw [split3, lt1, lt2, show q + (n - q) = n by omega] at e1
      have CI := Lib.hid (HI.out q n d.toArray wr (by rw [List.size_toArray]; exact hdl) S2.out hqn (Nat.le_refl _))
      rw [e1] at CI
      obtain ⟨d', hd'⟩ : ∃ d', d' = d.take q ++ (M ++ d.drop n) := ⟨_, rfl⟩
      rw [← hd'] at CI
      have NX : Hid (d'.Perm D ∧ ∀ p q, p < q → GB (ltOf cf) 20 d' p q) := by
        have pp : d'.Perm d := by
          have := (p1.append_right (d.drop (q + (n - q)))).append_left (d.take q)
          rw [split3, show q + (n - q) = n by omega, ← hd'] at this
          exact this
        refine ⟨pp.trans h2, ?_⟩
        have := HB.step (lt := ltOf cf) (s1 := 1) (s2 := 20) (k := kk) (P := d.take q) (X := (d.drop q).take (n - q)) (X' := M) (S := d.drop (q + (n - q))) (t := 0) (by omega) (by omega) (by omega) (.inr hdn) (.inr ⟨kk * 20, by omega⟩) (by omega) (.inl hdn) (by rw [split3, lt1]; exact h3) p1 o1
        rw [lt1, lt2, show q + (n - q) = n by omega, ← hd'] at this
        exact this.full (by rw [pp.length_eq]; exact hdl)
      clear h1 h2 h3 hdl p1 o1 e1 lt1 lt2 S2 HQ hd' hdn
      go_wp2_with (go_at_fn 54; (with_reducible refine CI.out.mono ?_); rintro e w2 ⟨rfl, T3⟩; have S3 : Aside (SWK (encT enc) k w0 blk off d'.toArray w2) := T3; clear T3)
      clear CI hlt hltz hqn
      go_loopw [6] (fun u wr => ∃ (s : Nat) (d : List (α × Nat)), u = .int .i64 s ∧ 0 < s ∧ s ≤ 2 * n + 20 ∧ Hid (d.Perm D ∧ ∀ p q, p < q → GB (ltOf cf) s d p q) ∧ Aside (SWK (encT enc) k w0 blk off d.toArray wr)) (fun u _ => n - (intOf u).toNat)
      case atStart => exact ⟨20, d', rfl, by omega, by omega, NX, S3⟩
      case round =>
        clear S3 NX
        obtain ⟨s, d, rfl, hs0, hsn, HG, S4⟩ := hrel
        by_cases hlt : s < n
        · have hltz : (s : Int) < (n : Int) := by omega
          have HS1 : Hid (d.Perm D ∧ HB (ltOf cf) s (2 * s) 0 d) := ⟨HG.out.1, HB.start HG.out.2⟩
          go_wp2_with fail
          go_loopw [7, 8] (fun u v wr => ∃ (q kk : Nat) (d : List (α × Nat)), u = .int .i64 q ∧ v = .int .i64 ((q : Int) + 2 * (s : Int)) ∧ q ≤ n ∧ Hid (q = kk * (2 * s) ∧ d.Perm D ∧ HB (ltOf cf) s (2 * s) q d) ∧ Aside (SWK (encT enc) k w0 blk off d.toArray wr)) (fun u _ _ => n - (intOf u).toNat)
          case atStart => exact ⟨0, 0, d, rfl, by first | rfl | go_num, Nat.zero_le _, ⟨by omega, HS1.out.1, HS1.out.2⟩, S4⟩
          case round =>
            clear S4 HS1 HG
            obtain ⟨q, kk, d, rfl, rfl, hqn, HQ, S5⟩ := hrel
            by_cases hle : q + 2 * s ≤ n
            · have hlez : (q : Int) + 2 * (s : Int) ≤ (n : Int) := by omega
              obtain ⟨h1, h2, h3⟩ := HQ.out
              have hdl : d.length = n := by rw [h2.length_eq]; exact HD.out
              have hu : q = 2 * kk * s := by rw [h1, ← Nat.mul_assoc, Nat.mul_comm kk 2]
              have lt1 : (d.take q).length = q := by rw [List.length_take]; omega
              have lt2 : ((d.drop q).take s).length = s := by rw [List.length_take, List.length_drop]; omega
              have lt3 : ((d.drop (q + s)).take s).length = s := by rw [List.length_take, List.length_drop]; omega
              have sp : d.take q ++ ((d.drop q).take s ++ ((d.drop (q + s)).take s ++ d.drop (q + s + s))) = d := by
                have e2 := split3 (d.drop q) s s
                rw [List.drop_drop, List.drop_drop, ← Nat.add_assoc] at e2
                rw [e2, List.take_append_drop]
              have CS := Lib.hid (HSY.out (s + s) wr (d.take q) ((d.drop q).take s) ((d.drop (q + s)).take s) (d.drop (q + s + s)) (by omega) (by omega) (by omega) (h3.block hs0 (Nat.le_refl _) hu (Nat.le_refl _)) (h3.block hs0 (by omega) (show q + s = (2 * kk + 1) * s by rw [Nat.add_mul, ← hu]; omega) (Nat.le_refl _)) (h3.cross hs0 hu) (by rw [lt1, lt2, lt3, List.length_drop]; omega) (by rw [sp]; exact S5.out))
              rw [lt1, lt2, lt3, show ((q + s : Nat) : Int) = (q : Int) + (s : Int) by omega, show ((q + s + s : Nat) : Int) = (q : Int) + 2 * (s : Int) by omega] at CS
              have ST : Hid (∀ M : List (α × Nat), M.Perm ((d.drop q).take s ++ (d.drop (q + s)).take s) → Ord (ltOf cf) M → q + 2 * s = (kk + 1) * (2 * s) ∧ (d.take q ++ (M ++ d.drop (q + s + s))).Perm D ∧ HB (ltOf cf) s (2 * s) (q + 2 * s) (d.take q ++ (M ++ d.drop (q + s + s)))) := fun M p1 o1 => by
                rw [← List.append_assoc ((d.drop q).take s)] at sp
                refine ⟨by rw [Nat.add_mul, h1]; omega, ?_, ?_⟩
                · refine List.Perm.trans ?_ h2
                  have := (p1.append_right (d.drop (q + s + s))).append_left (d.take q)
                  rwa [sp] at this
                · have := HB.step (lt := ltOf cf) (s1 := s) (s2 := 2 * s) (k := kk) (P := d.take q) (X := (d.drop q).take s ++ (d.drop (q + s)).take s) (X' := M) (S := d.drop (q + s + s)) (t := 2 * kk + 2) hs0 (by omega) (by omega) (.inl (by rw [List.length_append, lt2, lt3, Nat.add_mul, ← hu, ← h1]; omega)) (.inr ⟨2 * kk, by rw [← h1, hu]⟩) (by rw [List.length_append, lt2, lt3]; omega) (.inr (by rw [List.length_append, lt2, lt3]; omega)) (by rw [sp, lt1]; exact h3) p1 o1
                  rw [lt1, List.length_append, lt2, lt3, show q + (s + s) = q + 2 * s by omega] at this
                  exact this
              clear h1 h2 h3 hdl hu lt1 lt2 lt3 sp S5 HQ
              go_wp2_with (go_at_fn 55; (with_reducible refine CS.out.mono ?_); rintro e w3 ⟨rfl, M, p1, o1, T6⟩; have S6 : Aside (SWK (encT enc) k w0 blk off (d.take q ++ (M ++ d.drop (q + s + s))).toArray w3) := T6; have NX := Lib.hid (ST.out M p1 o1); clear T6 p1 o1)
              exact ⟨⟨q + 2 * s, kk + 1, _, by first | rfl | go_num, by first | rfl | go_num, hle, NX.out, S6⟩, by simp [intOf] <;> omega⟩
            · have hlez : ¬ (q : Int) + 2 * (s : Int) ≤ (n : Int) := by omega
              obtain ⟨h1, h2, h3⟩ := HQ.out
              have hdl : d.length = n := by rw [h2.length_eq]; exact HD.out
              have hu : q = 2 * kk * s := by rw [h1, ← Nat.mul_assoc, Nat.mul_comm kk 2]
              by_cases hm : q + s < n
              · have hmz : (q : Int) + (s : Int) < (n : Int) := by omega
                have lt1 : (d.take q).length = q := by rw [List.length_take]; omega
                have lt2 : ((d.drop q).take s).length = s := by rw [List.length_take, List.length_drop]; omega
                have lt3 : ((d.drop (q + s)).take (n - (q + s))).length = n - (q + s) := by rw [List.length_take, List.length_drop]; omega
                have hdn : d.drop (q + s + (n - (q + s))) = [] := List.drop_of_length_le (by omega)
                have sp : d.take q ++ ((d.drop q).take s ++ ((d.drop (q + s)).take (n - (q + s)) ++ [])) = d := by
                  have e2 := split3 (d.drop q) s (n - (q + s))
                  rw [List.drop_drop, List.drop_drop, ← Nat.add_assoc, hdn] at e2
                  rw [e2, List.take_append_drop]
                have CS := Lib.hid (HSY.out n wr (d.take q) ((d.drop q).take s) ((d.drop (q + s)).take (n - (q + s))) [] (by omega) (by omega) (by omega) (h3.block hs0 (Nat.le_refl _) hu (Nat.le_refl _)) (h3.block hs0 (by omega) (show q + s = (2 * kk + 1) * s by rw [Nat.add_mul, ← hu]; omega) (by omega)) (h3.cross hs0 hu) (by rw [lt1, lt2, lt3, List.length_nil]; omega) (by rw [sp]; exact S5.out))
                rw [lt1, lt2, lt3, show ((q + s : Nat) : Int) = (q : Int) + (s : Int) by omega, show q + s + (n - (q + s)) = n by omega] at CS
                have ST : Hid (∀ M : List (α × Nat), M.Perm ((d.drop q).take s ++ (d.drop (q + s)).take (n - (q + s))) → Ord (ltOf cf) M → (d.take q ++ (M ++ [])).Perm D ∧ ∀ p q', p < q' → GB (ltOf cf) (2 * s) (d.take q ++ (M ++ [])) p q') := fun M p1 o1 => by
                  rw [← List.append_assoc ((d.drop q).take s)] at sp
                  have pp : (d.take q ++ (M ++ [])).Perm d := by
                    have := (p1.append_right []).append_left (d.take q)
                    rwa [sp] at this
                  refine ⟨pp.trans h2, ?_⟩
                  have := HB.step (lt := ltOf cf) (s1 := s) (s2 := 2 * s) (k := kk) (P := d.take q) (X := (d.drop q).take s ++ (d.drop (q + s)).take (n - (q + s))) (X' := M) (S := []) (t := 0) hs0 (by omega) (by omega) (.inr rfl) (.inr ⟨2 * kk, by rw [← h1, hu]⟩) (by rw [List.length_append, lt2, lt3]; omega) (.inl rfl) (by rw [sp, lt1]; exact h3) p1 o1
                  rw [lt1, List.length_append, lt2, lt3, show q + (s + (n - (q + s))) = n by omega] at this
                  exact this.full (by rw [pp.length_eq]; exact hdl)
                clear h1 h2 h3 hdl hu lt1 lt2 lt3 sp S5 HQ hdn
                go_wp2_with (go_at_fn 55; (with_reducible refine CS.out.mono ?_); rintro e w3 ⟨rfl, M, p1, o1, T6⟩; have S6 : Aside (SWK (encT enc) k w0 blk off (d.take q ++ (M ++ [])).toArray w3) := T6; have NX := Lib.hid (ST.out M p1 o1); clear T6 p1 o1)
                exact ⟨⟨s * 2, _, by first | rfl | go_num, by omega, by omega, by rw [Nat.mul_comm s 2]; exact NX, S6⟩, by simp [intOf] <;> omega⟩
              · have hmz : ¬ (q : Int) + (s : Int) < (n : Int) := by omega
                have NX : Hid (d.Perm D ∧ ∀ p q', p < q' → GB (ltOf cf) (2 * s) d p q') := ⟨h2, HB.end (k := kk) (n := n) (u := 2 * kk) hs0 (by omega) (by omega) hdl (by omega) (by rw [← h1, hu]) (by rw [← h1]; exact h3)⟩
                clear h1 h2 h3 hdl hu HQ
                go_wp2_with fail
                exact ⟨⟨s * 2, d, by first | rfl | go_num, by omega, by omega, by rw [Nat.mul_comm s 2]; exact NX, S5⟩, by simp [intOf] <;> omega⟩
        · have hltz : ¬ (s : Int) < (n : Int) := by omega
          go_wp2_with fail
          go_end0
          exact ⟨rfl, d, HG.out.1, GB.all HG.out.2 (by rw [HG.out.1.length_eq, HD.out]; omega), S4.out⟩

end Go.Proofs.Ytjpkeadnccodjaa
