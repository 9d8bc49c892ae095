/-
  slices.SortStableFunc's symMergeCmpFunc, over any program that bears its body: two neighbours, each in order, become one that is in order; equals stand as they stood.
-/
import Derived.Test.YtjpkeadnccodjaaStabs
import Derived.Lib.Hide
namespace Go.Proofs.Ytjpkeadnccodjaa
open Go.RowKit Go.Lib Go.Sort Go.Shelf

section
variable {α : Type}
theorem slide_up [Inhabited α] (Q B S : List (α × Nat)) (x : α × Nat) {t : Nat} (ht : t < B.length) : swp (Q ++ (B.take t ++ x :: (B.drop t ++ S))).toArray (Q.length + t) (Q.length + t + 1) = (Q ++ (B.take (t + 1) ++ x :: (B.drop (t + 1) ++ S))).toArray := by
  have h := swp_list (Q ++ B.take t) [] (B.drop (t + 1) ++ S) x B[t]
  have hl : (Q ++ B.take t).length = Q.length + t := by rw [List.length_append, List.length_take]; omega
  rw [hl, List.length_nil, Nat.add_zero] at h
  rw [List.drop_eq_getElem_cons ht, List.take_add_one, List.getElem?_eq_getElem ht]
  simp only [Option.toList_some, List.append_assoc, List.cons_append, List.nil_append] at h ⊢
  exact h
theorem slide_down [Inhabited α] (Q A S : List (α × Nat)) (y : α × Nat) {t : Nat} (ht : t < A.length) : swp (Q ++ (A.take (t + 1) ++ y :: (A.drop (t + 1) ++ S))).toArray (Q.length + t + 1) (Q.length + t) = (Q ++ (A.take t ++ y :: (A.drop t ++ S))).toArray := by
  have h := swp_list_back (Q ++ A.take t) [] (A.drop (t + 1) ++ S) A[t] y
  have hl : (Q ++ A.take t).length = Q.length + t := by rw [List.length_append, List.length_take]; omega
  rw [hl, List.length_nil, Nat.add_zero] at h
  rw [List.drop_eq_getElem_cons ht, List.take_add_one, List.getElem?_eq_getElem ht]
  simp only [Option.toList_some, List.append_assoc, List.cons_append, List.nil_append] at h ⊢
  exact h
theorem slide_length (Q B S : List (α × Nat)) (x : α × Nat) (t : Nat) : (Q ++ (B.take t ++ x :: (B.drop t ++ S))).length = Q.length + 1 + B.length + S.length := by
  simp only [List.length_append, List.length_cons, List.length_take, List.length_drop]
  omega
end

variable {P : Program} {k : Nat} {α : Type}
/-- By the things alone. -/
def cfP (cf : α → α → Int) (x y : α × Nat) : Int := cf x.1 y.1

set_option maxHeartbeats 8000000 in
set_option maxRecDepth 1000000 in
theorem symLeft_w [Inhabited α] (L : StabL P k) (enc : α → List Value) (cf : α → α → Int) (hO : SWO (ltOf cf)) (g : Nat) (cb : Array Value) (blk off cap : Nat) (d0 : Array (α × Nat)) (w0 : World) (eg : ∀ args w, (callFunc g args).run P w = .ok (.enter g args) w) (hcmp : CmpLays P g cb (encT enc) k (cfP cf) blk off d0.size w0) (R : RowK (encT enc) k w0 blk off d0) (hsz : d0.size < 4611686018427387904)
    (w : World) (Q B S : List (α × Nat)) (x : α × Nat) (ho : Ord (ltOf cf) B) (hc : Cross [x] B) (hs : Q.length + 1 + B.length + S.length = d0.size) (S0 : SWK (encT enc) k w0 blk off (Q ++ x :: (B ++ S)).toArray w) :
    Calls P 55 #[.slice (some ⟨blk, off, none⟩) d0.size cap, .int .i64 (Q.length : Int), .int .i64 ((Q.length + 1 : Nat) : Int), .int .i64 ((Q.length + 1 + B.length : Nat) : Int), .func (.func g) #[] cb] w fun e w' =>
      e = .returned (.tuple #[]) ∧ ∃ M, M.Perm ([x] ++ B) ∧ Ord (ltOf cf) M ∧ SWK (encT enc) k w0 blk off (Q ++ (M ++ S)).toArray w' := by
  have mixed := L.mixed; have t3 := L.t3; have a3 := L.a3; have z3 := L.z3; have v3 := L.v3; have t4 := L.t4; have a4 := L.a4; have z4 := L.z4; have v4 := L.v4; have tU := L.tU; have aU := L.aU; have zU := L.zU; have tS := L.tS; have aS := L.aS; have zS := L.zS; have vS := L.vS; have aE := L.aE; have zE := L.zE
  have HC : Aside _ := hcmp
  obtain ⟨a, ha⟩ : ∃ a, a = Q.length := ⟨_, rfl⟩
  obtain ⟨m, hm⟩ : ∃ m, m = a + 1 := ⟨_, rfl⟩
  obtain ⟨b, hb⟩ : ∃ b, b = m + B.length := ⟨_, rfl⟩
  rw [← ha, ← hm, ← hb]
  have hbz : b ≤ d0.size := by omega
  have em : (m : Int) - (a : Int) = 1 := by omega
  have SL : Hid (∀ t, t < B.length → swp (Q ++ (B.take t ++ x :: (B.drop t ++ S))).toArray (a + t) (a + t + 1) = (Q ++ (B.take (t + 1) ++ x :: (B.drop (t + 1) ++ S))).toArray) := fun t ht => by rw [ha]; exact slide_up Q B S x ht
  have SZ : Hid (∀ t, (Q ++ (B.take t ++ x :: (B.drop t ++ S))).toArray.size = d0.size) := fun t => by rw [List.size_toArray, slide_length, hs]
  have HB : Hid (b = m + B.length ∧ m = a + 1) := ⟨hb, hm⟩
  have hab : a < m := by omega
  have hmb : m ≤ b := by omega
  have hmz : a + 1 = m := by omega
  obtain ⟨dk, hdk⟩ : ∃ dk, dk = (Q ++ x :: (B ++ S)).toArray := ⟨_, rfl⟩
  have HDK : Hid (dk = (Q ++ x :: (B ++ S)).toArray) := hdk
  have S1 : Aside (SWK (encT enc) k w0 blk off dk w) := by rw [hdk]; exact S0
  have HD : Hid (dk.size = d0.size) := by show dk.size = _; rw [hdk]; exact SZ.out 0
  have GX : Hid (dk[a]! = x) := by show dk[a]! = x; rw [hdk, ha]; exact getBangT (at_len Q x _)
  have GY : Hid (∀ i y, B[i]? = some y → dk[m + i]! = y) := fun i y hy => by
    rw [hdk]
    refine getBangT ?_
    have := put_mid (P := Q ++ [x]) (S := S) hy
    rw [List.length_append, List.length_singleton, ← ha, ← hm, List.append_assoc, List.singleton_append] at this
    exact this
  clear hcmp ha hm hb hs S0 hdk
  have HSZ : Hid (d0.size < 4611686018427387904) := hsz
  go_enter L.fSym, Try.ntmps55
  go_wp2
  go_loopw [10, 11] (fun u v wr => ∃ i j : Nat, u = .int .i64 i ∧ v = .int .i64 j ∧ m ≤ i ∧ i ≤ j ∧ j ≤ b ∧ Hid (i - m = 0 ∨ ∃ z, B[i - m - 1]? = some z ∧ ltOf cf z.1 x.1 = true) ∧ Hid (j - m = B.length ∨ ∃ z, B[j - m]? = some z ∧ ltOf cf z.1 x.1 = false) ∧ Aside (SWK (encT enc) k w0 blk off dk wr)) (fun u v _ => (intOf v).toNat - (intOf u).toNat)
  case atStart => exact ⟨m, b, rfl, rfl, Nat.le_refl _, hmb, Nat.le_refl _, .inl (Nat.sub_self _), .inl (by have := HB.out; omega), S1⟩
  case round =>
    clear S1 em
    obtain ⟨i, j, rfl, rfl, hmi, hij, hjb, I1, I2, S2⟩ := hrel
    by_cases hlt : i < j
    · have hltz : (i : Int) < (j : Int) := by omega
      obtain ⟨h, hh⟩ : ∃ h, h = (i + j) / 2 := ⟨_, rfl⟩
      have hih : i ≤ h := by omega
      have hhj : h < j := by omega
      have ehz : ((i : Int) + (j : Int)) / 2 = (h : Int) := by omega
      clear hh
      obtain ⟨y, hy⟩ : ∃ y, B[h - m]? = some y := ⟨_, List.getElem?_eq_getElem (by have := HB.out; omega)⟩
      have gy := GY.out (h - m) y hy
      rw [show m + (h - m) = h by omega] at gy
      have HY : Hid (B[h - m]? = some y) := hy
      clear hy
      by_cases hv1 : cfP cf y x < 0
      · have LT : Hid (ltOf cf y.1 x.1 = true) := decide_eq_true hv1
        have ea1 : ((h : Int)).toNat = h := by omega
        have pa1 : (0 : Int) ≤ (h : Int) := by omega
        have ba1 : (h : Int) < (d0.size : Int) := by omega
        have ra1 : IntKind.i64.wrap ((h : Int)) = (h : Int) := by rw [IntKind.wrap_i64]; omega
        have ec1 : ((a : Int)).toNat = a := by omega
        have pc1 : (0 : Int) ≤ (a : Int) := by omega
        have bc1 : (a : Int) < (d0.size : Int) := by omega
        have rc1 : IntKind.i64.wrap ((a : Int)) = (a : Int) := by rw [IntKind.wrap_i64]; omega
        have l1a := S2.out.ld R HD.out P (h) (by have := HD.out; omega)
        have l1b := S2.out.ld R HD.out P (a) (by have := HD.out; omega)
        rw [gy] at l1a
        rw [GX.out] at l1b
        have hc1 := S2.out.cmp HC.out HD.out y x
        have hd1 : decide (cfP cf y x < 0) = true := decide_eq_true hv1
        go_wp2_with fail
        go_quiet_grown (first | (go_at_fn g; refine Calls.grown_of (hc1 _ _)))
        have S3 : Aside (SWK (encT enc) k w0 blk off dk (grow (wr.drewN nq) osq)) := S2.out.grown nq osq
        clear l1a l1b hc1 S2
        generalize grow (wr.drewN nq) osq = w2 at S3 ⊢
        clear nq osq
        go_wp2_with fail
        exact ⟨⟨h + 1, j, by first | rfl | go_num, rfl, by omega, by omega, hjb, .inr ⟨y, by rw [show h + 1 - m - 1 = h - m by omega]; exact HY.out, LT.out⟩, I2, S3⟩, by simp [intOf] <;> omega⟩
      · have LT : Hid (ltOf cf y.1 x.1 = false) := decide_eq_false hv1
        have ea1 : ((h : Int)).toNat = h := by omega
        have pa1 : (0 : Int) ≤ (h : Int) := by omega
        have ba1 : (h : Int) < (d0.size : Int) := by omega
        have ra1 : IntKind.i64.wrap ((h : Int)) = (h : Int) := by rw [IntKind.wrap_i64]; omega
        have ec1 : ((a : Int)).toNat = a := by omega
        have pc1 : (0 : Int) ≤ (a : Int) := by omega
        have bc1 : (a : Int) < (d0.size : Int) := by omega
        have rc1 : IntKind.i64.wrap ((a : Int)) = (a : Int) := by rw [IntKind.wrap_i64]; omega
        have l1a := S2.out.ld R HD.out P (h) (by have := HD.out; omega)
        have l1b := S2.out.ld R HD.out P (a) (by have := HD.out; omega)
        rw [gy] at l1a
        rw [GX.out] at l1b
        have hc1 := S2.out.cmp HC.out HD.out y x
        have hd1 : decide (cfP cf y x < 0) = false := decide_eq_false hv1
        go_wp2_with fail
        go_quiet_grown (first | (go_at_fn g; refine Calls.grown_of (hc1 _ _)))
        have S3 : Aside (SWK (encT enc) k w0 blk off dk (grow (wr.drewN nq) osq)) := S2.out.grown nq osq
        clear l1a l1b hc1 S2
        generalize grow (wr.drewN nq) osq = w2 at S3 ⊢
        clear nq osq
        go_wp2_with fail
        exact ⟨⟨i, h, rfl, by first | rfl | go_num, hmi, hih, by omega, I1, .inr ⟨y, HY.out, LT.out⟩, S3⟩, by simp [intOf] <;> omega⟩
    · obtain rfl : i = j := by omega
      have hltz : ¬ (i : Int) < (i : Int) := by omega
      clear hlt hij
      have S4 : Aside (SWK (encT enc) k w0 blk off (Q ++ (B.take 0 ++ x :: (B.drop 0 ++ S))).toArray wr) := by
        have := S2.out
        rw [HDK.out] at this
        exact this
      clear S2
      go_wp2_with fail
      go_loopw [13] (fun v wr2 => ∃ q : Nat, v = .int .i64 q ∧ a ≤ q ∧ q + 1 ≤ i ∧ Aside (SWK (encT enc) k w0 blk off (Q ++ (B.take (q - a) ++ x :: (B.drop (q - a) ++ S))).toArray wr2)) (fun v _ => i - (intOf v).toNat)
      case atStart => exact ⟨a, rfl, Nat.le_refl _, by omega, by rw [Nat.sub_self]; exact S4⟩
      case round =>
        clear S4
        obtain ⟨q, rfl, haq, hqi, S5⟩ := hrel
        by_cases hlt2 : q + 1 < i
        · have hlt2z : (q : Int) < (i : Int) - 1 := by omega
          have HDk := Lib.hid (SZ.out (q - a))
          have NX := Lib.hid (SL.out (q - a) (by have := HB.out; omega))
          rw [show a + (q - a) = q by omega] at NX
          generalize (Q ++ (B.take (q - a) ++ x :: (B.drop (q - a) ++ S))).toArray = dq at *
          have ea2 : ((q : Int)).toNat = q := by omega
          have pa2 : (0 : Int) ≤ (q : Int) := by omega
          have ba2 : (q : Int) < (d0.size : Int) := by omega
          have ra2 : IntKind.i64.wrap ((q : Int)) = (q : Int) := by rw [IntKind.wrap_i64]; omega
          have ec2 : ((q : Int) + 1).toNat = q + 1 := by omega
          have pc2 : (0 : Int) ≤ (q : Int) + 1 := by omega
          have bc2 : (q : Int) + 1 < (d0.size : Int) := by omega
          have rc2 : IntKind.i64.wrap ((q : Int) + 1) = (q : Int) + 1 := by rw [IntKind.wrap_i64]; omega
          have S6 : Aside (SWK (encT enc) k w0 blk off (swp dq (q) (q + 1)) ((wr.drew.setCells blk (off + (q) * k) (encT enc dq[q + 1]!)).setCells blk (off + (q + 1) * k) (encT enc dq[q]!))) := S5.out.swapped R (q) (q + 1) (by have := HDk.out; omega) (by have := HDk.out; omega)
          have l2a := S5.out.ld1 R HDk.out P (q) (by have := HDk.out; omega)
          have l2b := S5.out.ld1 R HDk.out P (q + 1) (by have := HDk.out; omega)
          have s2a := S5.out.st1 R HDk.out P (q) (by have := HDk.out; omega) dq[q + 1]!
          have s2b := S5.out.st2 R HDk.out P (q) (q + 1) (by have := HDk.out; omega) (by have := HDk.out; omega) dq[q + 1]! dq[q]!
          have n2a : (encT enc dq[q]!).length = k := R.hk _
          have n2b : (encT enc dq[q + 1]!).length = k := R.hk _
          generalize encT enc dq[q]! = cI2 at S6 l2a s2b n2a
          generalize encT enc dq[q + 1]! = cJ2 at S6 l2b s2a s2b n2b
          clear S5
          go_wp2_with fail
          go_big_region_o
          clear l2a l2b s2a s2b
          generalize (wr.drew.setCells blk (off + (q) * k) cJ2).setCells blk (off + (q + 1) * k) cI2 = w3 at S6 ⊢
          go_wp2
          exact ⟨⟨q + 1, by first | rfl | go_num, by omega, by omega, by rw [show q + 1 - a = q - a + 1 by omega, ← NX.out]; exact S6⟩, by simp [intOf] <;> omega⟩
        · have hqe : q + 1 = i := by omega
          have hlt2z : ¬ (q : Int) < (i : Int) - 1 := by omega
          go_wp2_with fail
          (try simp only [Exit.inBlock, Exit.then]); refine bodyPost_ret (results_none rfl _ _ _) rfl ?_
          have e : q - a = i - m := by have := HB.out; omega
          have S6 := S5.out
          rw [e] at S6
          refine ⟨rfl, _, perm_mid x B (i - m), merge_left hO ho hc I1.out I2.out, ?_⟩
          simpa using S6

set_option maxHeartbeats 8000000 in
set_option maxRecDepth 1000000 in
theorem symRight_w [Inhabited α] (L : StabL P k) (enc : α → List Value) (cf : α → α → Int) (hO : SWO (ltOf cf)) (g : Nat) (cb : Array Value) (blk off cap : Nat) (d0 : Array (α × Nat)) (w0 : World) (eg : ∀ args w, (callFunc g args).run P w = .ok (.enter g args) w) (hcmp : CmpLays P g cb (encT enc) k (cfP cf) blk off d0.size w0) (R : RowK (encT enc) k w0 blk off d0) (hsz : d0.size < 4611686018427387904)
    (w : World) (Q A S : List (α × Nat)) (y : α × Nat) (hA : 2 ≤ A.length) (ho : Ord (ltOf cf) A) (hc : Cross A [y]) (hs : Q.length + 1 + A.length + S.length = d0.size) (S0 : SWK (encT enc) k w0 blk off (Q ++ (A ++ y :: S)).toArray w) :
    Calls P 55 #[.slice (some ⟨blk, off, none⟩) d0.size cap, .int .i64 (Q.length : Int), .int .i64 ((Q.length + A.length : Nat) : Int), .int .i64 ((Q.length + A.length + 1 : Nat) : Int), .func (.func g) #[] cb] w fun e w' =>
      e = .returned (.tuple #[]) ∧ ∃ M, M.Perm (A ++ [y]) ∧ Ord (ltOf cf) M ∧ SWK (encT enc) k w0 blk off (Q ++ (M ++ S)).toArray w' := by
  have mixed := L.mixed; have t3 := L.t3; have a3 := L.a3; have z3 := L.z3; have v3 := L.v3; have t4 := L.t4; have a4 := L.a4; have z4 := L.z4; have v4 := L.v4; have tU := L.tU; have aU := L.aU; have zU := L.zU; have tS := L.tS; have aS := L.aS; have zS := L.zS; have vS := L.vS; have aE := L.aE; have zE := L.zE
  have HC : Aside _ := hcmp
  obtain ⟨a, ha⟩ : ∃ a, a = Q.length := ⟨_, rfl⟩
  obtain ⟨m, hm⟩ : ∃ m, m = a + A.length := ⟨_, rfl⟩
  obtain ⟨b, hb⟩ : ∃ b, b = m + 1 := ⟨_, rfl⟩
  rw [← ha, ← hm, ← hb]
  have hbz : b ≤ d0.size := by omega
  have em1 : ((m : Int) - (a : Int) == 1) = false := by rw [beq_eq_false_iff_ne]; omega
  have em2 : ¬ (m : Int) - (a : Int) = 1 := by omega
  have em : (b : Int) - (m : Int) = 1 := by omega
  have SL : Hid (∀ t, t < A.length → swp (Q ++ (A.take (t + 1) ++ y :: (A.drop (t + 1) ++ S))).toArray (a + t + 1) (a + t) = (Q ++ (A.take t ++ y :: (A.drop t ++ S))).toArray) := fun t ht => by rw [ha]; exact slide_down Q A S y ht
  have SZ : Hid (∀ t, (Q ++ (A.take t ++ y :: (A.drop t ++ S))).toArray.size = d0.size) := fun t => by rw [List.size_toArray, slide_length, hs]
  have HA : Hid (m = a + A.length ∧ b = m + 1) := ⟨hm, hb⟩
  have ham : a < m := by omega
  have hmb : m < b := by omega
  obtain ⟨dk, hdk⟩ : ∃ dk, dk = (Q ++ (A ++ y :: S)).toArray := ⟨_, rfl⟩
  have HDK : Hid (dk = (Q ++ (A ++ y :: S)).toArray) := hdk
  have S1 : Aside (SWK (encT enc) k w0 blk off dk w) := by rw [hdk]; exact S0
  have e9 : Q ++ (A ++ y :: S) = Q ++ (A.take A.length ++ y :: (A.drop A.length ++ S)) := by simp
  have HD : Hid (dk.size = d0.size) := by show dk.size = _; rw [hdk, e9]; exact SZ.out A.length
  have GY : Hid (dk[m]! = y) := by
    show dk[m]! = y
    rw [hdk, hm, ha]
    refine getBangT ?_
    have := at_len (Q ++ A) y S
    rw [List.length_append, List.append_assoc] at this
    exact this
  have GX : Hid (∀ i x, A[i]? = some x → dk[a + i]! = x) := fun i x hx => by
    rw [hdk, ha]
    exact getBangT (put_mid (P := Q) (S := y :: S) hx)
  have E9 : Hid (Q ++ (A ++ y :: S) = Q ++ (A.take A.length ++ y :: (A.drop A.length ++ S))) := e9
  clear hcmp ha hm hb hs S0 hdk e9 hA
  have HSZ : Hid (d0.size < 4611686018427387904) := hsz
  go_enter L.fSym, Try.ntmps55
  go_wp2
  go_loopw [14, 15] (fun u v wr => ∃ i j : Nat, u = .int .i64 i ∧ v = .int .i64 j ∧ a ≤ i ∧ i ≤ j ∧ j ≤ m ∧ Hid (i - a = 0 ∨ ∃ z, A[i - a - 1]? = some z ∧ ltOf cf y.1 z.1 = false) ∧ Hid (j - a = A.length ∨ ∃ z, A[j - a]? = some z ∧ ltOf cf y.1 z.1 = true) ∧ Aside (SWK (encT enc) k w0 blk off dk wr)) (fun u v _ => (intOf v).toNat - (intOf u).toNat)
  case atStart => exact ⟨a, m, rfl, rfl, Nat.le_refl _, by omega, Nat.le_refl _, .inl (Nat.sub_self _), .inl (by have := HA.out; omega), S1⟩
  case round =>
    clear S1 em em1 em2
    obtain ⟨i, j, rfl, rfl, hmi, hij, hjb, I1, I2, S2⟩ := hrel
    by_cases hlt : i < j
    · have hltz : (i : Int) < (j : Int) := by omega
      obtain ⟨h, hh⟩ : ∃ h, h = (i + j) / 2 := ⟨_, rfl⟩
      have hih : i ≤ h := by omega
      have hhj : h < j := by omega
      have ehz : ((i : Int) + (j : Int)) / 2 = (h : Int) := by omega
      clear hh
      obtain ⟨x, hx⟩ : ∃ x, A[h - a]? = some x := ⟨_, List.getElem?_eq_getElem (by have := HA.out; omega)⟩
      have gx := GX.out (h - a) x hx
      rw [show a + (h - a) = h by omega] at gx
      have HX : Hid (A[h - a]? = some x) := hx
      clear hx
      by_cases hv1 : cfP cf y x < 0
      · have LT : Hid (ltOf cf y.1 x.1 = true) := decide_eq_true hv1
        have ea1 : ((m : Int)).toNat = m := by omega
        have pa1 : (0 : Int) ≤ (m : Int) := by omega
        have ba1 : (m : Int) < (d0.size : Int) := by omega
        have ra1 : IntKind.i64.wrap ((m : Int)) = (m : Int) := by rw [IntKind.wrap_i64]; omega
        have ec1 : ((h : Int)).toNat = h := by omega
        have pc1 : (0 : Int) ≤ (h : Int) := by omega
        have bc1 : (h : Int) < (d0.size : Int) := by omega
        have rc1 : IntKind.i64.wrap ((h : Int)) = (h : Int) := by rw [IntKind.wrap_i64]; omega
        have l1a := S2.out.ld R HD.out P (m) (by have := HD.out; omega)
        have l1b := S2.out.ld R HD.out P (h) (by have := HD.out; omega)
        rw [GY.out] at l1a
        rw [gx] at l1b
        have hc1 := S2.out.cmp HC.out HD.out y x
        have hd1 : decide (cfP cf y x < 0) = true := decide_eq_true hv1
        go_wp2_with fail
        go_quiet_grown (first | (go_at_fn g; refine Calls.grown_of (hc1 _ _)))
        have S3 : Aside (SWK (encT enc) k w0 blk off dk (grow (wr.drewN nq) osq)) := S2.out.grown nq osq
        clear l1a l1b hc1 S2
        generalize grow (wr.drewN nq) osq = w2 at S3 ⊢
        clear nq osq
        go_wp2_with fail
        exact ⟨⟨i, h, rfl, by first | rfl | go_num, hmi, hih, by omega, I1, .inr ⟨x, HX.out, LT.out⟩, S3⟩, by simp [intOf] <;> omega⟩
      · have LT : Hid (ltOf cf y.1 x.1 = false) := decide_eq_false hv1
        have ea1 : ((m : Int)).toNat = m := by omega
        have pa1 : (0 : Int) ≤ (m : Int) := by omega
        have ba1 : (m : Int) < (d0.size : Int) := by omega
        have ra1 : IntKind.i64.wrap ((m : Int)) = (m : Int) := by rw [IntKind.wrap_i64]; omega
        have ec1 : ((h : Int)).toNat = h := by omega
        have pc1 : (0 : Int) ≤ (h : Int) := by omega
        have bc1 : (h : Int) < (d0.size : Int) := by omega
        have rc1 : IntKind.i64.wrap ((h : Int)) = (h : Int) := by rw [IntKind.wrap_i64]; omega
        have l1a := S2.out.ld R HD.out P (m) (by have := HD.out; omega)
        have l1b := S2.out.ld R HD.out P (h) (by have := HD.out; omega)
        rw [GY.out] at l1a
        rw [gx] at l1b
        have hc1 := S2.out.cmp HC.out HD.out y x
        have hd1 : decide (cfP cf y x < 0) = false := decide_eq_false hv1
        go_wp2_with fail
        go_quiet_grown (first | (go_at_fn g; refine Calls.grown_of (hc1 _ _)))
        have S3 : Aside (SWK (encT enc) k w0 blk off dk (grow (wr.drewN nq) osq)) := S2.out.grown nq osq
        clear l1a l1b hc1 S2
        generalize grow (wr.drewN nq) osq = w2 at S3 ⊢
        clear nq osq
        go_wp2_with fail
        exact ⟨⟨h + 1, j, by first | rfl | go_num, rfl, by omega, by omega, hjb, .inr ⟨x, by rw [show h + 1 - a - 1 = h - a by omega]; exact HX.out, LT.out⟩, I2, S3⟩, by simp [intOf] <;> omega⟩
    · obtain rfl : i = j := by omega
      have hltz : ¬ (i : Int) < (i : Int) := by omega
      clear hlt hij
      have S4 : Aside (SWK (encT enc) k w0 blk off (Q ++ (A.take (m - a) ++ y :: (A.drop (m - a) ++ S))).toArray wr) := by
        have := S2.out
        rw [HDK.out, E9.out] at this
        rw [show m - a = A.length by have := HA.out; omega]
        exact this
      clear S2
      go_wp2_with fail
      go_loopw [17] (fun v wr2 => ∃ q : Nat, v = .int .i64 q ∧ i ≤ q ∧ q ≤ m ∧ Aside (SWK (encT enc) k w0 blk off (Q ++ (A.take (q - a) ++ y :: (A.drop (q - a) ++ S))).toArray wr2)) (fun v _ => (intOf v).toNat)
      case atStart => exact ⟨m, rfl, hjb, Nat.le_refl _, S4⟩
      case round =>
        clear S4
        obtain ⟨q, rfl, hiq, hqm, S5⟩ := hrel
        by_cases hlt2 : i < q
        · have hlt2z : (i : Int) < (q : Int) := by omega
          obtain ⟨p, rfl⟩ : ∃ p, q = p + 1 := ⟨q - 1, by omega⟩
          have HDk := Lib.hid (SZ.out (p + 1 - a))
          have NX := Lib.hid (SL.out (p - a) (by have := HA.out; omega))
          rw [show a + (p - a) = p by omega, show p - a + 1 = p + 1 - a by omega] at NX
          generalize (Q ++ (A.take (p + 1 - a) ++ y :: (A.drop (p + 1 - a) ++ S))).toArray = dq at *
          have hcast : ((p + 1 : Nat) : Int) = (p : Int) + 1 := by omega
          rw [hcast]
          clear hcast
          have hlt3z : (i : Int) < (p : Int) + 1 := by omega
          have ea2 : ((p : Int) + 1).toNat = p + 1 := by omega
          have pa2 : (0 : Int) ≤ (p : Int) + 1 := by omega
          have ba2 : (p : Int) + 1 < (d0.size : Int) := by omega
          have ra2 : IntKind.i64.wrap ((p : Int) + 1) = (p : Int) + 1 := by rw [IntKind.wrap_i64]; omega
          have ec2 : ((p : Int)).toNat = p := by omega
          have pc2 : (0 : Int) ≤ (p : Int) := by omega
          have bc2 : (p : Int) < (d0.size : Int) := by omega
          have rc2 : IntKind.i64.wrap ((p : Int)) = (p : Int) := by rw [IntKind.wrap_i64]; omega
          have S6 : Aside (SWK (encT enc) k w0 blk off (swp dq (p + 1) (p)) ((wr.drew.setCells blk (off + (p + 1) * k) (encT enc dq[p]!)).setCells blk (off + (p) * k) (encT enc dq[p + 1]!))) := S5.out.swapped R (p + 1) (p) (by have := HDk.out; omega) (by have := HDk.out; omega)
          have l2a := S5.out.ld1 R HDk.out P (p + 1) (by have := HDk.out; omega)
          have l2b := S5.out.ld1 R HDk.out P (p) (by have := HDk.out; omega)
          have s2a := S5.out.st1 R HDk.out P (p + 1) (by have := HDk.out; omega) dq[p]!
          have s2b := S5.out.st2 R HDk.out P (p + 1) (p) (by have := HDk.out; omega) (by have := HDk.out; omega) dq[p]! dq[p + 1]!
          have n2a : (encT enc dq[p + 1]!).length = k := R.hk _
          have n2b : (encT enc dq[p]!).length = k := R.hk _
          generalize encT enc dq[p + 1]! = cI2 at S6 l2a s2b n2a
          generalize encT enc dq[p]! = cJ2 at S6 l2b s2a s2b n2b
          clear S5
          go_wp2_with fail
          go_big_region_o
          clear l2a l2b s2a s2b
          generalize (wr.drew.setCells blk (off + (p + 1) * k) cJ2).setCells blk (off + (p) * k) cI2 = w3 at S6 ⊢
          go_wp2
          exact ⟨⟨p, by first | rfl | go_num, by omega, by omega, by rw [← NX.out]; exact S6⟩, by simp [intOf] <;> omega⟩
        · obtain rfl : q = i := by omega
          have hlt2z : ¬ (q : Int) < (q : Int) := by omega
          go_wp2_with fail
          (try simp only [Exit.inBlock, Exit.then]); refine bodyPost_ret (results_none rfl _ _ _) rfl ?_
          refine ⟨rfl, _, (perm_mid y A (q - a)).trans List.perm_append_comm, merge_right hO ho hc I1.out I2.out, ?_⟩
          have S6 := S5.out
          simpa using S6

end Go.Proofs.Ytjpkeadnccodjaa
