/-
  slices.SortStableFunc's symMergeCmpFunc, of whatever lengths.
-/
import Derived.Test.YtjpkeadnccodjaaStabm
namespace Go.Proofs.Ytjpkeadnccodjaa
open Go.RowKit Go.Lib Go.Sort Go.Shelf

variable {P : Program} {k : Nat} {α : Type} [Inhabited α]

/-- What it leaves of two neighbours. -/
def SymPost (lt : α → α → Bool) (enc : α → List Value) (k : Nat) (w0 : World) (blk off : Nat) (Q A B S : List (α × Nat)) (e : Ending) (w' : World) : Prop :=
  e = .returned (.tuple #[]) ∧ ∃ M, M.Perm (A ++ B) ∧ Ord lt M ∧ SWK (encT enc) k w0 blk off (Q ++ (M ++ S)).toArray w'

set_option maxHeartbeats 16000000 in
set_option maxRecDepth 1000000 in
theorem symGen_w (L : StabL P k) (enc : α → List Value) (cf : α → α → Int) (hO : SWO (ltOf cf)) (g : Nat) (cb : Array Value) (blk off cap : Nat) (d0 : Array (α × Nat)) (w0 : World) (eg : ∀ args w, (callFunc g args).run P w = .ok (.enter g args) w) (hcmp : CmpLays P g cb (encT enc) k (cfP cf) blk off d0.size w0) (R : RowK (encT enc) k w0 blk off d0) (hsz : d0.size < 4611686018427387904) (N : Nat)
    (ih : ∀ (w : World) (Q A B S : List (α × Nat)), A.length + B.length ≤ N → 0 < A.length → 0 < B.length → Ord (ltOf cf) A → Ord (ltOf cf) B → Cross A B → Q.length + A.length + B.length + S.length = d0.size → SWK (encT enc) k w0 blk off (Q ++ (A ++ (B ++ S))).toArray w →
      Calls P 55 #[.slice (some ⟨blk, off, none⟩) d0.size cap, .int .i64 (Q.length : Int), .int .i64 ((Q.length + A.length : Nat) : Int), .int .i64 ((Q.length + A.length + B.length : Nat) : Int), .func (.func g) #[] cb] w (SymPost (ltOf cf) enc k w0 blk off Q A B S))
    (w : World) (Q A B S : List (α × Nat)) (hN : A.length + B.length ≤ N + 1) (hA : 2 ≤ A.length) (hB : 2 ≤ B.length) (hoA : Ord (ltOf cf) A) (hoB : Ord (ltOf cf) B) (hc : Cross A B) (hs : Q.length + A.length + B.length + S.length = d0.size) (S0 : SWK (encT enc) k w0 blk off (Q ++ (A ++ (B ++ S))).toArray w) :
    Calls P 55 #[.slice (some ⟨blk, off, none⟩) d0.size cap, .int .i64 (Q.length : Int), .int .i64 ((Q.length + A.length : Nat) : Int), .int .i64 ((Q.length + A.length + B.length : Nat) : Int), .func (.func g) #[] cb] w (SymPost (ltOf cf) enc k w0 blk off Q A B S) := by
  have mixed := L.mixed; have t3 := L.t3; have a3 := L.a3; have z3 := L.z3; have v3 := L.v3; have t4 := L.t4; have a4 := L.a4; have z4 := L.z4; have v4 := L.v4; have tU := L.tU; have aU := L.aU; have zU := L.zU; have tS := L.tS; have aS := L.aS; have zS := L.zS; have vS := L.vS; have aE := L.aE; have zE := L.zE
  have eSym : ∀ args w, (callFunc 55 args).run P w = .ok (.enter 55 args) w := enters_of L.fSym (by kernel_rfl) rfl
  have eRot : ∀ args w, (callFunc 67 args).run P w = .ok (.enter 67 args) w := enters_of L.fRot (by kernel_rfl) rfl
  have HC : Aside _ := hcmp
  obtain ⟨a, ha⟩ : ∃ a, a = Q.length := ⟨_, rfl⟩
  obtain ⟨m, hm⟩ : ∃ m, m = a + A.length := ⟨_, rfl⟩
  obtain ⟨b, hb⟩ : ∃ b, b = m + B.length := ⟨_, rfl⟩
  obtain ⟨mid, hmid⟩ : ∃ mid, mid = (a + b) / 2 := ⟨_, rfl⟩
  obtain ⟨nn, hnn⟩ : ∃ nn, nn = mid + m := ⟨_, rfl⟩
  obtain ⟨pp, hpp⟩ : ∃ pp, pp + 1 = nn := ⟨nn - 1, by omega⟩
  -- what the three calls do
  have CRn : Hid (∀ i j : Nat, i ≤ A.length → j ≤ B.length → a + i + j = mid → i < A.length → 0 < j → ∀ W, SWK (encT enc) k w0 blk off (Q ++ (A ++ (B ++ S))).toArray W → Calls P 67 #[.slice (some ⟨blk, off, none⟩) d0.size cap, .int .i64 ((a + i : Nat) : Int), .int .i64 (m : Int), .int .i64 ((m + j : Nat) : Int), .func (.func g) #[] cb] W fun e w' => e = .returned (.tuple #[]) ∧ SWK (encT enc) k w0 blk off (Q ++ (A.take i ++ (B.take j ++ (A.drop i ++ (B.drop j ++ S))))).toArray w') := fun i j hi hj hij hi2 hj2 W hW => by
    have hAd : A.drop i ≠ [] := fun e => by have := congrArg List.length e; rw [List.length_drop, List.length_nil] at this; omega
    have hBt : B.take j ≠ [] := fun e => by have := congrArg List.length e; rw [List.length_take, List.length_nil] at this; omega
    have e0 : Q ++ (A ++ (B ++ S)) = (Q ++ A.take i) ++ A.drop i ++ B.take j ++ (B.drop j ++ S) := by
      rw [List.append_assoc (Q ++ A.take i ++ A.drop i), ← List.append_assoc (B.take j), List.take_append_drop, List.append_assoc Q, List.take_append_drop, List.append_assoc]
    rw [e0] at hW
    have := rotate_w L enc g cb blk off cap d0 w0 W R hsz (Q ++ A.take i) (A.drop i) (B.take j) (B.drop j ++ S) hAd hBt (by simp only [List.length_append, List.length_take, List.length_drop]; omega) hW
    rw [show (Q ++ A.take i).length = a + i by rw [List.length_append, List.length_take]; omega, show (A.drop i).length = A.length - i from List.length_drop, show (B.take j).length = j by rw [List.length_take]; omega, show a + i + (A.length - i) = m by omega] at this
    refine this.mono ?_
    rintro e w' ⟨he, h2⟩
    refine ⟨he, ?_⟩
    have e1 : Q ++ A.take i ++ B.take j ++ A.drop i ++ (B.drop j ++ S) = Q ++ (A.take i ++ (B.take j ++ (A.drop i ++ (B.drop j ++ S)))) := by simp only [List.append_assoc]
    rw [e1] at h2
    exact h2
  have NRn : Hid (∀ i j : Nat, i = A.length ∨ j = 0 → Q ++ (A ++ (B ++ S)) = Q ++ (A.take i ++ (B.take j ++ (A.drop i ++ (B.drop j ++ S))))) := fun i j h => by
    rcases h with rfl | rfl
    · rw [List.take_length, List.drop_length, List.nil_append, ← List.append_assoc (B.take j), List.take_append_drop]
    · rw [List.take_zero, List.drop_zero, List.nil_append, ← List.append_assoc (A.take i), List.take_append_drop]
  have CLn : Hid (∀ i j : Nat, i ≤ A.length → j ≤ B.length → a + i + j = mid → 0 < i → 0 < j → ∀ W, SWK (encT enc) k w0 blk off (Q ++ (A.take i ++ (B.take j ++ (A.drop i ++ (B.drop j ++ S))))).toArray W → Calls P 55 #[.slice (some ⟨blk, off, none⟩) d0.size cap, .int .i64 (a : Int), .int .i64 ((a + i : Nat) : Int), .int .i64 (mid : Int), .func (.func g) #[] cb] W (SymPost (ltOf cf) enc k w0 blk off Q (A.take i) (B.take j) (A.drop i ++ (B.drop j ++ S)))) := fun i j hi hj hij hi2 hj2 W hW => by
    have := ih W Q (A.take i) (B.take j) (A.drop i ++ (B.drop j ++ S)) (by rw [List.length_take, List.length_take]; omega) (by rw [List.length_take]; omega) (by rw [List.length_take]; omega) (hoA.sublist (List.take_sublist _ _)) (hoB.sublist (List.take_sublist _ _)) (fun x hx y hy => hc x (List.mem_of_mem_take hx) y (List.mem_of_mem_take hy)) (by simp only [List.length_append, List.length_take, List.length_drop]; omega) hW
    rw [← ha, show (A.take i).length = i by rw [List.length_take]; omega, show (B.take j).length = j by rw [List.length_take]; omega, hij] at this
    exact this
  have CGn : Hid (∀ i j : Nat, i ≤ A.length → j ≤ B.length → a + i + j = mid → i < A.length → j < B.length → ∀ (M : List (α × Nat)) W, M.Perm (A.take i ++ B.take j) → SWK (encT enc) k w0 blk off (Q ++ (M ++ (A.drop i ++ (B.drop j ++ S)))).toArray W → Calls P 55 #[.slice (some ⟨blk, off, none⟩) d0.size cap, .int .i64 (mid : Int), .int .i64 ((m + j : Nat) : Int), .int .i64 (b : Int), .func (.func g) #[] cb] W (SymPost (ltOf cf) enc k w0 blk off (Q ++ M) (A.drop i) (B.drop j) S)) := fun i j hi hj hij hi2 hj2 M W hM hW => by
    have hl : M.length = i + j := by rw [hM.length_eq, List.length_append, List.length_take, List.length_take]; omega
    rw [← List.append_assoc] at hW
    have := ih W (Q ++ M) (A.drop i) (B.drop j) S (by rw [List.length_drop, List.length_drop]; omega) (by rw [List.length_drop]; omega) (by rw [List.length_drop]; omega) (hoA.sublist (List.drop_sublist _ _)) (hoB.sublist (List.drop_sublist _ _)) (fun x hx y hy => hc x (List.mem_of_mem_drop hx) y (List.mem_of_mem_drop hy)) (by simp only [List.length_append, List.length_drop]; omega) hW
    rw [show (Q ++ M).length = mid by rw [List.length_append]; omega, List.length_drop, List.length_drop, show mid + (A.length - i) = m + j by omega, show m + j + (B.length - j) = b by omega] at this
    exact this
  have OL : Hid (∀ i j : Nat, i = 0 ∨ j = 0 → Ord (ltOf cf) (A.take i ++ B.take j)) := fun i j h => by
    rcases h with rfl | rfl
    · rw [List.take_zero, List.nil_append]; exact hoB.sublist (List.take_sublist _ _)
    · rw [List.take_zero, List.append_nil]; exact hoA.sublist (List.take_sublist _ _)
  have OG : Hid (∀ i j : Nat, i = A.length ∨ j = B.length → Ord (ltOf cf) (A.drop i ++ B.drop j)) := fun i j h => by
    rcases h with rfl | rfl
    · rw [List.drop_length, List.nil_append]; exact hoB.sublist (List.drop_sublist _ _)
    · rw [List.drop_length, List.append_nil]; exact hoA.sublist (List.drop_sublist _ _)
  have MC : Hid (∀ i j : Nat, (i = 0 ∨ j = B.length ∨ ∃ u v, A[i - 1]? = some u ∧ B[j]? = some v ∧ ltOf cf v.1 u.1 = false) → (i = A.length ∨ j = 0 ∨ ∃ u v, A[i]? = some u ∧ B[j - 1]? = some v ∧ ltOf cf v.1 u.1 = true) →
      ∀ M1 M2 : List (α × Nat), M1.Perm (A.take i ++ B.take j) → M2.Perm (A.drop i ++ B.drop j) → Ord (ltOf cf) M1 → Ord (ltOf cf) M2 → (M1 ++ M2).Perm (A ++ B) ∧ Ord (ltOf cf) (M1 ++ M2)) := fun i j h1 h2 M1 M2 p1 p2 o1 o2 =>
    ⟨perm_cut p1 p2, ord_join (merge_cut hO hoA hoB hc h1 h2) p1 p2 o1 o2⟩
  rw [← ha, ← hm, ← hb]
  have hbz : b ≤ d0.size := by omega
  have em1 : ((m : Int) - (a : Int) == 1) = false := by rw [beq_eq_false_iff_ne]; omega
  have em2 : ¬ (m : Int) - (a : Int) = 1 := by omega
  have em3 : ((b : Int) - (m : Int) == 1) = false := by rw [beq_eq_false_iff_ne]; omega
  have em4 : ¬ (b : Int) - (m : Int) = 1 := by omega
  have emid : ((a : Int) + (b : Int)) / 2 = (mid : Int) := by omega
  have enn : (mid : Int) + (m : Int) = (nn : Int) := by omega
  have epp : (nn : Int) - 1 = (pp : Int) := by omega
  have HNN : Hid (nn = mid + m ∧ pp + 1 = nn) := ⟨hnn, hpp⟩
  have hnz : nn < 9223372036854775807 := by omega
  have hpz : pp < 9223372036854775807 := by omega
  obtain ⟨dk, hdk⟩ : ∃ dk, dk = (Q ++ (A ++ (B ++ S))).toArray := ⟨_, rfl⟩
  have HDK : Hid (dk = (Q ++ (A ++ (B ++ S))).toArray) := hdk
  have S1 : Aside (SWK (encT enc) k w0 blk off dk w) := by rw [hdk]; exact S0
  have HD : Hid (dk.size = d0.size) := by show dk.size = _; rw [hdk, List.size_toArray]; simp only [List.length_append]; omega
  have GX : Hid (∀ i x, A[i]? = some x → dk[a + i]! = x) := fun i x hx => by
    rw [hdk, ha]
    exact getBangT (put_mid (P := Q) (S := B ++ S) hx)
  have GY : Hid (∀ i y, B[i]? = some y → dk[m + i]! = y) := fun i y hy => by
    rw [hdk, hm, ha]
    exact getBangT (put_last (P := Q) (X := A) (by rw [List.getElem?_append_left (List.getElem?_eq_some_iff.1 hy).1]; exact hy))
  have HAB : Hid (m = a + A.length ∧ b = m + B.length) := ⟨hm, hb⟩
  have ham : a + 2 ≤ m := by omega
  have hmb : m + 2 ≤ b := by omega
  have hmd : a + 1 ≤ mid ∧ mid + 1 ≤ b ∧ 2 * mid ≤ a + b ∧ a + b ≤ 2 * mid + 1 := by omega
  obtain ⟨hmd1, hmd2, hmd3, hmd4⟩ := hmd
  clear hcmp ha hm hb hmid hs S0 hdk hA hB hN ih hoA hoB hc hnn hpp
  have HSZ : Hid (d0.size < 4611686018427387904) := hsz
  by_cases hgt : mid < m
  · have hgtz : (mid : Int) < (m : Int) := by omega
    have HNo := HNN.out
    obtain ⟨s0, hs0⟩ : ∃ s0, s0 + b = nn := ⟨nn - b, by omega⟩
    obtain ⟨r0, hr0⟩ : ∃ r0, r0 = mid := ⟨_, rfl⟩
    have es0 : (nn : Int) - (b : Int) = (s0 : Int) := by omega
    have er0 : (mid : Int) = (r0 : Int) := by omega
    have hs0r : s0 ≤ r0 := by omega
    have hs0a : a ≤ s0 := by omega
    have hr0m : r0 ≤ m := by omega
    have hr0d : r0 ≤ mid := by omega
    have HSR : Hid ((s0 = a ∨ mid - s0 = B.length) ∧ (r0 = m ∨ r0 = mid) ∧ mid - s0 ≤ B.length) := ⟨.inr (by have := HAB.out; omega), .inr hr0, by have := HAB.out; omega⟩
    have HR0 : Hid (r0 = mid) := hr0
    clear er0 hr0 hs0 HNo
    go_enter L.fSym, Try.ntmps55
    go_wp2
    go_loopw [20, 21] (fun u v wr => ∃ s r : Nat, u = .int .i64 s ∧ v = .int .i64 r ∧ s0 ≤ s ∧ s ≤ r ∧ r ≤ r0 ∧ Hid (s = s0 ∨ ∃ u v, A[s - a - 1]? = some u ∧ B[mid - s]? = some v ∧ ltOf cf v.1 u.1 = false) ∧ Hid (r = r0 ∨ ∃ u v, A[r - a]? = some u ∧ B[mid - r - 1]? = some v ∧ ltOf cf v.1 u.1 = true) ∧ Aside (SWK (encT enc) k w0 blk off dk wr)) (fun u v _ => (intOf v).toNat - (intOf u).toNat)
    case atStart => exact ⟨s0, r0, rfl, by rw [HR0.out], Nat.le_refl _, hs0r, Nat.le_refl _, .inl rfl, .inl rfl, S1⟩
    case round =>
      clear S1
      obtain ⟨s, r, rfl, rfl, hs0s, hsr, hrr, I1, I2, S2⟩ := hrel
      by_cases hlt : s < r
      · have hltz : (s : Int) < (r : Int) := by omega
        obtain ⟨c, hcc⟩ : ∃ c, c = (s + r) / 2 := ⟨_, rfl⟩
        have HNo := HNN.out
        have hsc : s ≤ c := by omega
        have hcr : c < r := by omega
        have ecz : ((s : Int) + (r : Int)) / 2 = (c : Int) := by omega
        obtain ⟨pc, hpc⟩ : ∃ pc, pc = pp - c := ⟨_, rfl⟩
        have epc : (pp : Int) - (c : Int) = (pc : Int) := by omega
        have hpm : m ≤ pc := by omega
        have hpb : pc < b := by omega
        have hpe : pc - m = mid - c - 1 := by omega
        have HSM := HSR.out
        clear hcc
        obtain ⟨u, hu⟩ : ∃ u, A[c - a]? = some u := ⟨_, List.getElem?_eq_getElem (by have := HAB.out; omega)⟩
        obtain ⟨v, hv⟩ : ∃ v, B[mid - c - 1]? = some v := ⟨_, List.getElem?_eq_getElem (by have := HAB.out; omega)⟩
        have gu := GX.out (c - a) u hu
        rw [show a + (c - a) = c by omega] at gu
        have gv := GY.out (pc - m) v (by rw [hpe]; exact hv)
        rw [show m + (pc - m) = pc by omega] at gv
        have HU : Hid (A[c - a]? = some u) := hu
        have HV : Hid (B[mid - c - 1]? = some v) := hv
        clear hu hv hpe hpc HSM HNo
        by_cases hv1 : cfP cf v u < 0
        · have LT : Hid (ltOf cf v.1 u.1 = true) := decide_eq_true hv1
          have ea1 : ((pc : Int)).toNat = pc := by omega
          have pa1 : (0 : Int) ≤ (pc : Int) := by omega
          have ba1 : (pc : Int) < (d0.size : Int) := by omega
          have ra1 : IntKind.i64.wrap ((pc : Int)) = (pc : Int) := by rw [IntKind.wrap_i64]; omega
          have ec1 : ((c : Int)).toNat = c := by omega
          have pc1 : (0 : Int) ≤ (c : Int) := by omega
          have bc1 : (c : Int) < (d0.size : Int) := by omega
          have rc1 : IntKind.i64.wrap ((c : Int)) = (c : Int) := by rw [IntKind.wrap_i64]; omega
          have l1a := S2.out.ld R HD.out P (pc) (by have := HD.out; omega)
          have l1b := S2.out.ld R HD.out P (c) (by have := HD.out; omega)
          rw [gv] at l1a
          rw [gu] at l1b
          have hc1 := S2.out.cmp HC.out HD.out v u
          have hd1 : decide (cfP cf v u < 0) = true := decide_eq_true hv1
          go_wp2_with fail
          go_quiet_grown (first | (go_at_fn g; refine Calls.grown_of (hc1 _ _)))
          have S3 : Aside (SWK (encT enc) k w0 blk off dk (grow (wr.drewN nq) osq)) := S2.out.grown nq osq
          clear l1a l1b hc1 S2
          generalize grow (wr.drewN nq) osq = w2 at S3 ⊢
          clear nq osq
          go_wp2_with fail
          exact ⟨⟨s, c, rfl, by first | rfl | go_num, hs0s, hsc, by omega, I1, .inr ⟨u, v, HU.out, HV.out, LT.out⟩, S3⟩, by simp [intOf] <;> omega⟩
        · have LT : Hid (ltOf cf v.1 u.1 = false) := decide_eq_false hv1
          have ea1 : ((pc : Int)).toNat = pc := by omega
          have pa1 : (0 : Int) ≤ (pc : Int) := by omega
          have ba1 : (pc : Int) < (d0.size : Int) := by omega
          have ra1 : IntKind.i64.wrap ((pc : Int)) = (pc : Int) := by rw [IntKind.wrap_i64]; omega
          have ec1 : ((c : Int)).toNat = c := by omega
          have pc1 : (0 : Int) ≤ (c : Int) := by omega
          have bc1 : (c : Int) < (d0.size : Int) := by omega
          have rc1 : IntKind.i64.wrap ((c : Int)) = (c : Int) := by rw [IntKind.wrap_i64]; omega
          have l1a := S2.out.ld R HD.out P (pc) (by have := HD.out; omega)
          have l1b := S2.out.ld R HD.out P (c) (by have := HD.out; omega)
          rw [gv] at l1a
          rw [gu] at l1b
          have hc1 := S2.out.cmp HC.out HD.out v u
          have hd1 : decide (cfP cf v u < 0) = false := decide_eq_false hv1
          go_wp2_with fail
          go_quiet_grown (first | (go_at_fn g; refine Calls.grown_of (hc1 _ _)))
          have S3 : Aside (SWK (encT enc) k w0 blk off dk (grow (wr.drewN nq) osq)) := S2.out.grown nq osq
          clear l1a l1b hc1 S2
          generalize grow (wr.drewN nq) osq = w2 at S3 ⊢
          clear nq osq
          go_wp2_with fail
          exact ⟨⟨c + 1, r, by first | rfl | go_num, rfl, by omega, by omega, hrr, .inr ⟨u, v, by rw [show c + 1 - a - 1 = c - a by omega]; exact HU.out, by rw [show mid - (c + 1) = mid - c - 1 by omega]; exact HV.out, LT.out⟩, I2, S3⟩, by simp [intOf] <;> omega⟩
      · obtain rfl : s = r := by omega
        have hltz : ¬ (s : Int) < (s : Int) := by omega
        clear hlt hsr
        have HSM := HSR.out
        obtain ⟨i, hi⟩ : ∃ i, i = s - a := ⟨_, rfl⟩
        obtain ⟨j, hj⟩ : ∃ j, j = mid - s := ⟨_, rfl⟩
        obtain ⟨en, hen⟩ : ∃ en, en = m + j := ⟨_, rfl⟩
        have een : (nn : Int) - (s : Int) = (en : Int) := by have := HNN.out; omega
        have henz : en < 9223372036854775807 := by omega
        have hsi : s = a + i := by omega
        have hia : i ≤ A.length := by have := HAB.out; omega
        have hjb : j ≤ B.length := by have := HAB.out; omega
        have hij : a + i + j = mid := by omega
        have F1 : i = 0 ∨ j = B.length ∨ ∃ u v, A[i - 1]? = some u ∧ B[j]? = some v ∧ ltOf cf v.1 u.1 = false := by
          rcases I1.out with h | ⟨u, v, h1, h2, h3⟩
          · rcases HSM.1 with h4 | h4
            · exact .inl (by omega)
            · exact .inr (.inl (by omega))
          · exact .inr (.inr ⟨u, v, by rw [hi]; exact h1, by rw [hj]; exact h2, h3⟩)
        have F2 : i = A.length ∨ j = 0 ∨ ∃ u v, A[i]? = some u ∧ B[j - 1]? = some v ∧ ltOf cf v.1 u.1 = true := by
          rcases I2.out with h | ⟨u, v, h1, h2, h3⟩
          · rcases HSM.2.1 with h4 | h4
            · exact .inl (by have := HAB.out; omega)
            · exact .inr (.inl (by omega))
          · exact .inr (.inr ⟨u, v, by rw [hi]; exact h1, by rw [hj]; exact h2, h3⟩)
        have FM := Lib.hid (MC.out i j F1 F2)
        have CR := Lib.hid (CRn.out i j hia hjb hij)
        have NR := Lib.hid (NRn.out i j)
        have CL := Lib.hid (CLn.out i j hia hjb hij)
        have CG := Lib.hid (CGn.out i j hia hjb hij)
        rw [← hsi, ← hen] at CR
        rw [← hsi] at CL
        rw [← hen] at CG
        have HIJ : Hid (s = a + i ∧ en = m + j ∧ m = a + A.length ∧ b = m + B.length ∧ a + i + j = mid) := ⟨hsi, hen, HAB.out.1, HAB.out.2, hij⟩
        have S4 : Aside (SWK (encT enc) k w0 blk off (Q ++ (A ++ (B ++ S))).toArray wr) := by rw [← HDK.out]; exact S2.out
        have OLj := Lib.hid (OL.out i j)
        have OGj := Lib.hid (OG.out i j)
        clear S2 I1 I2 F1 F2 CRn NRn CLn CGn MC OL OG HDK GX GY HSM hi hj hen hsi hij hrr hs0s
        rcases Nat.eq_zero_or_pos i with ci | ci
        · have cj : 0 < j := by have := HIJ.out; omega
          rcases Nat.eq_or_lt_of_le hia with ca | ca
          · exact absurd ca (by have := HIJ.out; omega)
          · rcases Nat.eq_or_lt_of_le hjb with cb | cb
            · have z1 : (s : Int) < (m : Int) := by have := HIJ.out; omega
              have z2 : (m : Int) < (en : Int) := by have := HIJ.out; omega
              have z3 : ¬ (a : Int) < (s : Int) := by have := HIJ.out; omega
              have z4 : (s : Int) < (mid : Int) := by have := HIJ.out; omega
              have z5 : (mid : Int) < (en : Int) := by have := HIJ.out; omega
              have z6 : ¬ (en : Int) < (b : Int) := by have := HIJ.out; omega
              have CRo := Lib.hid (CR.out (by have := HIJ.out; omega) (by have := HIJ.out; omega))
              have PM1 := Lib.hid (List.Perm.refl (A.take i ++ B.take j))
              have OM1 := Lib.hid (OLj.out (by have := HIJ.out; omega))
              have PM2 := Lib.hid (List.Perm.refl (A.drop i ++ B.drop j))
              have OM2 := Lib.hid (OGj.out (by have := HIJ.out; omega))
              go_wp2_with (first | (go_at_fn 67; (with_reducible refine (CRo.out _ S4.out).mono ?_); rintro e w3 ⟨rfl, T5⟩; have S5 : Aside (SWK (encT enc) k w0 blk off (Q ++ (A.take i ++ (B.take j ++ (A.drop i ++ (B.drop j ++ S))))).toArray w3) := T5; clear T5; have S6 : Aside (SWK (encT enc) k w0 blk off (Q ++ ((A.take i ++ B.take j) ++ (A.drop i ++ (B.drop j ++ S)))).toArray w3) := (by have h : SWK (encT enc) k w0 blk off (Q ++ (A.take i ++ (B.take j ++ (A.drop i ++ (B.drop j ++ S))))).toArray w3 := S5.out; rw [← List.append_assoc (A.take i)] at h; exact h)))
              all_goals
                go_end0
                obtain ⟨f1, f2⟩ := FM.out _ _ PM1.out PM2.out OM1.out OM2.out
                refine ⟨rfl, _, f1, f2, ?_⟩
                have h : SWK (encT enc) k w0 blk off (Q ++ ((A.take i ++ B.take j) ++ (A.drop i ++ (B.drop j ++ S)))).toArray w3 := S6.out
                simpa only [List.append_assoc] using h
            · have z1 : (s : Int) < (m : Int) := by have := HIJ.out; omega
              have z2 : (m : Int) < (en : Int) := by have := HIJ.out; omega
              have z3 : ¬ (a : Int) < (s : Int) := by have := HIJ.out; omega
              have z4 : (s : Int) < (mid : Int) := by have := HIJ.out; omega
              have z5 : (mid : Int) < (en : Int) := by have := HIJ.out; omega
              have z6 : (en : Int) < (b : Int) := by have := HIJ.out; omega
              have CRo := Lib.hid (CR.out (by have := HIJ.out; omega) (by have := HIJ.out; omega))
              have PM1 := Lib.hid (List.Perm.refl (A.take i ++ B.take j))
              have OM1 := Lib.hid (OLj.out (by have := HIJ.out; omega))
              have CGo := Lib.hid (CG.out (by have := HIJ.out; omega) (by have := HIJ.out; omega))
              go_wp2_with (first | (go_at_fn 67; (with_reducible refine (CRo.out _ S4.out).mono ?_); rintro e w3 ⟨rfl, T5⟩; have S5 : Aside (SWK (encT enc) k w0 blk off (Q ++ (A.take i ++ (B.take j ++ (A.drop i ++ (B.drop j ++ S))))).toArray w3) := T5; clear T5; have S6 : Aside (SWK (encT enc) k w0 blk off (Q ++ ((A.take i ++ B.take j) ++ (A.drop i ++ (B.drop j ++ S)))).toArray w3) := (by have h : SWK (encT enc) k w0 blk off (Q ++ (A.take i ++ (B.take j ++ (A.drop i ++ (B.drop j ++ S))))).toArray w3 := S5.out; rw [← List.append_assoc (A.take i)] at h; exact h)) | (go_at_fn 55; (with_reducible refine (CGo.out _ _ PM1.out S6.out).mono ?_); rintro e w5 ⟨rfl, M2, pm2, om2, T7⟩; have S7 : Aside (SWK (encT enc) k w0 blk off (Q ++ (A.take i ++ B.take j) ++ (M2 ++ S)).toArray w5) := T7; have PM2 := Lib.hid pm2; have OM2 := Lib.hid om2; clear T7 pm2 om2))
              all_goals
                go_end0
                obtain ⟨f1, f2⟩ := FM.out _ _ PM1.out PM2.out OM1.out OM2.out
                refine ⟨rfl, _, f1, f2, ?_⟩
                have h : SWK (encT enc) k w0 blk off (Q ++ (A.take i ++ B.take j) ++ (M2 ++ S)).toArray w5 := S7.out
                simpa only [List.append_assoc] using h
        · rcases Nat.eq_zero_or_pos j with cj | cj
          · rcases Nat.eq_or_lt_of_le hjb with cb | cb
            · exact absurd cb (by have := HIJ.out; omega)
            · rcases Nat.eq_or_lt_of_le hia with ca | ca
              · have z1 : ¬ (s : Int) < (m : Int) := by have := HIJ.out; omega
                have z2 : ¬ (m : Int) < (en : Int) := by have := HIJ.out; omega
                have z3 : (a : Int) < (s : Int) := by have := HIJ.out; omega
                have z4 : ¬ (s : Int) < (mid : Int) := by have := HIJ.out; omega
                have z5 : ¬ (mid : Int) < (en : Int) := by have := HIJ.out; omega
                have z6 : (en : Int) < (b : Int) := by have := HIJ.out; omega
                have S5 : Aside (SWK (encT enc) k w0 blk off (Q ++ (A.take i ++ (B.take j ++ (A.drop i ++ (B.drop j ++ S))))).toArray wr) := by rw [← NR.out (by have := HIJ.out; omega)]; exact S4.out
                have S6 : Aside (SWK (encT enc) k w0 blk off (Q ++ ((A.take i ++ B.take j) ++ (A.drop i ++ (B.drop j ++ S)))).toArray wr) := (by have h : SWK (encT enc) k w0 blk off (Q ++ (A.take i ++ (B.take j ++ (A.drop i ++ (B.drop j ++ S))))).toArray wr := S5.out; rw [← List.append_assoc (A.take i)] at h; exact h)
                have PM1 := Lib.hid (List.Perm.refl (A.take i ++ B.take j))
                have OM1 := Lib.hid (OLj.out (by have := HIJ.out; omega))
                have PM2 := Lib.hid (List.Perm.refl (A.drop i ++ B.drop j))
                have OM2 := Lib.hid (OGj.out (by have := HIJ.out; omega))
                go_wp2_with fail
                all_goals
                  go_end0
                  obtain ⟨f1, f2⟩ := FM.out _ _ PM1.out PM2.out OM1.out OM2.out
                  refine ⟨rfl, _, f1, f2, ?_⟩
                  have h : SWK (encT enc) k w0 blk off (Q ++ ((A.take i ++ B.take j) ++ (A.drop i ++ (B.drop j ++ S)))).toArray wr := S6.out
                  simpa only [List.append_assoc] using h
              · have z1 : (s : Int) < (m : Int) := by have := HIJ.out; omega
                have z2 : ¬ (m : Int) < (en : Int) := by have := HIJ.out; omega
                have z3 : (a : Int) < (s : Int) := by have := HIJ.out; omega
                have z4 : ¬ (s : Int) < (mid : Int) := by have := HIJ.out; omega
                have z5 : (mid : Int) < (en : Int) := by have := HIJ.out; omega
                have z6 : (en : Int) < (b : Int) := by have := HIJ.out; omega
                have S5 : Aside (SWK (encT enc) k w0 blk off (Q ++ (A.take i ++ (B.take j ++ (A.drop i ++ (B.drop j ++ S))))).toArray wr) := by rw [← NR.out (by have := HIJ.out; omega)]; exact S4.out
                have S6 : Aside (SWK (encT enc) k w0 blk off (Q ++ ((A.take i ++ B.take j) ++ (A.drop i ++ (B.drop j ++ S)))).toArray wr) := (by have h : SWK (encT enc) k w0 blk off (Q ++ (A.take i ++ (B.take j ++ (A.drop i ++ (B.drop j ++ S))))).toArray wr := S5.out; rw [← List.append_assoc (A.take i)] at h; exact h)
                have PM1 := Lib.hid (List.Perm.refl (A.take i ++ B.take j))
                have OM1 := Lib.hid (OLj.out (by have := HIJ.out; omega))
                have CGo := Lib.hid (CG.out (by have := HIJ.out; omega) (by have := HIJ.out; omega))
                go_wp2_with (first | (go_at_fn 55; (with_reducible refine (CGo.out _ _ PM1.out S6.out).mono ?_); rintro e w5 ⟨rfl, M2, pm2, om2, T7⟩; have S7 : Aside (SWK (encT enc) k w0 blk off (Q ++ (A.take i ++ B.take j) ++ (M2 ++ S)).toArray w5) := T7; have PM2 := Lib.hid pm2; have OM2 := Lib.hid om2; clear T7 pm2 om2))
                all_goals
                  go_end0
                  obtain ⟨f1, f2⟩ := FM.out _ _ PM1.out PM2.out OM1.out OM2.out
                  refine ⟨rfl, _, f1, f2, ?_⟩
                  have h : SWK (encT enc) k w0 blk off (Q ++ (A.take i ++ B.take j) ++ (M2 ++ S)).toArray w5 := S7.out
                  simpa only [List.append_assoc] using h
          · rcases Nat.eq_or_lt_of_le hia with ca | ca
            · rcases Nat.eq_or_lt_of_le hjb with cb | cb
              · exact absurd ca (by have := HIJ.out; omega)
              · have z1 : ¬ (s : Int) < (m : Int) := by have := HIJ.out; omega
                have z2 : (m : Int) < (en : Int) := by have := HIJ.out; omega
                have z3 : (a : Int) < (s : Int) := by have := HIJ.out; omega
                have z4 : (s : Int) < (mid : Int) := by have := HIJ.out; omega
                have z5 : ¬ (mid : Int) < (en : Int) := by have := HIJ.out; omega
                have z6 : (en : Int) < (b : Int) := by have := HIJ.out; omega
                have S5 : Aside (SWK (encT enc) k w0 blk off (Q ++ (A.take i ++ (B.take j ++ (A.drop i ++ (B.drop j ++ S))))).toArray wr) := by rw [← NR.out (by have := HIJ.out; omega)]; exact S4.out
                have CLo := Lib.hid (CL.out (by have := HIJ.out; omega) (by have := HIJ.out; omega))
                have PM2 := Lib.hid (List.Perm.refl (A.drop i ++ B.drop j))
                have OM2 := Lib.hid (OGj.out (by have := HIJ.out; omega))
                go_wp2_with (first | (go_at_fn 55; (with_reducible refine (CLo.out _ S5.out).mono ?_); rintro e w4 ⟨rfl, M1, pm1, om1, T6⟩; have S6 : Aside (SWK (encT enc) k w0 blk off (Q ++ (M1 ++ (A.drop i ++ (B.drop j ++ S)))).toArray w4) := T6; have PM1 := Lib.hid pm1; have OM1 := Lib.hid om1; clear T6 pm1 om1))
                all_goals
                  go_end0
                  obtain ⟨f1, f2⟩ := FM.out _ _ PM1.out PM2.out OM1.out OM2.out
                  refine ⟨rfl, _, f1, f2, ?_⟩
                  have h : SWK (encT enc) k w0 blk off (Q ++ (M1 ++ (A.drop i ++ (B.drop j ++ S)))).toArray w4 := S6.out
                  simpa only [List.append_assoc] using h
            · rcases Nat.eq_or_lt_of_le hjb with cb | cb
              · have z1 : (s : Int) < (m : Int) := by have := HIJ.out; omega
                have z2 : (m : Int) < (en : Int) := by have := HIJ.out; omega
                have z3 : (a : Int) < (s : Int) := by have := HIJ.out; omega
                have z4 : (s : Int) < (mid : Int) := by have := HIJ.out; omega
                have z5 : (mid : Int) < (en : Int) := by have := HIJ.out; omega
                have z6 : ¬ (en : Int) < (b : Int) := by have := HIJ.out; omega
                have CRo := Lib.hid (CR.out (by have := HIJ.out; omega) (by have := HIJ.out; omega))
                have CLo := Lib.hid (CL.out (by have := HIJ.out; omega) (by have := HIJ.out; omega))
                have PM2 := Lib.hid (List.Perm.refl (A.drop i ++ B.drop j))
                have OM2 := Lib.hid (OGj.out (by have := HIJ.out; omega))
                go_wp2_with (first | (go_at_fn 67; (with_reducible refine (CRo.out _ S4.out).mono ?_); rintro e w3 ⟨rfl, T5⟩; have S5 : Aside (SWK (encT enc) k w0 blk off (Q ++ (A.take i ++ (B.take j ++ (A.drop i ++ (B.drop j ++ S))))).toArray w3) := T5; clear T5) | (go_at_fn 55; (with_reducible refine (CLo.out _ S5.out).mono ?_); rintro e w4 ⟨rfl, M1, pm1, om1, T6⟩; have S6 : Aside (SWK (encT enc) k w0 blk off (Q ++ (M1 ++ (A.drop i ++ (B.drop j ++ S)))).toArray w4) := T6; have PM1 := Lib.hid pm1; have OM1 := Lib.hid om1; clear T6 pm1 om1))
                all_goals
                  go_end0
                  obtain ⟨f1, f2⟩ := FM.out _ _ PM1.out PM2.out OM1.out OM2.out
                  refine ⟨rfl, _, f1, f2, ?_⟩
                  have h : SWK (encT enc) k w0 blk off (Q ++ (M1 ++ (A.drop i ++ (B.drop j ++ S)))).toArray w4 := S6.out
                  simpa only [List.append_assoc] using h
              · have z1 : (s : Int) < (m : Int) := by have := HIJ.out; omega
                have z2 : (m : Int) < (en : Int) := by have := HIJ.out; omega
                have z3 : (a : Int) < (s : Int) := by have := HIJ.out; omega
                have z4 : (s : Int) < (mid : Int) := by have := HIJ.out; omega
                have z5 : (mid : Int) < (en : Int) := by have := HIJ.out; omega
                have z6 : (en : Int) < (b : Int) := by have := HIJ.out; omega
                have CRo := Lib.hid (CR.out (by have := HIJ.out; omega) (by have := HIJ.out; omega))
                have CLo := Lib.hid (CL.out (by have := HIJ.out; omega) (by have := HIJ.out; omega))
                have CGo := Lib.hid (CG.out (by have := HIJ.out; omega) (by have := HIJ.out; omega))
                go_wp2_with (first | (go_at_fn 67; (with_reducible refine (CRo.out _ S4.out).mono ?_); rintro e w3 ⟨rfl, T5⟩; have S5 : Aside (SWK (encT enc) k w0 blk off (Q ++ (A.take i ++ (B.take j ++ (A.drop i ++ (B.drop j ++ S))))).toArray w3) := T5; clear T5) | (go_at_fn 55; (with_reducible refine (CLo.out _ S5.out).mono ?_); rintro e w4 ⟨rfl, M1, pm1, om1, T6⟩; have S6 : Aside (SWK (encT enc) k w0 blk off (Q ++ (M1 ++ (A.drop i ++ (B.drop j ++ S)))).toArray w4) := T6; have PM1 := Lib.hid pm1; have OM1 := Lib.hid om1; clear T6 pm1 om1) | (go_at_fn 55; (with_reducible refine (CGo.out _ _ PM1.out S6.out).mono ?_); rintro e w5 ⟨rfl, M2, pm2, om2, T7⟩; have S7 : Aside (SWK (encT enc) k w0 blk off (Q ++ M1 ++ (M2 ++ S)).toArray w5) := T7; have PM2 := Lib.hid pm2; have OM2 := Lib.hid om2; clear T7 pm2 om2))
                all_goals
                  go_end0
                  obtain ⟨f1, f2⟩ := FM.out _ _ PM1.out PM2.out OM1.out OM2.out
                  refine ⟨rfl, _, f1, f2, ?_⟩
                  have h : SWK (encT enc) k w0 blk off (Q ++ M1 ++ (M2 ++ S)).toArray w5 := S7.out
                  simpa only [List.append_assoc] using h
  · have hgtz : ¬ (mid : Int) < (m : Int) := by omega
    obtain ⟨s0, hs0⟩ : ∃ s0, s0 = a := ⟨_, rfl⟩
    obtain ⟨r0, hr0⟩ : ∃ r0, r0 = m := ⟨_, rfl⟩
    have hs0r : s0 ≤ r0 := by omega
    have hs0a : a ≤ s0 := by omega
    have hr0m : r0 ≤ m := by omega
    have hr0d : r0 ≤ mid := by omega
    have HSR : Hid ((s0 = a ∨ mid - s0 = B.length) ∧ (r0 = m ∨ r0 = mid) ∧ mid - s0 ≤ B.length) := ⟨.inl hs0, .inl hr0, by have := HAB.out; omega⟩
    have HS0 : Hid (s0 = a ∧ r0 = m) := ⟨hs0, hr0⟩
    clear hs0 hr0
    go_enter L.fSym, Try.ntmps55
    go_wp2
    go_loopw [20, 21] (fun u v wr => ∃ s r : Nat, u = .int .i64 s ∧ v = .int .i64 r ∧ s0 ≤ s ∧ s ≤ r ∧ r ≤ r0 ∧ Hid (s = s0 ∨ ∃ u v, A[s - a - 1]? = some u ∧ B[mid - s]? = some v ∧ ltOf cf v.1 u.1 = false) ∧ Hid (r = r0 ∨ ∃ u v, A[r - a]? = some u ∧ B[mid - r - 1]? = some v ∧ ltOf cf v.1 u.1 = true) ∧ Aside (SWK (encT enc) k w0 blk off dk wr)) (fun u v _ => (intOf v).toNat - (intOf u).toNat)
    case atStart => exact ⟨s0, r0, by rw [HS0.out.1], by rw [HS0.out.2], Nat.le_refl _, hs0r, Nat.le_refl _, .inl rfl, .inl rfl, S1⟩
    case round =>
      clear S1
      obtain ⟨s, r, rfl, rfl, hs0s, hsr, hrr, I1, I2, S2⟩ := hrel
      by_cases hlt : s < r
      · have hltz : (s : Int) < (r : Int) := by omega
        obtain ⟨c, hcc⟩ : ∃ c, c = (s + r) / 2 := ⟨_, rfl⟩
        have HNo := HNN.out
        have hsc : s ≤ c := by omega
        have hcr : c < r := by omega
        have ecz : ((s : Int) + (r : Int)) / 2 = (c : Int) := by omega
        obtain ⟨pc, hpc⟩ : ∃ pc, pc = pp - c := ⟨_, rfl⟩
        have epc : (pp : Int) - (c : Int) = (pc : Int) := by omega
        have hpm : m ≤ pc := by omega
        have hpb : pc < b := by omega
        have hpe : pc - m = mid - c - 1 := by omega
        have HSM := HSR.out
        clear hcc
        obtain ⟨u, hu⟩ : ∃ u, A[c - a]? = some u := ⟨_, List.getElem?_eq_getElem (by have := HAB.out; omega)⟩
        obtain ⟨v, hv⟩ : ∃ v, B[mid - c - 1]? = some v := ⟨_, List.getElem?_eq_getElem (by have := HAB.out; omega)⟩
        have gu := GX.out (c - a) u hu
        rw [show a + (c - a) = c by omega] at gu
        have gv := GY.out (pc - m) v (by rw [hpe]; exact hv)
        rw [show m + (pc - m) = pc by omega] at gv
        have HU : Hid (A[c - a]? = some u) := hu
        have HV : Hid (B[mid - c - 1]? = some v) := hv
        clear hu hv hpe hpc HSM HNo
        by_cases hv1 : cfP cf v u < 0
        · have LT : Hid (ltOf cf v.1 u.1 = true) := decide_eq_true hv1
          have ea1 : ((pc : Int)).toNat = pc := by omega
          have pa1 : (0 : Int) ≤ (pc : Int) := by omega
          have ba1 : (pc : Int) < (d0.size : Int) := by omega
          have ra1 : IntKind.i64.wrap ((pc : Int)) = (pc : Int) := by rw [IntKind.wrap_i64]; omega
          have ec1 : ((c : Int)).toNat = c := by omega
          have pc1 : (0 : Int) ≤ (c : Int) := by omega
          have bc1 : (c : Int) < (d0.size : Int) := by omega
          have rc1 : IntKind.i64.wrap ((c : Int)) = (c : Int) := by rw [IntKind.wrap_i64]; omega
          have l1a := S2.out.ld R HD.out P (pc) (by have := HD.out; omega)
          have l1b := S2.out.ld R HD.out P (c) (by have := HD.out; omega)
          rw [gv] at l1a
          rw [gu] at l1b
          have hc1 := S2.out.cmp HC.out HD.out v u
          have hd1 : decide (cfP cf v u < 0) = true := decide_eq_true hv1
          go_wp2_with fail
          go_quiet_grown (first | (go_at_fn g; refine Calls.grown_of (hc1 _ _)))
          have S3 : Aside (SWK (encT enc) k w0 blk off dk (grow (wr.drewN nq) osq)) := S2.out.grown nq osq
          clear l1a l1b hc1 S2
          generalize grow (wr.drewN nq) osq = w2 at S3 ⊢
          clear nq osq
          go_wp2_with fail
          exact ⟨⟨s, c, rfl, by first | rfl | go_num, hs0s, hsc, by omega, I1, .inr ⟨u, v, HU.out, HV.out, LT.out⟩, S3⟩, by simp [intOf] <;> omega⟩
        · have LT : Hid (ltOf cf v.1 u.1 = false) := decide_eq_false hv1
          have ea1 : ((pc : Int)).toNat = pc := by omega
          have pa1 : (0 : Int) ≤ (pc : Int) := by omega
          have ba1 : (pc : Int) < (d0.size : Int) := by omega
          have ra1 : IntKind.i64.wrap ((pc : Int)) = (pc : Int) := by rw [IntKind.wrap_i64]; omega
          have ec1 : ((c : Int)).toNat = c := by omega
          have pc1 : (0 : Int) ≤ (c : Int) := by omega
          have bc1 : (c : Int) < (d0.size : Int) := by omega
          have rc1 : IntKind.i64.wrap ((c : Int)) = (c : Int) := by rw [IntKind.wrap_i64]; omega
          have l1a := S2.out.ld R HD.out P (pc) (by have := HD.out; omega)
          have l1b := S2.out.ld R HD.out P (c) (by have := HD.out; omega)
          rw [gv] at l1a
          rw [gu] at l1b
          have hc1 := S2.out.cmp HC.out HD.out v u
          have hd1 : decide (cfP cf v u < 0) = false := decide_eq_false hv1
          go_wp2_with fail
          go_quiet_grown (first | (go_at_fn g; refine Calls.grown_of (hc1 _ _)))
          have S3 : Aside (SWK (encT enc) k w0 blk off dk (grow (wr.drewN nq) osq)) := S2.out.grown nq osq
          clear l1a l1b hc1 S2
          generalize grow (wr.drewN nq) osq = w2 at S3 ⊢
          clear nq osq
          go_wp2_with fail
          exact ⟨⟨c + 1, r, by first | rfl | go_num, rfl, by omega, by omega, hrr, .inr ⟨u, v, by rw [show c + 1 - a - 1 = c - a by omega]; exact HU.out, by rw [show mid - (c + 1) = mid - c - 1 by omega]; exact HV.out, LT.out⟩, I2, S3⟩, by simp [intOf] <;> omega⟩
      · obtain rfl : s = r := by omega
        have hltz : ¬ (s : Int) < (s : Int) := by omega
        clear hlt hsr
        have HSM := HSR.out
        obtain ⟨i, hi⟩ : ∃ i, i = s - a := ⟨_, rfl⟩
        obtain ⟨j, hj⟩ : ∃ j, j = mid - s := ⟨_, rfl⟩
        obtain ⟨en, hen⟩ : ∃ en, en = m + j := ⟨_, rfl⟩
        have een : (nn : Int) - (s : Int) = (en : Int) := by have := HNN.out; omega
        have henz : en < 9223372036854775807 := by omega
        have hsi : s = a + i := by omega
        have hia : i ≤ A.length := by have := HAB.out; omega
        have hjb : j ≤ B.length := by have := HAB.out; omega
        have hij : a + i + j = mid := by omega
        have F1 : i = 0 ∨ j = B.length ∨ ∃ u v, A[i - 1]? = some u ∧ B[j]? = some v ∧ ltOf cf v.1 u.1 = false := by
          rcases I1.out with h | ⟨u, v, h1, h2, h3⟩
          · rcases HSM.1 with h4 | h4
            · exact .inl (by omega)
            · exact .inr (.inl (by omega))
          · exact .inr (.inr ⟨u, v, by rw [hi]; exact h1, by rw [hj]; exact h2, h3⟩)
        have F2 : i = A.length ∨ j = 0 ∨ ∃ u v, A[i]? = some u ∧ B[j - 1]? = some v ∧ ltOf cf v.1 u.1 = true := by
          rcases I2.out with h | ⟨u, v, h1, h2, h3⟩
          · rcases HSM.2.1 with h4 | h4
            · exact .inl (by have := HAB.out; omega)
            · exact .inr (.inl (by omega))
          · exact .inr (.inr ⟨u, v, by rw [hi]; exact h1, by rw [hj]; exact h2, h3⟩)
        have FM := Lib.hid (MC.out i j F1 F2)
        have CR := Lib.hid (CRn.out i j hia hjb hij)
        have NR := Lib.hid (NRn.out i j)
        have CL := Lib.hid (CLn.out i j hia hjb hij)
        have CG := Lib.hid (CGn.out i j hia hjb hij)
        rw [← hsi, ← hen] at CR
        rw [← hsi] at CL
        rw [← hen] at CG
        have HIJ : Hid (s = a + i ∧ en = m + j ∧ m = a + A.length ∧ b = m + B.length ∧ a + i + j = mid) := ⟨hsi, hen, HAB.out.1, HAB.out.2, hij⟩
        have S4 : Aside (SWK (encT enc) k w0 blk off (Q ++ (A ++ (B ++ S))).toArray wr) := by rw [← HDK.out]; exact S2.out
        have OLj := Lib.hid (OL.out i j)
        have OGj := Lib.hid (OG.out i j)
        clear S2 I1 I2 F1 F2 CRn NRn CLn CGn MC OL OG HDK GX GY HSM hi hj hen hsi hij hrr hs0s
        rcases Nat.eq_zero_or_pos i with ci | ci
        · have cj : 0 < j := by have := HIJ.out; omega
          rcases Nat.eq_or_lt_of_le hia with ca | ca
          · exact absurd ca (by have := HIJ.out; omega)
          · rcases Nat.eq_or_lt_of_le hjb with cb | cb
            · have z1 : (s : Int) < (m : Int) := by have := HIJ.out; omega
              have z2 : (m : Int) < (en : Int) := by have := HIJ.out; omega
              have z3 : ¬ (a : Int) < (s : Int) := by have := HIJ.out; omega
              have z4 : (s : Int) < (mid : Int) := by have := HIJ.out; omega
              have z5 : (mid : Int) < (en : Int) := by have := HIJ.out; omega
              have z6 : ¬ (en : Int) < (b : Int) := by have := HIJ.out; omega
              have CRo := Lib.hid (CR.out (by have := HIJ.out; omega) (by have := HIJ.out; omega))
              have PM1 := Lib.hid (List.Perm.refl (A.take i ++ B.take j))
              have OM1 := Lib.hid (OLj.out (by have := HIJ.out; omega))
              have PM2 := Lib.hid (List.Perm.refl (A.drop i ++ B.drop j))
              have OM2 := Lib.hid (OGj.out (by have := HIJ.out; omega))
              go_wp2_with (first | (go_at_fn 67; (with_reducible refine (CRo.out _ S4.out).mono ?_); rintro e w3 ⟨rfl, T5⟩; have S5 : Aside (SWK (encT enc) k w0 blk off (Q ++ (A.take i ++ (B.take j ++ (A.drop i ++ (B.drop j ++ S))))).toArray w3) := T5; clear T5; have S6 : Aside (SWK (encT enc) k w0 blk off (Q ++ ((A.take i ++ B.take j) ++ (A.drop i ++ (B.drop j ++ S)))).toArray w3) := (by have h : SWK (encT enc) k w0 blk off (Q ++ (A.take i ++ (B.take j ++ (A.drop i ++ (B.drop j ++ S))))).toArray w3 := S5.out; rw [← List.append_assoc (A.take i)] at h; exact h)))
              all_goals
                go_end0
                obtain ⟨f1, f2⟩ := FM.out _ _ PM1.out PM2.out OM1.out OM2.out
                refine ⟨rfl, _, f1, f2, ?_⟩
                have h : SWK (encT enc) k w0 blk off (Q ++ ((A.take i ++ B.take j) ++ (A.drop i ++ (B.drop j ++ S)))).toArray w3 := S6.out
                simpa only [List.append_assoc] using h
            · have z1 : (s : Int) < (m : Int) := by have := HIJ.out; omega
              have z2 : (m : Int) < (en : Int) := by have := HIJ.out; omega
              have z3 : ¬ (a : Int) < (s : Int) := by have := HIJ.out; omega
              have z4 : (s : Int) < (mid : Int) := by have := HIJ.out; omega
              have z5 : (mid : Int) < (en : Int) := by have := HIJ.out; omega
              have z6 : (en : Int) < (b : Int) := by have := HIJ.out; omega
              have CRo := Lib.hid (CR.out (by have := HIJ.out; omega) (by have := HIJ.out; omega))
              have PM1 := Lib.hid (List.Perm.refl (A.take i ++ B.take j))
              have OM1 := Lib.hid (OLj.out (by have := HIJ.out; omega))
              have CGo := Lib.hid (CG.out (by have := HIJ.out; omega) (by have := HIJ.out; omega))
              go_wp2_with (first | (go_at_fn 67; (with_reducible refine (CRo.out _ S4.out).mono ?_); rintro e w3 ⟨rfl, T5⟩; have S5 : Aside (SWK (encT enc) k w0 blk off (Q ++ (A.take i ++ (B.take j ++ (A.drop i ++ (B.drop j ++ S))))).toArray w3) := T5; clear T5; have S6 : Aside (SWK (encT enc) k w0 blk off (Q ++ ((A.take i ++ B.take j) ++ (A.drop i ++ (B.drop j ++ S)))).toArray w3) := (by have h : SWK (encT enc) k w0 blk off (Q ++ (A.take i ++ (B.take j ++ (A.drop i ++ (B.drop j ++ S))))).toArray w3 := S5.out; rw [← List.append_assoc (A.take i)] at h; exact h)) | (go_at_fn 55; (with_reducible refine (CGo.out _ _ PM1.out S6.out).mono ?_); rintro e w5 ⟨rfl, M2, pm2, om2, T7⟩; have S7 : Aside (SWK (encT enc) k w0 blk off (Q ++ (A.take i ++ B.take j) ++ (M2 ++ S)).toArray w5) := T7; have PM2 := Lib.hid pm2; have OM2 := Lib.hid om2; clear T7 pm2 om2))
              all_goals
                go_end0
                obtain ⟨f1, f2⟩ := FM.out _ _ PM1.out PM2.out OM1.out OM2.out
                refine ⟨rfl, _, f1, f2, ?_⟩
                have h : SWK (encT enc) k w0 blk off (Q ++ (A.take i ++ B.take j) ++ (M2 ++ S)).toArray w5 := S7.out
                simpa only [List.append_assoc] using h
        · rcases Nat.eq_zero_or_pos j with cj | cj
          · rcases Nat.eq_or_lt_of_le hjb with cb | cb
            · exact absurd cb (by have := HIJ.out; omega)
            · rcases Nat.eq_or_lt_of_le hia with ca | ca
              · have z1 : ¬ (s : Int) < (m : Int) := by have := HIJ.out; omega
                have z2 : ¬ (m : Int) < (en : Int) := by have := HIJ.out; omega
                have z3 : (a : Int) < (s : Int) := by have := HIJ.out; omega
                have z4 : ¬ (s : Int) < (mid : Int) := by have := HIJ.out; omega
                have z5 : ¬ (mid : Int) < (en : Int) := by have := HIJ.out; omega
                have z6 : (en : Int) < (b : Int) := by have := HIJ.out; omega
                have S5 : Aside (SWK (encT enc) k w0 blk off (Q ++ (A.take i ++ (B.take j ++ (A.drop i ++ (B.drop j ++ S))))).toArray wr) := by rw [← NR.out (by have := HIJ.out; omega)]; exact S4.out
                have S6 : Aside (SWK (encT enc) k w0 blk off (Q ++ ((A.take i ++ B.take j) ++ (A.drop i ++ (B.drop j ++ S)))).toArray wr) := (by have h : SWK (encT enc) k w0 blk off (Q ++ (A.take i ++ (B.take j ++ (A.drop i ++ (B.drop j ++ S))))).toArray wr := S5.out; rw [← List.append_assoc (A.take i)] at h; exact h)
                have PM1 := Lib.hid (List.Perm.refl (A.take i ++ B.take j))
                have OM1 := Lib.hid (OLj.out (by have := HIJ.out; omega))
                have PM2 := Lib.hid (List.Perm.refl (A.drop i ++ B.drop j))
                have OM2 := Lib.hid (OGj.out (by have := HIJ.out; omega))
                go_wp2_with fail
                all_goals
                  go_end0
                  obtain ⟨f1, f2⟩ := FM.out _ _ PM1.out PM2.out OM1.out OM2.out
                  refine ⟨rfl, _, f1, f2, ?_⟩
                  have h : SWK (encT enc) k w0 blk off (Q ++ ((A.take i ++ B.take j) ++ (A.drop i ++ (B.drop j ++ S)))).toArray wr := S6.out
                  simpa only [List.append_assoc] using h
              · have z1 : (s : Int) < (m : Int) := by have := HIJ.out; omega
                have z2 : ¬ (m : Int) < (en : Int) := by have := HIJ.out; omega
                have z3 : (a : Int) < (s : Int) := by have := HIJ.out; omega
                have z4 : ¬ (s : Int) < (mid : Int) := by have := HIJ.out; omega
                have z5 : (mid : Int) < (en : Int) := by have := HIJ.out; omega
                have z6 : (en : Int) < (b : Int) := by have := HIJ.out; omega
                have S5 : Aside (SWK (encT enc) k w0 blk off (Q ++ (A.take i ++ (B.take j ++ (A.drop i ++ (B.drop j ++ S))))).toArray wr) := by rw [← NR.out (by have := HIJ.out; omega)]; exact S4.out
                have S6 : Aside (SWK (encT enc) k w0 blk off (Q ++ ((A.take i ++ B.take j) ++ (A.drop i ++ (B.drop j ++ S)))).toArray wr) := (by have h : SWK (encT enc) k w0 blk off (Q ++ (A.take i ++ (B.take j ++ (A.drop i ++ (B.drop j ++ S))))).toArray wr := S5.out; rw [← List.append_assoc (A.take i)] at h; exact h)
                have PM1 := Lib.hid (List.Perm.refl (A.take i ++ B.take j))
                have OM1 := Lib.hid (OLj.out (by have := HIJ.out; omega))
                have CGo := Lib.hid (CG.out (by have := HIJ.out; omega) (by have := HIJ.out; omega))
                go_wp2_with (first | (go_at_fn 55; (with_reducible refine (CGo.out _ _ PM1.out S6.out).mono ?_); rintro e w5 ⟨rfl, M2, pm2, om2, T7⟩; have S7 : Aside (SWK (encT enc) k w0 blk off (Q ++ (A.take i ++ B.take j) ++ (M2 ++ S)).toArray w5) := T7; have PM2 := Lib.hid pm2; have OM2 := Lib.hid om2; clear T7 pm2 om2))
                all_goals
                  go_end0
                  obtain ⟨f1, f2⟩ := FM.out _ _ PM1.out PM2.out OM1.out OM2.out
                  refine ⟨rfl, _, f1, f2, ?_⟩
                  have h : SWK (encT enc) k w0 blk off (Q ++ (A.take i ++ B.take j) ++ (M2 ++ S)).toArray w5 := S7.out
                  simpa only [List.append_assoc] using h
          · rcases Nat.eq_or_lt_of_le hia with ca | ca
            · rcases Nat.eq_or_lt_of_le hjb with cb | cb
              · exact absurd ca (by have := HIJ.out; omega)
              · have z1 : ¬ (s : Int) < (m : Int) := by have := HIJ.out; omega
                have z2 : (m : Int) < (en : Int) := by have := HIJ.out; omega
                have z3 : (a : Int) < (s : Int) := by have := HIJ.out; omega
                have z4 : (s : Int) < (mid : Int) := by have := HIJ.out; omega
                have z5 : ¬ (mid : Int) < (en : Int) := by have := HIJ.out; omega
                have z6 : (en : Int) < (b : Int) := by have := HIJ.out; omega
                have S5 : Aside (SWK (encT enc) k w0 blk off (Q ++ (A.take i ++ (B.take j ++ (A.drop i ++ (B.drop j ++ S))))).toArray wr) := by rw [← NR.out (by have := HIJ.out; omega)]; exact S4.out
                have CLo := Lib.hid (CL.out (by have := HIJ.out; omega) (by have := HIJ.out; omega))
                have PM2 := Lib.hid (List.Perm.refl (A.drop i ++ B.drop j))
                have OM2 := Lib.hid (OGj.out (by have := HIJ.out; omega))
                go_wp2_with (first | (go_at_fn 55; (with_reducible refine (CLo.out _ S5.out).mono ?_); rintro e w4 ⟨rfl, M1, pm1, om1, T6⟩; have S6 : Aside (SWK (encT enc) k w0 blk off (Q ++ (M1 ++ (A.drop i ++ (B.drop j ++ S)))).toArray w4) := T6; have PM1 := Lib.hid pm1; have OM1 := Lib.hid om1; clear T6 pm1 om1))
                all_goals
                  go_end0
                  obtain ⟨f1, f2⟩ := FM.out _ _ PM1.out PM2.out OM1.out OM2.out
                  refine ⟨rfl, _, f1, f2, ?_⟩
                  have h : SWK (encT enc) k w0 blk off (Q ++ (M1 ++ (A.drop i ++ (B.drop j ++ S)))).toArray w4 := S6.out
                  simpa only [List.append_assoc] using h
            · rcases Nat.eq_or_lt_of_le hjb with cb | cb
              · have z1 : (s : Int) < (m : Int) := by have := HIJ.out; omega
                have z2 : (m : Int) < (en : Int) := by have := HIJ.out; omega
                have z3 : (a : Int) < (s : Int) := by have := HIJ.out; omega
                have z4 : (s : Int) < (mid : Int) := by have := HIJ.out; omega
                have z5 : (mid : Int) < (en : Int) := by have := HIJ.out; omega
                have z6 : ¬ (en : Int) < (b : Int) := by have := HIJ.out; omega
                have CRo := Lib.hid (CR.out (by have := HIJ.out; omega) (by have := HIJ.out; omega))
                have CLo := Lib.hid (CL.out (by have := HIJ.out; omega) (by have := HIJ.out; omega))
                have PM2 := Lib.hid (List.Perm.refl (A.drop i ++ B.drop j))
                have OM2 := Lib.hid (OGj.out (by have := HIJ.out; omega))
                go_wp2_with (first | (go_at_fn 67; (with_reducible refine (CRo.out _ S4.out).mono ?_); rintro e w3 ⟨rfl, T5⟩; have S5 : Aside (SWK (encT enc) k w0 blk off (Q ++ (A.take i ++ (B.take j ++ (A.drop i ++ (B.drop j ++ S))))).toArray w3) := T5; clear T5) | (go_at_fn 55; (with_reducible refine (CLo.out _ S5.out).mono ?_); rintro e w4 ⟨rfl, M1, pm1, om1, T6⟩; have S6 : Aside (SWK (encT enc) k w0 blk off (Q ++ (M1 ++ (A.drop i ++ (B.drop j ++ S)))).toArray w4) := T6; have PM1 := Lib.hid pm1; have OM1 := Lib.hid om1; clear T6 pm1 om1))
                all_goals
                  go_end0
                  obtain ⟨f1, f2⟩ := FM.out _ _ PM1.out PM2.out OM1.out OM2.out
                  refine ⟨rfl, _, f1, f2, ?_⟩
                  have h : SWK (encT enc) k w0 blk off (Q ++ (M1 ++ (A.drop i ++ (B.drop j ++ S)))).toArray w4 := S6.out
                  simpa only [List.append_assoc] using h
              · have z1 : (s : Int) < (m : Int) := by have := HIJ.out; omega
                have z2 : (m : Int) < (en : Int) := by have := HIJ.out; omega
                have z3 : (a : Int) < (s : Int) := by have := HIJ.out; omega
                have z4 : (s : Int) < (mid : Int) := by have := HIJ.out; omega
                have z5 : (mid : Int) < (en : Int) := by have := HIJ.out; omega
                have z6 : (en : Int) < (b : Int) := by have := HIJ.out; omega
                have CRo := Lib.hid (CR.out (by have := HIJ.out; omega) (by have := HIJ.out; omega))
                have CLo := Lib.hid (CL.out (by have := HIJ.out; omega) (by have := HIJ.out; omega))
                have CGo := Lib.hid (CG.out (by have := HIJ.out; omega) (by have := HIJ.out; omega))
                go_wp2_with (first | (go_at_fn 67; (with_reducible refine (CRo.out _ S4.out).mono ?_); rintro e w3 ⟨rfl, T5⟩; have S5 : Aside (SWK (encT enc) k w0 blk off (Q ++ (A.take i ++ (B.take j ++ (A.drop i ++ (B.drop j ++ S))))).toArray w3) := T5; clear T5) | (go_at_fn 55; (with_reducible refine (CLo.out _ S5.out).mono ?_); rintro e w4 ⟨rfl, M1, pm1, om1, T6⟩; have S6 : Aside (SWK (encT enc) k w0 blk off (Q ++ (M1 ++ (A.drop i ++ (B.drop j ++ S)))).toArray w4) := T6; have PM1 := Lib.hid pm1; have OM1 := Lib.hid om1; clear T6 pm1 om1) | (go_at_fn 55; (with_reducible refine (CGo.out _ _ PM1.out S6.out).mono ?_); rintro e w5 ⟨rfl, M2, pm2, om2, T7⟩; have S7 : Aside (SWK (encT enc) k w0 blk off (Q ++ M1 ++ (M2 ++ S)).toArray w5) := T7; have PM2 := Lib.hid pm2; have OM2 := Lib.hid om2; clear T7 pm2 om2))
                all_goals
                  go_end0
                  obtain ⟨f1, f2⟩ := FM.out _ _ PM1.out PM2.out OM1.out OM2.out
                  refine ⟨rfl, _, f1, f2, ?_⟩
                  have h : SWK (encT enc) k w0 blk off (Q ++ M1 ++ (M2 ++ S)).toArray w5 := S7.out
                  simpa only [List.append_assoc] using h

end Go.Proofs.Ytjpkeadnccodjaa
