/-
  Texts joined into one: what the program's and the document's calls give back, piece by piece.
-/
import Derived.Test.YtaoobliajgcdmaaGreatMg1
import Derived.Test.YtaoobliajgcdmaaGreatMg2
import Derived.Test.YtaoobliajgcdmaaGreatProg
import Derived.Deep.LoopGhost
import Derived.Lib.Hide
import Derived.Shelf.SlSortCmp.KitK
import Derived.Shelf.SlSortCmp.NoneTotal
import Derived.Sort.WalkB12
import Derived.Sort.WalkB2
import Derived.Test.YtaoobliajgcdmaaGreatRows
import Derived.BigQuiet
import Derived.ChangeAlike
import Derived.ChangeKeysEq
import Derived.Deep.AppendLies
import Derived.Deep.CutBlock
import Derived.Deep.CutRange
import Derived.Deep.Light
import Derived.Deep.QuietTactic
import Derived.Deep.RegionHeld3
import Derived.Deep.RegionLaw
import Derived.Handy
import Derived.Laws.BytesArg
import Derived.Laws.OwnMore
import Derived.Laws.Strings
import Derived.Laws.StructEq
import Derived.Maps.AppendAt
import Derived.OneCell
import Derived.OwnWalk
import Derived.RegionTactic
import Derived.StillTailTactics
import Derived.WalkArith
import Derived.WalkKit
import Derived.WalkLawsBesides
import Derived.WalkSpells
import Derived.Lib.Bytealg
import Derived.Lib.SmallJoins
import Derived.ProofKit
import Derived.RangeFuncOwn

/-
  slices.SortStableFunc's symMergeCmpFunc, of whatever lengths.
-/
namespace Go.Proofs.YtaoobliajgcdmaaGreat
open Go.RowKit Go.Lib Go.Sort Go.Shelf

variable {P : Program} {k : Nat} {α : Type} [Inhabited α]

/-- What it leaves of two neighbours. -/
def SymPost (lt : α → α → Bool) (enc : α → List Value) (k : Nat) (w0 : World) (blk off : Nat) (Q A B S : List (α × Nat)) (e : Ending) (w' : World) : Prop :=
  e = .returned (.tuple #[]) ∧ ∃ M, M.Perm (A ++ B) ∧ Ord lt M ∧ SWK (encT enc) k w0 blk off (Q ++ (M ++ S)).toArray w'

set_option maxHeartbeats 16000000 in
set_option maxRecDepth 1000000 in
theorem symGen_w (L : StabL P k) (enc : α → List Value) (cf : α → α → Int) (hO : SWO (ltOf cf)) (g : Nat) (cb : Array Value) (blk off cap : Nat) (d0 : Array (α × Nat)) (w0 : World) (eg : ∀ args w, (callFunc g args).run P w = .ok (.enter g args) w) (hcmp : CmpLays P g cb (encT enc) k (cfP cf) blk off d0.size w0) (R : RowK (encT enc) k w0 blk off d0) (hsz : d0.size < 4611686018427387904) (N : Nat)
    (ih : ∀ (w : World) (Q A B S : List (α × Nat)), A.length + B.length ≤ N → 0 < A.length → 0 < B.length → Ord (ltOf cf) A → Ord (ltOf cf) B → Cross A B → Q.length + A.length + B.length + S.length = d0.size → SWK (encT enc) k w0 blk off (Q ++ (A ++ (B ++ S))).toArray w →
      Calls P 122 #[.slice (some ⟨blk, off, none⟩) d0.size cap, .int .i64 (Q.length : Int), .int .i64 ((Q.length + A.length : Nat) : Int), .int .i64 ((Q.length + A.length + B.length : Nat) : Int), .func (.func g) #[] cb] w (SymPost (ltOf cf) enc k w0 blk off Q A B S))
    (w : World) (Q A B S : List (α × Nat)) (hN : A.length + B.length ≤ N + 1) (hA : 2 ≤ A.length) (hB : 2 ≤ B.length) (hoA : Ord (ltOf cf) A) (hoB : Ord (ltOf cf) B) (hc : Cross A B) (hs : Q.length + A.length + B.length + S.length = d0.size) (S0 : SWK (encT enc) k w0 blk off (Q ++ (A ++ (B ++ S))).toArray w) :
    Calls P 122 #[.slice (some ⟨blk, off, none⟩) d0.size cap, .int .i64 (Q.length : Int), .int .i64 ((Q.length + A.length : Nat) : Int), .int .i64 ((Q.length + A.length + B.length : Nat) : Int), .func (.func g) #[] cb] w (SymPost (ltOf cf) enc k w0 blk off Q A B S) := by
  have mixed := L.mixed; have t3 := L.t3; have a3 := L.a3; have z3 := L.z3; have v3 := L.v3; have t4 := L.t4; have a4 := L.a4; have z4 := L.z4; have v4 := L.v4; have tU := L.tU; have aU := L.aU; have zU := L.zU; have tS := L.tS; have aS := L.aS; have zS := L.zS; have vS := L.vS; have aE := L.aE; have zE := L.zE
  have eSym : ∀ args w, (callFunc 122 args).run P w = .ok (.enter 122 args) w := enters_of L.fSym (by kernel_rfl) rfl
  have eRot : ∀ args w, (callFunc 149 args).run P w = .ok (.enter 149 args) w := enters_of L.fRot (by kernel_rfl) rfl
  have HC : Aside _ := hcmp
  obtain ⟨a, ha⟩ : ∃ a, a = Q.length := ⟨_, rfl⟩
  obtain ⟨m, hm⟩ : ∃ m, m = a + A.length := ⟨_, rfl⟩
  obtain ⟨b, hb⟩ : ∃ b, b = m + B.length := ⟨_, rfl⟩
  obtain ⟨mid, hmid⟩ : ∃ mid, mid = (a + b) / 2 := ⟨_, rfl⟩
  obtain ⟨nn, hnn⟩ : ∃ nn, nn = mid + m := ⟨_, rfl⟩
  obtain ⟨pp, hpp⟩ : ∃ pp, pp + 1 = nn := ⟨nn - 1, by omega⟩
  -- what the three calls do
  have CRn : Hid (∀ i j : Nat, i ≤ A.length → j ≤ B.length → a + i + j = mid → i < A.length → 0 < j → ∀ W, SWK (encT enc) k w0 blk off (Q ++ (A ++ (B ++ S))).toArray W → Calls P 149 #[.slice (some ⟨blk, off, none⟩) d0.size cap, .int .i64 ((a + i : Nat) : Int), .int .i64 (m : Int), .int .i64 ((m + j : Nat) : Int), .func (.func g) #[] cb] W fun e w' => e = .returned (.tuple #[]) ∧ SWK (encT enc) k w0 blk off (Q ++ (A.take i ++ (B.take j ++ (A.drop i ++ (B.drop j ++ S))))).toArray w') := fun i j hi hj hij hi2 hj2 W hW => by
    have hAd : A.drop i ≠ [] := fun e => by have := congrArg List.length e; rw [List.length_drop, List.length_nil] at this; omega
    have hBt : B.take j ≠ [] := fun e => by have := congrArg List.length e; rw [List.length_take, List.length_nil] at this; omega
    have e0 : Q ++ (A ++ (B ++ S)) = (Q ++ A.take i) ++ A.drop i ++ B.take j ++ (B.drop j ++ S) := by
      rw [List.append_assoc (Q ++ A.take i ++ A.drop i), ← List.append_assoc (B.take j), List.take_append_drop, List.append_assoc Q, List.take_append_drop, List.append_assoc]
    rw [e0] at hW
    have := rotate_w L enc g cb blk off cap d0 w0 W R hsz (Q ++ A.take i) (A.drop i) (B.take j) (B.drop j ++ S) hAd hBt (by simp only [List.length_append, List.length_take, List.length_drop]; omega) hW
    rw [show (Q ++ A.take i).length = a + i by rw [List.length_append, List.length_take]; omega, show (A.drop i).length = A.length - i from List.length_drop, show (B.take j).length = j by rw [List.length_take]; omega, show a + i + (A.length - i) = m by omega] at this
    refine this.mono ?_
    rintro e w' ⟨he, h2⟩
    refine ⟨he, ?_⟩
    have e1 : Q ++ A.take i ++ B.take j ++ A.drop i ++ (B.drop j ++ S) = Q ++ (A.take i ++ (B.take j ++ (A.drop i ++ (B.drop j ++ S)))) := by simp only [List.append_assoc]
    rw [e1] at h2
    exact h2
  have NRn : Hid (∀ i j : Nat, i = A.length ∨ j = 0 → Q ++ (A ++ (B ++ S)) = Q ++ (A.take i ++ (B.take j ++ (A.drop i ++ (B.drop j ++ S))))) := fun i j h => by
    rcases h with rfl | rfl
    · rw [List.take_length, List.drop_length, List.nil_append, ← List.append_assoc (B.take j), List.take_append_drop]
    · rw [List.take_zero, List.drop_zero, List.nil_append, ← List.append_assoc (A.take i), List.take_append_drop]
  have CLn : Hid (∀ i j : Nat, i ≤ A.length → j ≤ B.length → a + i + j = mid → 0 < i → 0 < j → ∀ W, SWK (encT enc) k w0 blk off (Q ++ (A.take i ++ (B.take j ++ (A.drop i ++ (B.drop j ++ S))))).toArray W → Calls P 122 #[.slice (some ⟨blk, off, none⟩) d0.size cap, .int .i64 (a : Int), .int .i64 ((a + i : Nat) : Int), .int .i64 (mid : Int), .func (.func g) #[] cb] W (SymPost (ltOf cf) enc k w0 blk off Q (A.take i) (B.take j) (A.drop i ++ (B.drop j ++ S)))) := fun i j hi hj hij hi2 hj2 W hW => by
    have := ih W Q (A.take i) (B.take j) (A.drop i ++ (B.drop j ++ S)) (by rw [List.length_take, List.length_take]; omega) (by rw [List.length_take]; omega) (by rw [List.length_take]; omega) (hoA.sublist (List.take_sublist _ _)) (hoB.sublist (List.take_sublist _ _)) (fun x hx y hy => hc x (List.mem_of_mem_take hx) y (List.mem_of_mem_take hy)) (by simp only [List.length_append, List.length_take, List.length_drop]; omega) hW
    rw [← ha, show (A.take i).length = i by rw [List.length_take]; omega, show (B.take j).length = j by rw [List.length_take]; omega, hij] at this
    exact this
  have CGn : Hid (∀ i j : Nat, i ≤ A.length → j ≤ B.length → a + i + j = mid → i < A.length → j < B.length → ∀ (M : List (α × Nat)) W, M.Perm (A.take i ++ B.take j) → SWK (encT enc) k w0 blk off (Q ++ (M ++ (A.drop i ++ (B.drop j ++ S)))).toArray W → Calls P 122 #[.slice (some ⟨blk, off, none⟩) d0.size cap, .int .i64 (mid : Int), .int .i64 ((m + j : Nat) : Int), .int .i64 (b : Int), .func (.func g) #[] cb] W (SymPost (ltOf cf) enc k w0 blk off (Q ++ M) (A.drop i) (B.drop j) S)) := fun i j hi hj hij hi2 hj2 M W hM hW => by
    have hl : M.length = i + j := by rw [hM.length_eq, List.length_append, List.length_take, List.length_take]; omega
    rw [← List.append_assoc] at hW
    have := ih W (Q ++ M) (A.drop i) (B.drop j) S (by rw [List.length_drop, List.length_drop]; omega) (by rw [List.length_drop]; omega) (by rw [List.length_drop]; omega) (hoA.sublist (List.drop_sublist _ _)) (hoB.sublist (List.drop_sublist _ _)) (fun x hx y hy => hc x (List.mem_of_mem_drop hx) y (List.mem_of_mem_drop hy)) (by simp only [List.length_append, List.length_drop]; omega) hW
    rw [show (Q ++ M).length = mid by rw [List.length_append]; omega, List.length_drop, List.length_drop, show mid + (A.length - i) = m + j by omega, show m + j + (B.length - j) = b by omega] at this
    exact this
  have OL : Hid (∀ i j : Nat, i = 0 ∨ j = 0 → Ord (ltOf cf) (A.take i ++ B.take j)) := fun i j h => by
    rcases h with rfl | rfl
    · rw [List.take_zero, List.nil_append]; exact hoB.sublist (List.take_sublist _ _)
    · rw [List.take_zero, List.append_nil]; exact hoA.sublist (List.take_sublist _ _)
  have OG : Hid (∀ i j : Nat, i = A.length ∨ j = B.length → Ord (ltOf cf) (A.drop i ++ B.drop j)) := fun i j h => by
    rcases h with rfl | rfl
    · rw [List.drop_length, List.nil_append]; exact hoB.sublist (List.drop_sublist _ _)
    · rw [List.drop_length, List.append_nil]; exact hoA.sublist (List.drop_sublist _ _)
  have MC : Hid (∀ i j : Nat, (i = 0 ∨ j = B.length ∨ ∃ u v, A[i - 1]? = some u ∧ B[j]? = some v ∧ ltOf cf v.1 u.1 = false) → (i = A.length ∨ j = 0 ∨ ∃ u v, A[i]? = some u ∧ B[j - 1]? = some v ∧ ltOf cf v.1 u.1 = true) →
      ∀ M1 M2 : List (α × Nat), M1.Perm (A.take i ++ B.take j) → M2.Perm (A.drop i ++ B.drop j) → Ord (ltOf cf) M1 → Ord (ltOf cf) M2 → (M1 ++ M2).Perm (A ++ B) ∧ Ord (ltOf cf) (M1 ++ M2)) := fun i j h1 h2 M1 M2 p1 p2 o1 o2 =>
    ⟨perm_cut p1 p2, ord_join (merge_cut hO hoA hoB hc h1 h2) p1 p2 o1 o2⟩
  rw [← ha, ← hm, ← hb]
  have hbz : b ≤ d0.size := by omega
  have em1 : ((m : Int) - (a : Int) == 1) = false := by rw [beq_eq_false_iff_ne]; omega
  have em2 : ¬ (m : Int) - (a : Int) = 1 := by omega
  have em3 : ((b : Int) - (m : Int) == 1) = false := by rw [beq_eq_false_iff_ne]; omega
  have em4 : ¬ (b : Int) - (m : Int) = 1 := by omega
  have emid : ((a : Int) + (b : Int)) / 2 = (mid : Int) := by omega
  have enn : (mid : Int) + (m : Int) = (nn : Int) := by omega
  have epp : (nn : Int) - 1 = (pp : Int) := by omega
  have HNN : Hid (nn = mid + m ∧ pp + 1 = nn) := ⟨hnn, hpp⟩
  have hnz : nn < 9223372036854775807 := by omega
  have hpz : pp < 9223372036854775807 := by omega
  obtain ⟨dk, hdk⟩ : ∃ dk, dk = (Q ++ (A ++ (B ++ S))).toArray := ⟨_, rfl⟩
  have HDK : Hid (dk = (Q ++ (A ++ (B ++ S))).toArray) := hdk
  have S1 : Aside (SWK (encT enc) k w0 blk off dk w) := by rw [hdk]; exact S0
  have HD : Hid (dk.size = d0.size) := by show dk.size = _; rw [hdk, List.size_toArray]; simp only [List.length_append]; omega
  have GX : Hid (∀ i x, A[i]? = some x → dk[a + i]! = x) := fun i x hx => by
    rw [hdk, ha]
    exact getBangT (put_mid (P := Q) (S := B ++ S) hx)
  have GY : Hid (∀ i y, B[i]? = some y → dk[m + i]! = y) := fun i y hy => by
    rw [hdk, hm, ha]
    exact getBangT (put_last (P := Q) (X := A) (by rw [List.getElem?_append_left (List.getElem?_eq_some_iff.1 hy).1]; exact hy))
  have HAB : Hid (m = a + A.length ∧ b = m + B.length) := ⟨hm, hb⟩
  have ham : a + 2 ≤ m := by omega
  have hmb : m + 2 ≤ b := by omega
  have hmd : a + 1 ≤ mid ∧ mid + 1 ≤ b ∧ 2 * mid ≤ a + b ∧ a + b ≤ 2 * mid + 1 := by omega
  obtain ⟨hmd1, hmd2, hmd3, hmd4⟩ := hmd
  clear hcmp ha hm hb hmid hs S0 hdk hA hB hN ih hoA hoB hc hnn hpp
  have HSZ : Hid (d0.size < 4611686018427387904) := hsz
  by_cases hgt : mid < m
  · have hgtz : (mid : Int) < (m : Int) := by omega
    have HNo := HNN.out
    obtain ⟨s0, hs0⟩ : ∃ s0, s0 + b = nn := ⟨nn - b, by omega⟩
    obtain ⟨r0, hr0⟩ : ∃ r0, r0 = mid := ⟨_, rfl⟩
    have es0 : (nn : Int) - (b : Int) = (s0 : Int) := by omega
    have er0 : (mid : Int) = (r0 : Int) := by omega
    have hs0r : s0 ≤ r0 := by omega
    have hs0a : a ≤ s0 := by omega
    have hr0m : r0 ≤ m := by omega
    have hr0d : r0 ≤ mid := by omega
    have HSR : Hid ((s0 = a ∨ mid - s0 = B.length) ∧ (r0 = m ∨ r0 = mid) ∧ mid - s0 ≤ B.length) := ⟨.inr (by have := HAB.out; omega), .inr hr0, by have := HAB.out; omega⟩
    have HR0 : Hid (r0 = mid) := hr0
    clear er0 hr0 hs0 HNo
    go_enter L.fSym, Tryz.ntmps122
    go_wp2
    go_loopw [20, 21] (fun u v wr => ∃ s r : Nat, u = .int .i64 s ∧ v = .int .i64 r ∧ s0 ≤ s ∧ s ≤ r ∧ r ≤ r0 ∧ Hid (s = s0 ∨ ∃ u v, A[s - a - 1]? = some u ∧ B[mid - s]? = some v ∧ ltOf cf v.1 u.1 = false) ∧ Hid (r = r0 ∨ ∃ u v, A[r - a]? = some u ∧ B[mid - r - 1]? = some v ∧ ltOf cf v.1 u.1 = true) ∧ Aside (SWK (encT enc) k w0 blk off dk wr)) (fun u v _ => (intOf v).toNat - (intOf u).toNat)
    case atStart => exact ⟨s0, r0, rfl, by rw [HR0.out], Nat.le_refl _, hs0r, Nat.le_refl _, .inl rfl, .inl rfl, S1⟩
    case round =>
      clear S1
      obtain ⟨s, r, rfl, rfl, hs0s, hsr, hrr, I1, I2, S2⟩ := hrel
      by_cases hlt : s < r
      · have hltz : (s : Int) < (r : Int) := by omega
        obtain ⟨c, hcc⟩ : ∃ c, c = (s + r) / 2 := ⟨_, rfl⟩
        have HNo := HNN.out
        have hsc : s ≤ c := by omega
        have hcr : c < r := by omega
        have ecz : ((s : Int) + (r : Int)) / 2 = (c : Int) := by omega
        obtain ⟨pc, hpc⟩ : ∃ pc, pc = pp - c := ⟨_, rfl⟩
        have epc : (pp : Int) - (c : Int) = (pc : Int) := by omega
        have hpm : m ≤ pc := by omega
        have hpb : pc < b := by omega
        have hpe : pc - m = mid - c - 1 := by omega
        have HSM := HSR.out
        clear hcc
        obtain ⟨u, hu⟩ : ∃ u, A[c - a]? = some u := ⟨_, List.getElem?_eq_getElem (by have := HAB.out; omega)⟩
        obtain ⟨v, hv⟩ : ∃ v, B[mid - c - 1]? = some v := ⟨_, List.getElem?_eq_getElem (by have := HAB.out; omega)⟩
        have gu := GX.out (c - a) u hu
        rw [show a + (c - a) = c by omega] at gu
        have gv := GY.out (pc - m) v (by rw [hpe]; exact hv)
        rw [show m + (pc - m) = pc by omega] at gv
        have HU : Hid (A[c - a]? = some u) := hu
        have HV : Hid (B[mid - c - 1]? = some v) := hv
        clear hu hv hpe hpc HSM HNo
        by_cases hv1 : cfP cf v u < 0
        · have LT : Hid (ltOf cf v.1 u.1 = true) := decide_eq_true hv1
          have ea1 : ((pc : Int)).toNat = pc := by omega
          have pa1 : (0 : Int) ≤ (pc : Int) := by omega
          have ba1 : (pc : Int) < (d0.size : Int) := by omega
          have ra1 : IntKind.i64.wrap ((pc : Int)) = (pc : Int) := by rw [IntKind.wrap_i64]; omega
          have ec1 : ((c : Int)).toNat = c := by omega
          have pc1 : (0 : Int) ≤ (c : Int) := by omega
          have bc1 : (c : Int) < (d0.size : Int) := by omega
          have rc1 : IntKind.i64.wrap ((c : Int)) = (c : Int) := by rw [IntKind.wrap_i64]; omega
          have l1a := S2.out.ld R HD.out P (pc) (by have := HD.out; omega)
          have l1b := S2.out.ld R HD.out P (c) (by have := HD.out; omega)
          rw [gv] at l1a
          rw [gu] at l1b
          have hc1 := S2.out.cmp HC.out HD.out v u
          have hd1 : decide (cfP cf v u < 0) = true := decide_eq_true hv1
          go_wp2_with fail
          go_quiet_grown (first | (go_at_fn g; refine Calls.grown_of (hc1 _ _)))
          have S3 : Aside (SWK (encT enc) k w0 blk off dk (grow (wr.drewN nq) osq)) := S2.out.grown nq osq
          clear l1a l1b hc1 S2
          generalize grow (wr.drewN nq) osq = w2 at S3 ⊢
          clear nq osq
          go_wp2_with fail
          exact ⟨⟨s, c, rfl, by first | rfl | go_num, hs0s, hsc, by omega, I1, .inr ⟨u, v, HU.out, HV.out, LT.out⟩, S3⟩, by simp [intOf] <;> omega⟩
        · have LT : Hid (ltOf cf v.1 u.1 = false) := decide_eq_false hv1
          have ea1 : ((pc : Int)).toNat = pc := by omega
          have pa1 : (0 : Int) ≤ (pc : Int) := by omega
          have ba1 : (pc : Int) < (d0.size : Int) := by omega
          have ra1 : IntKind.i64.wrap ((pc : Int)) = (pc : Int) := by rw [IntKind.wrap_i64]; omega
          have ec1 : ((c : Int)).toNat = c := by omega
          have pc1 : (0 : Int) ≤ (c : Int) := by omega
          have bc1 : (c : Int) < (d0.size : Int) := by omega
          have rc1 : IntKind.i64.wrap ((c : Int)) = (c : Int) := by rw [IntKind.wrap_i64]; omega
          have l1a := S2.out.ld R HD.out P (pc) (by have := HD.out; omega)
          have l1b := S2.out.ld R HD.out P (c) (by have := HD.out; omega)
          rw [gv] at l1a
          rw [gu] at l1b
          have hc1 := S2.out.cmp HC.out HD.out v u
          have hd1 : decide (cfP cf v u < 0) = false := decide_eq_false hv1
          go_wp2_with fail
          go_quiet_grown (first | (go_at_fn g; refine Calls.grown_of (hc1 _ _)))
          have S3 : Aside (SWK (encT enc) k w0 blk off dk (grow (wr.drewN nq) osq)) := S2.out.grown nq osq
          clear l1a l1b hc1 S2
          generalize grow (wr.drewN nq) osq = w2 at S3 ⊢
          clear nq osq
          go_wp2_with fail
          exact ⟨⟨c + 1, r, by first | rfl | go_num, rfl, by omega, by omega, hrr, .inr ⟨u, v, by rw [show c + 1 - a - 1 = c - a by omega]; exact HU.out, by rw [show mid - (c + 1) = mid - c - 1 by omega]; exact HV.out, LT.out⟩, I2, S3⟩, by simp [intOf] <;> omega⟩
      · obtain rfl : s = r := by omega
        have hltz : ¬ (s : Int) < (s : Int) := by omega
        clear hlt hsr
        have HSM := HSR.out
        obtain ⟨i, hi⟩ : ∃ i, i = s - a := ⟨_, rfl⟩
        obtain ⟨j, hj⟩ : ∃ j, j = mid - s := ⟨_, rfl⟩
        obtain ⟨en, hen⟩ : ∃ en, en = m + j := ⟨_, rfl⟩
        have een : (nn : Int) - (s : Int) = (en : Int) := by have := HNN.out; omega
        have henz : en < 9223372036854775807 := by omega
        have hsi : s = a + i := by omega
        have hia : i ≤ A.length := by have := HAB.out; omega
        have hjb : j ≤ B.length := by have := HAB.out; omega
        have hij : a + i + j = mid := by omega
        have F1 : i = 0 ∨ j = B.length ∨ ∃ u v, A[i - 1]? = some u ∧ B[j]? = some v ∧ ltOf cf v.1 u.1 = false := by
          rcases I1.out with h | ⟨u, v, h1, h2, h3⟩
          · rcases HSM.1 with h4 | h4
            · exact .inl (by omega)
            · exact .inr (.inl (by omega))
          · exact .inr (.inr ⟨u, v, by rw [hi]; exact h1, by rw [hj]; exact h2, h3⟩)
        have F2 : i = A.length ∨ j = 0 ∨ ∃ u v, A[i]? = some u ∧ B[j - 1]? = some v ∧ ltOf cf v.1 u.1 = true := by
          rcases I2.out with h | ⟨u, v, h1, h2, h3⟩
          · rcases HSM.2.1 with h4 | h4
            · exact .inl (by have := HAB.out; omega)
            · exact .inr (.inl (by omega))
          · exact .inr (.inr ⟨u, v, by rw [hi]; exact h1, by rw [hj]; exact h2, h3⟩)
        have FM := Lib.hid (MC.out i j F1 F2)
        have CR := Lib.hid (CRn.out i j hia hjb hij)
        have NR := Lib.hid (NRn.out i j)
        have CL := Lib.hid (CLn.out i j hia hjb hij)
        have CG := Lib.hid (CGn.out i j hia hjb hij)
        rw [← hsi, ← hen] at CR
        rw [← hsi] at CL
        rw [← hen] at CG
        have HIJ : Hid (s = a + i ∧ en = m + j ∧ m = a + A.length ∧ b = m + B.length ∧ a + i + j = mid) := ⟨hsi, hen, HAB.out.1, HAB.out.2, hij⟩
        have S4 : Aside (SWK (encT enc) k w0 blk off (Q ++ (A ++ (B ++ S))).toArray wr) := by rw [← HDK.out]; exact S2.out
        have OLj := Lib.hid (OL.out i j)
        have OGj := Lib.hid (OG.out i j)
        clear S2 I1 I2 F1 F2 CRn NRn CLn CGn MC OL OG HDK GX GY HSM hi hj hen hsi hij hrr hs0s
        rcases Nat.eq_zero_or_pos i with ci | ci
        · have cj : 0 < j := by have := HIJ.out; omega
          rcases Nat.eq_or_lt_of_le hia with ca | ca
          · exact absurd ca (by have := HIJ.out; omega)
          · rcases Nat.eq_or_lt_of_le hjb with cb | cb
            · have z1 : (s : Int) < (m : Int) := by have := HIJ.out; omega
              have z2 : (m : Int) < (en : Int) := by have := HIJ.out; omega
              have z3 : ¬ (a : Int) < (s : Int) := by have := HIJ.out; omega
              have z4 : (s : Int) < (mid : Int) := by have := HIJ.out; omega
              have z5 : (mid : Int) < (en : Int) := by have := HIJ.out; omega
              have z6 : ¬ (en : Int) < (b : Int) := by have := HIJ.out; omega
              have CRo := Lib.hid (CR.out (by have := HIJ.out; omega) (by have := HIJ.out; omega))
              have PM1 := Lib.hid (List.Perm.refl (A.take i ++ B.take j))
              have OM1 := Lib.hid (OLj.out (by have := HIJ.out; omega))
              have PM2 := Lib.hid (List.Perm.refl (A.drop i ++ B.drop j))
              have OM2 := Lib.hid (OGj.out (by have := HIJ.out; omega))
              go_wp2_with (first | (go_at_fn 149; (with_reducible refine (CRo.out _ S4.out).mono ?_); rintro e w3 ⟨rfl, T5⟩; have S5 : Aside (SWK (encT enc) k w0 blk off (Q ++ (A.take i ++ (B.take j ++ (A.drop i ++ (B.drop j ++ S))))).toArray w3) := T5; clear T5; have S6 : Aside (SWK (encT enc) k w0 blk off (Q ++ ((A.take i ++ B.take j) ++ (A.drop i ++ (B.drop j ++ S)))).toArray w3) := (by have h : SWK (encT enc) k w0 blk off (Q ++ (A.take i ++ (B.take j ++ (A.drop i ++ (B.drop j ++ S))))).toArray w3 := S5.out; rw [← List.append_assoc (A.take i)] at h; exact h)))
              all_goals
                go_end0
                obtain ⟨f1, f2⟩ := FM.out _ _ PM1.out PM2.out OM1.out OM2.out
                refine ⟨rfl, _, f1, f2, ?_⟩
                have h : SWK (encT enc) k w0 blk off (Q ++ ((A.take i ++ B.take j) ++ (A.drop i ++ (B.drop j ++ S)))).toArray w3 := S6.out
                simpa only [List.append_assoc] using h
            · have z1 : (s : Int) < (m : Int) := by have := HIJ.out; omega
              have z2 : (m : Int) < (en : Int) := by have := HIJ.out; omega
              have z3 : ¬ (a : Int) < (s : Int) := by have := HIJ.out; omega
              have z4 : (s : Int) < (mid : Int) := by have := HIJ.out; omega
              have z5 : (mid : Int) < (en : Int) := by have := HIJ.out; omega
              have z6 : (en : Int) < (b : Int) := by have := HIJ.out; omega
              have CRo := Lib.hid (CR.out (by have := HIJ.out; omega) (by have := HIJ.out; omega))
              have PM1 := Lib.hid (List.Perm.refl (A.take i ++ B.take j))
              have OM1 := Lib.hid (OLj.out (by have := HIJ.out; omega))
              have CGo := Lib.hid (CG.out (by have := HIJ.out; omega) (by have := HIJ.out; omega))
              go_wp2_with (first | (go_at_fn 149; (with_reducible refine (CRo.out _ S4.out).mono ?_); rintro e w3 ⟨rfl, T5⟩; have S5 : Aside (SWK (encT enc) k w0 blk off (Q ++ (A.take i ++ (B.take j ++ (A.drop i ++ (B.drop j ++ S))))).toArray w3) := T5; clear T5; have S6 : Aside (SWK (encT enc) k w0 blk off (Q ++ ((A.take i ++ B.take j) ++ (A.drop i ++ (B.drop j ++ S)))).toArray w3) := (by have h : SWK (encT enc) k w0 blk off (Q ++ (A.take i ++ (B.take j ++ (A.drop i ++ (B.drop j ++ S))))).toArray w3 := S5.out; rw [← List.append_assoc (A.take i)] at h; exact h)) | (go_at_fn 122; (with_reducible refine (CGo.out _ _ PM1.out S6.out).mono ?_); rintro e w5 ⟨rfl, M2, pm2, om2, T7⟩; have S7 : Aside (SWK (encT enc) k w0 blk off (Q ++ (A.take i ++ B.take j) ++ (M2 ++ S)).toArray w5) := T7; have PM2 := Lib.hid pm2; have OM2 := Lib.hid om2; clear T7 pm2 om2))
              all_goals
                go_end0
                obtain ⟨f1, f2⟩ := FM.out _ _ PM1.out PM2.out OM1.out OM2.out
                refine ⟨rfl, _, f1, f2, ?_⟩
                have h : SWK (encT enc) k w0 blk off (Q ++ (A.take i ++ B.take j) ++ (M2 ++ S)).toArray w5 := S7.out
                simpa only [List.append_assoc] using h
        · rcases Nat.eq_zero_or_pos j with cj | cj
          · rcases Nat.eq_or_lt_of_le hjb with cb | cb
            · exact absurd cb (by have := HIJ.out; omega)
            · rcases Nat.eq_or_lt_of_le hia with ca | ca
              · have z1 : ¬ (s : Int) < (m : Int) := by have := HIJ.out; omega
                have z2 : ¬ (m : Int) < (en : Int) := by have := HIJ.out; omega
                have z3 : (a : Int) < (s : Int) := by have := HIJ.out; omega
                have z4 : ¬ (s : Int) < (mid : Int) := by have := HIJ.out; omega
                have z5 : ¬ (mid : Int) < (en : Int) := by have := HIJ.out; omega
                have z6 : (en : Int) < (b : Int) := by have := HIJ.out; omega
                have S5 : Aside (SWK (encT enc) k w0 blk off (Q ++ (A.take i ++ (B.take j ++ (A.drop i ++ (B.drop j ++ S))))).toArray wr) := by rw [← NR.out (by have := HIJ.out; omega)]; exact S4.out
                have S6 : Aside (SWK (encT enc) k w0 blk off (Q ++ ((A.take i ++ B.take j) ++ (A.drop i ++ (B.drop j ++ S)))).toArray wr) := (by have h : SWK (encT enc) k w0 blk off (Q ++ (A.take i ++ (B.take j ++ (A.drop i ++ (B.drop j ++ S))))).toArray wr := S5.out; rw [← List.append_assoc (A.take i)] at h; exact h)
                have PM1 := Lib.hid (List.Perm.refl (A.take i ++ B.take j))
                have OM1 := Lib.hid (OLj.out (by have := HIJ.out; omega))
                have PM2 := Lib.hid (List.Perm.refl (A.drop i ++ B.drop j))
                have OM2 := Lib.hid (OGj.out (by have := HIJ.out; omega))
                go_wp2_with fail
                all_goals
                  go_end0
                  obtain ⟨f1, f2⟩ := FM.out _ _ PM1.out PM2.out OM1.out OM2.out
                  refine ⟨rfl, _, f1, f2, ?_⟩
                  have h : SWK (encT enc) k w0 blk off (Q ++ ((A.take i ++ B.take j) ++ (A.drop i ++ (B.drop j ++ S)))).toArray wr := S6.out
                  simpa only [List.append_assoc] using h
              · have z1 : (s : Int) < (m : Int) := by have := HIJ.out; omega
                have z2 : ¬ (m : Int) < (en : Int) := by have := HIJ.out; omega
                have z3 : (a : Int) < (s : Int) := by have := HIJ.out; omega
                have z4 : ¬ (s : Int) < (mid : Int) := by have := HIJ.out; omega
                have z5 : (mid : Int) < (en : Int) := by have := HIJ.out; omega
                have z6 : (en : Int) < (b : Int) := by have := HIJ.out; omega
                have S5 : Aside (SWK (encT enc) k w0 blk off (Q ++ (A.take i ++ (B.take j ++ (A.drop i ++ (B.drop j ++ S))))).toArray wr) := by rw [← NR.out (by have := HIJ.out; omega)]; exact S4.out
                have S6 : Aside (SWK (encT enc) k w0 blk off (Q ++ ((A.take i ++ B.take j) ++ (A.drop i ++ (B.drop j ++ S)))).toArray wr) := (by have h : SWK (encT enc) k w0 blk off (Q ++ (A.take i ++ (B.take j ++ (A.drop i ++ (B.drop j ++ S))))).toArray wr := S5.out; rw [← List.append_assoc (A.take i)] at h; exact h)
                have PM1 := Lib.hid (List.Perm.refl (A.take i ++ B.take j))
                have OM1 := Lib.hid (OLj.out (by have := HIJ.out; omega))
                have CGo := Lib.hid (CG.out (by have := HIJ.out; omega) (by have := HIJ.out; omega))
                go_wp2_with (first | (go_at_fn 122; (with_reducible refine (CGo.out _ _ PM1.out S6.out).mono ?_); rintro e w5 ⟨rfl, M2, pm2, om2, T7⟩; have S7 : Aside (SWK (encT enc) k w0 blk off (Q ++ (A.take i ++ B.take j) ++ (M2 ++ S)).toArray w5) := T7; have PM2 := Lib.hid pm2; have OM2 := Lib.hid om2; clear T7 pm2 om2))
                all_goals
                  go_end0
                  obtain ⟨f1, f2⟩ := FM.out _ _ PM1.out PM2.out OM1.out OM2.out
                  refine ⟨rfl, _, f1, f2, ?_⟩
                  have h : SWK (encT enc) k w0 blk off (Q ++ (A.take i ++ B.take j) ++ (M2 ++ S)).toArray w5 := S7.out
                  simpa only [List.append_assoc] using h
          · rcases Nat.eq_or_lt_of_le hia with ca | ca
            · rcases Nat.eq_or_lt_of_le hjb with cb | cb
              · exact absurd ca (by have := HIJ.out; omega)
              · have z1 : ¬ (s : Int) < (m : Int) := by have := HIJ.out; omega
                have z2 : (m : Int) < (en : Int) := by have := HIJ.out; omega
                have z3 : (a : Int) < (s : Int) := by have := HIJ.out; omega
                have z4 : (s : Int) < (mid : Int) := by have := HIJ.out; omega
                have z5 : ¬ (mid : Int) < (en : Int) := by have := HIJ.out; omega
                have z6 : (en : Int) < (b : Int) := by have := HIJ.out; omega
                have S5 : Aside (SWK (encT enc) k w0 blk off (Q ++ (A.take i ++ (B.take j ++ (A.drop i ++ (B.drop j ++ S))))).toArray wr) := by rw [← NR.out (by have := HIJ.out; omega)]; exact S4.out
                have CLo := Lib.hid (CL.out (by have := HIJ.out; omega) (by have := HIJ.out; omega))
                have PM2 := Lib.hid (List.Perm.refl (A.drop i ++ B.drop j))
                have OM2 := Lib.hid (OGj.out (by have := HIJ.out; omega))
                go_wp2_with (first | (go_at_fn 122; (with_reducible refine (CLo.out _ S5.out).mono ?_); rintro e w4 ⟨rfl, M1, pm1, om1, T6⟩; have S6 : Aside (SWK (encT enc) k w0 blk off (Q ++ (M1 ++ (A.drop i ++ (B.drop j ++ S)))).toArray w4) := T6; have PM1 := Lib.hid pm1; have OM1 := Lib.hid om1; clear T6 pm1 om1))
                all_goals
                  go_end0
                  obtain ⟨f1, f2⟩ := FM.out _ _ PM1.out PM2.out OM1.out OM2.out
                  refine ⟨rfl, _, f1, f2, ?_⟩
                  have h : SWK (encT enc) k w0 blk off (Q ++ (M1 ++ (A.drop i ++ (B.drop j ++ S)))).toArray w4 := S6.out
                  simpa only [List.append_assoc] using h
            · rcases Nat.eq_or_lt_of_le hjb with cb | cb
              · have z1 : (s : Int) < (m : Int) := by have := HIJ.out; omega
                have z2 : (m : Int) < (en : Int) := by have := HIJ.out; omega
                have z3 : (a : Int) < (s : Int) := by have := HIJ.out; omega
                have z4 : (s : Int) < (mid : Int) := by have := HIJ.out; omega
                have z5 : (mid : Int) < (en : Int) := by have := HIJ.out; omega
                have z6 : ¬ (en : Int) < (b : Int) := by have := HIJ.out; omega
                have CRo := Lib.hid (CR.out (by have := HIJ.out; omega) (by have := HIJ.out; omega))
                have CLo := Lib.hid (CL.out (by have := HIJ.out; omega) (by have := HIJ.out; omega))
                have PM2 := Lib.hid (List.Perm.refl (A.drop i ++ B.drop j))
                have OM2 := Lib.hid (OGj.out (by have := HIJ.out; omega))
                go_wp2_with (first | (go_at_fn 149; (with_reducible refine (CRo.out _ S4.out).mono ?_); rintro e w3 ⟨rfl, T5⟩; have S5 : Aside (SWK (encT enc) k w0 blk off (Q ++ (A.take i ++ (B.take j ++ (A.drop i ++ (B.drop j ++ S))))).toArray w3) := T5; clear T5) | (go_at_fn 122; (with_reducible refine (CLo.out _ S5.out).mono ?_); rintro e w4 ⟨rfl, M1, pm1, om1, T6⟩; have S6 : Aside (SWK (encT enc) k w0 blk off (Q ++ (M1 ++ (A.drop i ++ (B.drop j ++ S)))).toArray w4) := T6; have PM1 := Lib.hid pm1; have OM1 := Lib.hid om1; clear T6 pm1 om1))
                all_goals
                  go_end0
                  obtain ⟨f1, f2⟩ := FM.out _ _ PM1.out PM2.out OM1.out OM2.out
                  refine ⟨rfl, _, f1, f2, ?_⟩
                  have h : SWK (encT enc) k w0 blk off (Q ++ (M1 ++ (A.drop i ++ (B.drop j ++ S)))).toArray w4 := S6.out
                  simpa only [List.append_assoc] using h
              · have z1 : (s : Int) < (m : Int) := by have := HIJ.out; omega
                have z2 : (m : Int) < (en : Int) := by have := HIJ.out; omega
                have z3 : (a : Int) < (s : Int) := by have := HIJ.out; omega
                have z4 : (s : Int) < (mid : Int) := by have := HIJ.out; omega
                have z5 : (mid : Int) < (en : Int) := by have := HIJ.out; omega
                have z6 : (en : Int) < (b : Int) := by have := HIJ.out; omega
                have CRo := Lib.hid (CR.out (by have := HIJ.out; omega) (by have := HIJ.out; omega))
                have CLo := Lib.hid (CL.out (by have := HIJ.out; omega) (by have := HIJ.out; omega))
                have CGo := Lib.hid (CG.out (by have := HIJ.out; omega) (by have := HIJ.out; omega))
                go_wp2_with (first | (go_at_fn 149; (with_reducible refine (CRo.out _ S4.out).mono ?_); rintro e w3 ⟨rfl, T5⟩; have S5 : Aside (SWK (encT enc) k w0 blk off (Q ++ (A.take i ++ (B.take j ++ (A.drop i ++ (B.drop j ++ S))))).toArray w3) := T5; clear T5) | (go_at_fn 122; (with_reducible refine (CLo.out _ S5.out).mono ?_); rintro e w4 ⟨rfl, M1, pm1, om1, T6⟩; have S6 : Aside (SWK (encT enc) k w0 blk off (Q ++ (M1 ++ (A.drop i ++ (B.drop j ++ S)))).toArray w4) := T6; have PM1 := Lib.hid pm1; have OM1 := Lib.hid om1; clear T6 pm1 om1) | (go_at_fn 122; (with_reducible refine (CGo.out _ _ PM1.out S6.out).mono ?_); rintro e w5 ⟨rfl, M2, pm2, om2, T7⟩; have S7 : Aside (SWK (encT enc) k w0 blk off (Q ++ M1 ++ (M2 ++ S)).toArray w5) := T7; have PM2 := Lib.hid pm2; have OM2 := Lib.hid om2; clear T7 pm2 om2))
                all_goals
                  go_end0
                  obtain ⟨f1, f2⟩ := FM.out _ _ PM1.out PM2.out OM1.out OM2.out
                  refine ⟨rfl, _, f1, f2, ?_⟩
                  have h : SWK (encT enc) k w0 blk off (Q ++ M1 ++ (M2 ++ S)).toArray w5 := S7.out
                  simpa only [List.append_assoc] using h
  · have hgtz : ¬ (mid : Int) < (m : Int) := by omega
    obtain ⟨s0, hs0⟩ : ∃ s0, s0 = a := ⟨_, rfl⟩
    obtain ⟨r0, hr0⟩ : ∃ r0, r0 = m := ⟨_, rfl⟩
    have hs0r : s0 ≤ r0 := by omega
    have hs0a : a ≤ s0 := by omega
    have hr0m : r0 ≤ m := by omega
    have hr0d : r0 ≤ mid := by omega
    have HSR : Hid ((s0 = a ∨ mid - s0 = B.length) ∧ (r0 = m ∨ r0 = mid) ∧ mid - s0 ≤ B.length) := ⟨.inl hs0, .inl hr0, by have := HAB.out; omega⟩
    have HS0 : Hid (s0 = a ∧ r0 = m) := ⟨hs0, hr0⟩
    clear hs0 hr0
    go_enter L.fSym, Tryz.ntmps122
    go_wp2
    go_loopw [20, 21] (fun u v wr => ∃ s r : Nat, u = .int .i64 s ∧ v = .int .i64 r ∧ s0 ≤ s ∧ s ≤ r ∧ r ≤ r0 ∧ Hid (s = s0 ∨ ∃ u v, A[s - a - 1]? = some u ∧ B[mid - s]? = some v ∧ ltOf cf v.1 u.1 = false) ∧ Hid (r = r0 ∨ ∃ u v, A[r - a]? = some u ∧ B[mid - r - 1]? = some v ∧ ltOf cf v.1 u.1 = true) ∧ Aside (SWK (encT enc) k w0 blk off dk wr)) (fun u v _ => (intOf v).toNat - (intOf u).toNat)
    case atStart => exact ⟨s0, r0, by rw [HS0.out.1], by rw [HS0.out.2], Nat.le_refl _, hs0r, Nat.le_refl _, .inl rfl, .inl rfl, S1⟩
    case round =>
      clear S1
      obtain ⟨s, r, rfl, rfl, hs0s, hsr, hrr, I1, I2, S2⟩ := hrel
      by_cases hlt : s < r
      · have hltz : (s : Int) < (r : Int) := by omega
        obtain ⟨c, hcc⟩ : ∃ c, c = (s + r) / 2 := ⟨_, rfl⟩
        have HNo := HNN.out
        have hsc : s ≤ c := by omega
        have hcr : c < r := by omega
        have ecz : ((s : Int) + (r : Int)) / 2 = (c : Int) := by omega
        obtain ⟨pc, hpc⟩ : ∃ pc, pc = pp - c := ⟨_, rfl⟩
        have epc : (pp : Int) - (c : Int) = (pc : Int) := by omega
        have hpm : m ≤ pc := by omega
        have hpb : pc < b := by omega
        have hpe : pc - m = mid - c - 1 := by omega
        have HSM := HSR.out
        clear hcc
        obtain ⟨u, hu⟩ : ∃ u, A[c - a]? = some u := ⟨_, List.getElem?_eq_getElem (by have := HAB.out; omega)⟩
        obtain ⟨v, hv⟩ : ∃ v, B[mid - c - 1]? = some v := ⟨_, List.getElem?_eq_getElem (by have := HAB.out; omega)⟩
        have gu := GX.out (c - a) u hu
        rw [show a + (c - a) = c by omega] at gu
        have gv := GY.out (pc - m) v (by rw [hpe]; exact hv)
        rw [show m + (pc - m) = pc by omega] at gv
        have HU : Hid (A[c - a]? = some u) := hu
        have HV : Hid (B[mid - c - 1]? = some v) := hv
        clear hu hv hpe hpc HSM HNo
        by_cases hv1 : cfP cf v u < 0
        · have LT : Hid (ltOf cf v.1 u.1 = true) := decide_eq_true hv1
          have ea1 : ((pc : Int)).toNat = pc := by omega
          have pa1 : (0 : Int) ≤ (pc : Int) := by omega
          have ba1 : (pc : Int) < (d0.size : Int) := by omega
          have ra1 : IntKind.i64.wrap ((pc : Int)) = (pc : Int) := by rw [IntKind.wrap_i64]; omega
          have ec1 : ((c : Int)).toNat = c := by omega
          have pc1 : (0 : Int) ≤ (c : Int) := by omega
          have bc1 : (c : Int) < (d0.size : Int) := by omega
          have rc1 : IntKind.i64.wrap ((c : Int)) = (c : Int) := by rw [IntKind.wrap_i64]; omega
          have l1a := S2.out.ld R HD.out P (pc) (by have := HD.out; omega)
          have l1b := S2.out.ld R HD.out P (c) (by have := HD.out; omega)
          rw [gv] at l1a
          rw [gu] at l1b
          have hc1 := S2.out.cmp HC.out HD.out v u
          have hd1 : decide (cfP cf v u < 0) = true := decide_eq_true hv1
          go_wp2_with fail
          go_quiet_grown (first | (go_at_fn g; refine Calls.grown_of (hc1 _ _)))
          have S3 : Aside (SWK (encT enc) k w0 blk off dk (grow (wr.drewN nq) osq)) := S2.out.grown nq osq
          clear l1a l1b hc1 S2
          generalize grow (wr.drewN nq) osq = w2 at S3 ⊢
          clear nq osq
          go_wp2_with fail
          exact ⟨⟨s, c, rfl, by first | rfl | go_num, hs0s, hsc, by omega, I1, .inr ⟨u, v, HU.out, HV.out, LT.out⟩, S3⟩, by simp [intOf] <;> omega⟩
        · have LT : Hid (ltOf cf v.1 u.1 = false) := decide_eq_false hv1
          have ea1 : ((pc : Int)).toNat = pc := by omega
          have pa1 : (0 : Int) ≤ (pc : Int) := by omega
          have ba1 : (pc : Int) < (d0.size : Int) := by omega
          have ra1 : IntKind.i64.wrap ((pc : Int)) = (pc : Int) := by rw [IntKind.wrap_i64]; omega
          have ec1 : ((c : Int)).toNat = c := by omega
          have pc1 : (0 : Int) ≤ (c : Int) := by omega
          have bc1 : (c : Int) < (d0.size : Int) := by omega
          have rc1 : IntKind.i64.wrap ((c : Int)) = (c : Int) := by rw [IntKind.wrap_i64]; omega
          have l1a := S2.out.ld R HD.out P (pc) (by have := HD.out; omega)
          have l1b := S2.out.ld R HD.out P (c) (by have := HD.out; omega)
          rw [gv] at l1a
          rw [gu] at l1b
          have hc1 := S2.out.cmp HC.out HD.out v u
          have hd1 : decide (cfP cf v u < 0) = false := decide_eq_false hv1
          go_wp2_with fail
          go_quiet_grown (first | (go_at_fn g; refine Calls.grown_of (hc1 _ _)))
          have S3 : Aside (SWK (encT enc) k w0 blk off dk (grow (wr.drewN nq) osq)) := S2.out.grown nq osq
          clear l1a l1b hc1 S2
          generalize grow (wr.drewN nq) osq = w2 at S3 ⊢
          clear nq osq
          go_wp2_with fail
          exact ⟨⟨c + 1, r, by first | rfl | go_num, rfl, by omega, by omega, hrr, .inr ⟨u, v, by rw [show c + 1 - a - 1 = c - a by omega]; exact HU.out, by rw [show mid - (c + 1) = mid - c - 1 by omega]; exact HV.out, LT.out⟩, I2, S3⟩, by simp [intOf] <;> omega⟩
      · obtain rfl : s = r := by omega
        have hltz : ¬ (s : Int) < (s : Int) := by omega
        clear hlt hsr
        have HSM := HSR.out
        obtain ⟨i, hi⟩ : ∃ i, i = s - a := ⟨_, rfl⟩
        obtain ⟨j, hj⟩ : ∃ j, j = mid - s := ⟨_, rfl⟩
        obtain ⟨en, hen⟩ : ∃ en, en = m + j := ⟨_, rfl⟩
        have een : (nn : Int) - (s : Int) = (en : Int) := by have := HNN.out; omega
        have henz : en < 9223372036854775807 := by omega
        have hsi : s = a + i := by omega
        have hia : i ≤ A.length := by have := HAB.out; omega
        have hjb : j ≤ B.length := by have := HAB.out; omega
        have hij : a + i + j = mid := by omega
        have F1 : i = 0 ∨ j = B.length ∨ ∃ u v, A[i - 1]? = some u ∧ B[j]? = some v ∧ ltOf cf v.1 u.1 = false := by
          rcases I1.out with h | ⟨u, v, h1, h2, h3⟩
          · rcases HSM.1 with h4 | h4
            · exact .inl (by omega)
            · exact .inr (.inl (by omega))
          · exact .inr (.inr ⟨u, v, by rw [hi]; exact h1, by rw [hj]; exact h2, h3⟩)
        have F2 : i = A.length ∨ j = 0 ∨ ∃ u v, A[i]? = some u ∧ B[j - 1]? = some v ∧ ltOf cf v.1 u.1 = true := by
          rcases I2.out with h | ⟨u, v, h1, h2, h3⟩
          · rcases HSM.2.1 with h4 | h4
            · exact .inl (by have := HAB.out; omega)
            · exact .inr (.inl (by omega))
          · exact .inr (.inr ⟨u, v, by rw [hi]; exact h1, by rw [hj]; exact h2, h3⟩)
        have FM := Lib.hid (MC.out i j F1 F2)
        have CR := Lib.hid (CRn.out i j hia hjb hij)
        have NR := Lib.hid (NRn.out i j)
        have CL := Lib.hid (CLn.out i j hia hjb hij)
        have CG := Lib.hid (CGn.out i j hia hjb hij)
        rw [← hsi, ← hen] at CR
        rw [← hsi] at CL
        rw [← hen] at CG
        have HIJ : Hid (s = a + i ∧ en = m + j ∧ m = a + A.length ∧ b = m + B.length ∧ a + i + j = mid) := ⟨hsi, hen, HAB.out.1, HAB.out.2, hij⟩
        have S4 : Aside (SWK (encT enc) k w0 blk off (Q ++ (A ++ (B ++ S))).toArray wr) := by rw [← HDK.out]; exact S2.out
        have OLj := Lib.hid (OL.out i j)
        have OGj := Lib.hid (OG.out i j)
        clear S2 I1 I2 F1 F2 CRn NRn CLn CGn MC OL OG HDK GX GY HSM hi hj hen hsi hij hrr hs0s
        rcases Nat.eq_zero_or_pos i with ci | ci
        · have cj : 0 < j := by have := HIJ.out; omega
          rcases Nat.eq_or_lt_of_le hia with ca | ca
          · exact absurd ca (by have := HIJ.out; omega)
          · rcases Nat.eq_or_lt_of_le hjb with cb | cb
            · have z1 : (s : Int) < (m : Int) := by have := HIJ.out; omega
              have z2 : (m : Int) < (en : Int) := by have := HIJ.out; omega
              have z3 : ¬ (a : Int) < (s : Int) := by have := HIJ.out; omega
              have z4 : (s : Int) < (mid : Int) := by have := HIJ.out; omega
              have z5 : (mid : Int) < (en : Int) := by have := HIJ.out; omega
              have z6 : ¬ (en : Int) < (b : Int) := by have := HIJ.out; omega
              have CRo := Lib.hid (CR.out (by have := HIJ.out; omega) (by have := HIJ.out; omega))
              have PM1 := Lib.hid (List.Perm.refl (A.take i ++ B.take j))
              have OM1 := Lib.hid (OLj.out (by have := HIJ.out; omega))
              have PM2 := Lib.hid (List.Perm.refl (A.drop i ++ B.drop j))
              have OM2 := Lib.hid (OGj.out (by have := HIJ.out; omega))
              go_wp2_with (first | (go_at_fn 149; (with_reducible refine (CRo.out _ S4.out).mono ?_); rintro e w3 ⟨rfl, T5⟩; have S5 : Aside (SWK (encT enc) k w0 blk off (Q ++ (A.take i ++ (B.take j ++ (A.drop i ++ (B.drop j ++ S))))).toArray w3) := T5; clear T5; have S6 : Aside (SWK (encT enc) k w0 blk off (Q ++ ((A.take i ++ B.take j) ++ (A.drop i ++ (B.drop j ++ S)))).toArray w3) := (by have h : SWK (encT enc) k w0 blk off (Q ++ (A.take i ++ (B.take j ++ (A.drop i ++ (B.drop j ++ S))))).toArray w3 := S5.out; rw [← List.append_assoc (A.take i)] at h; exact h)))
              all_goals
                go_end0
                obtain ⟨f1, f2⟩ := FM.out _ _ PM1.out PM2.out OM1.out OM2.out
                refine ⟨rfl, _, f1, f2, ?_⟩
                have h : SWK (encT enc) k w0 blk off (Q ++ ((A.take i ++ B.take j) ++ (A.drop i ++ (B.drop j ++ S)))).toArray w3 := S6.out
                simpa only [List.append_assoc] using h
            · have z1 : (s : Int) < (m : Int) := by have := HIJ.out; omega
              have z2 : (m : Int) < (en : Int) := by have := HIJ.out; omega
              have z3 : ¬ (a : Int) < (s : Int) := by have := HIJ.out; omega
              have z4 : (s : Int) < (mid : Int) := by have := HIJ.out; omega
              have z5 : (mid : Int) < (en : Int) := by have := HIJ.out; omega
              have z6 : (en : Int) < (b : Int) := by have := HIJ.out; omega
              have CRo := Lib.hid (CR.out (by have := HIJ.out; omega) (by have := HIJ.out; omega))
              have PM1 := Lib.hid (List.Perm.refl (A.take i ++ B.take j))
              have OM1 := Lib.hid (OLj.out (by have := HIJ.out; omega))
              have CGo := Lib.hid (CG.out (by have := HIJ.out; omega) (by have := HIJ.out; omega))
              go_wp2_with (first | (go_at_fn 149; (with_reducible refine (CRo.out _ S4.out).mono ?_); rintro e w3 ⟨rfl, T5⟩; have S5 : Aside (SWK (encT enc) k w0 blk off (Q ++ (A.take i ++ (B.take j ++ (A.drop i ++ (B.drop j ++ S))))).toArray w3) := T5; clear T5; have S6 : Aside (SWK (encT enc) k w0 blk off (Q ++ ((A.take i ++ B.take j) ++ (A.drop i ++ (B.drop j ++ S)))).toArray w3) := (by have h : SWK (encT enc) k w0 blk off (Q ++ (A.take i ++ (B.take j ++ (A.drop i ++ (B.drop j ++ S))))).toArray w3 := S5.out; rw [← List.append_assoc (A.take i)] at h; exact h)) | (go_at_fn 122; (with_reducible refine (CGo.out _ _ PM1.out S6.out).mono ?_); rintro e w5 ⟨rfl, M2, pm2, om2, T7⟩; have S7 : Aside (SWK (encT enc) k w0 blk off (Q ++ (A.take i ++ B.take j) ++ (M2 ++ S)).toArray w5) := T7; have PM2 := Lib.hid pm2; have OM2 := Lib.hid om2; clear T7 pm2 om2))
              all_goals
                go_end0
                obtain ⟨f1, f2⟩ := FM.out _ _ PM1.out PM2.out OM1.out OM2.out
                refine ⟨rfl, _, f1, f2, ?_⟩
                have h : SWK (encT enc) k w0 blk off (Q ++ (A.take i ++ B.take j) ++ (M2 ++ S)).toArray w5 := S7.out
                simpa only [List.append_assoc] using h
        · rcases Nat.eq_zero_or_pos j with cj | cj
          · rcases Nat.eq_or_lt_of_le hjb with cb | cb
            · exact absurd cb (by have := HIJ.out; omega)
            · rcases Nat.eq_or_lt_of_le hia with ca | ca
              · have z1 : ¬ (s : Int) < (m : Int) := by have := HIJ.out; omega
                have z2 : ¬ (m : Int) < (en : Int) := by have := HIJ.out; omega
                have z3 : (a : Int) < (s : Int) := by have := HIJ.out; omega
                have z4 : ¬ (s : Int) < (mid : Int) := by have := HIJ.out; omega
                have z5 : ¬ (mid : Int) < (en : Int) := by have := HIJ.out; omega
                have z6 : (en : Int) < (b : Int) := by have := HIJ.out; omega
                have S5 : Aside (SWK (encT enc) k w0 blk off (Q ++ (A.take i ++ (B.take j ++ (A.drop i ++ (B.drop j ++ S))))).toArray wr) := by rw [← NR.out (by have := HIJ.out; omega)]; exact S4.out
                have S6 : Aside (SWK (encT enc) k w0 blk off (Q ++ ((A.take i ++ B.take j) ++ (A.drop i ++ (B.drop j ++ S)))).toArray wr) := (by have h : SWK (encT enc) k w0 blk off (Q ++ (A.take i ++ (B.take j ++ (A.drop i ++ (B.drop j ++ S))))).toArray wr := S5.out; rw [← List.append_assoc (A.take i)] at h; exact h)
                have PM1 := Lib.hid (List.Perm.refl (A.take i ++ B.take j))
                have OM1 := Lib.hid (OLj.out (by have := HIJ.out; omega))
                have PM2 := Lib.hid (List.Perm.refl (A.drop i ++ B.drop j))
                have OM2 := Lib.hid (OGj.out (by have := HIJ.out; omega))
                go_wp2_with fail
                all_goals
                  go_end0
                  obtain ⟨f1, f2⟩ := FM.out _ _ PM1.out PM2.out OM1.out OM2.out
                  refine ⟨rfl, _, f1, f2, ?_⟩
                  have h : SWK (encT enc) k w0 blk off (Q ++ ((A.take i ++ B.take j) ++ (A.drop i ++ (B.drop j ++ S)))).toArray wr := S6.out
                  simpa only [List.append_assoc] using h
              · have z1 : (s : Int) < (m : Int) := by have := HIJ.out; omega
                have z2 : ¬ (m : Int) < (en : Int) := by have := HIJ.out; omega
                have z3 : (a : Int) < (s : Int) := by have := HIJ.out; omega
                have z4 : ¬ (s : Int) < (mid : Int) := by have := HIJ.out; omega
                have z5 : (mid : Int) < (en : Int) := by have := HIJ.out; omega
                have z6 : (en : Int) < (b : Int) := by have := HIJ.out; omega
                have S5 : Aside (SWK (encT enc) k w0 blk off (Q ++ (A.take i ++ (B.take j ++ (A.drop i ++ (B.drop j ++ S))))).toArray wr) := by rw [← NR.out (by have := HIJ.out; omega)]; exact S4.out
                have S6 : Aside (SWK (encT enc) k w0 blk off (Q ++ ((A.take i ++ B.take j) ++ (A.drop i ++ (B.drop j ++ S)))).toArray wr) := (by have h : SWK (encT enc) k w0 blk off (Q ++ (A.take i ++ (B.take j ++ (A.drop i ++ (B.drop j ++ S))))).toArray wr := S5.out; rw [← List.append_assoc (A.take i)] at h; exact h)
                have PM1 := Lib.hid (List.Perm.refl (A.take i ++ B.take j))
                have OM1 := Lib.hid (OLj.out (by have := HIJ.out; omega))
                have CGo := Lib.hid (CG.out (by have := HIJ.out; omega) (by have := HIJ.out; omega))
                go_wp2_with (first | (go_at_fn 122; (with_reducible refine (CGo.out _ _ PM1.out S6.out).mono ?_); rintro e w5 ⟨rfl, M2, pm2, om2, T7⟩; have S7 : Aside (SWK (encT enc) k w0 blk off (Q ++ (A.take i ++ B.take j) ++ (M2 ++ S)).toArray w5) := T7; have PM2 := Lib.hid pm2; have OM2 := Lib.hid om2; clear T7 pm2 om2))
                all_goals
                  go_end0
                  obtain ⟨f1, f2⟩ := FM.out _ _ PM1.out PM2.out OM1.out OM2.out
                  refine ⟨rfl, _, f1, f2, ?_⟩
                  have h : SWK (encT enc) k w0 blk off (Q ++ (A.take i ++ B.take j) ++ (M2 ++ S)).toArray w5 := S7.out
                  simpa only [List.append_assoc] using h
          · rcases Nat.eq_or_lt_of_le hia with ca | ca
            · rcases Nat.eq_or_lt_of_le hjb with cb | cb
              · exact absurd ca (by have := HIJ.out; omega)
              · have z1 : ¬ (s : Int) < (m : Int) := by have := HIJ.out; omega
                have z2 : (m : Int) < (en : Int) := by have := HIJ.out; omega
                have z3 : (a : Int) < (s : Int) := by have := HIJ.out; omega
                have z4 : (s : Int) < (mid : Int) := by have := HIJ.out; omega
                have z5 : ¬ (mid : Int) < (en : Int) := by have := HIJ.out; omega
                have z6 : (en : Int) < (b : Int) := by have := HIJ.out; omega
                have S5 : Aside (SWK (encT enc) k w0 blk off (Q ++ (A.take i ++ (B.take j ++ (A.drop i ++ (B.drop j ++ S))))).toArray wr) := by rw [← NR.out (by have := HIJ.out; omega)]; exact S4.out
                have CLo := Lib.hid (CL.out (by have := HIJ.out; omega) (by have := HIJ.out; omega))
                have PM2 := Lib.hid (List.Perm.refl (A.drop i ++ B.drop j))
                have OM2 := Lib.hid (OGj.out (by have := HIJ.out; omega))
                go_wp2_with (first | (go_at_fn 122; (with_reducible refine (CLo.out _ S5.out).mono ?_); rintro e w4 ⟨rfl, M1, pm1, om1, T6⟩; have S6 : Aside (SWK (encT enc) k w0 blk off (Q ++ (M1 ++ (A.drop i ++ (B.drop j ++ S)))).toArray w4) := T6; have PM1 := Lib.hid pm1; have OM1 := Lib.hid om1; clear T6 pm1 om1))
                all_goals
                  go_end0
                  obtain ⟨f1, f2⟩ := FM.out _ _ PM1.out PM2.out OM1.out OM2.out
                  refine ⟨rfl, _, f1, f2, ?_⟩
                  have h : SWK (encT enc) k w0 blk off (Q ++ (M1 ++ (A.drop i ++ (B.drop j ++ S)))).toArray w4 := S6.out
                  simpa only [List.append_assoc] using h
            · rcases Nat.eq_or_lt_of_le hjb with cb | cb
              · have z1 : (s : Int) < (m : Int) := by have := HIJ.out; omega
                have z2 : (m : Int) < (en : Int) := by have := HIJ.out; omega
                have z3 : (a : Int) < (s : Int) := by have := HIJ.out; omega
                have z4 : (s : Int) < (mid : Int) := by have := HIJ.out; omega
                have z5 : (mid : Int) < (en : Int) := by have := HIJ.out; omega
                have z6 : ¬ (en : Int) < (b : Int) := by have := HIJ.out; omega
                have CRo := Lib.hid (CR.out (by have := HIJ.out; omega) (by have := HIJ.out; omega))
                have CLo := Lib.hid (CL.out (by have := HIJ.out; omega) (by have := HIJ.out; omega))
                have PM2 := Lib.hid (List.Perm.refl (A.drop i ++ B.drop j))
                have OM2 := Lib.hid (OGj.out (by have := HIJ.out; omega))
                go_wp2_with (first | (go_at_fn 149; (with_reducible refine (CRo.out _ S4.out).mono ?_); rintro e w3 ⟨rfl, T5⟩; have S5 : Aside (SWK (encT enc) k w0 blk off (Q ++ (A.take i ++ (B.take j ++ (A.drop i ++ (B.drop j ++ S))))).toArray w3) := T5; clear T5) | (go_at_fn 122; (with_reducible refine (CLo.out _ S5.out).mono ?_); rintro e w4 ⟨rfl, M1, pm1, om1, T6⟩; have S6 : Aside (SWK (encT enc) k w0 blk off (Q ++ (M1 ++ (A.drop i ++ (B.drop j ++ S)))).toArray w4) := T6; have PM1 := Lib.hid pm1; have OM1 := Lib.hid om1; clear T6 pm1 om1))
                all_goals
                  go_end0
                  obtain ⟨f1, f2⟩ := FM.out _ _ PM1.out PM2.out OM1.out OM2.out
                  refine ⟨rfl, _, f1, f2, ?_⟩
                  have h : SWK (encT enc) k w0 blk off (Q ++ (M1 ++ (A.drop i ++ (B.drop j ++ S)))).toArray w4 := S6.out
                  simpa only [List.append_assoc] using h
              · have z1 : (s : Int) < (m : Int) := by have := HIJ.out; omega
                have z2 : (m : Int) < (en : Int) := by have := HIJ.out; omega
                have z3 : (a : Int) < (s : Int) := by have := HIJ.out; omega
                have z4 : (s : Int) < (mid : Int) := by have := HIJ.out; omega
                have z5 : (mid : Int) < (en : Int) := by have := HIJ.out; omega
                have z6 : (en : Int) < (b : Int) := by have := HIJ.out; omega
                have CRo := Lib.hid (CR.out (by have := HIJ.out; omega) (by have := HIJ.out; omega))
                have CLo := Lib.hid (CL.out (by have := HIJ.out; omega) (by have := HIJ.out; omega))
                have CGo := Lib.hid (CG.out (by have := HIJ.out; omega) (by have := HIJ.out; omega))
                go_wp2_with (first | (go_at_fn 149; (with_reducible refine (CRo.out _ S4.out).mono ?_); rintro e w3 ⟨rfl, T5⟩; have S5 : Aside (SWK (encT enc) k w0 blk off (Q ++ (A.take i ++ (B.take j ++ (A.drop i ++ (B.drop j ++ S))))).toArray w3) := T5; clear T5) | (go_at_fn 122; (with_reducible refine (CLo.out _ S5.out).mono ?_); rintro e w4 ⟨rfl, M1, pm1, om1, T6⟩; have S6 : Aside (SWK (encT enc) k w0 blk off (Q ++ (M1 ++ (A.drop i ++ (B.drop j ++ S)))).toArray w4) := T6; have PM1 := Lib.hid pm1; have OM1 := Lib.hid om1; clear T6 pm1 om1) | (go_at_fn 122; (with_reducible refine (CGo.out _ _ PM1.out S6.out).mono ?_); rintro e w5 ⟨rfl, M2, pm2, om2, T7⟩; have S7 : Aside (SWK (encT enc) k w0 blk off (Q ++ M1 ++ (M2 ++ S)).toArray w5) := T7; have PM2 := Lib.hid pm2; have OM2 := Lib.hid om2; clear T7 pm2 om2))
                all_goals
                  go_end0
                  obtain ⟨f1, f2⟩ := FM.out _ _ PM1.out PM2.out OM1.out OM2.out
                  refine ⟨rfl, _, f1, f2, ?_⟩
                  have h : SWK (encT enc) k w0 blk off (Q ++ M1 ++ (M2 ++ S)).toArray w5 := S7.out
                  simpa only [List.append_assoc] using h

end Go.Proofs.YtaoobliajgcdmaaGreat

/-
  slices.SortStableFunc's symMergeCmpFunc with its recursion, and stableCmpFunc: a list is put in order, equals stand as they stood.
-/
namespace Go.Proofs.YtaoobliajgcdmaaGreat
open Go.RowKit Go.Lib Go.Sort Go.Shelf

section
variable {α : Type} {lt : α → α → Bool}
theorem split3 (d : List (α × Nat)) (q t : Nat) : d.take q ++ ((d.drop q).take t ++ d.drop (q + t)) = d := by
  rw [← List.drop_drop, List.take_append_drop, List.take_append_drop]
theorem mem_seg [Inhabited α] {d : List (α × Nat)} {q t : Nat} {x : α × Nat} (h : x ∈ (d.drop q).take t) : ∃ i, q ≤ i ∧ i < q + t ∧ d[i]? = some x := by
  obtain ⟨i, hi, hx⟩ := mem_takeAt h
  rw [List.getElem?_drop] at hx
  exact ⟨q + i, by omega, by omega, hx⟩
theorem seg_pair {d : List (α × Nat)} {q t : Nat} {T : α × Nat → α × Nat → Prop} (h : ∀ i j x y, q ≤ i → i < j → j < q + t → d[i]? = some x → d[j]? = some y → T x y) : ((d.drop q).take t).Pairwise T := by
  rw [List.pairwise_iff_getElem]
  intro i j hi hj hij
  have ti : i < t := by rw [List.length_take] at hi; omega
  have tj : j < t := by rw [List.length_take] at hj; omega
  have gi : ((d.drop q).take t)[i]? = some ((d.drop q).take t)[i] := List.getElem?_eq_getElem hi
  have gj : ((d.drop q).take t)[j]? = some ((d.drop q).take t)[j] := List.getElem?_eq_getElem hj
  rw [List.getElem?_take_of_lt ti, List.getElem?_drop] at gi
  rw [List.getElem?_take_of_lt tj, List.getElem?_drop] at gj
  exact h (q + i) (q + j) _ _ (by omega) (by omega) (by omega) gi gj
theorem HB.asc {s2 q t : Nat} {d : List (α × Nat)} (h : HB lt 1 s2 q d) : Asc ((d.drop q).take t) := seg_pair fun i j x y h1 h2 _ hx hy => by
  have := (h i j h2).2 (by omega) x y hx hy
  rw [Nat.div_one, Nat.div_one] at this
  exact this.2 h2
theorem HB.block {s s2 q q' u t : Nat} {d : List (α × Nat)} (h0 : 0 < s) (h : HB lt s s2 q d) (hq : q ≤ q') (hu : q' = u * s) (ht : t ≤ s) : Ord lt ((d.drop q').take t) := seg_pair fun i j x y h1 h2 h3 hx hy => by
  have := (h i j h2).2 (by omega) x y hx hy
  refine this.1 ?_
  rw [div_same (k := u) h0 (by omega) (by omega), div_same (k := u) h0 (by omega) (by omega)]
theorem HB.cross [Inhabited α] {s s2 q u t : Nat} {d : List (α × Nat)} (h0 : 0 < s) (h : HB lt s s2 q d) (hu : q = u * s) : Cross ((d.drop q).take s) ((d.drop (q + s)).take t) := fun x hx y hy => by
  obtain ⟨i, i1, i2, hi⟩ := mem_seg hx
  obtain ⟨j, j1, j2, hj⟩ := mem_seg hy
  refine ((h i j (by omega)).2 (by omega) x y hi hj).2 ?_
  rw [div_same (p := i) (k := u) h0 (by omega) (by omega)]
  have := div_ge (p := j) (k := u + 1) h0 (by rw [Nat.add_mul]; omega)
  omega
theorem HB.full {s1 s2 n : Nat} {d : List (α × Nat)} (h : HB lt s1 s2 n d) (hn : d.length = n) : ∀ p q, p < q → GB lt s2 d p q := fun p q hpq x y hx hy => by
  have hq := (List.getElem?_eq_some_iff.1 hy).1
  exact (h p q hpq).1 (by omega) x y hx hy
end

variable {P : Program} {k : Nat} {α : Type}

theorem symMerge_w [Inhabited α] (L : StabL P k) (enc : α → List Value) (cf : α → α → Int) (hO : SWO (ltOf cf)) (g : Nat) (cb : Array Value) (blk off cap : Nat) (d0 : Array (α × Nat)) (w0 : World) (eg : ∀ args w, (callFunc g args).run P w = .ok (.enter g args) w) (hcmp : CmpLays P g cb (encT enc) k (cfP cf) blk off d0.size w0) (R : RowK (encT enc) k w0 blk off d0) (hsz : d0.size < 4611686018427387904) :
    ∀ (N : Nat) (w : World) (Q A B S : List (α × Nat)), A.length + B.length ≤ N → 0 < A.length → 0 < B.length → Ord (ltOf cf) A → Ord (ltOf cf) B → Cross A B → Q.length + A.length + B.length + S.length = d0.size → SWK (encT enc) k w0 blk off (Q ++ (A ++ (B ++ S))).toArray w →
      Calls P 122 #[.slice (some ⟨blk, off, none⟩) d0.size cap, .int .i64 (Q.length : Int), .int .i64 ((Q.length + A.length : Nat) : Int), .int .i64 ((Q.length + A.length + B.length : Nat) : Int), .func (.func g) #[] cb] w (SymPost (ltOf cf) enc k w0 blk off Q A B S)
  | 0, w, Q, A, B, S, hN, hA, hB, _, _, _, _, _ => by omega
  | N + 1, w, Q, A, B, S, hN, hA, hB, hoA, hoB, hc, hs, S0 => by
    by_cases h1 : A.length = 1
    · obtain ⟨x, rfl⟩ := List.length_eq_one_iff.1 h1
      exact symLeft_w L enc cf hO g cb blk off cap d0 w0 eg hcmp R hsz w Q B S x hoB hc (by rw [List.length_singleton] at hs; omega) S0
    · by_cases h2 : B.length = 1
      · obtain ⟨y, rfl⟩ := List.length_eq_one_iff.1 h2
        exact symRight_w L enc cf hO g cb blk off cap d0 w0 eg hcmp R hsz w Q A S y (by omega) hoA hc (by rw [List.length_singleton] at hs; omega) S0
      · exact symGen_w L enc cf hO g cb blk off cap d0 w0 eg hcmp R hsz N (symMerge_w L enc cf hO g cb blk off cap d0 w0 eg hcmp R hsz N) w Q A B S hN (by omega) (by omega) hoA hoB hc hs S0

set_option maxHeartbeats 8000000 in
set_option maxRecDepth 1000000 in
theorem stable_w [Inhabited α] (L : StabL P k) (enc : α → List Value) (cf : α → α → Int) (hO : SWO (ltOf cf)) (g : Nat) (cb : Array Value) (blk off cap : Nat) (d0 : Array (α × Nat)) (w0 : World) (eg : ∀ args w, (callFunc g args).run P w = .ok (.enter g args) w) (hcmp : CmpLays P g cb (encT enc) k (cfP cf) blk off d0.size w0) (R : RowK (encT enc) k w0 blk off d0) (hsz : d0.size < 2305843009213693952)
    (fStab : P.funcs[95]? = some Tryz.f95) (eIns : ∀ args w, (callFunc 121 args).run P w = .ok (.enter 121 args) w)
    (hins : ∀ (a b : Nat) (d : Array (α × Nat)) (w : World), d.size = d0.size → SWK (encT enc) k w0 blk off d w → a ≤ b → b ≤ d0.size → Calls P 121 #[.slice (some ⟨blk, off, none⟩) d0.size cap, .int .i64 (a : Int), .int .i64 (b : Int), .func (.func g) #[] cb] w fun e w' => e = .returned (.tuple #[]) ∧ SWK (encT enc) k w0 blk off (insertionSort (ltp (ltOf cf)) d a b) w')
    (D : List (α × Nat)) (hD : D.length = d0.size) (hasc : Asc D) (w : World) (S0 : SWK (encT enc) k w0 blk off D.toArray w) :
    Calls P 95 #[.slice (some ⟨blk, off, none⟩) d0.size cap, .int .i64 (d0.size : Int), .func (.func g) #[] cb] w fun e w' => e = .returned (.tuple #[]) ∧ ∃ M, M.Perm D ∧ Ord (ltOf cf) M ∧ SWK (encT enc) k w0 blk off M.toArray w' := by
  have mixed := L.mixed; have t3 := L.t3; have a3 := L.a3; have z3 := L.z3; have v3 := L.v3; have t4 := L.t4; have a4 := L.a4; have z4 := L.z4; have v4 := L.v4; have tS := L.tS; have aS := L.aS; have zS := L.zS; have vS := L.vS; have aE := L.aE; have zE := L.zE
  have eSym : ∀ args w, (callFunc 122 args).run P w = .ok (.enter 122 args) w := enters_of L.fSym (by kernel_rfl) rfl
  have S1 : Aside (SWK (encT enc) k w0 blk off D.toArray w) := S0
  have HD : Hid (D.length = d0.size) := hD
  have HI := Lib.hid hins
  have HSY := Lib.hid (symMerge_w L enc cf hO g cb blk off cap d0 w0 eg hcmp R (by omega))
  have H0 : Hid (HB (ltOf cf) 1 20 0 D) := HB.start (asc_one hasc)
  clear S0 hD hins hasc hcmp
  obtain ⟨n, hn⟩ : ∃ n, n = d0.size := ⟨_, rfl⟩
  rw [← hn] at hsz HD HI HSY ⊢
  clear hn
  go_enter fStab, Tryz.ntmps95
  go_wp2
  go_loopw [7, 8] (fun u v wr => ∃ (q kk : Nat) (d : List (α × Nat)), u = .int .i64 q ∧ v = .int .i64 ((q : Int) + 20) ∧ q ≤ n ∧ Hid (q = kk * 20 ∧ d.Perm D ∧ HB (ltOf cf) 1 20 q d) ∧ Aside (SWK (encT enc) k w0 blk off d.toArray wr)) (fun u _ _ => n - (intOf u).toNat)
  case atStart => exact ⟨0, 0, D, rfl, rfl, Nat.zero_le _, ⟨rfl, List.Perm.refl _, H0.out⟩, S1⟩
  case round =>
    clear S1
    obtain ⟨q, kk, d, rfl, rfl, hqn, HQ, S2⟩ := hrel
    by_cases hlt : q + 20 ≤ n
    · have hltz : (q : Int) + 20 ≤ (n : Int) := by omega
      obtain ⟨h1, h2, h3⟩ := HQ.out
      have hdl : d.length = n := by rw [h2.length_eq]; exact HD.out
      obtain ⟨M, p1, o1, e1⟩ := insertion_stable hO ((d.drop q).take 20) (d.take q) (d.drop (q + 20)) h3.asc
      have lt1 : (d.take q).length = q := by rw [List.length_take]; omega
      have lt2 : ((d.drop q).take 20).length = 20 := by rw [List.length_take, List.length_drop]; omega
      rw [split3, lt1, lt2] at e1
      have CI := Lib.hid (HI.out q (q + 20) d.toArray wr (by rw [List.size_toArray]; exact hdl) S2.out (by omega) hlt)
      rw [e1, show ((q + 20 : Nat) : Int) = (q : Int) + 20 by omega] at CI
      have NX : Hid (q + 20 = (kk + 1) * 20 ∧ (d.take q ++ (M ++ d.drop (q + 20))).Perm D ∧ HB (ltOf cf) 1 20 (q + 20) (d.take q ++ (M ++ d.drop (q + 20)))) := by
        refine ⟨by omega, ?_, ?_⟩
        · refine List.Perm.trans ?_ h2
          have := (p1.append_right (d.drop (q + 20))).append_left (d.take q)
          rwa [split3] at this
        · have := HB.step (lt := ltOf cf) (s1 := 1) (s2 := 20) (k := kk) (P := d.take q) (X := (d.drop q).take 20) (X' := M) (S := d.drop (q + 20)) (t := kk * 20 + 20) (by omega) (by omega) (by omega) (.inl (by omega)) (.inr ⟨kk * 20, by omega⟩) (by omega) (.inr lt2) (by rw [split3, lt1]; exact h3) p1 o1
          rw [lt1, lt2] at this
          exact this
      clear h1 h2 h3 hdl p1 o1 e1 lt1 lt2 S2 HQ
      go_wp2_with (go_at_fn 121; (with_reducible refine CI.out.mono ?_); rintro e w2 ⟨rfl, T3⟩; have S3 : Aside (SWK (encT enc) k w0 blk off (d.take q ++ (M ++ d.drop (q + 20))).toArray w2) := T3; clear T3)
      exact ⟨⟨q + 20, kk + 1, _, by first | rfl | go_num, by first | rfl | go_num, hlt, NX.out, S3⟩, by simp [intOf] <;> omega⟩
    · have hltz : ¬ (q : Int) + 20 ≤ (n : Int) := by omega
      obtain ⟨h1, h2, h3⟩ := HQ.out
      have hdl : d.length = n := by rw [h2.length_eq]; exact HD.out
      obtain ⟨M, p1, o1, e1⟩ := insertion_stable hO ((d.drop q).take (n - q)) (d.take q) (d.drop (q + (n - q))) h3.asc
      have lt1 : (d.take q).length = q := by rw [List.length_take]; omega
      have lt2 : ((d.drop q).take (n - q)).length = n - q := by rw [List.length_take, List.length_drop]; omega
      have hdn : d.drop (q + (n - q)) = [] := List.drop_of_length_le (by omega)
      rw [split3, lt1, lt2, show q + (n - q) = n by omega] at e1
      have CI := Lib.hid (HI.out q n d.toArray wr (by rw [List.size_toArray]; exact hdl) S2.out hqn (Nat.le_refl _))
      rw [e1] at CI
      obtain ⟨d', hd'⟩ : ∃ d', d' = d.take q ++ (M ++ d.drop n) := ⟨_, rfl⟩
      rw [← hd'] at CI
      have NX : Hid (d'.Perm D ∧ ∀ p q, p < q → GB (ltOf cf) 20 d' p q) := by
        have pp : d'.Perm d := by
          have := (p1.append_right (d.drop (q + (n - q)))).append_left (d.take q)
          rw [split3, show q + (n - q) = n by omega, ← hd'] at this
          exact this
        refine ⟨pp.trans h2, ?_⟩
        have := HB.step (lt := ltOf cf) (s1 := 1) (s2 := 20) (k := kk) (P := d.take q) (X := (d.drop q).take (n - q)) (X' := M) (S := d.drop (q + (n - q))) (t := 0) (by omega) (by omega) (by omega) (.inr hdn) (.inr ⟨kk * 20, by omega⟩) (by omega) (.inl hdn) (by rw [split3, lt1]; exact h3) p1 o1
        rw [lt1, lt2, show q + (n - q) = n by omega, ← hd'] at this
        exact this.full (by rw [pp.length_eq]; exact hdl)
      clear h1 h2 h3 hdl p1 o1 e1 lt1 lt2 S2 HQ hd' hdn
      go_wp2_with (go_at_fn 121; (with_reducible refine CI.out.mono ?_); rintro e w2 ⟨rfl, T3⟩; have S3 : Aside (SWK (encT enc) k w0 blk off d'.toArray w2) := T3; clear T3)
      clear CI hlt hltz hqn
      go_loopw [6] (fun u wr => ∃ (s : Nat) (d : List (α × Nat)), u = .int .i64 s ∧ 0 < s ∧ s ≤ 2 * n + 20 ∧ Hid (d.Perm D ∧ ∀ p q, p < q → GB (ltOf cf) s d p q) ∧ Aside (SWK (encT enc) k w0 blk off d.toArray wr)) (fun u _ => n - (intOf u).toNat)
      case atStart => exact ⟨20, d', rfl, by omega, by omega, NX, S3⟩
      case round =>
        clear S3 NX
        obtain ⟨s, d, rfl, hs0, hsn, HG, S4⟩ := hrel
        by_cases hlt : s < n
        · have hltz : (s : Int) < (n : Int) := by omega
          have HS1 : Hid (d.Perm D ∧ HB (ltOf cf) s (2 * s) 0 d) := ⟨HG.out.1, HB.start HG.out.2⟩
          go_wp2_with fail
          go_loopw [7, 8] (fun u v wr => ∃ (q kk : Nat) (d : List (α × Nat)), u = .int .i64 q ∧ v = .int .i64 ((q : Int) + 2 * (s : Int)) ∧ q ≤ n ∧ Hid (q = kk * (2 * s) ∧ d.Perm D ∧ HB (ltOf cf) s (2 * s) q d) ∧ Aside (SWK (encT enc) k w0 blk off d.toArray wr)) (fun u _ _ => n - (intOf u).toNat)
          case atStart => exact ⟨0, 0, d, rfl, by first | rfl | go_num, Nat.zero_le _, ⟨by omega, HS1.out.1, HS1.out.2⟩, S4⟩
          case round =>
            clear S4 HS1 HG
            obtain ⟨q, kk, d, rfl, rfl, hqn, HQ, S5⟩ := hrel
            by_cases hle : q + 2 * s ≤ n
            · have hlez : (q : Int) + 2 * (s : Int) ≤ (n : Int) := by omega
              obtain ⟨h1, h2, h3⟩ := HQ.out
              have hdl : d.length = n := by rw [h2.length_eq]; exact HD.out
              have hu : q = 2 * kk * s := by rw [h1, ← Nat.mul_assoc, Nat.mul_comm kk 2]
              have lt1 : (d.take q).length = q := by rw [List.length_take]; omega
              have lt2 : ((d.drop q).take s).length = s := by rw [List.length_take, List.length_drop]; omega
              have lt3 : ((d.drop (q + s)).take s).length = s := by rw [List.length_take, List.length_drop]; omega
              have sp : d.take q ++ ((d.drop q).take s ++ ((d.drop (q + s)).take s ++ d.drop (q + s + s))) = d := by
                have e2 := split3 (d.drop q) s s
                rw [List.drop_drop, List.drop_drop, ← Nat.add_assoc] at e2
                rw [e2, List.take_append_drop]
              have CS := Lib.hid (HSY.out (s + s) wr (d.take q) ((d.drop q).take s) ((d.drop (q + s)).take s) (d.drop (q + s + s)) (by omega) (by omega) (by omega) (h3.block hs0 (Nat.le_refl _) hu (Nat.le_refl _)) (h3.block hs0 (by omega) (show q + s = (2 * kk + 1) * s by rw [Nat.add_mul, ← hu]; omega) (Nat.le_refl _)) (h3.cross hs0 hu) (by rw [lt1, lt2, lt3, List.length_drop]; omega) (by rw [sp]; exact S5.out))
              rw [lt1, lt2, lt3, show ((q + s : Nat) : Int) = (q : Int) + (s : Int) by omega, show ((q + s + s : Nat) : Int) = (q : Int) + 2 * (s : Int) by omega] at CS
              have ST : Hid (∀ M : List (α × Nat), M.Perm ((d.drop q).take s ++ (d.drop (q + s)).take s) → Ord (ltOf cf) M → q + 2 * s = (kk + 1) * (2 * s) ∧ (d.take q ++ (M ++ d.drop (q + s + s))).Perm D ∧ HB (ltOf cf) s (2 * s) (q + 2 * s) (d.take q ++ (M ++ d.drop (q + s + s)))) := fun M p1 o1 => by
                rw [← List.append_assoc ((d.drop q).take s)] at sp
                refine ⟨by rw [Nat.add_mul, h1]; omega, ?_, ?_⟩
                · refine List.Perm.trans ?_ h2
                  have := (p1.append_right (d.drop (q + s + s))).append_left (d.take q)
                  rwa [sp] at this
                · have := HB.step (lt := ltOf cf) (s1 := s) (s2 := 2 * s) (k := kk) (P := d.take q) (X := (d.drop q).take s ++ (d.drop (q + s)).take s) (X' := M) (S := d.drop (q + s + s)) (t := 2 * kk + 2) hs0 (by omega) (by omega) (.inl (by rw [List.length_append, lt2, lt3, Nat.add_mul, ← hu, ← h1]; omega)) (.inr ⟨2 * kk, by rw [← h1, hu]⟩) (by rw [List.length_append, lt2, lt3]; omega) (.inr (by rw [List.length_append, lt2, lt3]; omega)) (by rw [sp, lt1]; exact h3) p1 o1
                  rw [lt1, List.length_append, lt2, lt3, show q + (s + s) = q + 2 * s by omega] at this
                  exact this
              clear h1 h2 h3 hdl hu lt1 lt2 lt3 sp S5 HQ
              go_wp2_with (go_at_fn 122; (with_reducible refine CS.out.mono ?_); rintro e w3 ⟨rfl, M, p1, o1, T6⟩; have S6 : Aside (SWK (encT enc) k w0 blk off (d.take q ++ (M ++ d.drop (q + s + s))).toArray w3) := T6; have NX := Lib.hid (ST.out M p1 o1); clear T6 p1 o1)
              exact ⟨⟨q + 2 * s, kk + 1, _, by first | rfl | go_num, by first | rfl | go_num, hle, NX.out, S6⟩, by simp [intOf] <;> omega⟩
            · have hlez : ¬ (q : Int) + 2 * (s : Int) ≤ (n : Int) := by omega
              obtain ⟨h1, h2, h3⟩ := HQ.out
              have hdl : d.length = n := by rw [h2.length_eq]; exact HD.out
              have hu : q = 2 * kk * s := by rw [h1, ← Nat.mul_assoc, Nat.mul_comm kk 2]
              by_cases hm : q + s < n
              · have hmz : (q : Int) + (s : Int) < (n : Int) := by omega
                have lt1 : (d.take q).length = q := by rw [List.length_take]; omega
                have lt2 : ((d.drop q).take s).length = s := by rw [List.length_take, List.length_drop]; omega
                have lt3 : ((d.drop (q + s)).take (n - (q + s))).length = n - (q + s) := by rw [List.length_take, List.length_drop]; omega
                have hdn : d.drop (q + s + (n - (q + s))) = [] := List.drop_of_length_le (by omega)
                have sp : d.take q ++ ((d.drop q).take s ++ ((d.drop (q + s)).take (n - (q + s)) ++ [])) = d := by
                  have e2 := split3 (d.drop q) s (n - (q + s))
                  rw [List.drop_drop, List.drop_drop, ← Nat.add_assoc, hdn] at e2
                  rw [e2, List.take_append_drop]
                have CS := Lib.hid (HSY.out n wr (d.take q) ((d.drop q).take s) ((d.drop (q + s)).take (n - (q + s))) [] (by omega) (by omega) (by omega) (h3.block hs0 (Nat.le_refl _) hu (Nat.le_refl _)) (h3.block hs0 (by omega) (show q + s = (2 * kk + 1) * s by rw [Nat.add_mul, ← hu]; omega) (by omega)) (h3.cross hs0 hu) (by rw [lt1, lt2, lt3, List.length_nil]; omega) (by rw [sp]; exact S5.out))
                rw [lt1, lt2, lt3, show ((q + s : Nat) : Int) = (q : Int) + (s : Int) by omega, show q + s + (n - (q + s)) = n by omega] at CS
                have ST : Hid (∀ M : List (α × Nat), M.Perm ((d.drop q).take s ++ (d.drop (q + s)).take (n - (q + s))) → Ord (ltOf cf) M → (d.take q ++ (M ++ [])).Perm D ∧ ∀ p q', p < q' → GB (ltOf cf) (2 * s) (d.take q ++ (M ++ [])) p q') := fun M p1 o1 => by
                  rw [← List.append_assoc ((d.drop q).take s)] at sp
                  have pp : (d.take q ++ (M ++ [])).Perm d := by
                    have := (p1.append_right []).append_left (d.take q)
                    rwa [sp] at this
                  refine ⟨pp.trans h2, ?_⟩
                  have := HB.step (lt := ltOf cf) (s1 := s) (s2 := 2 * s) (k := kk) (P := d.take q) (X := (d.drop q).take s ++ (d.drop (q + s)).take (n - (q + s))) (X' := M) (S := []) (t := 0) hs0 (by omega) (by omega) (.inr rfl) (.inr ⟨2 * kk, by rw [← h1, hu]⟩) (by rw [List.length_append, lt2, lt3]; omega) (.inl rfl) (by rw [sp, lt1]; exact h3) p1 o1
                  rw [lt1, List.length_append, lt2, lt3, show q + (s + (n - (q + s))) = n by omega] at this
                  exact this.full (by rw [pp.length_eq]; exact hdl)
                clear h1 h2 h3 hdl hu lt1 lt2 lt3 sp S5 HQ hdn
                go_wp2_with (go_at_fn 122; (with_reducible refine CS.out.mono ?_); rintro e w3 ⟨rfl, M, p1, o1, T6⟩; have S6 : Aside (SWK (encT enc) k w0 blk off (d.take q ++ (M ++ [])).toArray w3) := T6; have NX := Lib.hid (ST.out M p1 o1); clear T6 p1 o1)
                exact ⟨⟨s * 2, _, by first | rfl | go_num, by omega, by omega, by rw [Nat.mul_comm s 2]; exact NX, S6⟩, by simp [intOf] <;> omega⟩
              · have hmz : ¬ (q : Int) + (s : Int) < (n : Int) := by omega
                have NX : Hid (d.Perm D ∧ ∀ p q', p < q' → GB (ltOf cf) (2 * s) d p q') := ⟨h2, HB.end (k := kk) (n := n) (u := 2 * kk) hs0 (by omega) (by omega) hdl (by omega) (by rw [← h1, hu]) (by rw [← h1]; exact h3)⟩
                clear h1 h2 h3 hdl hu HQ
                go_wp2_with fail
                exact ⟨⟨s * 2, d, by first | rfl | go_num, by omega, by omega, by rw [Nat.mul_comm s 2]; exact NX, S5⟩, by simp [intOf] <;> omega⟩
        · have hltz : ¬ (s : Int) < (n : Int) := by omega
          go_wp2_with fail
          go_end0
          exact ⟨rfl, d, HG.out.1, GB.all HG.out.2 (by rw [HG.out.1.length_eq, HD.out]; omega), S4.out⟩

end Go.Proofs.YtaoobliajgcdmaaGreat

/-
  slices.SortStableFunc on a list of versions of the call's own: by rising stamps, those of one stamp as they stood.
-/
namespace Go.Proofs.YtaoobliajgcdmaaGreat
open Go.RowKit Go.Lib Go.Sort Go.Shelf

instance inhabitedVr : Inhabited Vr := ⟨⟨0, 0, ⟨#[]⟩, 0, 0, none, 0, [], false⟩⟩
theorem stabL : StabL Tryz.prog 7 where
  mixed := by kernel_rfl
  fSwap := Tryz.func160
  fRot := Tryz.func149
  fSym := Tryz.func122
  t3 := Tryz.underlying3
  a3 := Tryz.isAgg3
  z3 := Tryz.sizeOf3
  v3 := Tryz.zeroValue3
  t4 := Tryz.underlying4
  a4 := Tryz.isAgg4
  z4 := Tryz.sizeOf4
  v4 := Tryz.zeroValue4
  tU := Tryz.underlying115
  aU := Tryz.isAgg115
  zU := Tryz.sizeOf115
  tS := Tryz.underlying24
  aS := Tryz.isAgg24
  zS := Tryz.sizeOf24
  vS := Tryz.zeroValue24
  aE := Tryz.isAgg50
  zE := Tryz.sizeOf50

section
variable {β : Type}
/-- Each with its place. -/
def tagF : Nat → List β → List (β × Nat)
  | _, [] => []
  | n, x :: l => (x, n) :: tagF (n + 1) l
theorem tagF_length : ∀ (n : Nat) (l : List β), (tagF n l).length = l.length
  | _, [] => rfl
  | n, _ :: l => by rw [tagF, List.length_cons, List.length_cons, tagF_length]
theorem tagF_fst : ∀ (n : Nat) (l : List β), (tagF n l).map Prod.fst = l
  | _, [] => rfl
  | n, _ :: l => by rw [tagF, List.map_cons, tagF_fst]
theorem tagF_ge : ∀ (n : Nat) (l : List β), ∀ x ∈ tagF n l, n ≤ x.2
  | _, [], x, h => by simp [tagF] at h
  | n, y :: l, x, h => by
    rcases List.mem_cons.1 h with rfl | h
    · exact Nat.le_refl _
    · have := tagF_ge (n + 1) l x h; omega
theorem tagF_asc : ∀ (n : Nat) (l : List β), (tagF n l).Pairwise fun x y => x.2 < y.2
  | _, [] => List.Pairwise.nil
  | n, _ :: l => List.pairwise_cons.2 ⟨fun y hy => by have := tagF_ge (n + 1) l y hy; show n < y.2; omega, tagF_asc (n + 1) l⟩
theorem tagF_get : ∀ (n : Nat) (l : List β) (i : Nat) (x : β), l[i]? = some x → (tagF n l)[i]? = some (x, n + i)
  | _, [], _, _, h => by simp at h
  | n, y :: l, 0, x, h => by
    obtain rfl : y = x := by simpa using h
    rfl
  | n, y :: l, i + 1, x, h => by
    have := tagF_get (n + 1) l i x (by simpa using h)
    rw [show n + (i + 1) = n + 1 + i by omega]
    exact this
end
/-- How versions are told apart: by their stamps. -/
def StampLt (cf : Vr → Vr → Int) : Prop := ∀ x y, ltOf cf x y = decide (x.st < y.st)
theorem StampLt.swo {cf : Vr → Vr → Int} (h : StampLt cf) : SWO (ltOf cf) where
  irrefl x := by rw [h]; simp
  trans x y z h1 h2 := by rw [h] at *; simp at *; omega
  ntrans x y z h1 h2 := by rw [h] at *; simp at *; omega
def insT : List (Vr × Nat) → Vr × Nat → List (Vr × Nat)
  | [], x => [x]
  | y :: l, x => if y.1.st ≤ x.1.st then y :: insT l x else x :: y :: l
theorem insT_fst : ∀ (l : List (Vr × Nat)) (x : Vr × Nat), (insT l x).map Prod.fst = insV (l.map Prod.fst) x.1
  | [], _ => rfl
  | y :: l, x => by
    rw [insT, List.map_cons, insV]
    split
    · rw [List.map_cons, insT_fst]
    · rfl
theorem insT_perm : ∀ (l : List (Vr × Nat)) (x : Vr × Nat), (insT l x).Perm (x :: l)
  | [], _ => .refl _
  | y :: l, x => by
    rw [insT]
    split
    · exact ((insT_perm l x).cons y).trans (List.Perm.swap x y l)
    · exact .refl _
theorem insT_ord {cf : Vr → Vr → Int} (h : StampLt cf) : ∀ (l : List (Vr × Nat)) (x : Vr × Nat), Ord (ltOf cf) l → (∀ y ∈ l, y.2 < x.2) → Ord (ltOf cf) (insT l x)
  | [], x, _, _ => List.pairwise_singleton _ _
  | y :: l, x, ho, hx => by
    obtain ⟨o1, o2⟩ := List.pairwise_cons.1 ho
    rw [insT]
    split
    · rename_i hle
      refine List.pairwise_cons.2 ⟨fun z hz => ?_, insT_ord h l x o2 (fun z hz => hx z (List.mem_cons_of_mem _ hz))⟩
      rcases List.mem_cons.1 ((insT_perm l x).mem_iff.1 hz) with rfl | hz
      · exact .inr ⟨by rw [h]; simp; omega, hx y List.mem_cons_self⟩
      · exact o1 z hz
    · rename_i hle
      have hxy : TLst (ltOf cf) x y := .inl (by rw [h]; simp; omega)
      refine List.pairwise_cons.2 ⟨fun z hz => ?_, ho⟩
      rcases List.mem_cons.1 hz with rfl | hz
      · exact hxy
      · exact TLst.trans h.swo hxy (o1 z hz)
theorem foldT {cf : Vr → Vr → Int} (h : StampLt cf) : ∀ (D a : List (Vr × Nat)), Ord (ltOf cf) a → Asc D → Cross a D → Ord (ltOf cf) (D.foldl insT a) ∧ (D.foldl insT a).Perm (a ++ D) ∧ (D.foldl insT a).map Prod.fst = (D.map Prod.fst).foldl insV (a.map Prod.fst)
  | [], a, ho, _, _ => ⟨ho, by simp, rfl⟩
  | x :: D, a, ho, hasc, hc => by
    obtain ⟨a1, a2⟩ := List.pairwise_cons.1 hasc
    obtain ⟨r1, r2, r3⟩ := foldT h D (insT a x) (insT_ord h a x ho (fun y hy => hc y hy x List.mem_cons_self)) a2 (fun u hu v hv => by
      rcases List.mem_cons.1 ((insT_perm a x).mem_iff.1 hu) with rfl | hu
      · exact a1 v hv
      · exact hc u hu v (List.mem_cons_of_mem _ hv))
    refine ⟨r1, r2.trans ?_, ?_⟩
    · refine ((insT_perm a x).append_right D).trans ?_
      rw [List.cons_append]
      exact (List.perm_middle (a := x) (l₁ := a) (l₂ := D)).symm
    · rw [List.foldl_cons, r3, insT_fst, List.map_cons, List.foldl_cons]
/-- In order with their places: they are in the document's order. -/
theorem ord_is {cf : Vr → Vr → Int} (h : StampLt cf) {l : List Vr} {M : List (Vr × Nat)} (hp : M.Perm (tagF 0 l)) (ho : Ord (ltOf cf) M) : M.map Prod.fst = ordL l := by
  obtain ⟨r1, r2, r3⟩ := foldT h (tagF 0 l) [] List.Pairwise.nil (tagF_asc 0 l) (fun _ hu => by simp at hu)
  rw [List.nil_append] at r2
  have e : M = (tagF 0 l).foldl insT [] := by
    refine List.Perm.eq_of_pairwise (le := TLst (ltOf cf)) (fun a b _ _ h1 h2 => ?_) ho r1 (hp.trans r2.symm)
    rcases h1 with h1 | ⟨h1, h3⟩
    · have := h2.not h.swo
      rw [h1] at this; cases this
    · rcases h2 with h2 | ⟨_, h4⟩
      · rw [h1] at h2; cases h2
      · omega
  rw [e, r3, tagF_fst]
  rfl

section
variable {α : Type} {E : El α}
theorem holds_ownE [Inhabited α] {w : World} {g : Nat} {cur : Array Value} {ty : TypeId} {l : List α} (hb : w.heap[g]? = some (.cells cur ty (0, 0))) (ht : cur.toList.take (l.length * E.sz) = flatE E l) : HoldsK (encT E.cells) E.sz w g 0 (tagF 0 l).toArray := by
  intro j hj
  rw [size_flatK, List.size_toArray, tagF_length] at hj
  have hc : cur[j]? = (flatE E l)[j]? := by
    rw [← ht, List.getElem?_take, if_pos hj]
    simp
  have hq : j / E.sz < l.length := (Nat.div_lt_iff_lt_mul E.pos).2 hj
  obtain ⟨x, hx⟩ : ∃ x, l[j / E.sz]? = some x := ⟨_, List.getElem?_eq_getElem hq⟩
  have hr : j % E.sz < (E.cells x).length := by rw [E.len]; exact Nat.mod_lt _ E.pos
  obtain ⟨u, hu⟩ : ∃ u, (E.cells x)[j % E.sz]? = some u := ⟨_, List.getElem?_eq_getElem hr⟩
  have e1 := flatE_get l _ x hx _ u hu
  rw [Nat.mul_comm, Nat.div_add_mod j E.sz] at e1
  refine ⟨?_, by simp [World.frozen?, hb]⟩
  rw [get_flatK _ _ _ _ (by rw [List.size_toArray, tagF_length]; exact hj), getBangT (tagF_get 0 l _ x hx)]
  rw [e1] at hc
  have eu : (encT E.cells (x, 0 + j / E.sz))[j % E.sz]! = u := by
    show (E.cells x)[j % E.sz]! = u
    rw [List.getElem!_eq_getElem?_getD, hu]; rfl
  rw [eu]
  simp [World.cell?, hb, hc]
theorem grown_sortedE [Inhabited α] {w : World} {g n k : Nat} {enc : α → List Value} {d : Array (α × Nat)} {os : Array Obj} (_hg : g < w.heap.size) : w.grownBy (sortWorldK (encT enc) k w g 0 n d os) (some g) := by
  refine ⟨rfl, rfl, rfl, ?_, fun i hi hne => ?_⟩
  · simp [sortWorldK, putRowK, putRow, mapBlock, grow, Sort.ahead]
  · simp only [sortWorldK, putRowK, putRow, mapBlock, grow, Sort.ahead]
    rw [Array.getElem?_append_left (by simp; omega), Array.getElem?_modify, if_neg (fun e => hne (by rw [e]))]
/-- Rows that lie in a block of the call's own. -/
theorem ownE_of_row {w : World} {base g cap : Nat} {cur : Array Value} {L : List α} (hb : w.heap[g]? = some (.cells cur E.e (0, 0))) (hbase : base ≤ g) (hr : RowE E w (some ⟨g, 0, none⟩) L) (hn : L.length ≤ cap) (hm : cap ≤ maxLen) (hs : cur.size = cap * E.sz) : ownE E w base (.slice (some ⟨g, 0, none⟩) L.length cap) L := by
  refine ⟨flatE_length L, .inr ⟨g, cap, cur, rfl, hbase, hb, hn, hm, hs, ?_⟩⟩
  apply List.ext_getElem?
  intro j
  by_cases hj : j < L.length * E.sz
  · obtain ⟨u, hu⟩ : ∃ u, (flatE E L)[j]? = some u := ⟨_, List.getElem?_eq_getElem (by rw [flatE_length]; exact hj)⟩
    have c := flatE_cell hr hu
    rw [List.getElem?_take_of_lt hj, hu]
    simp only [Go.WideShapes.add_plain, Nat.zero_add] at c
    rw [cell_of_row w g j cur E.e (0, 0) hb] at c
    rw [Array.getElem?_toList]
    exact c
  · rw [List.getElem?_take_eq_none (by omega), List.getElem?_eq_none (by rw [flatE_length]; omega)]
theorem heap_sortedE [Inhabited α] {w : World} {g n k : Nat} {enc : α → List Value} {d : Array (α × Nat)} {os : Array Obj} {cur : Array Value} {e : TypeId} {fr : Nat × Nat} (hb : w.heap[g]? = some (.cells cur e fr)) : ∃ cur', (sortWorldK (encT enc) k w g 0 n d os).heap[g]? = some (.cells cur' e fr) ∧ cur'.size = cur.size := by
  have hg : g < w.heap.size := (Array.getElem?_eq_some_iff.1 hb).1
  refine ⟨putCells id 0 (flatK (encT enc) k d) cur, ?_, by simp [putCells]⟩
  unfold sortWorldK putRowK
  rw [heap_grow_old _ _ (by simpa using hg)]
  simp [putRow, mapBlock, Sort.ahead, Array.getElem?_modify, hb, onCells]
end
/-- What a function that tells versions apart answers. -/
def CmpV (g : Nat) (cb : Array Value) (cf : Vr → Vr → Int) : Prop := ∀ (x y : Vr) (W : World), Calls Tryz.prog g (#[vv x, vv y] ++ cb) W fun e w' => e = .returned (.int .i64 (cf x y)) ∧ ∃ q os', w' = grow (W.drewN q) os'
set_option maxHeartbeats 1000000 in
set_option maxRecDepth 100000 in
theorem stable_none (fv : Value) (w : World) : Calls Tryz.prog 95 #[.slice none 0 0, .int .i64 0, fv] w fun e w' => e = .returned (.tuple #[]) ∧ w' = w := by
  have CI := Lib.hid (show ∀ w, Calls Tryz.prog 121 #[.slice none 0 0, .int .i64 0, .int .i64 0, fv] w fun e w' => e = .returned (.tuple #[]) ∧ w' = w from fun w => AnyF.insertionSortCmpFunc_none Tryz.insVer none 0 fv w)
  go_enter Tryz.func95, Tryz.ntmps95
  go_wp2
  refine wp_loop_rounds 1 ?_
  rw [rounds_succ]
  go_wp2_with (go_at_call 121; (with_reducible refine (CI.out _).mono ?_); rintro e w2 ⟨rfl, hw2⟩; obtain rfl := hw2.symm)
  refine wp_loop_rounds 1 ?_
  rw [rounds_succ]
  go_wp2_with fail
  go_end0
  exact ⟨rfl, rfl⟩
theorem swo_tag {cf : Vr → Vr → Int} (h : SWO (ltOf cf)) : SWO (ltOf (cfP cf)) := ⟨fun x => h.irrefl x.1, fun x y z => h.trans x.1 y.1 z.1, fun x y z => h.ntrans x.1 y.1 z.1⟩
set_option maxHeartbeats 1000000 in
theorem sort_vers {base : Nat} {v : Value} {l : List Vr} (w : World) (hown : ownE EV w base v l) (hl : l.length < 1000000) (cf : Vr → Vr → Int) (hcf : StampLt cf) (g : Nat) (cb : Array Value) (eg : ∀ args w, (callFunc g args).run Tryz.prog w = .ok (.enter g args) w) (hcmp : CmpV g cb cf) :
    Calls Tryz.prog 76 #[v, .func (.func g) #[] cb] w fun e w' => e = .returned (.tuple #[]) ∧ ownE EV w' base v (ordL l) ∧ w.grownBy w' v.ownBlock := by
  rcases hown.2 with ⟨rfl, h0⟩ | ⟨g1, cap, cur, rfl, hbase, hb, hn, hcap, hcs, ht⟩
  · obtain rfl := List.eq_nil_of_length_eq_zero h0
    have CS := Lib.hid (fun w => stable_none (.func (.func g) #[] cb) w)
    go_enter Tryz.func76, Tryz.ntmps76
    go_wp2_with (go_at_call 95; (with_reducible refine (CS.out _).mono ?_); rintro e w2 ⟨rfl, hw2⟩; obtain rfl := hw2.symm)
    go_end0
    exact ⟨rfl, ownE_nil _ _, World.grownBy.refl _ _⟩
  · have hlt : g1 < w.heap.size := (Array.getElem?_eq_some_iff.1 hb).1
    obtain ⟨d0, hd0⟩ : ∃ d0, d0 = (tagF 0 l).toArray := ⟨_, rfl⟩
    have hsz : d0.size = l.length := by rw [hd0, List.size_toArray, tagF_length]
    have hH : HoldsK (encT EV.cells) 7 w g1 0 d0 := by rw [hd0]; exact holds_ownE (E := EV) hb ht
    have R : RowK (encT EV.cells) 7 w g1 0 d0 := ⟨fun x => EV.len x.1, fun x => EV.one x.1, hH, hlt⟩
    have hC : CmpLays Tryz.prog g cb (encT EV.cells) 7 (cfP cf) g1 0 d0.size w := fun _ _ _ _ x y => hcmp x.1 y.1 _
    have hins : ∀ (a b : Nat) (d : Array (Vr × Nat)) (w1 : World), d.size = d0.size → SWK (encT EV.cells) 7 w g1 0 d w1 → a ≤ b → b ≤ d0.size → Calls Tryz.prog 121 #[.slice (some ⟨g1, 0, none⟩) d0.size cap, .int .i64 (a : Int), .int .i64 (b : Int), .func (.func g) #[] cb] w1 fun e w' => e = .returned (.tuple #[]) ∧ SWK (encT EV.cells) 7 w g1 0 (insertionSort (ltp (ltOf cf)) d a b) w' := fun a b d w1 hd S ha hb2 => by
      have := AnyQ.insertionSortCmpFunc_w Tryz.insVer 7 Tryz.isAgg50 Tryz.sizeOf50 (encT EV.cells) (cfP cf) g cb g1 0 cap a b d0 d w w1 eg hC R hd.symm S (swo_tag hcf.swo) ha (by omega) (by omega)
      rw [hd] at this
      exact this
    have CS := stable_w stabL EV.cells cf hcf.swo g cb g1 0 cap d0 w eg hC R (by omega) Tryz.func95 (enters_of Tryz.func121 (by kernel_rfl) rfl) hins (tagF 0 l) (by rw [tagF_length, hsz]) (tagF_asc 0 l) w (by rw [← hd0]; exact SWK.start hH)
    have CS2 : Hid (Calls Tryz.prog 95 #[.slice (some ⟨g1, 0, none⟩) l.length cap, .int .i64 (l.length : Int), .func (.func g) #[] cb] w fun e w' => e = .returned (.tuple #[]) ∧ ownE EV w' base (.slice (some ⟨g1, 0, none⟩) l.length cap) (ordL l) ∧ w.grownBy w' (some g1)) := by
      rw [hsz] at CS
      refine CS.mono ?_
      rintro e w' ⟨rfl, M, pm, om, n, os, rfl⟩
      have hM := ord_is hcf pm om
      have hml : M.length = l.length := by rw [pm.length_eq, tagF_length]
      obtain ⟨cur', hb', hs'⟩ := heap_sortedE (n := n) (k := 7) (enc := EV.cells) (d := M.toArray) (os := os) hb
      rw [← ordL_length l]
      refine ⟨rfl, ownE_of_row hb' hbase (fun i x hx => ⟨g1, 0, rfl, fun j u hu => ?_⟩) (by rw [ordL_length]; exact hn) hcap (by rw [hs']; exact hcs), grown_sortedE hlt⟩
      rw [← hM, List.getElem?_map] at hx
      obtain ⟨y, hy, rfl⟩ := Option.map_eq_some_iff.1 hx
      have hil : i < M.length := (List.getElem?_eq_some_iff.1 hy).1
      have hK := holdsK_sortWorldK (encT EV.cells) 7 w g1 0 n d0 M.toArray os hlt hH (by rw [List.size_toArray, hml, hsz])
      have hj : j < 7 := by
        have := (List.getElem?_eq_some_iff.1 hu).1
        rwa [EV.len] at this
      have c := (hK.cell (i := i) (c := j) (by simpa using hil) hj).1
      rw [getBangT hy] at c
      have eu : (encT EV.cells y)[j]! = u := by
        show (EV.cells y.1)[j]! = u
        rw [List.getElem!_eq_getElem?_getD, hu]; rfl
      rw [eu] at c
      rw [Nat.zero_add] at c ⊢
      exact c
    clear CS hins hC R hH hsz hd0 ht hcs hb
    generalize l.length = n at *
    go_enter Tryz.func76, Tryz.ntmps76
    go_wp2_with (go_at_call 95; (with_reducible refine CS2.out.mono ?_); rintro e w2 ⟨rfl, h1, h2⟩)
    go_end0
    exact ⟨rfl, h1, h2⟩

end Go.Proofs.YtaoobliajgcdmaaGreat

/-
  Plain facts on the bytes of fields: what is put is taken, and what is taken is put as the same bytes.
-/
namespace Go.Proofs.YtaoobliajgcdmaaGreat

theorem zig_range {v : Int} (h : valB v = true) : 0 ≤ zig v ∧ zig v ≤ 4611686018427387903 := by
  unfold valB at h
  simp only [Bool.and_eq_true, decide_eq_true_eq] at h
  unfold zig
  split <;> omega
theorem intS_enc {v : Int} (h : valB v = true) : intS v = encS (zig v).toNat := by
  have h2 := zig_range h
  unfold valB at h
  simp only [Bool.and_eq_true, decide_eq_true_eq] at h
  rw [(int_ok h rfl).1]
  obtain ⟨m, hm⟩ : ∃ m : Nat, zig v = (m : Int) := ⟨(zig v).toNat, by omega⟩
  rw [hm, (num_ok (n := m) (by omega)).1, Int.toNat_natCast]
theorem unzig_zig {v : Int} : unzig (zig v).toNat = v := by
  unfold zig unzig
  by_cases h : v < 0
  · rw [if_pos h, if_pos (by omega)]; omega
  · rw [if_neg h, if_neg (by omega)]; omega
theorem zig_unzig (n : Nat) : zig (unzig n) = (n : Int) := by
  unfold zig unzig
  by_cases h : n % 2 = 1
  · rw [if_pos h, if_pos (by omega)]; omega
  · rw [if_neg h, if_neg (by omega)]; omega
theorem valB_unzig {n : Nat} (h : n < 4611686018427387904) : valB (unzig n) = true := by
  unfold valB unzig
  simp only [Bool.and_eq_true, decide_eq_true_eq]
  split <;> omega
theorem int_takenF {v : Int} (h : valB v = true) (b : ByteArray) : unzig (tkN (intS v ++ b)) = v ∧ tkR (intS v ++ b) = b ∧ tkE (intS v ++ b) = 0 := by
  have h2 := zig_range h
  rw [intS_enc h]
  obtain ⟨k1, k2, k3⟩ := tk_enc (n := (zig v).toNat) (by omega) b
  exact ⟨by rw [k1, unzig_zig], k2, k3⟩
theorem int_againF {s : ByteArray} (h : tkE s = 0) : intS (unzig (tkN s)) ++ tkR s = s := by
  rw [intS_enc (valB_unzig (tkN_lt s)), zig_unzig, Int.toNat_natCast]
  exact tk_again h

/-- The bytes of a field, of fields. -/
def oneS (f : Fd) : ByteArray := textS f.n ++ intS f.v
def manyS : List Fd → ByteArray
  | [] => ⟨#[]⟩
  | f :: l => oneS f ++ manyS l
theorem empty_append (s : ByteArray) : (⟨#[]⟩ : ByteArray) ++ s = s := by
  apply nats_inj
  rw [nats_append]; rfl
theorem append_empty (s : ByteArray) : s ++ (⟨#[]⟩ : ByteArray) = s := by
  apply nats_inj
  rw [nats_append, nats_nil, List.append_nil]
theorem manyS_append : ∀ l m : List Fd, manyS (l ++ m) = manyS l ++ manyS m
  | [], m => by rw [List.nil_append, manyS, empty_append]
  | f :: l, m => by rw [List.cons_append, manyS, manyS, manyS_append l m, ByteArray.append_assoc]
/-- What Put answers. -/
def putS (l : List Fd) : ByteArray := if rightE l = 0 then encS l.length ++ manyS l else ⟨#[]⟩
/-- Is a name one, and behind the one ahead? -/
def behindB : Option ByteArray → ByteArray → Bool
  | none, s => nameB s
  | some p, s => nameB s && aheadB p s
/-- The fields that s begins with, behind a name. -/
def takeG : Nat → Option ByteArray → ByteArray → List Fd × ByteArray × Nat
  | 0, _, s => ([], s, 0)
  | n + 1, o, s =>
    if ttE s 12 ≠ 0 then ([], ⟨#[]⟩, ttE s 12)
    else if behindB o (ttS s 12) = false then ([], ⟨#[]⟩, 8)
    else if tkE (ttR s 12) ≠ 0 then ([], ⟨#[]⟩, tkE (ttR s 12))
    else if (takeG n (some (ttS s 12)) (tkR (ttR s 12))).2.2 ≠ 0 then ([], ⟨#[]⟩, (takeG n (some (ttS s 12)) (tkR (ttR s 12))).2.2)
    else (⟨ttS s 12, unzig (tkN (ttR s 12))⟩ :: (takeG n (some (ttS s 12)) (tkR (ttR s 12))).1, (takeG n (some (ttS s 12)) (tkR (ttR s 12))).2.1, 0)
def takeF (s : ByteArray) : List Fd × ByteArray × Nat :=
  if tkE s ≠ 0 then ([], ⟨#[]⟩, tkE s) else if 8 < tkN s then ([], ⟨#[]⟩, 4) else takeG (tkN s) none (tkR s)
/-- What is behind fields that have been taken. -/
def goOn (acc : List Fd) (t : List Fd × ByteArray × Nat) : List Fd × ByteArray × Nat := if t.2.2 ≠ 0 then ([], ⟨#[]⟩, t.2.2) else (acc ++ t.1, t.2.1, 0)
theorem takeG_err {n : Nat} {o : Option ByteArray} {s : ByteArray} (h : (takeG n o s).2.2 ≠ 0) : takeG n o s = ([], ⟨#[]⟩, (takeG n o s).2.2) := by
  cases n with
  | zero => exact absurd rfl h
  | succ n =>
    rw [takeG] at h ⊢
    by_cases h1 : ttE s 12 ≠ 0
    · rw [if_pos h1]
    · rw [if_neg h1] at h ⊢
      by_cases h2 : behindB o (ttS s 12) = false
      · rw [if_pos h2]
      · rw [if_neg h2] at h ⊢
        by_cases h3 : tkE (ttR s 12) ≠ 0
        · rw [if_pos h3]
        · rw [if_neg h3] at h ⊢
          by_cases h4 : (takeG n (some (ttS s 12)) (tkR (ttR s 12))).2.2 ≠ 0
          · rw [if_pos h4]
          · rw [if_neg h4] at h
            exact absurd rfl h
theorem goOn_start (t : List Fd × ByteArray × Nat) (h : t.2.2 ≠ 0 → t = ([], ⟨#[]⟩, t.2.2)) : goOn [] t = t := by
  unfold goOn
  by_cases h1 : t.2.2 ≠ 0
  · rw [if_pos h1]; exact (h h1).symm
  · rw [if_neg h1]
    have : t.2.2 = 0 := by omega
    rw [List.nil_append]
    obtain ⟨a, b, c⟩ := t
    obtain rfl : c = 0 := this
    rfl
theorem goOn_text {acc : List Fd} {n : Nat} {o : Option ByteArray} {s : ByteArray} (h : ttE s 12 ≠ 0) : goOn acc (takeG (n + 1) o s) = ([], ⟨#[]⟩, ttE s 12) := by
  rw [takeG, if_pos h, goOn, if_pos h]
theorem goOn_form {acc : List Fd} {n : Nat} {o : Option ByteArray} {s : ByteArray} (h : ttE s 12 = 0) (h2 : behindB o (ttS s 12) = false) : goOn acc (takeG (n + 1) o s) = ([], ⟨#[]⟩, 8) := by
  rw [takeG, if_neg (by omega), if_pos h2, goOn, if_pos (by decide)]
theorem goOn_int {acc : List Fd} {n : Nat} {o : Option ByteArray} {s : ByteArray} (h : ttE s 12 = 0) (h2 : behindB o (ttS s 12) = true) (h3 : tkE (ttR s 12) ≠ 0) : goOn acc (takeG (n + 1) o s) = ([], ⟨#[]⟩, tkE (ttR s 12)) := by
  rw [takeG, if_neg (by omega), if_neg (by rw [h2]; simp), if_pos h3, goOn, if_pos h3]
theorem goOn_next {acc : List Fd} {n : Nat} {o : Option ByteArray} {s : ByteArray} (h : ttE s 12 = 0) (h2 : behindB o (ttS s 12) = true) (h3 : tkE (ttR s 12) = 0) :
    goOn acc (takeG (n + 1) o s) = goOn (acc ++ [⟨ttS s 12, unzig (tkN (ttR s 12))⟩]) (takeG n (some (ttS s 12)) (tkR (ttR s 12))) := by
  rw [takeG, if_neg (by omega), if_neg (by rw [h2]; simp), if_neg (by omega)]
  by_cases h4 : (takeG n (some (ttS s 12)) (tkR (ttR s 12))).2.2 ≠ 0
  · rw [if_pos h4, goOn, if_pos h4, goOn, if_pos h4]
  · rw [if_neg h4, goOn, if_neg (by simp), goOn, if_neg h4, List.append_assoc]
    rfl
theorem goOn_end (acc : List Fd) (o : Option ByteArray) (s : ByteArray) : goOn acc (takeG 0 o s) = (acc, s, 0) := by
  rw [takeG, goOn, if_neg (by simp), List.append_nil]

theorem behind_right {o : Option ByteArray} {f : Fd} {l : List Fd} : rightG o (f :: l) = 0 ↔ behindB o f.n = true ∧ valB f.v = true ∧ rightG (some f.n) l = 0 := by
  have e1 : oneE f = 0 ↔ nameB f.n = true ∧ valB f.v = true := by
    unfold oneE
    cases nameB f.n <;> cases valB f.v <;> simp
  cases o with
  | none =>
    rw [rightG_none, behindB]
    by_cases h : oneE f = 0
    · rw [if_pos h]
      have := e1.1 h
      simp [this]
    · rw [if_neg h]
      constructor
      · intro h2; exact absurd h2 h
      · intro h2; exact absurd (e1.2 ⟨h2.1, h2.2.1⟩) h
  | some p =>
    rw [rightG_some, behindB]
    by_cases h : oneE f = 0
    · rw [if_pos h]
      have := e1.1 h
      cases ha : aheadB p f.n <;> simp [this]
    · rw [if_neg h]
      constructor
      · intro h2; exact absurd h2 h
      · intro h2
        rw [Bool.and_eq_true] at h2
        exact absurd (e1.2 ⟨h2.1.1, h2.2.1⟩) h
theorem behind_name {o : Option ByteArray} {s : ByteArray} (h : behindB o s = true) : nameB s = true := by
  cases o with
  | none => exact h
  | some p => rw [behindB, Bool.and_eq_true] at h; exact h.1
theorem name_size {s : ByteArray} (h : nameB s = true) : s.size ≤ 12 := by
  unfold nameB at h
  rw [nameL_pre] at h
  simp only [Bool.and_eq_true, decide_eq_true_eq] at h
  rw [← nats_length]
  exact h.2.2
/-- What is put is taken. -/
theorem take_put : ∀ (l : List Fd) (o : Option ByteArray) (b : ByteArray), rightG o l = 0 → takeG l.length o (manyS l ++ b) = (l, b, 0)
  | [], _, b, _ => by rw [manyS, empty_append]; rfl
  | f :: l, o, b, h => by
    obtain ⟨h1, h2, h3⟩ := behind_right.1 h
    have hz := name_size (behind_name h1)
    have e : manyS (f :: l) ++ b = textS f.n ++ (intS f.v ++ (manyS l ++ b)) := by rw [manyS, oneS, ByteArray.append_assoc, ByteArray.append_assoc]
    obtain ⟨t1, t2, t3⟩ := tt_text (s := f.n) (b := intS f.v ++ (manyS l ++ b)) (most := 12) (by omega) (by omega)
    obtain ⟨i1, i2, i3⟩ := int_takenF h2 (manyS l ++ b)
    have ih := take_put l (some f.n) b h3
    rw [List.length_cons, e, takeG, t1, t2, t3, i1, i2, i3, ih]
    simp [h1]
/-- What is taken is put as the same bytes. -/
theorem put_take : ∀ (n : Nat) (o : Option ByteArray) (s : ByteArray), (takeG n o s).2.2 = 0 → (takeG n o s).1.length = n ∧ rightG o (takeG n o s).1 = 0 ∧ manyS (takeG n o s).1 ++ (takeG n o s).2.1 = s
  | 0, o, s, _ => by
    refine ⟨rfl, ?_, ?_⟩
    · cases o <;> rfl
    · show manyS [] ++ s = s
      rw [manyS, empty_append]
  | n + 1, o, s, h => by
    rw [takeG] at h ⊢
    by_cases h1 : ttE s 12 ≠ 0
    · rw [if_pos h1] at h; exact absurd h h1
    · rw [if_neg h1] at h ⊢
      by_cases h2 : behindB o (ttS s 12) = false
      · rw [if_pos h2] at h; cases h
      · rw [if_neg h2] at h ⊢
        by_cases h3 : tkE (ttR s 12) ≠ 0
        · rw [if_pos h3] at h; exact absurd h h3
        · rw [if_neg h3] at h ⊢
          by_cases h4 : (takeG n (some (ttS s 12)) (tkR (ttR s 12))).2.2 ≠ 0
          · rw [if_pos h4] at h; exact absurd h h4
          · rw [if_neg h4]
            obtain ⟨k1, k2, k3⟩ := put_take n (some (ttS s 12)) (tkR (ttR s 12)) (by omega)
            have hb : behindB o (ttS s 12) = true := by
              cases hh : behindB o (ttS s 12)
              · exact absurd hh h2
              · rfl
            refine ⟨by rw [List.length_cons, k1], behind_right.2 ⟨hb, valB_unzig (tkN_lt _), k2⟩, ?_⟩
            rw [manyS, oneS, ByteArray.append_assoc, ByteArray.append_assoc, k3, int_againF (by omega), tt_again (by omega)]
theorem takeF_put {l : List Fd} (h : rightE l = 0) (b : ByteArray) : takeF (putS l ++ b) = (l, b, 0) := by
  have hr : rightG none l = 0 ∧ l.length ≤ 8 := by
    unfold rightE at h
    by_cases h8 : 8 < l.length
    · rw [if_pos h8] at h; cases h
    · rw [if_neg h8] at h; exact ⟨h, by omega⟩
  unfold putS
  rw [if_pos h, ByteArray.append_assoc]
  obtain ⟨k1, k2, k3⟩ := tk_enc (n := l.length) (by omega) (manyS l ++ b)
  unfold takeF
  rw [k1, k2, k3, if_neg (by simp), if_neg (by omega), take_put l none b hr.1]
theorem putF_take {s : ByteArray} (h : (takeF s).2.2 = 0) : rightE (takeF s).1 = 0 ∧ putS (takeF s).1 ++ (takeF s).2.1 = s := by
  unfold takeF at h ⊢
  by_cases h1 : tkE s ≠ 0
  · rw [if_pos h1] at h; exact absurd h h1
  · rw [if_neg h1] at h ⊢
    by_cases h2 : 8 < tkN s
    · rw [if_pos h2] at h; cases h
    · rw [if_neg h2] at h ⊢
      obtain ⟨k1, k2, k3⟩ := put_take _ _ _ h
      have hr : rightE (takeG (tkN s) none (tkR s)).1 = 0 := by
        unfold rightE
        rw [k1, if_neg h2, k2]
      refine ⟨hr, ?_⟩
      unfold putS
      rw [if_pos hr, k1, ByteArray.append_assoc, k3]
      exact tk_again (by omega)

end Go.Proofs.YtaoobliajgcdmaaGreat

/-
  Plain facts for the laws of fields: what is made may be; the chapter's examples.
-/
namespace Go.Proofs.YtaoobliajgcdmaaGreat

theorem layL_length : ∀ (l : List Fd) (f : Fd), (layL l f).length ≤ l.length + 1
  | [], _ => Nat.le_refl _
  | g :: l, f => by
    rw [layL]
    split
    · rw [List.length_cons, List.length_cons]; have := layL_length l f; omega
    · split
      · rw [List.length_cons, List.length_cons]; omega
      · rw [List.length_cons, List.length_cons]; omega
theorem foldl_length : ∀ (l a : List Fd), (l.foldl layL a).length ≤ a.length + l.length
  | [], _ => Nat.le_refl _
  | f :: l, a => by
    rw [List.foldl_cons, List.length_cons]
    have h1 := foldl_length l (layL a f)
    have h2 := layL_length a f
    omega
theorem overL_length (l : List Fd) : (overL l).length ≤ l.length := by have := foldl_length l []; rw [List.length_nil] at this; unfold overL; omega
theorem overL_snoc (l : List Fd) (f : Fd) : overL (l ++ [f]) = layL (overL l) f := by unfold overL; rw [List.foldl_append]; rfl
theorem foldl_mem : ∀ (l a : List Fd) (g : Fd), g ∈ l.foldl layL a → g ∈ a ∨ g ∈ l
  | [], _, _, h => .inl h
  | f :: l, a, g, h => by
    rcases foldl_mem l (layL a f) g h with h | h
    · rcases layL_mem a f g h with rfl | h
      · exact .inr List.mem_cons_self
      · exact .inl h
    · exact .inr (List.mem_cons_of_mem _ h)
theorem overL_mem {l : List Fd} {g : Fd} (h : g ∈ overL l) : g ∈ l := by
  rcases foldl_mem l [] g h with h | h
  · simp at h
  · exact h
theorem firstE_all : ∀ l : List Fd, firstE l = 0 → ∀ f ∈ l, oneE f = 0
  | [], _, f, hf => by simp at hf
  | g :: l, h, f, hf => by
    rw [firstE] at h
    by_cases h1 : oneE g = 0
    · rw [if_pos h1] at h
      rcases List.mem_cons.1 hf with rfl | hf
      · exact h1
      · exact firstE_all l h f hf
    · rw [if_neg h1] at h; exact absurd h h1
theorem rises_right : ∀ (l : List Fd) (o : Option ByteArray), Rises l → (∀ f ∈ l, oneE f = 0) → (∀ p, o = some p → ∀ f ∈ l, aheadB p f.n = true) → rightG o l = 0
  | [], o, _, _, _ => by cases o <;> rfl
  | f :: l, o, h, h1, h2 => by
    have h0 := h1 f List.mem_cons_self
    have ih := rises_right l (some f.n) h.2 (fun g hg => h1 g (List.mem_cons_of_mem _ hg)) (fun p hp g hg => by cases hp; exact h.1 g hg)
    cases o with
    | none => rw [rightG_none, if_pos h0, ih]
    | some p => rw [rightG_some, if_pos h0, if_pos (h2 p rfl f List.mem_cons_self), ih]
theorem make_big {l : List Fd} (h : 8 < l.length) : makeF l = ([], 4) := by unfold makeF; rw [if_pos h]
theorem make_bad {l : List Fd} (h : ¬ 8 < l.length) (h2 : firstE l ≠ 0) : makeF l = ([], firstE l) := by unfold makeF; rw [if_neg h, if_neg h2]
theorem make_twice {l : List Fd} (h : ¬ 8 < l.length) (h2 : firstE l = 0) (h3 : (overL l).length ≠ l.length) : makeF l = ([], 7) := by unfold makeF; rw [if_neg h, if_pos h2, if_neg h3]
theorem make_good {l : List Fd} (h : ¬ 8 < l.length) (h2 : firstE l = 0) (h3 : (overL l).length = l.length) : makeF l = (overL l, 0) := by unfold makeF; rw [if_neg h, if_pos h2, if_pos h3]
/-- What is made may be. -/
theorem make_right {l : List Fd} (h : (makeF l).2 = 0) : rightE (makeF l).1 = 0 := by
  by_cases h8 : 8 < l.length
  · rw [make_big h8] at h; cases h
  · by_cases h2 : firstE l = 0
    · by_cases h3 : (overL l).length = l.length
      · rw [make_good h8 h2 h3]
        unfold rightE
        rw [if_neg (by show ¬ 8 < (overL l).length; omega)]
        exact rises_right _ none (overL_rises l) (fun f hf => firstE_all l h2 f (overL_mem hf)) (fun p hp => by cases hp)
      · rw [make_twice h8 h2 h3] at h; cases h
    · rw [make_bad h8 h2] at h; exact absurd h h2
theorem make_length (l : List Fd) : (makeF l).1.length ≤ 8 := by
  by_cases h8 : 8 < l.length
  · rw [make_big h8]; decide
  · by_cases h2 : firstE l = 0
    · by_cases h3 : (overL l).length = l.length
      · rw [make_good h8 h2 h3]; show (overL l).length ≤ 8; omega
      · rw [make_twice h8 h2 h3]; decide
    · rw [make_bad h8 h2]; exact Nat.zero_le _
theorem right_length {l : List Fd} (h : rightE l = 0) : l.length ≤ 8 := by
  unfold rightE at h
  by_cases h8 : 8 < l.length
  · rw [if_pos h8] at h; cases h
  · omega
theorem take_length (s : ByteArray) : (takeF s).1.length ≤ 8 := by
  by_cases h : (takeF s).2.2 = 0
  · exact right_length (putF_take h).1
  · have e : (takeF s).1 = [] := by
      unfold takeF at h ⊢
      by_cases h1 : tkE s ≠ 0
      · rw [if_pos h1]
      · rw [if_neg h1] at h ⊢
        by_cases h2 : 8 < tkN s
        · rw [if_pos h2]
        · rw [if_neg h2] at h ⊢
          rw [takeG_err h]
    rw [e]; decide

/-- The chapter's examples. -/
def nA : ByteArray := ⟨#[97]⟩
def nB : ByteArray := ⟨#[98]⟩
def nC : ByteArray := ⟨#[99]⟩
theorem example_over : overL ([[⟨nA, 1⟩, ⟨nB, 2⟩], [⟨nB, 3⟩, ⟨nC, 4⟩]] : List (List Fd)).flatten = [⟨nA, 1⟩, ⟨nB, 3⟩, ⟨nC, 4⟩] := by
  have h1 : aheadB nA nB = true := by decide +kernel
  have h2 : aheadB nB nB = false := by decide +kernel
  have h3 : aheadB nB nC = true := by decide +kernel
  have h4 : aheadB nA nC = true := by decide +kernel
  have h5 : aheadB nB nA = false := by decide +kernel
  simp [overL, layL, h1, h2, h3, h4]
theorem example_put : rightE [⟨nA, 1⟩] = 0 ∧ putS [⟨nA, 1⟩] = ⟨#[1, 1, 97, 2]⟩ := by
  have h : rightE [⟨nA, 1⟩] = 0 := by decide +kernel
  refine ⟨h, ?_⟩
  unfold putS
  rw [if_pos h]
  decide +kernel

end Go.Proofs.YtaoobliajgcdmaaGreat

/-
  Plain facts: lists of fields in another order; names that are not the same; the order of names.
-/
namespace Go.Proofs.YtaoobliajgcdmaaGreat

/-- No name stands twice. -/
def Apart (l : List Fd) : Prop := l.Pairwise fun x y => nats x.n ≠ nats y.n
theorem Apart.perm {l m : List Fd} (h : Apart l) (hp : l.Perm m) : Apart m := (hp.pairwise_iff (R := fun x y : Fd => nats x.n ≠ nats y.n) (fun {_ _} h => Ne.symm h)).1 h
theorem rises_apart : ∀ l : List Fd, Rises l → Apart l
  | [], _ => List.Pairwise.nil
  | _ :: l, h => List.Pairwise.cons (fun g hg => ahead_ne (h.1 g hg)) (rises_apart l h.2)
theorem getL_some : ∀ {l : List Fd} {s : ByteArray} {v : Int}, getL l s = some v → ∃ f ∈ l, nats f.n = nats s ∧ f.v = v
  | [], _, _, h => by cases h
  | f :: l, s, v, h => by
    rw [getL] at h
    by_cases hs : nats f.n = nats s
    · rw [if_pos hs] at h
      exact ⟨f, List.mem_cons_self, hs, Option.some.inj h⟩
    · rw [if_neg hs] at h
      obtain ⟨g, hg, h1, h2⟩ := getL_some h
      exact ⟨g, List.mem_cons_of_mem _ hg, h1, h2⟩
theorem getL_mem : ∀ {l : List Fd}, Apart l → ∀ {f : Fd}, f ∈ l → getL l f.n = some f.v
  | [], _, _, h => by simp at h
  | g :: l, ha, f, h => by
    obtain ⟨h1, h2⟩ := List.pairwise_cons.1 ha
    rw [getL]
    rcases List.mem_cons.1 h with rfl | h
    · rw [if_pos rfl]
    · rw [if_neg (h1 f h)]
      exact getL_mem h2 h
theorem getL_perm {l m : List Fd} (ha : Apart l) (hp : l.Perm m) (s : ByteArray) : getL l s = getL m s := by
  have hb := ha.perm hp
  cases h : getL l s with
  | some v =>
    obtain ⟨f, hf, h1, h2⟩ := getL_some h
    have := getL_mem hb (hp.mem_iff.1 hf)
    rw [nats_inj h1, h2] at this
    exact this.symm
  | none =>
    cases h3 : getL m s with
    | none => rfl
    | some v =>
      obtain ⟨f, hf, h1, h2⟩ := getL_some h3
      have := getL_mem ha (hp.mem_iff.2 hf)
      rw [nats_inj h1, h] at this
      cases this
theorem lastL_apart : ∀ {l : List Fd}, Apart l → ∀ s, lastL l s = getL l s
  | [], _, _ => rfl
  | f :: l, h, s => by
    obtain ⟨h1, h2⟩ := List.pairwise_cons.1 h
    rw [lastL, lastL_apart h2, getL]
    by_cases hs : nats f.n = nats s
    · rw [getL_none fun g hg e => h1 g hg (hs.trans e.symm)]
    · simp [hs]
      cases getL l s <;> rfl
/-- Put in order by names, a list without a name twice is what it is laid over itself. -/
theorem over_perm {l m : List Fd} (ha : Apart l) (hp : l.Perm m) (hm : Rises m) : m = overL l := by
  apply rises_ext _ _ hm (overL_rises _)
  intro s
  rw [overL_get, lastL_apart ha, getL_perm ha hp]
theorem layL_long : ∀ (a : List Fd) (f : Fd), (layL a f).length = a.length + 1 → Rises a → getL a f.n = none
  | [], _, _, _ => rfl
  | g :: a, f, h, hr => by
    rw [layL] at h
    rw [getL]
    by_cases h1 : aheadB g.n f.n = true
    · rw [if_pos h1, List.length_cons, List.length_cons] at h
      rw [if_neg (ahead_ne h1)]
      exact layL_long a f (by omega) hr.2
    · rw [if_neg h1] at h
      by_cases h2 : nats g.n = nats f.n
      · rw [if_pos h2, List.length_cons, List.length_cons] at h
        omega
      · rw [if_neg h2]
        have h3 : aheadB f.n g.n = true := by
          unfold aheadB at h1 ⊢
          rcases lessN_or (nats f.n) (nats g.n) with h | h | h
          · exact h
          · exact absurd h h1
          · exact absurd h.symm h2
        exact getL_none fun x hx e => ahead_ne (lessN_trans _ _ _ h3 (hr.1 x hx)) e.symm
theorem lastL_none : ∀ {l : List Fd} {s : ByteArray}, lastL l s = none → ∀ f ∈ l, nats f.n ≠ nats s
  | [], _, _, f, hf => by simp at hf
  | g :: l, s, h, f, hf => by
    rw [lastL] at h
    cases h1 : lastL l s with
    | some v => rw [h1] at h; cases h
    | none =>
      rw [h1] at h
      rcases List.mem_cons.1 hf with rfl | hf
      · intro e
        simp [e] at h
      · exact lastL_none h1 f hf
theorem apart_snoc {l : List Fd} {f : Fd} (h : Apart l) (h2 : ∀ g ∈ l, nats g.n ≠ nats f.n) : Apart (l ++ [f]) := by
  refine List.pairwise_append.2 ⟨h, List.pairwise_singleton _ _, fun a ha b hb => ?_⟩
  obtain rfl := List.mem_singleton.1 hb
  exact h2 a ha
/-- Laid over itself as long as it is: no name stands twice. -/
theorem over_long : ∀ (n : Nat) (l : List Fd), l.length = n → (overL l).length = l.length → Apart l
  | 0, l, h, _ => by rw [List.eq_nil_of_length_eq_zero h]; exact List.Pairwise.nil
  | n + 1, l, h, hl => by
    rcases List.eq_nil_or_concat l with rfl | ⟨m, f, rfl⟩
    · exact List.Pairwise.nil
    · rw [List.concat_eq_append] at h hl ⊢
      rw [overL_snoc, List.length_append, List.length_singleton] at hl
      rw [List.length_append, List.length_singleton] at h
      have h1 := overL_length m
      have h2 := layL_length (overL m) f
      have h3 := layL_long (overL m) f (by omega) (overL_rises m)
      rw [overL_get] at h3
      exact apart_snoc (over_long n m (by omega) (by omega)) (lastL_none h3)
theorem apart_over {l : List Fd} (h : Apart l) : (overL l).length = l.length := by
  have key : ∀ (m a : List Fd), Rises a → Apart m → (∀ x ∈ m, getL a x.n = none) → (m.foldl layL a).length = a.length + m.length := by
    intro m
    induction m with
    | nil => intro a _ _ _; rfl
    | cons f m ih =>
      intro a ha hm hx
      obtain ⟨h1, h2⟩ := List.pairwise_cons.1 hm
      rw [List.foldl_cons, ih _ (layL_rises a f ha) h2 (fun x hxm => by rw [layL_get a f x.n ha, if_neg (h1 x hxm)]; exact hx x (List.mem_cons_of_mem _ hxm))]
      have : (layL a f).length = a.length + 1 := by
        have h0 := hx f List.mem_cons_self
        clear ih hx h1 h2 hm
        induction a with
        | nil => rfl
        | cons g a iha =>
          rw [getL] at h0
          by_cases e : nats g.n = nats f.n
          · rw [if_pos e] at h0; cases h0
          · rw [if_neg e] at h0
            rw [layL]
            by_cases h1 : aheadB g.n f.n = true
            · rw [if_pos h1, List.length_cons, List.length_cons, iha ha.2 h0]
            · rw [if_neg h1, if_neg e]; rfl
      rw [this, List.length_cons]; omega
  have := key l [] trivial h (fun _ _ => rfl)
  rw [List.length_nil, Nat.zero_add] at this
  exact this

/-- Names' order by the library. -/
theorem cmp_lt : ∀ l m : List UInt8, (Lib.compareBytes l m < 0) ↔ lessN (l.map UInt8.toNat) (m.map UInt8.toNat) = true
  | [], [] => by simp [Lib.compareBytes, lessN]
  | [], _ :: _ => by simp [Lib.compareBytes, lessN]
  | _ :: _, [] => by simp [Lib.compareBytes, lessN]
  | a :: l, b :: m => by
    rw [Lib.compareBytes, List.map_cons, List.map_cons, lessN]
    by_cases h1 : a < b
    · rw [if_pos h1]
      have : a.toNat < b.toNat := h1
      simp [this]
    · rw [if_neg h1]
      have h1' : ¬ a.toNat < b.toNat := h1
      by_cases h2 : b < a
      · rw [if_pos h2]
        have h2' : b.toNat < a.toNat := h2
        simp [h1']
        intro e
        omega
      · rw [if_neg h2]
        have h2' : ¬ b.toNat < a.toNat := h2
        have e : a.toNat = b.toNat := by omega
        rw [cmp_lt l m]
        simp [e]

end Go.Proofs.YtaoobliajgcdmaaGreat

/-
  Sorting a list of fields of the call's own by their names.
-/
namespace Go.Proofs.YtaoobliajgcdmaaGreat
open Go.RowKit Go.Sort Go.Shelf

instance inhabitedFd : Inhabited Fd := ⟨⟨⟨#[]⟩, 0⟩⟩
/-- A field's two cells. -/
def encF (x : Fd) : List Value := [.string x.n, .int .i64 x.v]
theorem getBangF {l : List Fd} {i : Nat} {p : Fd} (h : l[i]? = some p) : l.toArray[i]! = p := by
  obtain ⟨hl, he⟩ := List.getElem?_eq_some_iff.1 h
  rw [getElem!_pos l.toArray i (by simpa using hl)]
  simpa using he
theorem holds_ownF {w : World} {g : Nat} {cur : Array Value} {ty : TypeId} {l : List Fd} (hb : w.heap[g]? = some (.cells cur ty (0, 0))) (ht : cur.toList.take (l.length * 2) = flatF l) : HoldsK encF 2 w g 0 l.toArray := by
  intro j hj
  rw [size_flatK] at hj
  have hj' : j < l.length * 2 := by simpa using hj
  have hc : cur[j]? = (flatF l)[j]? := by
    rw [← ht, List.getElem?_take, if_pos hj']
    simp
  obtain ⟨p, hp⟩ : ∃ p, l[j / 2]? = some p := ⟨_, List.getElem?_eq_getElem (by omega)⟩
  obtain ⟨e0, e1⟩ := flatF_get l (j / 2) p hp
  refine ⟨?_, by simp [World.frozen?, hb]⟩
  rw [get_flatK _ _ _ _ hj, getBangF hp]
  rcases Nat.mod_two_eq_zero_or_one j with h | h
  · rw [show j / 2 * 2 = j from by omega] at e0
    rw [e0] at hc
    simp [World.cell?, hb, hc, h, encF]
  · rw [show j / 2 * 2 + 1 = j from by omega] at e1
    rw [e1] at hc
    simp [World.cell?, hb, hc, h, encF]
theorem below_sortedF {w : World} {base g n : Nat} {d : Array Fd} {os : Array Obj} (hg : base ≤ g) (hs : base ≤ w.heap.size) : Below base w (sortWorldK encF 2 w g 0 n d os) := by
  refine ⟨rfl, rfl, rfl, ?_, fun k hk => ?_⟩
  · simp [sortWorldK, putRowK, putRow, mapBlock, grow, Sort.ahead]
  · simp only [sortWorldK, putRowK, putRow, mapBlock, grow, Sort.ahead]
    rw [Array.getElem?_append_left (by simp; omega), Array.getElem?_modify, if_neg (by omega)]

/-- How byName tells two fields apart. -/
def cfF (x y : Fd) : Int := Lib.compareBytes x.n.data.toList y.n.data.toList
theorem ltF (x y : Fd) : ltOf cfF x y = aheadB x.n y.n := by
  unfold ltOf cfF aheadB
  rw [Bool.eq_iff_iff, decide_eq_true_eq]
  exact cmp_lt _ _
theorem swoF : SWO (ltOf cfF) where
  irrefl x := by rw [ltF]; exact lessN_self _
  trans x y z h1 h2 := by rw [ltF] at *; exact lessN_trans _ _ _ h1 h2
  ntrans x y z h1 h2 := by
    rw [ltF] at *
    cases h : aheadB x.n z.n with
    | false => rfl
    | true =>
      unfold aheadB at *
      rcases lessN_or (nats y.n) (nats z.n) with k | k | k
      · rw [k] at h2; cases h2
      · have := lessN_trans _ _ _ h k
        rw [this] at h1; cases h1
      · rw [← k, h1] at h; cases h

set_option maxHeartbeats 1000000 in
theorem byName_any (x y : Fd) (W : World) : Calls Tryz.prog 88 #[fv x, fv y] W fun e w' => e = .returned (.int .i64 (cfF x y)) ∧ ∃ q os', w' = grow (W.drewN q) os' := by
  have hcon := fun W' => Tryz.strings_Compare x.n y.n W'
  unfold cfF
  generalize Lib.compareBytes x.n.data.toList y.n.data.toList = r at hcon ⊢
  go_enter Tryz.func88, Tryz.ntmps88
  go_wp2_with (go_at_call 119; refine (hcon _).mono ?_; rintro e w' ⟨rfl, rfl⟩)
  go_ret
  exact ⟨rfl, 0, _, by rw [alloc_eq_grow, alloc_eq_grow, grow_grow]; rfl⟩

theorem encF_one (x : Fd) (v : Value) (hv : v ∈ encF x) : v.oneCell' = true := by
  simp [encF] at hv
  rcases hv with rfl | rfl <;> rfl
/-- What the sort leaves. -/
def SortPost (base : Nat) (v : Value) (l : List Fd) (w : World) (e : Ending) (w' : World) : Prop :=
  e = .returned (.tuple #[]) ∧ ∃ m, l.Perm m ∧ m.Pairwise (fun x y => aheadB y.n x.n = false) ∧ ListF w' v m ∧ Below base w w'
theorem sorted_ofF {base g cap n : Nat} {l : List Fd} {w : World} {d' : Array Fd} {os : Array Obj} (hH : HoldsK encF 2 w g 0 l.toArray) (hblk : g < w.heap.size) (hbase : base ≤ g) (hcap : l.length ≤ cap)
    (hp : PermIn 0 l.toArray.size l.toArray d') (hs : SortedIn (ltOf cfF) 0 l.toArray.size d') : SortPost base (.slice (some ⟨g, 0, none⟩) l.length cap) l w (.returned (.tuple #[])) (sortWorldK encF 2 w g 0 n d' os) := by
  have hsz : d'.size = l.length := by simpa using hp.1
  have hlen : d'.toList.length = l.length := by simpa using hsz
  refine ⟨rfl, d'.toList, ?_, ?_, ⟨some ⟨g, 0, none⟩, cap, by rw [hlen], ?_, by rw [hlen]; exact hcap, fun h => by cases h⟩, below_sortedF hbase (by omega)⟩
  · have := hp.2.2
    simp only [List.size_toArray] at this
    rw [← hsz] at this
    simp only [Array.extract_size] at this
    rw [hsz] at this
    rw [show l.length = l.toArray.size from by simp, Array.extract_size] at this
    have h2 : d'.toList.Perm l := by simpa using this
    exact h2.symm
  · rw [List.pairwise_iff_getElem]
    intro i j hi hj hij
    have hi' : i < d'.size := by simpa using hi
    have hj' : j < d'.size := by simpa using hj
    have := hs i j (Nat.zero_le _) hij (by simp; omega)
    rw [getElem!_pos d' i hi', getElem!_pos d' j hj', ltF] at this
    simpa using this
  · intro i p hi
    have hi' : i < d'.size := by simpa using (List.getElem?_eq_some_iff.1 hi).1
    have hK := holdsK_sortWorldK encF 2 w g 0 n l.toArray d' os hblk hH (by simpa using hsz)
    have c0 := (hK.cell hi' (c := 0) (by omega)).1
    have c1 := (hK.cell hi' (c := 1) (by omega)).1
    have e : d'[i]! = p := by
      rw [getElem!_pos d' i hi']
      rw [Array.getElem?_toList, Array.getElem?_eq_getElem hi'] at hi
      injection hi
    rw [e] at c0 c1
    exact ⟨g, 0, rfl, by simpa [encF] using c0, by simpa [encF] using c1⟩
/-- A list's own block is one of fields. -/
def TyF (w : World) (v : Value) : Prop := ∀ g, v.ownBlock = some g → ∃ cur, w.heap[g]? = some (.cells cur FT (0, 0))
theorem tyF_sorted {w : World} {g n : Nat} {d : Array Fd} {os : Array Obj} {cur : Array Value} (hb : w.heap[g]? = some (.cells cur FT (0, 0))) : ∃ cur', (sortWorldK encF 2 w g 0 n d os).heap[g]? = some (.cells cur' FT (0, 0)) := by
  have hlt := (Array.getElem?_eq_some_iff.1 hb).1
  simp only [sortWorldK, putRowK, putRow, mapBlock, grow, Sort.ahead]
  rw [Array.getElem?_append_left (by simp; omega), Array.getElem?_modify, if_pos rfl, hb]
  simp only [Option.map_some, onCells]
  exact ⟨_, rfl⟩
theorem sort_fieldsT {base : Nat} {v : Value} {l : List Fd} (w : World) (hown : ownF w base v l) (hl : l.length < 4611686018427387904) (hb0 : base ≤ w.heap.size) :
    Calls Tryz.prog 87 #[v, .func (.func 88) #[] #[]] w fun e w' => SortPost base v l w e w' ∧ TyF w' v := by
  rcases hown.2 with ⟨rfl, h0⟩ | ⟨g, cap, cur, rfl, hbase, hb, hn, hcap, hcs, ht⟩
  · obtain rfl := List.eq_nil_of_length_eq_zero h0
    refine (AnyF.slices_SortFunc_none Tryz.sortField none 0 _ w).mono ?_
    rintro e w' ⟨rfl, rfl⟩
    exact ⟨⟨rfl, [], List.Perm.refl _, List.Pairwise.nil, ListF.nil _, Below.refl _ _⟩, fun g hg => by cases hg⟩
  · have hlt : g < w.heap.size := (Array.getElem?_eq_some_iff.1 hb).1
    have hH := holds_ownF hb ht
    have hcon := AnyQ.slices_SortFunc Tryz.sortField 2 Tryz.isAgg60 Tryz.sizeOf60 encF (fun _ => rfl) encF_one cfF swoF 88 #[] g 0 cap l.toArray w (enters_of Tryz.func88 (by kernel_rfl) rfl) (fun _ _ _ _ x y => byName_any x y _) hH hlt (by simpa using hl)
    change Calls Tryz.prog 87 _ _ _ at hcon
    simp only [List.size_toArray] at hcon
    refine hcon.mono ?_
    rintro e w' ⟨rfl, d', n, os, hp, hs, rfl⟩
    exact ⟨sorted_ofF hH hlt hbase hn (by simpa using hp) (by simpa using hs), fun g' hg' => by cases hg'; exact tyF_sorted hb⟩
theorem sort_fields {base : Nat} {v : Value} {l : List Fd} (w : World) (hown : ownF w base v l) (hl : l.length < 4611686018427387904) (hb0 : base ≤ w.heap.size) :
    Calls Tryz.prog 87 #[v, .func (.func 88) #[] #[]] w (SortPost base v l w) := (sort_fieldsT w hown hl hb0).mono fun _ _ h => h.1
/-- In order, and no name twice: names rise. -/
theorem rises_of : ∀ l : List Fd, l.Pairwise (fun x y => aheadB y.n x.n = false) → Apart l → Rises l
  | [], _, _ => trivial
  | f :: l, h, ha => by
    obtain ⟨h1, h2⟩ := List.pairwise_cons.1 h
    obtain ⟨a1, a2⟩ := List.pairwise_cons.1 ha
    refine ⟨fun g hg => ?_, rises_of l h2 a2⟩
    have := h1 g hg
    unfold aheadB at this ⊢
    rcases lessN_or (nats f.n) (nats g.n) with h | h | h
    · exact h
    · rw [h] at this; cases this
    · exact absurd h (a1 g hg)

end Go.Proofs.YtaoobliajgcdmaaGreat

/-
  Plain facts on turns: how many ends of a cover are not behind a time tells whether it has the time; going over the turns of two covers gives the cover of what counts; how long covers are.
-/
namespace Go.Proofs.YtaoobliajgcdmaaGreat.Co

/-- All From and To of a cover. -/
def bord (l : List Sp) : List Int := l.flatMap fun p => [p.1, p.2]
theorem bord_cons (p : Sp) (l : List Sp) : bord (p :: l) = p.1 :: p.2 :: bord l := by simp [bord]
theorem bord_snoc (l : List Sp) (p : Sp) : bord (l ++ [p]) = bord l ++ [p.1, p.2] := by simp [bord]
theorem bord_length (l : List Sp) : (bord l).length = 2 * l.length := by
  induction l with
  | nil => rfl
  | cons p l ih => rw [bord_cons]; simp only [List.length_cons, ih]; omega
theorem bord_bounds {l : List Sp} (h : Cov l) {x : Int} (hx : x ∈ bord l) : -1099511627776 ≤ x ∧ x ≤ 1099511627776 := by
  unfold bord at hx
  simp only [List.mem_flatMap] at hx
  obtain ⟨p, hp, hx⟩ := hx
  have := right_yes (h.1 p hp)
  simp at hx
  omega
theorem bord_behind {p : Sp} {l : List Sp} (h : Cov (p :: l)) {x : Int} (hx : x ∈ bord l) : p.2 < x := by
  unfold bord at hx
  simp only [List.mem_flatMap] at hx
  obtain ⟨q, hq, hx⟩ := hx
  have := right_yes (h.1 q (List.mem_cons_of_mem _ hq))
  have := h.head q hq
  simp at hx
  omega
/-- How many are not behind x. -/
def upTo (l : List Int) (x : Int) : Nat := l.countP fun y => decide (y ≤ x)
theorem upTo_cons (y : Int) (l : List Int) (x : Int) : upTo (y :: l) x = upTo l x + if y ≤ x then 1 else 0 := by
  simp [upTo, List.countP_cons]
theorem cov_odd : ∀ (l : List Sp) (x : Int), Cov l → (Mem l x ↔ upTo (bord l) x % 2 = 1)
  | [], x, _ => by simp [mem_nil, upTo, bord]
  | p :: l, x, h => by
    have ih := cov_odd l x h.tail
    have hr := right_yes (h.1 p (by simp))
    rw [bord_cons, upTo_cons, upTo_cons, mem_cons]
    simp only [h.1 p (by simp), true_and]
    rcases Int.lt_or_le x p.2 with h1 | h1
    · have h0 : upTo (bord l) x = 0 := by
        unfold upTo
        rw [List.countP_eq_zero]
        intro y hy
        have := bord_behind h hy
        simp; omega
      have hn : ¬ Mem l x := by rw [ih, h0]; omega
      rw [h0]
      rcases Int.lt_or_le x p.1 with h2 | h2
      · rw [if_neg (by omega), if_neg (by omega)]
        constructor
        · rintro (h3 | h3)
          · omega
          · exact absurd h3 hn
        · omega
      · rw [if_neg (by omega), if_pos (by omega)]
        exact ⟨fun _ => rfl, fun _ => .inl ⟨h2, h1⟩⟩
    · rw [if_pos (by omega), if_pos (by omega)]
      constructor
      · rintro (h3 | h3)
        · omega
        · have := ih.1 h3
          omega
      · intro h3
        exact .inr (ih.2 (by omega))

/-- A turn: its time, and which list turns. -/
abbrev Tn := Int × Int
/-- The turns of two covers. -/
def tnOf (a b : List Sp) : List Tn := (bord a).map (fun t => (t, 0)) ++ (bord b).map fun t => (t, 1)
theorem tn_bounds {a b : List Sp} (ha : Cov a) (hb : Cov b) {q : Tn} (h : q ∈ tnOf a b) : (q.2 = 0 ∨ q.2 = 1) ∧ -1099511627776 ≤ q.1 ∧ q.1 ≤ 1099511627776 := by
  unfold tnOf at h
  simp only [List.mem_append, List.mem_map] at h
  rcases h with ⟨t, ht, rfl⟩ | ⟨t, ht, rfl⟩
  · exact ⟨.inl rfl, bord_bounds ha ht⟩
  · exact ⟨.inr rfl, bord_bounds hb ht⟩
/-- Has the list with this number turned an odd number of times? -/
def odd (s : List Tn) (n : Int) : Bool := decide ((s.countP fun q => decide (q.2 = n)) % 2 = 1)
theorem odd_nil (n : Int) : odd [] n = false := by simp [odd]
theorem odd_snoc_same (s : List Tn) (q : Tn) {n : Int} (h : q.2 = n) : odd (s ++ [q]) n = !odd s n := by
  unfold odd
  rw [List.countP_append]
  have e : List.countP (fun q : Tn => decide (q.2 = n)) [q] = 1 := by simp [h]
  rw [e]
  rcases Nat.mod_two_eq_zero_or_one (s.countP fun q => decide (q.2 = n)) with h1 | h1
  · rw [decide_eq_true (by omega), decide_eq_false (by omega)]; rfl
  · rw [decide_eq_false (by omega), decide_eq_true (by omega)]; rfl
theorem odd_snoc_other (s : List Tn) (q : Tn) {n : Int} (h : q.2 ≠ n) : odd (s ++ [q]) n = odd s n := by
  unfold odd
  rw [List.countP_append]
  have e : List.countP (fun q : Tn => decide (q.2 = n)) [q] = 0 := by simp [h]
  rw [e, Nat.add_zero]
theorem count_map (l : List Int) (m n : Int) (x : Int) : (l.map fun t => ((t, m) : Tn)).countP (fun q => decide (q.2 = n) && decide (q.1 ≤ x)) = if m = n then upTo l x else 0 := by
  induction l with
  | nil => simp [upTo]
  | cons y l ih =>
    rw [List.map_cons, List.countP_cons, ih, upTo_cons]
    by_cases h : m = n <;> simp [h]
theorem count_tn (a b : List Sp) (x : Int) : (tnOf a b).countP (fun q => decide (q.2 = 0) && decide (q.1 ≤ x)) = upTo (bord a) x ∧ (tnOf a b).countP (fun q => decide (q.2 = 1) && decide (q.1 ≤ x)) = upTo (bord b) x := by
  unfold tnOf
  rw [List.countP_append, List.countP_append, count_map, count_map, count_map, count_map]
  simp
/-- All ahead of place k not behind x, all others behind it: which lists have x. -/
theorem odd_mem {a b : List Sp} (ha : Cov a) (hb : Cov b) {s : List Tn} (hp : s.Perm (tnOf a b)) {k : Nat} {x : Int} (h1 : ∀ q ∈ s.take k, q.1 ≤ x) (h2 : ∀ q ∈ s.drop k, x < q.1) : odd (s.take k) 0 = memB a x ∧ odd (s.take k) 1 = memB b x := by
  have key : ∀ n : Int, (s.take k).countP (fun q => decide (q.2 = n)) = s.countP (fun q => decide (q.2 = n) && decide (q.1 ≤ x)) := fun n => by
    conv => rhs; rw [← List.take_append_drop k s, List.countP_append]
    have e0 : (s.drop k).countP (fun q => decide (q.2 = n) && decide (q.1 ≤ x)) = 0 := by
      rw [List.countP_eq_zero]
      intro q hq
      have := h2 q hq
      simp; omega
    rw [e0, Nat.add_zero]
    apply List.countP_congr
    intro q hq
    have := h1 q hq
    simp [this]
  obtain ⟨c0, c1⟩ := count_tn a b x
  rw [← hp.countP_eq] at c0 c1
  constructor
  · rw [Bool.eq_iff_iff, memB_iff, cov_odd a x ha, odd, key, c0]; simp
  · rw [Bool.eq_iff_iff, memB_iff, cov_odd b x hb, odd, key, c1]; simp

/-- Is the time ahead of the turn at place k? -/
def Ahead (s : List Tn) (k : Nat) (x : Int) : Prop := ∀ q, s[k]? = some q → x < q.1
def CountP (f : Bool → Bool → Bool) (a b : List Sp) (x : Int) : Prop := f (memB a x) (memB b x) = true
/-- What holds when the turns ahead of place k are through. -/
structure Picks (a b : List Sp) (f : Bool → Bool → Bool) (s : List Tn) (k : Nat) (o : List Sp) (fr : Int) (c : Bool) : Prop where
  cov : Cov o
  off : c = false → (∀ x, Ahead s k x → (Mem o x ↔ CountP f a b x)) ∧ ∀ p ∈ o, Ahead s k p.2
  on : c = true → (∀ x, Ahead s k x → ((Mem o x ∨ fr ≤ x) ↔ CountP f a b x)) ∧ (∀ p ∈ o, p.2 < fr) ∧ Ahead s k fr ∧ -1099511627776 ≤ fr ∧ fr ≤ 1099511627776
  len : o.length ≤ k
def Sorted (s : List Tn) : Prop := ∀ (i j : Nat) (p q : Tn), i ≤ j → s[i]? = some p → s[j]? = some q → p.1 ≤ q.1
theorem Sorted.take {s : List Tn} (h : Sorted s) {k : Nat} {t : Tn} (ht : s[k]? = some t) {x : Int} (hx : t.1 ≤ x) : ∀ q ∈ s.take (k + 1), q.1 ≤ x := fun q hq => by
  obtain ⟨i, hi⟩ := List.getElem?_of_mem hq
  rw [List.getElem?_take] at hi
  split at hi
  · have := h i k q t (by omega) hi ht
    omega
  · cases hi
theorem Sorted.drop {s : List Tn} (h : Sorted s) {k : Nat} {x : Int} (hx : Ahead s k x) : ∀ q ∈ s.drop k, x < q.1 := fun q hq => by
  obtain ⟨i, hi⟩ := List.getElem?_of_mem hq
  rw [List.getElem?_drop] at hi
  have hlt : k + i < s.length := by
    rcases Nat.lt_or_ge (k + i) s.length with h1 | h1
    · exact h1
    · simp [List.getElem?_eq_none h1] at hi
  have h0 := hx s[k] (List.getElem?_eq_getElem (by omega))
  have := h k (k + i) _ q (by omega) (List.getElem?_eq_getElem (by omega)) hi
  omega
theorem Picks.start {a b : List Sp} {f : Bool → Bool → Bool} {s : List Tn} (ha : Cov a) (hb : Cov b) (hf : f false false = false) (hp : s.Perm (tnOf a b)) (hs : Sorted s) : Picks a b f s 0 [] 0 false := by
  refine ⟨Cov.nil, fun _ => ⟨fun x hx => ?_, by simp⟩, (fun h => by cases h), Nat.le_refl _⟩
  obtain ⟨e0, e1⟩ := odd_mem ha hb hp (k := 0) (x := x) (by simp) (hs.drop hx)
  simp only [List.take_zero, odd_nil] at e0 e1
  simp [CountP, ← e0, ← e1, hf, mem_nil]
/-- Another turn comes at the same time. -/
theorem Picks.stays {a b : List Sp} {f : Bool → Bool → Bool} {s : List Tn} {k : Nat} {o : List Sp} {fr : Int} {c : Bool} (h : Picks a b f s k o fr c) {t u : Tn} (ht : s[k]? = some t) (hu : s[k + 1]? = some u) (he : u.1 = t.1) : Picks a b f s (k + 1) o fr c := by
  have e : ∀ x, Ahead s (k + 1) x ↔ Ahead s k x := fun x => by
    unfold Ahead
    rw [ht, hu]
    constructor
    · intro h q hq; injection hq with hq; have := h u rfl; subst hq; omega
    · intro h q hq; injection hq with hq; have := h t rfl; subst hq; omega
  refine ⟨h.cov, fun hc => ?_, fun hc => ?_, by have := h.len; omega⟩
  · have := h.off hc
    exact ⟨fun x hx => this.1 x ((e x).1 hx), fun p hp => (e _).2 (this.2 p hp)⟩
  · have := h.on hc
    exact ⟨fun x hx => this.1 x ((e x).1 hx), this.2.1, (e _).2 this.2.2.1, this.2.2.2⟩
theorem ahead_of {s : List Tn} {k : Nat} {t : Tn} (ht : s[k]? = some t) {x : Int} : Ahead s k x ↔ x < t.1 := by
  unfold Ahead
  rw [ht]
  exact ⟨fun h => h t rfl, fun h q hq => by injection hq with hq; subst hq; exact h⟩
/-- The times from a turn on, ahead of the next one, are alike. -/
theorem turn_alike {a b : List Sp} {f : Bool → Bool → Bool} {s : List Tn} (ha : Cov a) (hb : Cov b) (hp : s.Perm (tnOf a b)) (hs : Sorted s) {k : Nat} {t : Tn} (ht : s[k]? = some t) {x : Int} (h1 : t.1 ≤ x) (h2 : Ahead s (k + 1) x) : CountP f a b x ↔ f (odd (s.take (k + 1)) 0) (odd (s.take (k + 1)) 1) = true := by
  obtain ⟨e0, e1⟩ := odd_mem ha hb hp (k := k + 1) (x := x) (hs.take ht h1) (hs.drop h2)
  rw [CountP, e0, e1]
theorem Picks.turns {a b : List Sp} {f : Bool → Bool → Bool} {s : List Tn} {k : Nat} {o : List Sp} {fr : Int} {c : Bool} (h : Picks a b f s k o fr c) (ha : Cov a) (hb : Cov b) (hp : s.Perm (tnOf a b)) (hs : Sorted s) {t : Tn} (ht : s[k]? = some t) (hn : Ahead s (k + 1) t.1) {now : Bool} (hnow : f (odd (s.take (k + 1)) 0) (odd (s.take (k + 1)) 1) = now) :
    (now = true → c = false → Picks a b f s (k + 1) o t.1 true) ∧ (now = false → c = true → Picks a b f s (k + 1) (o ++ [(fr, t.1)]) fr false) ∧ (now = c → Picks a b f s (k + 1) o fr c) := by
  have hb1 := (tn_bounds ha hb (hp.mem_iff.1 (List.mem_of_getElem? ht))).2
  have hlen := h.len
  have low : ∀ x, x < t.1 → Ahead s k x := fun x hx => (ahead_of ht).2 hx
  have up : ∀ x, t.1 ≤ x → Ahead s (k + 1) x → (CountP f a b x ↔ now = true) := fun x h1 h2 => by rw [turn_alike ha hb hp hs ht h1 h2, hnow]
  have far : ∀ x, x < t.1 → Ahead s (k + 1) x := fun x hx q hq => by have := hn q hq; omega
  refine ⟨fun h1 h2 => ?_, fun h1 h2 => ?_, fun h1 => ?_⟩
  · obtain ⟨m1, m2⟩ := h.off h2
    refine ⟨h.cov, (fun h => by cases h), fun _ => ⟨fun x hx => ?_, fun p hp' => (ahead_of ht).1 (m2 p hp'), hn, hb1⟩, by omega⟩
    rcases Int.lt_or_le x t.1 with h3 | h3
    · rw [← m1 x (low x h3)]
      constructor
      · rintro (h4 | h4)
        · exact h4
        · omega
      · exact .inl
    · rw [up x h3 hx]
      exact ⟨fun _ => h1, fun _ => .inr h3⟩
  · obtain ⟨m1, m2, m3, m4⟩ := h.on h2
    have m3' := (ahead_of ht).1 m3
    have hr : rightB fr t.1 = true := by simp [rightB]; omega
    obtain ⟨c1, c2⟩ := put_adds h.cov m2 hr
    refine ⟨c1, fun _ => ⟨fun x hx => ?_, fun p hp' => ?_⟩, (fun h => by cases h), by simp; omega⟩
    · rw [c2 x]
      rcases Int.lt_or_le x t.1 with h3 | h3
      · rw [← m1 x (low x h3)]
        constructor
        · rintro (h4 | h4)
          · exact .inl h4
          · exact .inr h4.1
        · rintro (h4 | h4)
          · exact .inl h4
          · exact .inr ⟨h4, h3⟩
      · rw [up x h3 hx, h1]
        constructor
        · rintro (⟨p, hp', _, h4, h5⟩ | h4)
          · have := m2 p hp'
            omega
          · omega
        · intro h4; cases h4
    · rcases List.mem_append.1 hp' with h3 | h3
      · have := m2 p h3
        exact far _ (by omega)
      · obtain rfl := List.mem_singleton.1 h3
        exact hn
  · refine ⟨h.cov, fun hc => ?_, fun hc => ?_, by omega⟩
    · obtain ⟨m1, m2⟩ := h.off hc
      refine ⟨fun x hx => ?_, fun p hp' => far _ ((ahead_of ht).1 (m2 p hp'))⟩
      rcases Int.lt_or_le x t.1 with h3 | h3
      · exact m1 x (low x h3)
      · rw [up x h3 hx, h1, hc]
        constructor
        · rintro ⟨p, hp', _, h4, h5⟩
          have := (ahead_of ht).1 (m2 p hp')
          omega
        · intro h4; cases h4
    · obtain ⟨m1, m2, m3, m4⟩ := h.on hc
      refine ⟨fun x hx => ?_, m2, far _ ((ahead_of ht).1 m3), m4⟩
      rcases Int.lt_or_le x t.1 with h3 | h3
      · exact m1 x (low x h3)
      · rw [up x h3 hx, h1, hc]
        have := (ahead_of ht).1 m3
        exact ⟨fun _ => rfl, fun _ => .inr (by omega)⟩
theorem Picks.stop {a b : List Sp} {f : Bool → Bool → Bool} {s : List Tn} {k : Nat} {o : List Sp} {fr : Int} {c : Bool} (h : Picks a b f s k o fr c) (hf : f false false = false) (hk : s.length ≤ k) : CovOf o (CountP f a b) := by
  have hA : ∀ x, Ahead s k x := fun x q hq => by rw [List.getElem?_eq_none hk] at hq; cases hq
  cases c with
  | false => exact ⟨h.cov, fun x => (h.off rfl).1 x (hA x)⟩
  | true =>
    exfalso
    obtain ⟨m1, m2, m3, m4, m5⟩ := h.on rfl
    have := (m1 1099511627776 (hA _)).1 (.inr m5)
    have e1 : memB a 1099511627776 = false := by
      cases hm : memB a 1099511627776
      · rfl
      · have := mem_bounds ((memB_iff _ _).1 hm); omega
    have e2 : memB b 1099511627776 = false := by
      cases hm : memB b 1099511627776
      · rfl
      · have := mem_bounds ((memB_iff _ _).1 hm); omega
    rw [CountP, e1, e2, hf] at this
    cases this

/- How long covers are. -/
def lens (l : List Sp) : Int := (l.map fun p => p.2 - p.1).sum
theorem lens_cons (p : Sp) (l : List Sp) : lens (p :: l) = p.2 - p.1 + lens l := by simp [lens]
theorem lens_snoc (l : List Sp) (p : Sp) : lens (l ++ [p]) = lens l + (p.2 - p.1) := by simp [lens]
/-- How many of the n times from lo on are in a set. -/
def cnt (S : Int → Bool) (lo : Int) : Nat → Int
  | 0 => 0
  | n + 1 => cnt S lo n + if S (lo + n) then 1 else 0
theorem cnt_congr {S T : Int → Bool} (h : ∀ x, S x = T x) (lo : Int) : ∀ n, cnt S lo n = cnt T lo n
  | 0 => rfl
  | n + 1 => by rw [cnt, cnt, cnt_congr h lo n, h]
/-- How many times of a cover are ahead of x. -/
def lenTo (l : List Sp) (x : Int) : Int := (l.map fun p => max 0 (min p.2 x - p.1)).sum
theorem lenTo_cons (p : Sp) (l : List Sp) (x : Int) : lenTo (p :: l) x = max 0 (min p.2 x - p.1) + lenTo l x := by simp [lenTo]
theorem lenTo_step : ∀ (l : List Sp) (x : Int), Cov l → lenTo l (x + 1) = lenTo l x + if memB l x then 1 else 0
  | [], x, _ => by simp [lenTo, memB]
  | p :: l, x, h => by
    have ih := lenTo_step l x h.tail
    have hr := right_yes (h.1 p (by simp))
    have hm : memB (p :: l) x = ((decide (p.1 ≤ x) && decide (x < p.2)) || memB l x) := by
      simp [memB, hasB, h.1 p (by simp)]
    rw [lenTo_cons, lenTo_cons, ih, hm]
    have hn : p.1 ≤ x → x < p.2 → memB l x = false := fun _ h2 => by
      cases hq : memB l x
      · rfl
      · have := ((cov_tail h x).1 ((memB_iff _ _).1 hq)).2
        omega
    by_cases h1 : p.1 ≤ x
    · by_cases h2 : x < p.2
      · rw [hn h1 h2]
        simp only [h1, h2, decide_true, Bool.and_true, Bool.or_false, if_true]
        simp; omega
      · simp only [h1, h2, decide_true, decide_false, Bool.and_false, Bool.false_or]
        omega
    · simp only [h1, decide_false, Bool.false_and, Bool.false_or]
      omega
theorem lenTo_low : ∀ (l : List Sp) (x : Int), Cov l → x ≤ -1099511627776 → lenTo l x = 0
  | [], _, _, _ => rfl
  | p :: l, x, h, hx => by
    have hr := right_yes (h.1 p (by simp))
    rw [lenTo_cons, lenTo_low l x h.tail hx]
    omega
theorem lenTo_high : ∀ (l : List Sp) (x : Int), Cov l → 1099511627776 ≤ x → lenTo l x = lens l
  | [], _, _, _ => rfl
  | p :: l, x, h, hx => by
    have hr := right_yes (h.1 p (by simp))
    rw [lenTo_cons, lens_cons, lenTo_high l x h.tail hx]
    omega
theorem lenTo_cnt {l : List Sp} (h : Cov l) : ∀ n : Nat, lenTo l (-1099511627776 + n) = cnt (memB l) (-1099511627776) n
  | 0 => by simpa [cnt] using lenTo_low l _ h (Int.le_refl _)
  | n + 1 => by
    rw [cnt, ← lenTo_cnt h n, ← lenTo_step l _ h]
    congr 1
    omega
theorem lens_cnt {l : List Sp} (h : Cov l) : lens l = cnt (memB l) (-1099511627776) 2199023255552 := by
  rw [← lenTo_cnt h, ← lenTo_high l _ h (Int.le_refl _)]
  rfl
theorem cnt_add {S T U V : Int → Bool} (h : ∀ x, (if S x then 1 else 0) + (if T x then 1 else 0) + (if U x then 1 else 0) = (if V x then (1 : Int) else 0)) (lo : Int) : ∀ n, cnt S lo n + cnt T lo n + cnt U lo n = cnt V lo n
  | 0 => rfl
  | n + 1 => by
    have ih := cnt_add h lo n
    have := h (lo + n)
    simp only [cnt]
    omega
theorem lens_nonneg {l : List Sp} (h : Cov l) : 0 ≤ lens l ∧ lens l ≤ 2199023255552 := by
  have key : ∀ (S : Int → Bool) (lo : Int) (n : Nat), 0 ≤ cnt S lo n ∧ cnt S lo n ≤ n := fun S lo n => by
    induction n with
    | zero => simp [cnt]
    | succ n ih => rw [cnt]; split <;> omega
  rw [lens_cnt h]
  exact key _ _ _

end Go.Proofs.YtaoobliajgcdmaaGreat.Co

/-
  Lists of spans in memory; the document's Same tells of any two whether they are one.
-/
namespace Go.Proofs.YtaoobliajgcdmaaGreat.Co
open Go.RowKit

/-- From A on the spans of l lie, one behind the other. -/
def Spans (w : World) (A : Option Addr) (l : List (Int × Int)) : Prop :=
  ∀ i p, l[i]? = some p → ∃ g off, A = some ⟨g, off, none⟩ ∧ w.cell? ⟨g, off + i * 2, none⟩ = some (.int .i64 p.1) ∧ w.cell? ⟨g, off + i * 2 + 1, none⟩ = some (.int .i64 p.2)

theorem ret_bool {a b : Bool} (h : a = b) : Ending.returned (.bool a) = .returned (.bool b) := by rw [h]
/-- As far as k both are one. -/
def SameTo (l m : List (Int × Int)) (k : Nat) : Prop := ∀ j, j < k → l[j]? = m[j]?

theorem SameTo.next {l m : List (Int × Int)} {k : Nat} (h : SameTo l m k) (he : l[k]? = m[k]?) : SameTo l m (k + 1) := fun j hj => by
  rcases Nat.lt_or_ge j k with hlt | hge
  · exact h j hlt
  · obtain rfl : j = k := by omega
    exact he
theorem SameTo.not {l m : List (Int × Int)} {k : Nat} {p q : Int × Int} (hp : l[k]? = some p) (hq : m[k]? = some q) (hne : p ≠ q) : decide (l = m) = false := by
  simp only [decide_eq_false_iff_not]
  rintro rfl
  rw [hp] at hq
  exact hne (by injection hq)
theorem SameTo.all {l m : List (Int × Int)} {k : Nat} (h : SameTo l m k) (hl : l.length ≤ k) (hm : m.length ≤ k) : decide (l = m) = true := by
  simp only [decide_eq_true_eq]
  apply List.ext_getElem?
  intro i
  rcases Nat.lt_or_ge i k with hlt | hge
  · exact h i hlt
  · rw [List.getElem?_eq_none (by omega), List.getElem?_eq_none (by omega)]

set_option maxHeartbeats 800000 in
theorem same_any (w : World) (A B : Option Addr) (c d : Nat) (l m : List (Int × Int)) (hl : Spans w A l) (hm : Spans w B m) (hn : l.length ≤ 9223372036854775807) :
    Calls Tryz.prog 20 #[.slice A l.length c, .slice B m.length d] w fun e w' => e = .returned (.bool (decide (l = m))) ∧ Below w.heap.size w w' := by
  by_cases hlen : l.length = m.length
  · have HL := Lib.hid hl
    have HM := Lib.hid hm
    clear hl hm
    obtain ⟨n, hnm⟩ : ∃ n, n = l.length := ⟨_, rfl⟩
    rw [← hlen, ← hnm]
    have HN := Lib.hid hnm
    have HLEN := Lib.hid hlen
    have hn' : n ≤ 9223372036854775807 := by omega
    clear hnm hlen hn
    go_enter Tryz.func20, Tryz.ntmps20
    go_wp2
    go_loopw [5] (fun i wr => ∃ k : Nat, k ≤ n ∧ i = .int .i64 k ∧ SameTo l m k ∧ ∃ q, wr = w.drewN q) (fun i _ => n - (intOf i).toNat)
    case atStart => exact ⟨0, Nat.zero_le _, rfl, fun j hj => absurd hj (by omega), 0, rfl⟩
    case round =>
      obtain ⟨k, hk, rfl, hs, q, rfl⟩ := hrel
      have HS := Lib.hid hs
      clear hs
      by_cases hlt : k < n
      · obtain ⟨⟨x, y⟩, hx⟩ : ∃ p, l[k]? = some p := ⟨_, List.getElem?_eq_getElem (by have := HN.out; omega)⟩
        obtain ⟨⟨u, v⟩, hu⟩ : ∃ p, m[k]? = some p := ⟨_, List.getElem?_eq_getElem (by have := HN.out; have := HLEN.out; omega)⟩
        obtain ⟨g, off, rfl, c0, c1⟩ := HL.out k _ hx
        obtain ⟨g', off', rfl, d0, d1⟩ := HM.out k _ hu
        have HX := Lib.hid hx
        have HU := Lib.hid hu
        clear hx hu
        simp only at c0 c1 d0 d1
        by_cases h0 : x = u
        · subst h0
          by_cases h1 : y = v
          · subst h1
            have e0 : (x == x) = true := by simp
            have e1 : (y == y) = true := by simp
            go_wp2
            go_quiet (fail)
            go_wp2
            go_roundw
            case rel => exact ⟨k + 1, by omega, by go_num, SameTo.next HS.out (HX.out.trans HU.out.symm), _, rfl⟩
            case measure => simp [intOf]; omega
          · have e0 : (x == x) = true := by simp
            have e1 : (y == v) = false := by simpa using h1
            go_wp2
            go_quiet (fail)
            go_wp2
            go_ret
            exact ⟨ret_bool (SameTo.not HX.out HU.out (by simpa using h1)).symm, ⟨rfl, rfl, rfl, Nat.le_refl _, fun _ _ => rfl⟩⟩
        · have e0 : (x == u) = false := by simpa using h0
          go_wp2
          go_quiet (fail)
          go_wp2
          go_ret
          exact ⟨ret_bool (SameTo.not HX.out HU.out (by simp [h0])).symm, ⟨rfl, rfl, rfl, Nat.le_refl _, fun _ _ => rfl⟩⟩
      · go_wp2
        go_ret
        exact ⟨ret_bool (SameTo.all HS.out (by have := HN.out; omega) (by have := HN.out; have := HLEN.out; omega)).symm, ⟨rfl, rfl, rfl, Nat.le_refl _, fun _ _ => rfl⟩⟩
  · go_enter Tryz.func20, Tryz.ntmps20
    go_wp2
    go_ret
    exact ⟨ret_bool (by simp only [Eq.comm (a := false), decide_eq_false_iff_not]; rintro rfl; exact hlen rfl), Below.refl _ _⟩

theorem Tryz.infoSpan : (Tryz.prog.info? 23).map (fun i => (i.zero, i.size, i.bytes)) = some (some (.agg #[.int .i64 0, .int .i64 0]), 2, 16) := by kernel_rfl

/-- The spans of a list as cells. -/
def flat (l : List (Int × Int)) : List Value := l.flatMap fun p => [.int .i64 p.1, .int .i64 p.2]
theorem flat_snoc (l : List (Int × Int)) (f t : Int) : flat (l ++ [(f, t)]) = flat l ++ [.int .i64 f, .int .i64 t] := by simp [flat]
theorem news_two (w : World) (f t : Int) (ty : TypeId) : ∀ j u, [Value.int .i64 f, Value.int .i64 t][j]? = some u → (w.alloc (.cells #[.int .i64 f, .int .i64 t] ty)).cell? ((⟨w.heap.size, 0, none⟩ : Addr).add j) = some u :=
  World.news_of_block (cs := #[.int .i64 f, .int .i64 t]) (heap_alloc_new w _)
theorem flat_get : ∀ (l : List (Int × Int)) (i : Nat) (p : Int × Int), l[i]? = some p → (flat l)[i * 2]? = some (.int .i64 p.1) ∧ (flat l)[i * 2 + 1]? = some (.int .i64 p.2)
  | [], i, p, h => by simp at h
  | q :: l, 0, p, h => by simp at h; subst h; simp [flat]
  | q :: l, i + 1, p, h => by
    have := flat_get l i p (by simpa using h)
    have e : flat (q :: l) = .int .i64 q.1 :: .int .i64 q.2 :: flat l := by simp [flat]
    rw [e, show (i + 1) * 2 = i * 2 + 1 + 1 from by omega]
    simpa using this
theorem Spans.nil (w : World) (A : Option Addr) : Spans w A [] := fun i p h => by simp at h
/-- A row of the call's own, read as spans. -/
theorem own_spans {w : World} {base : Nat} {v : Value} {l : List (Int × Int)} (h : w.ownsRow base 23 2 v l.length (flat l)) : ∃ A c, v = .slice A l.length c ∧ Spans w A l := by
  rcases Nat.eq_zero_or_pos l.length with h0 | h0
  · obtain rfl := List.eq_nil_of_length_eq_zero h0
    rcases h.2 with ⟨hv, _⟩ | ⟨g, cap, cur, hv, _⟩
    · exact ⟨_, _, hv, Spans.nil _ _⟩
    · exact ⟨_, _, hv, Spans.nil _ _⟩
  · obtain ⟨g, cap, rfl, _, _⟩ := h.form h0
    refine ⟨_, _, rfl, fun i p hp => ⟨g, 0, rfl, ?_⟩⟩
    obtain ⟨e0, e1⟩ := flat_get l i p hp
    have add : ∀ n, (⟨g, 0, none⟩ : Addr).add n = ⟨g, 0 + n, none⟩ := fun n => by unfold Addr.add; split <;> simp_all
    have c0 := h.cells (g := g) rfl _ _ e0
    have c1 := h.cells (g := g) rfl _ _ e1
    rw [add] at c0 c1
    exact ⟨c0, by rw [Nat.add_assoc]; exact c1⟩
/-- From the start of block g on the spans of l lie. -/
theorem own_spans2 {w : World} {base : Nat} {v : Value} {l : List (Int × Int)} (h : w.ownsRow base 23 2 v l.length (flat l)) : ∃ A c, v = .slice A l.length c ∧ Spans w A l ∧ l.length ≤ c ∧ (A = none → c = 0) := by
  obtain ⟨A, c, rfl, hs⟩ := own_spans h
  refine ⟨A, c, rfl, hs, ?_⟩
  rcases h.2 with ⟨hv, h0⟩ | ⟨g, cap, cur, hv, _, _, hn, _⟩
  · injection hv with e1 e2 e3
    exact ⟨by omega, fun _ => e3⟩
  · injection hv with e1 e2 e3
    exact ⟨by omega, fun hA => by rw [hA] at e1; cases e1⟩
def SpansAt (w : World) (g : Nat) (l : List (Int × Int)) : Prop := ∀ i p, l[i]? = some p → w.cell? ⟨g, i * 2, none⟩ = some (.int .i64 p.1) ∧ w.cell? ⟨g, i * 2 + 1, none⟩ = some (.int .i64 p.2)
theorem own_spansAt {w : World} {base : Nat} {v : Value} {l : List (Int × Int)} (h : w.ownsRow base 23 2 v l.length (flat l)) (h0 : 0 < l.length) : ∃ g c, v = .slice (some ⟨g, 0, none⟩) l.length c ∧ SpansAt w g l ∧ base ≤ g ∧ g < w.heap.size := by
  obtain ⟨g, cap, rfl, _, _⟩ := h.form h0
  have hl := h.lt g rfl
  refine ⟨g, _, rfl, fun i p hp => ?_, hl.1, hl.2⟩
  obtain ⟨e0, e1⟩ := flat_get l i p hp
  have add : ∀ n, (⟨g, 0, none⟩ : Addr).add n = ⟨g, 0 + n, none⟩ := fun n => by unfold Addr.add; split <;> simp_all
  have c0 := h.cells (g := g) rfl _ _ e0
  have c1 := h.cells (g := g) rfl _ _ e1
  rw [add] at c0 c1
  exact ⟨by rwa [Nat.zero_add] at c0, by rwa [Nat.zero_add] at c1⟩
theorem cell_lt {w : World} {g o : Nat} {v : Value} (h : w.cell? ⟨g, o, none⟩ = some v) : g < w.heap.size := by
  rcases Nat.lt_or_ge g w.heap.size with hlt | hge
  · exact hlt
  · simp [World.cell?, Array.getElem?_eq_none hge] at h
theorem Spans.below {w w' : World} {A : Option Addr} {l : List (Int × Int)} (h : Spans w A l) (hb : Below w.heap.size w w') : Spans w' A l := fun i p hp => by
  obtain ⟨g, off, rfl, c0, c1⟩ := h i p hp
  have hg := cell_lt c0
  exact ⟨g, off, rfl, (hb.cell (p := ⟨g, _, none⟩) hg).trans c0, (hb.cell (p := ⟨g, _, none⟩) hg).trans c1⟩
theorem below_app {B : Nat} {a w w1 : World} {o : Obj} {row : Option Nat} (h : Below B a w) (hg : (w.alloc o).grownBy w1 row) (hB : B ≤ w.heap.size) (hr : ∀ k, row = some k → B ≤ k) : Below B a w1 :=
  (h.alloc hB o).grown hg (by simp; omega) hr
theorem info_parts {P : Program} {t : TypeId} {z : Value} {s b : Nat} (h : (P.info? t).map (fun i => (i.zero, i.size, i.bytes)) = some (some z, s, b)) : ∃ i, P.info? t = some i ∧ i.zero = some z ∧ i.size = s ∧ i.bytes = b := by
  obtain ⟨i, hi, he⟩ := Option.map_eq_some_iff.1 h
  simp only [Prod.mk.injEq] at he
  exact ⟨i, hi, he⟩


end Go.Proofs.YtaoobliajgcdmaaGreat.Co

/-
  Kept, of cover and of the document's answer: is the list a cover? The document's Has: has the list the time?
-/
namespace Go.Proofs.YtaoobliajgcdmaaGreat.Co
open Go.RowKit

theorem chain {W w w1 : World} (h : Below W.heap.size W w) (hb : Below w.heap.size w w1) : Below W.heap.size W w1 := h.trans (hb.mono h.size)
theorem belowN {B : Nat} {a w : World} (h : Below B a w) (n : Nat) : Below B a (w.drewN n) := ⟨h.os, h.tape, h.output, h.size, h.block⟩
theorem bl (w : World) : Below w.heap.size w w := Below.refl _ _
theorem keepc {w w' : World} {g o : Nat} {u : Value} (hb : Below w.heap.size w w') (h : w.cell? ⟨g, o, none⟩ = some u) : w'.cell? ⟨g, o, none⟩ = some u := (hb.cell (p := ⟨g, o, none⟩) (cell_lt h)).trans h
/-- The cells of one span of a list, wherever it lies. -/
theorem Spans.at {w : World} {A : Option Addr} {l : List Sp} (h : Spans w A l) {i : Nat} {f t : Int} (hp : l[i]? = some (f, t)) : ∃ g off, A = some ⟨g, off, none⟩ ∧ w.cell? ⟨g, off + i * 2, none⟩ = some (.int .i64 f) ∧ w.cell? ⟨g, off + i * 2 + 1, none⟩ = some (.int .i64 t) := h i _ hp

end Go.Proofs.YtaoobliajgcdmaaGreat.Co

/-
  Sorting a list of pairs of the call's own: spans by Compare, turns by their times.
-/
namespace Go.Proofs.YtaoobliajgcdmaaGreat.Co
open Go.RowKit Go.Sort Go.Shelf

/-- A pair's two cells. -/
def enc2 (x : Int × Int) : List Value := [.int .i64 x.1, .int .i64 x.2]
theorem getBang {l : List (Int × Int)} {i : Nat} {p : Int × Int} (h : l[i]? = some p) : l.toArray[i]! = p := by
  obtain ⟨hl, he⟩ := List.getElem?_eq_some_iff.1 h
  rw [getElem!_pos l.toArray i (by simpa using hl)]
  simpa using he
theorem holds_own {w : World} {g : Nat} {cur : Array Value} {ty : TypeId} {l : List (Int × Int)} (hb : w.heap[g]? = some (.cells cur ty (0, 0))) (ht : cur.toList.take (l.length * 2) = flat l) : HoldsK enc2 2 w g 0 l.toArray := by
  intro j hj
  rw [size_flatK] at hj
  have hj' : j < l.length * 2 := by simpa using hj
  have hc : cur[j]? = (flat l)[j]? := by
    rw [← ht, List.getElem?_take, if_pos hj']
    simp
  obtain ⟨p, hp⟩ : ∃ p, l[j / 2]? = some p := ⟨_, List.getElem?_eq_getElem (by omega)⟩
  obtain ⟨e0, e1⟩ := flat_get l (j / 2) p hp
  refine ⟨?_, by simp [World.frozen?, hb]⟩
  rw [get_flatK _ _ _ _ hj, getBang hp]
  rcases Nat.mod_two_eq_zero_or_one j with h | h
  · rw [show j / 2 * 2 = j from by omega] at e0
    rw [e0] at hc
    simp [World.cell?, hb, hc, h, enc2]
  · rw [show j / 2 * 2 + 1 = j from by omega] at e1
    rw [e1] at hc
    simp [World.cell?, hb, hc, h, enc2]
theorem below_sorted {w : World} {base g n : Nat} {d : Array (Int × Int)} {os : Array Obj} (hg : base ≤ g) (hs : base ≤ w.heap.size) : Below base w (sortWorldK enc2 2 w g 0 n d os) := by
  refine ⟨rfl, rfl, rfl, ?_, fun k hk => ?_⟩
  · simp [sortWorldK, putRowK, putRow, mapBlock, grow, Sort.ahead]
  · simp only [sortWorldK, putRowK, putRow, mapBlock, grow, Sort.ahead]
    rw [Array.getElem?_append_left (by simp; omega), Array.getElem?_modify, if_neg (by omega)]

/-- Whatever is no cells lies as it lay. -/
def NC (w w' : World) : Prop := ∀ (k : Nat) (o : Obj), w.heap[k]? = some o → o.isCells = false → w'.heap[k]? = some o
theorem NC.refl (w : World) : NC w w := fun _ _ h _ => h
theorem NC.trans {a b c : World} (h : NC a b) (k : NC b c) : NC a c := fun i o hi ho => k i o (h i o hi ho) ho
theorem nc_sorted {w : World} {g n : Nat} {d : Array (Int × Int)} {os : Array Obj} {cur : Array Value} {ty : TypeId} (hb : w.heap[g]? = some (.cells cur ty (0, 0))) : NC w (sortWorldK enc2 2 w g 0 n d os) := fun k o hk ho => by
  have hne : g ≠ k := by
    rintro rfl
    rw [hb] at hk
    injection hk with hk
    subst hk
    cases ho
  have hlt := (Array.getElem?_eq_some_iff.1 hk).1
  simp only [sortWorldK, putRowK, putRow, mapBlock, grow, Sort.ahead]
  rw [Array.getElem?_append_left (by simp; omega), Array.getElem?_modify, if_neg hne]
  exact hk

/-- What a sort leaves. -/
def Sorted2 (lt : Int × Int → Int × Int → Bool) (base : Nat) (v : Value) (l : List (Int × Int)) (w : World) (e : Ending) (w' : World) : Prop :=
  e = .returned (.tuple #[]) ∧ ∃ A c l', v = .slice A l.length c ∧ l'.Perm l ∧ (∀ (i j : Nat) p q, i < j → l'[i]? = some p → l'[j]? = some q → lt q p = false) ∧ Spans w' A l' ∧ Below base w w' ∧ NC w w'

theorem sorted_of {lt : Int × Int → Int × Int → Bool} {base g cap n : Nat} {l : List (Int × Int)} {w : World} {d' : Array (Int × Int)} {os : Array Obj} {cur : Array Value} {ty : TypeId} (hblk0 : w.heap[g]? = some (.cells cur ty (0, 0))) (hH : HoldsK enc2 2 w g 0 l.toArray) (hblk : g < w.heap.size) (hbase : base ≤ g)
    (hp : PermIn 0 l.toArray.size l.toArray d') (hs : SortedIn lt 0 l.toArray.size d') : Sorted2 lt base (.slice (some ⟨g, 0, none⟩) l.length cap) l w (.returned (.tuple #[])) (sortWorldK enc2 2 w g 0 n d' os) := by
  have hsz : d'.size = l.length := by simpa using hp.1
  refine ⟨rfl, _, _, d'.toList, rfl, ?_, ?_, ?_, below_sorted hbase (by omega), nc_sorted hblk0⟩
  · have := hp.2.2
    simp only [List.size_toArray] at this
    rw [← hsz] at this
    simp only [Array.extract_size] at this
    rw [hsz] at this
    rw [show l.length = l.toArray.size from by simp, Array.extract_size] at this
    simpa using this
  · intro i j p q hij hi hj
    have hi' : i < d'.size := by simpa using (List.getElem?_eq_some_iff.1 hi).1
    have hj' : j < d'.size := by simpa using (List.getElem?_eq_some_iff.1 hj).1
    have := hs i j (Nat.zero_le _) hij (by simp; omega)
    rw [getElem!_pos d' i hi', getElem!_pos d' j hj'] at this
    rw [Array.getElem?_toList, Array.getElem?_eq_getElem hi'] at hi
    rw [Array.getElem?_toList, Array.getElem?_eq_getElem hj'] at hj
    injection hi with hi
    injection hj with hj
    rw [← hi, ← hj]
    exact this
  · intro i p hi
    have hi' : i < d'.size := by simpa using (List.getElem?_eq_some_iff.1 hi).1
    have hK := holdsK_sortWorldK enc2 2 w g 0 n l.toArray d' os hblk hH (by simpa using hsz)
    have c0 := (hK.cell hi' (c := 0) (by omega)).1
    have c1 := (hK.cell hi' (c := 1) (by omega)).1
    have e : d'[i]! = p := by
      rw [getElem!_pos d' i hi']
      rw [Array.getElem?_toList, Array.getElem?_eq_getElem hi'] at hi
      injection hi
    rw [e] at c0 c1
    exact ⟨g, 0, rfl, by simpa [enc2] using c0, by simpa [enc2] using c1⟩
theorem sorted_none {lt : Int × Int → Int × Int → Bool} {base : Nat} {w : World} (_h : base ≤ w.heap.size) : Sorted2 lt base (.slice none 0 0) [] w (.returned (.tuple #[])) w :=
  ⟨rfl, none, 0, [], rfl, List.Perm.refl _, by simp, Spans.nil _ _, Below.refl _ _, NC.refl _⟩

/-- How span.Compare tells two spans apart. -/
def cfS (x y : Int × Int) : Int := if x = y then 0 else if x.1 ≠ y.1 then Lib.compareInt x.1 y.1 else Lib.compareInt x.2 y.2
theorem ltS (x y : Int × Int) : ltOf cfS x y = decide (x.1 < y.1 ∨ x.1 = y.1 ∧ x.2 < y.2) := by
  unfold ltOf cfS Lib.compareInt
  rw [Bool.eq_iff_iff]
  simp only [decide_eq_true_eq]
  rcases x with ⟨a, b⟩
  rcases y with ⟨c, d⟩
  simp only [Prod.mk.injEq]
  by_cases h1 : a = c
  · subst h1
    by_cases h2 : b = d
    · subst h2; simp
    · simp only [h2, and_false, if_false, ne_eq, not_true_eq_false]
      split
      · simp; omega
      · split <;> simp <;> omega
  · simp only [h1, false_and, if_false, ne_eq, not_false_eq_true, if_true]
    split
    · simp; omega
    · split <;> simp <;> omega
theorem swoS : SWO (ltOf cfS) where
  irrefl x := by rw [ltS]; simp
  trans x y z h1 h2 := by rw [ltS] at *; simp at *; omega
  ntrans x y z h1 h2 := by rw [ltS] at *; simp at *; omega
/-- How turns are told apart: by their times. -/
def cfT (x y : Int × Int) : Int := Lib.compareInt x.1 y.1
theorem ltT (x y : Int × Int) : ltOf cfT x y = decide (x.1 < y.1) := by
  unfold ltOf cfT Lib.compareInt
  by_cases h1 : x.1 < y.1
  · simp [h1]
  · by_cases h2 : y.1 < x.1 <;> simp [h1, h2]
theorem swoT : SWO (ltOf cfT) where
  irrefl x := by rw [ltT]; simp
  trans x y z h1 h2 := by rw [ltT] at *; simp at *; omega
  ntrans x y z h1 h2 := by rw [ltT] at *; simp at *; omega

set_option maxHeartbeats 1000000 in
theorem compare_any (x y : Int × Int) (W : World) : Calls Tryz.prog 90 #[.agg #[.int .i64 x.1, .int .i64 x.2], .agg #[.int .i64 y.1, .int .i64 y.2]] W fun e w' => e = .returned (.int .i64 (cfS x y)) ∧ ∃ q os', w' = grow (W.drewN q) os' := by
  rcases x with ⟨a, b⟩
  rcases y with ⟨c, d⟩
  simp only
  by_cases h1 : a = c
  · subst h1
    have e0 : (a == a) = true := by simp
    by_cases h2 : b = d
    · subst h2
      have e1 : (b == b) = true := by simp
      go_enter Tryz.func90, Tryz.ntmps90
      go_wp2_with fail
      go_ret
      exact ⟨ret_int (by simp [cfS]), 0, _, by rw [alloc_eq_grow, alloc_eq_grow, grow_grow]; rfl⟩
    · have e1 : (b == d) = false := by simpa using h2
      have hcon := fun W' => Tryz.cmp_Compare_int b d W'
      have EQ := Lib.hid (show Lib.compareInt b d = cfS (a, b) (a, d) by simp [cfS, h2])
      generalize Lib.compareInt b d = r at hcon EQ
      go_enter Tryz.func90, Tryz.ntmps90
      go_wp2_with (go_at_call 62; refine (hcon _).mono ?_; rintro e w' ⟨rfl, rfl⟩)
      go_ret
      exact ⟨ret_int EQ.out, 0, _, by rw [alloc_eq_grow, alloc_eq_grow, grow_grow]; rfl⟩
  · have e0 : (a == c) = false := by simpa using h1
    have hcon := fun W' => Tryz.cmp_Compare_int a c W'
    have EQ := Lib.hid (show Lib.compareInt a c = cfS (a, b) (c, d) by simp [cfS, h1])
    generalize Lib.compareInt a c = r at hcon EQ
    go_enter Tryz.func90, Tryz.ntmps90
    go_wp2_with (go_at_call 62; refine (hcon _).mono ?_; rintro e w' ⟨rfl, rfl⟩)
    go_ret
    exact ⟨ret_int EQ.out, 0, _, by rw [alloc_eq_grow, alloc_eq_grow, grow_grow]; rfl⟩
theorem enc_one (x : Int × Int) (v : Value) (hv : v ∈ enc2 x) : v.oneCell' = true := by
  simp [enc2] at hv
  rcases hv with rfl | rfl <;> rfl
theorem sort_spans {base : Nat} {v : Value} {l : List (Int × Int)} (w : World) (hown : w.ownsRow base 23 2 v l.length (flat l)) (hl : l.length < 4611686018427387904) (hb0 : base ≤ w.heap.size) :
    Calls Tryz.prog 89 #[v, .func (.func 90) #[] #[]] w (Sorted2 (ltOf cfS) base v l w) := by
  rcases hown.2 with ⟨rfl, h0⟩ | ⟨g, cap, cur, rfl, hbase, hb, hn, hcap, hcs, ht⟩
  · obtain rfl := List.eq_nil_of_length_eq_zero h0
    refine (AnyF.slices_SortFunc_none Tryz.sortSpan none 0 _ w).mono ?_
    rintro e w' ⟨rfl, rfl⟩
    exact sorted_none hb0
  · have hlt : g < w.heap.size := (Array.getElem?_eq_some_iff.1 hb).1
    have hH := holds_own hb ht
    have hcon := AnyQ.slices_SortFunc Tryz.sortSpan 2 Tryz.isAgg23 Tryz.sizeOf23 enc2 (fun _ => rfl) enc_one cfS swoS 90 #[] g 0 cap l.toArray w (enters_of Tryz.func90 (by kernel_rfl) rfl) (fun _ _ _ _ x y => compare_any x y _) hH hlt (by simpa using hl)
    change Calls Tryz.prog 89 _ _ _ at hcon
    simp only [List.size_toArray] at hcon
    refine hcon.mono ?_
    rintro e w' ⟨rfl, d', n, os, hp, hs, rfl⟩
    exact sorted_of hb hH hlt hbase (by simpa using hp) (by simpa using hs)
end Go.Proofs.YtaoobliajgcdmaaGreat.Co

/-
  Lists of numbers in memory; what the call owns stays owned over a call that makes new blocks alone.
-/
namespace Go.Proofs.YtaoobliajgcdmaaGreat.Co
open Go.RowKit

theorem Tryz.infoInt : (Tryz.prog.info? 3).map (fun i => (i.zero, i.size, i.bytes)) = some (some (.int .i64 0), 1, 8) := by kernel_rfl

/-- From A on the numbers of l lie, one behind the other. -/
def Ints (w : World) (A : Option Addr) (l : List Int) : Prop := ∀ i x, l[i]? = some x → ∃ g off, A = some ⟨g, off, none⟩ ∧ w.cell? ⟨g, off + i, none⟩ = some (.int .i64 x)

theorem lt_of_cell {w : World} {g o : Nat} {u : Value} (h : w.cell? ⟨g, o, none⟩ = some u) : g < w.heap.size := by
  rcases Nat.lt_or_ge g w.heap.size with hlt | hge
  · exact hlt
  · simp [World.cell?, Array.getElem?_eq_none hge] at h
theorem Ints.below {w w' : World} {A : Option Addr} {l : List Int} (h : Ints w A l) (hb : Below w.heap.size w w') : Ints w' A l := fun i x hx => by
  obtain ⟨g, off, rfl, c0⟩ := h i x hx
  exact ⟨g, off, rfl, (hb.cell (p := ⟨g, _, none⟩) (lt_of_cell c0)).trans c0⟩
theorem Ints.nil (w : World) (A : Option Addr) : Ints w A [] := fun i p h => by simp at h
theorem own_ints {w : World} {base : Nat} {v : Value} {l : List Int} (h : w.ownsRow base 3 1 v l.length (l.map (Value.int .i64))) : ∃ A c, v = .slice A l.length c ∧ Ints w A l := by
  rcases Nat.eq_zero_or_pos l.length with h0 | h0
  · obtain rfl := List.eq_nil_of_length_eq_zero h0
    rcases h.2 with ⟨hv, _⟩ | ⟨g, cap, cur, hv, _⟩
    · exact ⟨_, _, hv, Ints.nil _ _⟩
    · exact ⟨_, _, hv, Ints.nil _ _⟩
  · obtain ⟨g, cap, rfl, _, _⟩ := h.form h0
    refine ⟨_, _, rfl, fun i x hx => ⟨g, 0, rfl, ?_⟩⟩
    have add : ∀ n, (⟨g, 0, none⟩ : Addr).add n = ⟨g, 0 + n, none⟩ := fun n => by unfold Addr.add; split <;> simp_all
    have c0 := h.cells (g := g) rfl i (.int .i64 x) (by simp [hx])
    rwa [add] at c0
/-- What the call owns stays owned over a call that makes new blocks alone. -/
theorem own_below {w w' : World} {base e size n : Nat} {v : Value} {xs : List Value} (h : w.ownsRow base e size v n xs) (hb : Below w.heap.size w w') : w'.ownsRow base e size v n xs :=
  h.kept (row := none) ⟨hb.os, hb.tape, hb.output, hb.size, fun k hk _ => hb.block k hk⟩ (by cases v.ownBlock <;> simp)

theorem news_one (w : World) (x : Int) (ty : TypeId) : ∀ j u, [Value.int .i64 x][j]? = some u → (w.alloc (.cells #[.int .i64 x] ty)).cell? ((⟨w.heap.size, 0, none⟩ : Addr).add j) = some u :=
  World.news_of_block (cs := #[.int .i64 x]) (heap_alloc_new w _)

end Go.Proofs.YtaoobliajgcdmaaGreat.Co

/-
  rising: the right spans of a list in order, in a list of its own.
-/
namespace Go.Proofs.YtaoobliajgcdmaaGreat.Co
open Go.RowKit Go.Sort Go.Shelf

/-- What lies while spans are gathered. -/
def SpRel (W : World) (l : List (Int × Int)) (v : Value) (wr : World) : Prop := wr.ownsRow W.heap.size 23 2 v l.length (flat l) ∧ Below W.heap.size W wr
theorem SpRel.nil (W : World) : SpRel W [] (.slice none 0 0) W := ⟨World.ownsRow_nil _ _ _ _, bl _⟩
theorem SpRel.step {W wr w1 : World} {l : List (Int × Int)} {v : Value} (h : SpRel W l v wr) (hb : Below wr.heap.size wr w1) : SpRel W l v w1 := ⟨own_below h.1 hb, chain h.2 hb⟩
theorem SpRel.app {W wr w1 : World} {l : List (Int × Int)} {v v1 : Value} {o : Obj} {f t : Int} (h : SpRel W l v wr) (hg : (wr.alloc o).grownBy w1 v.ownBlock) (hown : w1.ownsRow W.heap.size 23 2 v1 (l.length + 1) (flat l ++ [.int .i64 f, .int .i64 t])) : SpRel W (l ++ [(f, t)]) v1 w1 :=
  ⟨by rw [flat_snoc, List.length_append]; exact hown, below_app h.2 hg h.2.size (fun k hk => (h.1.lt k hk).1)⟩

/-- Of the first k spans those that are right. -/
def rights (l : List Sp) (k : Nat) : List Sp := (l.take k).filter fun p => rightB p.1 p.2
theorem rights_yes {l : List Sp} {k : Nat} {f t : Int} (hp : l[k]? = some (f, t)) (h : rightB f t = true) : rights l (k + 1) = rights l k ++ [(f, t)] := by
  simp [rights, List.take_add_one, hp, List.filter_append, h]
theorem rights_no {l : List Sp} {k : Nat} {f t : Int} (hp : l[k]? = some (f, t)) (h : rightB f t = false) : rights l (k + 1) = rights l k := by
  simp [rights, List.take_add_one, hp, List.filter_append, h]
theorem rights_le (l : List Sp) (k : Nat) : (rights l k).length ≤ k := Nat.le_trans (List.length_filter_le _ _) (List.length_take_le _ _)
theorem rights_all {l : List Sp} {k : Nat} (h : l.length ≤ k) : rights l k = l.filter fun p => rightB p.1 p.2 := by rw [rights, List.take_of_length_le h]

/-- What rising leaves. -/
def RisePost (l : List Sp) (w : World) (e : Ending) (w' : World) : Prop :=
  ∃ A c s, e = .returned (.slice A s.length c) ∧ Spans w' A s ∧ s.Perm (l.filter fun p => rightB p.1 p.2) ∧ (∀ (i j : Nat) (p q : Sp), i < j → s[i]? = some p → s[j]? = some q → p.1 ≤ q.1) ∧ Below w.heap.size w w'

set_option maxHeartbeats 2000000 in
theorem rising_any (w : World) (A : Option Addr) (c : Nat) (l : List Sp) (hl : Spans w A l) (hn : l.length ≤ 1000000) :
    Calls Tryz.prog 69 #[.slice A l.length c] w (RisePost l w) := by
  obtain ⟨i0, hi, hz0, hz1, hz2⟩ := info_parts Tryz.infoSpan
  have HL := Lib.hid hl
  clear hl
  obtain ⟨n, hnm⟩ : ∃ n, n = l.length := ⟨_, rfl⟩
  rw [← hnm]
  have hn' : n ≤ 1000000 := by omega
  have HN := Lib.hid hnm
  clear hnm hn
  go_enter Tryz.func69, Tryz.ntmps69
  go_wp2_with fail
  go_loopw [3, 8] (fun v i wr => ∃ k : Nat, k ≤ n ∧ i = .int .i64 k ∧ SpRel w (rights l k) v wr) (fun _ i _ => n - (intOf i).toNat)
  case atStart => exact ⟨0, Nat.zero_le _, rfl, SpRel.nil w⟩
  case round =>
    obtain ⟨k, hk, rfl, hR⟩ := hrel
    have HR := Lib.hid hR
    have hsz := hR.2.size
    have hle := rights_le l k
    clear hR
    by_cases hlt : k < n
    · obtain ⟨⟨f, t⟩, hp⟩ : ∃ p, l[k]? = some p := ⟨_, List.getElem?_eq_getElem (by have := HN.out; omega)⟩
      obtain ⟨g, off, rfl, c0, c1⟩ := HL.out.at hp
      have d0 := keepc HR.out.2 c0
      have d1 := keepc HR.out.2 c1
      have HP := Lib.hid hp
      clear c0 c1 hp
      have HY := Lib.hid (show Below wr.heap.size wr (wr.alloc (.cells #[.int .i64 f, .int .i64 t] 23)) from (bl _).alloc (Nat.le_refl _) _)
      cases hr : rightB f t
      · go_wp2_with (go_at_call 43; refine (right_any _ _ _).mono ?_; rintro e w1 ⟨rfl, hb1⟩)
        go_roundw
        case rel => exact ⟨k + 1, by omega, by go_num, by rw [rights_no HP.out hr]; exact HR.out.step (chain HY.out hb1)⟩
        case measure => simp [intOf]; omega
      · go_wp2_with fail
        (go_at_call 43; refine (right_any _ _ _).mono ?_; rintro e w1 ⟨rfl, hb1⟩)
        have a0 : w1.cell? ⟨wr.heap.size, 0, none⟩ = some (.int .i64 f) := keepc hb1 (by simp [go_sem])
        have a1 : w1.cell? ⟨wr.heap.size, 1, none⟩ = some (.int .i64 t) := keepc hb1 (by simp [go_sem])
        have HS := Lib.hid (HR.out.step (chain HY.out hb1))
        have hown1 := HS.out.1
        have hsz1 := HS.out.2.size
        have HB1 := Lib.hid hb1
        clear hb1
        go_wp2_with (at_builtin; refine wpList_append_lies _ rfl (.tmp 14) (.tmp 16) 40 rfl w.heap.size 23 i0 (.agg #[.int .i64 0, .int .i64 0]) 2 16 Tryz.underlying40 hi hz0 hz1 hz2 rfl (by decide) _ (rights l k).length (flat (rights l k)) rfl (World.ownsRow.alloc hown1 _) ⟨w1.heap.size, 0, none⟩ 1 1 [.int .i64 f, .int .i64 t] rfl rfl (news_two w1 f t _) (by simp [Value.oneCell']) (by decide) (by unfold maxLen; omega) (by omega) (by simp; omega) _ rfl ?_; intro g3 cap3 w3 hown3 hg3 hat3 hlt3; have NX := Lib.hid (SpRel.app HS.out hg3 hown3))
        go_roundw
        case rel => exact ⟨k + 1, by omega, by go_num, by rw [rights_yes HP.out hr]; have h := NX.out; exact h⟩
        case measure => simp [intOf]; omega
    · have hown := HR.out.1
      have HB := Lib.hid HR.out.2
      have hall := rights_all (l := l) (k := k) (by have := HN.out; omega)
      have HA := Lib.hid hall
      clear hall HR
      go_wp2_with (go_at_call 89; refine (sort_spans _ hown (by omega) hsz).mono ?_; rintro e w2 ⟨rfl, A2, c2, s, hv, hpm, hs, hsp, hb2, _⟩)
      go_ret
      refine ⟨A2, c2, s, by rw [hpm.length_eq]; rfl, hsp, by rw [← HA.out]; exact hpm, fun i j p q hij hi hj => ?_, HB.out.trans hb2⟩
      have := hs i j p q hij hi hj
      rw [ltS] at this
      simp at this
      omega

end Go.Proofs.YtaoobliajgcdmaaGreat.Co

/-
  Make: the cover that has just the times that the list has.
-/
namespace Go.Proofs.YtaoobliajgcdmaaGreat.Co
open Go.RowKit Go.Sort Go.Shelf

theorem own_block {w : World} {base e size n g cap : Nat} {xs : List Value} (h : w.ownsRow base e size (.slice (some ⟨g, 0, none⟩) n cap) n xs) : ∃ cur, w.heap[g]? = some (.cells cur e (0, 0)) ∧ n ≤ cap ∧ cap ≤ maxLen ∧ cur.size = cap * size ∧ cur.toList.take (n * size) = xs ∧ base ≤ g := by
  rcases h.2 with ⟨hv, _⟩ | ⟨g', cap', cur, hv, h1, h2, h3⟩
  · cases hv
  · injection hv with e1 e2 e3
    injection e1 with e1
    injection e1 with e1
    subst e1 e3
    exact ⟨cur, h2, h3.1, h3.2.1, h3.2.2.1, h3.2.2.2, h1⟩
theorem own_frozen {w : World} {base e size n g cap : Nat} {xs : List Value} (h : w.ownsRow base e size (.slice (some ⟨g, 0, none⟩) n cap) n xs) (o : Nat) : w.frozen? ⟨g, o, none⟩ = false := by
  obtain ⟨cur, hb, _⟩ := own_block h
  simp [World.frozen?, hb]
/-- One cell of a row of the call's own is stored. -/
theorem own_set {w : World} {base e size n g cap : Nat} {xs : List Value} (h : w.ownsRow base e size (.slice (some ⟨g, 0, none⟩) n cap) n xs) (j : Nat) (u : Value) : (w.setCell ⟨g, j, none⟩ u).ownsRow base e size (.slice (some ⟨g, 0, none⟩) n cap) n (xs.set j u) := by
  obtain ⟨cur, hb, h1, h2, h3, h4, h5⟩ := own_block h
  refine ⟨by rw [List.length_set]; exact h.1, .inr ⟨g, cap, cur.setIfInBounds j u, rfl, h5, ?_, h1, h2, by simpa using h3, ?_⟩⟩
  · simp [World.setCell, Array.getElem?_modify, hb]
  · rw [← h4, Array.toList_setIfInBounds, List.take_set]
theorem flat_length (l : List Sp) : (flat l).length = l.length * 2 := by
  induction l with
  | nil => rfl
  | cons p l ih =>
    have e : flat (p :: l) = .int .i64 p.1 :: .int .i64 p.2 :: flat l := by simp [flat]
    rw [e]
    simp only [List.length_cons, ih]
    omega
theorem flat_set (m : List Sp) (a b y : Int) : (flat (m ++ [(a, b)])).set (m.length * 2 + 1) (.int .i64 y) = flat (m ++ [(a, y)]) := by
  rw [flat_snoc, flat_snoc, List.set_append_right _ _ (by rw [flat_length]; omega), flat_length]
  rw [show m.length * 2 + 1 - m.length * 2 = 1 from by omega]
  rfl
theorem SpRel.set {W wr : World} {m : List Sp} {a b y : Int} {g c : Nat} (h : SpRel W (m ++ [(a, b)]) (.slice (some ⟨g, 0, none⟩) (m ++ [(a, b)]).length c) wr) : SpRel W (m ++ [(a, y)]) (.slice (some ⟨g, 0, none⟩) (m ++ [(a, b)]).length c) (wr.setCell ⟨g, m.length * 2 + 1, none⟩ (.int .i64 y)) := by
  have h1 := own_set h.1 (m.length * 2 + 1) (.int .i64 y)
  rw [flat_set] at h1
  obtain ⟨cur, _, _, _, _, _, h5⟩ := own_block h.1
  exact ⟨by simpa using h1, h.2.setCell (p := ⟨g, _, none⟩) h5 _⟩

/-- A cover comes back, in a list of its own. -/
def CovPost (S : Int → Prop) (K : Nat) (w : World) (e : Ending) (w' : World) : Prop :=
  ∃ A c m, e = .returned (.slice A m.length c) ∧ Spans w' A m ∧ CovOf m S ∧ m.length ≤ K ∧ Below w.heap.size w w' ∧ (m.length ≤ c ∧ (A = none → c = 0))
theorem take_snoc {s : List Sp} {k : Nat} {p : Sp} (h : s[k]? = some p) : s.take (k + 1) = s.take k ++ [p] := by rw [List.take_add_one, h]; rfl
theorem take_le {s : List Sp} (hs : ∀ (i j : Nat) (p q : Sp), i < j → s[i]? = some p → s[j]? = some q → p.1 ≤ q.1) {k : Nat} {a : Sp} (h : s[k]? = some a) : ∀ p ∈ s.take k, p.1 ≤ a.1 := fun p hp => by
  obtain ⟨i, hi⟩ := List.getElem?_of_mem hp
  rw [List.getElem?_take] at hi
  split at hi
  · exact hs i k p a (by omega) hi h
  · cases hi
/-- A cover comes back, and the call owns its list. -/
def MakePost (S : Int → Prop) (K : Nat) (w : World) (e : Ending) (w' : World) : Prop :=
  ∃ v m, e = .returned v ∧ SpRel w m v w' ∧ CovOf m S ∧ m.length ≤ K
theorem own_lower {w : World} {b b' e size n : Nat} {v : Value} {xs : List Value} (hb : b ≤ b') (h : w.ownsRow b' e size v n xs) : w.ownsRow b e size v n xs := by
  refine ⟨h.1, ?_⟩
  rcases h.2 with h2 | ⟨g, cap, cur, hv, hg, r⟩
  · exact .inl h2
  · exact .inr ⟨g, cap, cur, hv, by omega, r⟩
/-- What holds at the head of each round of Make. -/
def MkRel (W : World) (s m : List Sp) (k : Nat) (v : Value) (wr : World) : Prop := Made m (s.take k) ∧ SpRel W m v wr

set_option maxHeartbeats 4000000 in
theorem make_own (w : World) (A : Option Addr) (c : Nat) (l : List Sp) (hl : Spans w A l) (hn : l.length ≤ 1000000) :
    Calls Tryz.prog 47 #[.slice A l.length c] w (MakePost (Mem l) l.length w) := by
  obtain ⟨i0, hi, hz0, hz1, hz2⟩ := info_parts Tryz.infoSpan
  go_enter Tryz.func47, Tryz.ntmps47
  go_wp2_with (go_at_call 69; refine (rising_any _ _ _ _ hl hn).mono ?_; rintro e w1 ⟨A1, c1, s, rfl, hsp, hpm, hso, hb1⟩)
  have hsn : s.length ≤ l.length := by rw [hpm.length_eq]; exact List.length_filter_le _ _
  obtain ⟨n, hnm⟩ : ∃ n, n = s.length := ⟨_, rfl⟩
  rw [← hnm]
  have hn' : n ≤ 1000000 := by omega
  have HN := Lib.hid hnm
  have HSP := Lib.hid hsp
  have HPM := Lib.hid hpm
  have HSO := Lib.hid hso
  have HB1 := Lib.hid hb1
  have HSN := Lib.hid hsn
  clear hnm hsp hpm hso hb1 hsn hn hl
  go_wp2_with fail
  go_loopw [3, 10] (fun v i wr => ∃ k : Nat, k ≤ n ∧ i = .int .i64 k ∧ ∃ m, MkRel w1 s m k v wr) (fun _ i _ => n - (intOf i).toNat)
  case atStart => exact ⟨0, Nat.zero_le _, rfl, [], by simpa using Made.nil, SpRel.nil w1⟩
  case round =>
    obtain ⟨k, hk, rfl, m, hM, hR⟩ := hrel
    have HM := Lib.hid hM
    have HR := Lib.hid hR
    have hsz := hR.2.size
    have hle : m.length ≤ k := by have h1 := hM.len; have h2 := List.length_take_le k s; omega
    clear hM hR
    by_cases hlt : k < n
    · obtain ⟨⟨f, t⟩, hp⟩ : ∃ p, s[k]? = some p := ⟨_, List.getElem?_eq_getElem (by have := HN.out; omega)⟩
      obtain ⟨g, off, rfl, c0, c1⟩ := HSP.out.at hp
      have d0 := keepc HR.out.2 c0
      have d1 := keepc HR.out.2 c1
      have hr : rightB f t = true := by
        have := HPM.out.mem_iff.1 (List.mem_of_getElem? hp)
        simpa using (List.mem_filter.1 this).2
      have HP := Lib.hid hp
      have TL := Lib.hid (take_le HSO.out hp)
      clear c0 c1 hp
      have HY := Lib.hid (show Below wr.heap.size wr (wr.alloc (.cells #[.int .i64 f, .int .i64 t] 23)) from (bl _).alloc (Nat.le_refl _) _)
      rcases List.eq_nil_or_concat m with rfl | ⟨m', ⟨q1, q2⟩, hmq⟩
      · obtain ⟨A3, c3, rfl, _⟩ := own_spans HR.out.1
        have HS := Lib.hid (HR.out.step HY.out)
        have hown1 := HS.out.1
        simp only [List.length_nil] at hown1 ⊢
        go_wp2_with fail
        go_quiet (fail)
        have HQ := Lib.hid (SpRel.step HS.out (belowN (bl _) nq))
        have a0 : ((wr.alloc (.cells #[.int .i64 f, .int .i64 t] 23)).drewN nq).cell? ⟨wr.heap.size, 0, none⟩ = some (.int .i64 f) := by simp [go_sem]
        have a1 : ((wr.alloc (.cells #[.int .i64 f, .int .i64 t] 23)).drewN nq).cell? ⟨wr.heap.size, 1, none⟩ = some (.int .i64 t) := by simp [go_sem]
        obtain ⟨w2, hw2⟩ : ∃ W, (wr.alloc (.cells #[.int .i64 f, .int .i64 t] 23)).drewN nq = W := ⟨_, rfl⟩
        rw [hw2] at a0 a1 HQ ⊢
        clear hw2
        have hown2 := HQ.out.1
        have hsz2 := HQ.out.2.size
        simp only [List.length_nil] at hown2
        go_wp2_with (at_builtin; refine wpList_append_lies _ rfl (.tmp 41) (.tmp 43) 40 rfl w1.heap.size 23 i0 (.agg #[.int .i64 0, .int .i64 0]) 2 16 Tryz.underlying40 hi hz0 hz1 hz2 rfl (by decide) _ 0 (flat []) rfl (World.ownsRow.alloc hown2 _) ⟨w2.heap.size, 0, none⟩ 1 1 [.int .i64 f, .int .i64 t] rfl rfl (news_two w2 f t _) (by simp [Value.oneCell']) (by decide) (by unfold maxLen; omega) (by omega) (by simp; omega) _ rfl ?_; intro g3 cap3 w3 hown3 hg3 hat3 hlt3; have NX := Lib.hid (SpRel.app (l := []) HQ.out hg3 hown3))
        go_roundw
        case rel => exact ⟨k + 1, by omega, by go_num, [] ++ [(f, t)], by rw [take_snoc HP.out]; exact HM.out.adds hr (by simp), NX.out⟩
        case measure => simp [intOf]; omega
      · obtain rfl : m = m' ++ [(q1, q2)] := by rw [hmq]; simp
        clear hmq
        obtain ⟨g3, c3, rfl, hat, hg1, hg2⟩ := own_spansAt HR.out.1 (by simp)
        obtain ⟨x0, x1⟩ := hat m'.length (q1, q2) (by simp)
        have hfz := own_frozen HR.out.1 (m'.length * 2 + 1)
        simp only [List.length_append, List.length_cons, List.length_nil, Nat.zero_add] at hle HR ⊢ x0 x1
        have LEN : m'.length + 1 ≤ 1000000 := by omega
        obtain ⟨z, hz⟩ : ∃ z, m'.length = z := ⟨_, rfl⟩
        rw [hz] at x0 x1 hfz LEN HR ⊢
        clear hat
        have HS := Lib.hid (HR.out.step HY.out)
        have y1 : (wr.alloc (.cells #[.int .i64 f, .int .i64 t] 23)).cell? ⟨g3, z * 2 + 1, none⟩ = some (.int .i64 q2) := keepc HY.out x1
        have b0 : (wr.alloc (.cells #[.int .i64 f, .int .i64 t] 23)).cell? ⟨wr.heap.size, 0, none⟩ = some (.int .i64 f) := by simp [go_sem]
        have b1 : (wr.alloc (.cells #[.int .i64 f, .int .i64 t] 23)).cell? ⟨wr.heap.size, 1, none⟩ = some (.int .i64 t) := by simp [go_sem]
        have yf : (wr.alloc (.cells #[.int .i64 f, .int .i64 t] 23)).frozen? ⟨g3, z * 2 + 1, none⟩ = false := (HY.out.frozen (p := ⟨g3, z * 2 + 1, none⟩) hg2).trans hfz
        have HZ := Lib.hid hz
        clear hz x0 x1 hfz
        by_cases hjoin : f ≤ q2
        · go_wp2_with fail
          go_quiet (fail)
          have HQ := Lib.hid (SpRel.step HS.out (belowN (bl _) nq))
          obtain ⟨w2, hw2⟩ : ∃ W, (wr.alloc (.cells #[.int .i64 f, .int .i64 t] 23)).drewN nq = W := ⟨_, rfl⟩
          have a0 : w2.cell? ⟨wr.heap.size, 0, none⟩ = some (.int .i64 f) := by rw [← hw2]; exact b0
          have a1 : w2.cell? ⟨wr.heap.size, 1, none⟩ = some (.int .i64 t) := by rw [← hw2]; exact b1
          have v1 : w2.cell? ⟨g3, z * 2 + 1, none⟩ = some (.int .i64 q2) := by rw [← hw2]; exact y1
          have vf : w2.frozen? ⟨g3, z * 2 + 1, none⟩ = false := by rw [← hw2]; exact yf
          rw [hw2] at HQ ⊢
          clear hw2 b0 b1 y1 yf
          go_wp2_with fail
          go_region
          all_goals
            have NX := Lib.hid (SpRel.step (SpRel.set (y := max q2 t) (by rw [List.length_append, HZ.out]; exact HQ.out)) ((bl _).drew))
            rw [HZ.out] at NX
            go_wp2_with fail
            go_roundw
            case rel => exact ⟨k + 1, by omega, by go_num, m' ++ [(q1, max q2 t)], by rw [take_snoc HP.out]; exact HM.out.joins (a := (f, t)) hr TL.out hjoin, by have h := NX.out; simp only [List.length_append, List.length_cons, List.length_nil, Nat.zero_add, HZ.out] at h; exact h⟩
            case measure => simp [intOf]; omega
        · have hj2 : q2 < f := by omega
          have hj3 : decide (f ≤ q2) = false := by simpa using hjoin
          have HJ := Lib.hid hj2
          go_wp2_with fail
          go_quiet (fail)
          clear hjoin hj2 hj3
          have HQ := Lib.hid (SpRel.step HS.out (belowN (bl _) nq))
          obtain ⟨w2, hw2⟩ : ∃ W, (wr.alloc (.cells #[.int .i64 f, .int .i64 t] 23)).drewN nq = W := ⟨_, rfl⟩
          have a0 : w2.cell? ⟨wr.heap.size, 0, none⟩ = some (.int .i64 f) := by rw [← hw2]; exact b0
          have a1 : w2.cell? ⟨wr.heap.size, 1, none⟩ = some (.int .i64 t) := by rw [← hw2]; exact b1
          rw [hw2] at HQ ⊢
          clear hw2 b0 b1 y1 yf
          have hown2 := HQ.out.1
          have hsz2 := HQ.out.2.size
          simp only [List.length_append, List.length_cons, List.length_nil, Nat.zero_add, HZ.out] at hown2
          clear HS HY TL
          go_wp2_with (at_builtin; refine wpList_append_lies _ rfl (.tmp 41) (.tmp 43) 40 rfl w1.heap.size 23 i0 (.agg #[.int .i64 0, .int .i64 0]) 2 16 Tryz.underlying40 hi hz0 hz1 hz2 rfl (by decide) _ (z + 1) (flat (m' ++ [(q1, q2)])) rfl (World.ownsRow.alloc hown2 _) ⟨w2.heap.size, 0, none⟩ 1 1 [.int .i64 f, .int .i64 t] rfl rfl (news_two w2 f t _) (by simp [Value.oneCell']) (by decide) (by unfold maxLen; omega) (by omega) (by simp; omega) _ rfl ?_; intro g4 cap3 w3 hown3 hg3 hat3 hlt3; have NX := Lib.hid (SpRel.app (l := m' ++ [(q1, q2)]) HQ.out hg3 (by simpa [HZ.out] using hown3)); clear hown3)
          go_roundw
          case rel => exact ⟨k + 1, by omega, by go_num, m' ++ [(q1, q2)] ++ [(f, t)], by rw [take_snoc HP.out]; exact HM.out.adds hr (HM.out.cov.ends HJ.out), NX.out⟩
          case measure => simp [intOf]; omega
    · go_wp2_with fail
      go_ret
      have hM := HM.out
      rw [List.take_of_length_le (by have := HN.out; omega)] at hM
      exact ⟨_, m, rfl, ⟨own_lower HB1.out.size HR.out.1, chain HB1.out HR.out.2⟩, ⟨hM.cov, fun x => by rw [hM.mem x, mem_perm HPM.out, mem_filter]⟩, by have h1 := hM.len; have h2 := HSN.out; omega⟩

theorem make_any (w : World) (A : Option Addr) (c : Nat) (l : List Sp) (hl : Spans w A l) (hn : l.length ≤ 1000000) :
    Calls Tryz.prog 47 #[.slice A l.length c] w (CovPost (Mem l) l.length w) := by
  refine (make_own w A c l hl hn).mono ?_
  rintro e w1 ⟨v, m, rfl, hR, hc, hm⟩
  obtain ⟨A3, c3, rfl, hsp3, hcc⟩ := own_spans2 hR.1
  exact ⟨A3, c3, m, rfl, hsp3, hc, hm, hR.2, hcc⟩

end Go.Proofs.YtaoobliajgcdmaaGreat.Co
