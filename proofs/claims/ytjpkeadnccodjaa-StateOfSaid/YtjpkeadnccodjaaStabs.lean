/-
  slices.SortStableFunc's swapRangeCmpFunc and rotateCmpFunc, over any program that bears their bodies: two ranges exchanged; two neighbours exchanged.
-/
import Derived.Test.YtjpkeadnccodjaaStabq
import Derived.Test.YtjpkeadnccodjaaProg
import Derived.Shelf.SlSortCmp.KitK
import Derived.Sort.WalkB2
import Derived.Sort.WalkB12
import Derived.Deep.LoopGhost
namespace Go.Proofs.Ytjpkeadnccodjaa
open Go.RowKit Go.Lib Go.Sort Go.Shelf

/-- What the stable sort's bodies want of a program: its numbers are this dump's, the element has k cells. -/
structure StabL (P : Program) (k : Nat) : Prop where
  mixed : P.follows .mixedOrders = true
  fSwap : P.funcs[74]? = some Try.f74
  fRot : P.funcs[67]? = some Try.f67
  fSym : P.funcs[55]? = some Try.f55
  t3 : P.underlying 3 = some (TypeDesc.int IntKind.i64)
  a3 : ∀ w, (isAgg 3).run P w = .ok false w
  z3 : ∀ w, (Go.sizeOf 3).run P w = .ok 1 w
  v3 : ∀ w, (zeroValue 3).run P w = .ok (Value.int IntKind.i64 0) w
  t4 : P.underlying 4 = some (TypeDesc.bool)
  a4 : ∀ w, (isAgg 4).run P w = .ok false w
  z4 : ∀ w, (Go.sizeOf 4).run P w = .ok 1 w
  v4 : ∀ w, (zeroValue 4).run P w = .ok (Value.bool false) w
  tU : P.underlying 75 = some (TypeDesc.int IntKind.u64)
  aU : ∀ w, (isAgg 75).run P w = .ok false w
  zU : ∀ w, (Go.sizeOf 75).run P w = .ok 1 w
  tS : P.underlying 22 = some (TypeDesc.slice 45)
  aS : ∀ w, (isAgg 22).run P w = .ok false w
  zS : ∀ w, (Go.sizeOf 22).run P w = .ok 1 w
  vS : ∀ w, (zeroValue 22).run P w = .ok (Value.slice none 0 0) w
  aE : ∀ w, (isAgg 45).run P w = .ok true w
  zE : ∀ w, (Go.sizeOf 45).run P w = .ok k w

variable {P : Program} {k : Nat} {α : Type} [Inhabited α]
/-- A thing's cells: its place is not laid. -/
def encT (enc : α → List Value) (x : α × Nat) : List Value := enc x.1

set_option maxHeartbeats 4000000 in
set_option maxRecDepth 1000000 in
theorem swapRange_w (L : StabL P k) (enc : α → List Value) (g : Nat) (cb : Array Value) (blk off cap : Nat) (d0 : Array (α × Nat)) (w0 w : World) (R : RowK (encT enc) k w0 blk off d0) (hsz : d0.size < 4611686018427387904)
    (Q X M Y S : List (α × Nat)) (n : Nat) (hx : X.length = n) (hy : Y.length = n) (hs : Q.length + n + M.length + n + S.length = d0.size) (S0 : SWK (encT enc) k w0 blk off (Q ++ X ++ M ++ Y ++ S).toArray w) :
    Calls P 74 #[.slice (some ⟨blk, off, none⟩) d0.size cap, .int .i64 (Q.length : Int), .int .i64 ((Q.length + n + M.length : Nat) : Int), .int .i64 (n : Int), .func (.func g) #[] cb] w fun e w' =>
      e = .returned (.tuple #[]) ∧ SWK (encT enc) k w0 blk off (Q ++ Y ++ M ++ X ++ S).toArray w' := by
  have mixed := L.mixed; have t3 := L.t3; have a3 := L.a3; have z3 := L.z3; have v3 := L.v3; have t4 := L.t4; have a4 := L.a4; have z4 := L.z4; have v4 := L.v4; have tS := L.tS; have aS := L.aS; have zS := L.zS; have vS := L.vS; have aE := L.aE; have zE := L.zE
  have S1 : Aside (SWK (encT enc) k w0 blk off (mix Q X M Y S 0).toArray w) := by rw [mix_zero]; exact S0
  have HL : Hid (∀ i, i ≤ n → (mix Q X M Y S i).toArray.size = d0.size) := fun i hi => by rw [List.size_toArray, mix_length Q X M Y S hx hy hi]; exact hs
  have HN : Hid (∀ i, i < n → swp (mix Q X M Y S i).toArray (Q.length + i) (Q.length + n + M.length + i) = (mix Q X M Y S (i + 1)).toArray) := fun i hi => mix_next Q X M Y S hx hy hi
  have HE : Hid (mix Q X M Y S n = Q ++ Y ++ M ++ X ++ S) := mix_all Q X M Y S hx hy
  rw [← HE.out]
  obtain ⟨a, ha⟩ : ∃ a, a = Q.length := ⟨_, rfl⟩
  obtain ⟨b, hb⟩ : ∃ b, b = Q.length + n + M.length := ⟨_, rfl⟩
  rw [← hb, ← ha] at HN ⊢
  have hab : a + n ≤ b := by omega
  have hbn : b + n ≤ d0.size := by omega
  clear hx hy hs S0 HE ha hb
  generalize mix Q X M Y S = mx at *
  have HSZ : Hid (d0.size < 4611686018427387904) := hsz
  go_enter L.fSwap, Try.ntmps74
  go_wp2
  go_loopw [10] (fun v wr => ∃ i : Nat, v = .int .i64 i ∧ i ≤ n ∧ Aside (SWK (encT enc) k w0 blk off (mx i).toArray wr)) (fun v _ => n - (intOf v).toNat)
  case atStart => exact ⟨0, rfl, Nat.zero_le _, S1⟩
  case round =>
    clear S1
    obtain ⟨i, rfl, hi, S2⟩ := hrel
    by_cases hlt : i < n
    · have hltz : (i : Int) < (n : Int) := by omega
      have HD := HL.out i hi
      have NX := HN.out i hlt
      generalize (mx i).toArray = dk at *
      go_wp2_with fail
      have ea : ((a : Int) + (i : Int)).toNat = a + i := by omega
      have pa : (0 : Int) ≤ (a : Int) + (i : Int) := by omega
      have ba : (a : Int) + (i : Int) < (d0.size : Int) := by omega
      have ra : IntKind.i64.wrap ((a : Int) + (i : Int)) = (a : Int) + (i : Int) := by rw [IntKind.wrap_i64]; omega
      have ec : ((b : Int) + (i : Int)).toNat = b + i := by omega
      have pc : (0 : Int) ≤ (b : Int) + (i : Int) := by omega
      have bc : (b : Int) + (i : Int) < (d0.size : Int) := by omega
      have rc : IntKind.i64.wrap ((b : Int) + (i : Int)) = (b : Int) + (i : Int) := by rw [IntKind.wrap_i64]; omega
      have S3 : Aside (SWK (encT enc) k w0 blk off (swp dk (a + i) (b + i)) ((wr.drew.setCells blk (off + (a + i) * k) (encT enc dk[b + i]!)).setCells blk (off + (b + i) * k) (encT enc dk[a + i]!))) := S2.out.swapped R (a + i) (b + i) (by omega) (by omega)
      have la := S2.out.ld1 R (by omega) P (a + i) (by omega)
      have lb := S2.out.ld1 R (by omega) P (b + i) (by omega)
      have sa := S2.out.st1 R (by omega) P (a + i) (by omega) dk[b + i]!
      have sb := S2.out.st2 R (by omega) P (a + i) (b + i) (by omega) (by omega) dk[b + i]! dk[a + i]!
      have na : (encT enc dk[a + i]!).length = k := R.hk _
      have nb : (encT enc dk[b + i]!).length = k := R.hk _
      generalize encT enc dk[a + i]! = cI at S3 la sb na
      generalize encT enc dk[b + i]! = cJ at S3 lb sa sb nb
      clear S2
      have NXH : Hid (swp dk (a + i) (b + i) = (mx (i + 1)).toArray) := NX
      clear NX
      go_big_region_o
      clear la lb sa sb
      generalize (wr.drew.setCells blk (off + (a + i) * k) cJ).setCells blk (off + (b + i) * k) cI = w2 at S3 ⊢
      go_wp2
      exact ⟨⟨i + 1, by go_num, by omega, by rw [← NXH.out]; exact S3⟩, by simp [intOf] <;> omega⟩
    · obtain rfl : i = n := by omega
      have hltz : ¬ (i : Int) < (i : Int) := by omega
      go_wp2
      go_end0
      exact ⟨rfl, S2.out⟩
set_option maxHeartbeats 4000000 in
set_option maxRecDepth 1000000 in
theorem rotate_w (L : StabL P k) (enc : α → List Value) (g : Nat) (cb : Array Value) (blk off cap : Nat) (d0 : Array (α × Nat)) (w0 w : World) (R : RowK (encT enc) k w0 blk off d0) (hsz : d0.size < 4611686018427387904)
    (Q A B S : List (α × Nat)) (hA : A ≠ []) (hB : B ≠ []) (hs : Q.length + A.length + B.length + S.length = d0.size) (S0 : SWK (encT enc) k w0 blk off (Q ++ A ++ B ++ S).toArray w) :
    Calls P 67 #[.slice (some ⟨blk, off, none⟩) d0.size cap, .int .i64 (Q.length : Int), .int .i64 ((Q.length + A.length : Nat) : Int), .int .i64 ((Q.length + A.length + B.length : Nat) : Int), .func (.func g) #[] cb] w fun e w' =>
      e = .returned (.tuple #[]) ∧ SWK (encT enc) k w0 blk off (Q ++ B ++ A ++ S).toArray w' := by
  have mixed := L.mixed; have t3 := L.t3; have a3 := L.a3; have z3 := L.z3; have v3 := L.v3; have t4 := L.t4; have a4 := L.a4; have z4 := L.z4; have v4 := L.v4; have tS := L.tS; have aS := L.aS; have zS := L.zS; have vS := L.vS; have aE := L.aE; have zE := L.zE
  have eSw : ∀ args w, (callFunc 74 args).run P w = .ok (.enter 74 args) w := enters_of L.fSwap (by kernel_rfl) rfl
  have S1 : Aside (SWK (encT enc) k w0 blk off (Q ++ A ++ B ++ S).toArray w) := S0
  obtain ⟨T, hT⟩ : ∃ T, T = Q ++ B ++ A ++ S := ⟨_, rfl⟩
  rw [← hT]
  have HT : Hid (T = Q ++ B ++ A ++ S) := hT
  obtain ⟨m, hm⟩ : ∃ m, m = Q.length + A.length := ⟨_, rfl⟩
  obtain ⟨a, ha⟩ : ∃ a, a = Q.length := ⟨_, rfl⟩
  obtain ⟨b, hb⟩ : ∃ b, b = Q.length + A.length + B.length := ⟨_, rfl⟩
  rw [← hb, ← hm, ← ha]
  have hal := List.length_pos_iff.2 hA
  have hbl := List.length_pos_iff.2 hB
  obtain ⟨ni, hni⟩ : ∃ ni, ni = A.length := ⟨_, rfl⟩
  obtain ⟨nj, hnj⟩ : ∃ nj, nj = B.length := ⟨_, rfl⟩
  have hma : m = a + ni := by omega
  have hbm : b = m + nj := by omega
  have hi0 : 0 < ni := by omega
  have hj0 : 0 < nj := by omega
  have hbz : b ≤ d0.size := by omega
  have hnjz : nj < 4611686018427387904 := by omega
  have hniz : ni < 4611686018427387904 := by omega
  have HA : Hid (ni = A.length ∧ nj = B.length ∧ Q.length + A.length = m ∧ Q.length + A.length + B.length + S.length = d0.size) := ⟨hni, hnj, by omega, hs⟩
  have ez1 : IntKind.i64.wrap ((m : Int) - (a : Int)) = (ni : Int) := by rw [IntKind.wrap_i64]; omega
  have ez2 : IntKind.i64.wrap ((b : Int) - (m : Int)) = (nj : Int) := by rw [IntKind.wrap_i64]; omega
  have em1 : (m : Int) - (a : Int) = (ni : Int) := by omega
  have em2 : (b : Int) - (m : Int) = (nj : Int) := by omega
  have HSZ : Hid (d0.size < 4611686018427387904 ∧ b ≤ d0.size ∧ m ≤ b) := ⟨hsz, hbz, by omega⟩
  clear hT hm ha hb hal hbl hni hnj hs S0 hA hB hma hbm hsz hbz
  go_enter L.fRot, Try.ntmps67
  go_wp2
  go_loopw [10, 11] (fun u v wr => ∃ (i j : Nat) (Q' A' B' S' : List (α × Nat)), u = .int .i64 i ∧ v = .int .i64 j ∧ 0 < i ∧ 0 < j ∧ Hid (i = A'.length ∧ j = B'.length ∧ Q'.length + A'.length = m ∧ Q'.length + A'.length + B'.length + S'.length = d0.size ∧ T = Q' ++ B' ++ A' ++ S') ∧ Aside (SWK (encT enc) k w0 blk off (Q' ++ A' ++ B' ++ S').toArray wr)) (fun u v _ => (intOf u).toNat + (intOf v).toNat)
  case atStart => exact ⟨ni, nj, Q, A, B, S, by first | rfl | go_num, by first | rfl | go_num, hi0, hj0, ⟨HA.out.1, HA.out.2.1, HA.out.2.2.1, HA.out.2.2.2, HT.out⟩, S1⟩
  case round =>
    clear S1 ez1 ez2 em1 em2
    obtain ⟨i, j, Q', A', B', S', rfl, rfl, hi, hj, HH, S2⟩ := hrel
    obtain ⟨h1, h2, h3, h4, h5⟩ := HH.out
    obtain ⟨z1, z2, z3⟩ := HSZ.out
    have w1 : IntKind.i64.wrap ((m : Int) - (i : Int)) = (m : Int) - (i : Int) := by rw [IntKind.wrap_i64]; omega
    by_cases hij : i = j
    · subst hij
      have hijz : ((i : Int) != (i : Int)) = false := by rw [bne_eq_false_iff_eq]
      have CS : Hid (Calls P 74 #[.slice (some ⟨blk, off, none⟩) d0.size cap, .int .i64 ((m : Int) - (i : Int)), .int .i64 (m : Int), .int .i64 (i : Int), .func (.func g) #[] cb] wr fun e w' => e = .returned (.tuple #[]) ∧ SWK (encT enc) k w0 blk off T.toArray w') := by
        have := swapRange_w L enc g cb blk off cap d0 w0 wr R z1 Q' A' [] B' S' i (by omega) (by omega) (by simp; omega) (by simpa using S2.out)
        rw [show ((Q'.length : Nat) : Int) = (m : Int) - (i : Int) by omega, show Q'.length + i + ([] : List (α × Nat)).length = m by simp; omega, List.append_nil, ← h5] at this
        exact this
      clear h1 h2 h3 h4 h5 z1 z2 z3 HH S2
      go_wp2_with (go_at_fn 74; refine CS.out.mono ?_; rintro e w2 ⟨rfl, S3⟩)
      go_end0
      exact ⟨rfl, S3⟩
    · have hijz : ((i : Int) != (j : Int)) = true := by rw [bne_iff_ne]; omega
      have hije : ¬ (i : Int) = (j : Int) := by omega
      by_cases hgt : j < i
      · have hgtz : (j : Int) < (i : Int) := by omega
        have CS : Hid (Calls P 74 #[.slice (some ⟨blk, off, none⟩) d0.size cap, .int .i64 ((m : Int) - (i : Int)), .int .i64 (m : Int), .int .i64 (j : Int), .func (.func g) #[] cb] wr fun e w' => e = .returned (.tuple #[]) ∧ SWK (encT enc) k w0 blk off (Q' ++ B' ++ A'.drop j ++ A'.take j ++ S').toArray w') := by
          have := swapRange_w L enc g cb blk off cap d0 w0 wr R z1 Q' (A'.take j) (A'.drop j) B' S' j (by rw [List.length_take]; omega) (by omega) (by rw [List.length_drop]; omega) (by rw [List.append_assoc Q', List.take_append_drop]; exact S2.out)
          rw [show ((Q'.length : Nat) : Int) = (m : Int) - (i : Int) by omega, show Q'.length + j + (A'.drop j).length = m by rw [List.length_drop]; omega] at this
          exact this
        have NX : Hid (i - j = (A'.drop j).length ∧ j = (A'.take j).length ∧ (Q' ++ B').length + (A'.drop j).length = m ∧ (Q' ++ B').length + (A'.drop j).length + (A'.take j).length + S'.length = d0.size ∧ T = (Q' ++ B') ++ A'.take j ++ A'.drop j ++ S') := by
          refine ⟨by rw [List.length_drop]; omega, by rw [List.length_take]; omega, by rw [List.length_append, List.length_drop]; omega, by rw [List.length_append, List.length_drop, List.length_take]; omega, ?_⟩
          rw [List.append_assoc (Q' ++ B'), List.take_append_drop]
          exact h5
        have w2 : IntKind.i64.wrap ((i : Int) - (j : Int)) = (i : Int) - (j : Int) := by rw [IntKind.wrap_i64]; omega
        clear h1 h2 h3 h4 h5 z1 z2 z3 HH S2 hij
        go_wp2_with (go_at_fn 74; refine CS.out.mono ?_; rintro e w2 ⟨rfl, S3⟩)
        exact ⟨⟨i - j, j, _, _, _, _, by congr 1; omega, rfl, by omega, hj, NX.out, S3⟩, by simp [intOf] <;> omega⟩
      · have hgtz : ¬ (j : Int) < (i : Int) := by omega
        have CS : Hid (Calls P 74 #[.slice (some ⟨blk, off, none⟩) d0.size cap, .int .i64 ((m : Int) - (i : Int)), .int .i64 ((m : Int) + (j : Int) - (i : Int)), .int .i64 (i : Int), .func (.func g) #[] cb] wr fun e w' => e = .returned (.tuple #[]) ∧ SWK (encT enc) k w0 blk off (Q' ++ B'.drop (j - i) ++ B'.take (j - i) ++ (A' ++ S')).toArray w') := by
          have := swapRange_w L enc g cb blk off cap d0 w0 wr R z1 Q' A' (B'.take (j - i)) (B'.drop (j - i)) S' i (by omega) (by rw [List.length_drop]; omega) (by rw [List.length_take]; omega) (by rw [List.append_assoc (Q' ++ A'), List.take_append_drop]; exact S2.out)
          rw [show ((Q'.length : Nat) : Int) = (m : Int) - (i : Int) by omega, show ((Q'.length + i + (B'.take (j - i)).length : Nat) : Int) = (m : Int) + (j : Int) - (i : Int) by rw [List.length_take]; omega, List.append_assoc _ A' S'] at this
          exact this
        have NX : Hid (i = (B'.drop (j - i)).length ∧ j - i = (B'.take (j - i)).length ∧ Q'.length + (B'.drop (j - i)).length = m ∧ Q'.length + (B'.drop (j - i)).length + (B'.take (j - i)).length + (A' ++ S').length = d0.size ∧ T = Q' ++ B'.take (j - i) ++ B'.drop (j - i) ++ (A' ++ S')) := by
          refine ⟨by rw [List.length_drop]; omega, by rw [List.length_take]; omega, by rw [List.length_drop]; omega, by rw [List.length_append, List.length_drop, List.length_take]; omega, ?_⟩
          rw [List.append_assoc Q', List.take_append_drop, ← List.append_assoc]
          exact h5
        have w2 : IntKind.i64.wrap ((j : Int) - (i : Int)) = (j : Int) - (i : Int) := by rw [IntKind.wrap_i64]; omega
        have w3 : IntKind.i64.wrap ((m : Int) + (j : Int)) = (m : Int) + (j : Int) := by rw [IntKind.wrap_i64]; omega
        have w4 : IntKind.i64.wrap ((m : Int) + (j : Int) - (i : Int)) = (m : Int) + (j : Int) - (i : Int) := by rw [IntKind.wrap_i64]; omega
        clear h1 h2 h3 h4 h5 z1 z2 z3 HH S2 hij
        go_wp2_with (go_at_fn 74; refine CS.out.mono ?_; rintro e w2 ⟨rfl, S3⟩)
        exact ⟨⟨i, j - i, _, _, _, _, rfl, by congr 1; omega, hi, by omega, NX.out, S3⟩, by simp [intOf] <;> omega⟩

end Go.Proofs.Ytjpkeadnccodjaa
