/-
  The document's Setter and Changed; texts compared; few versions.
-/
import Derived.Test.YtjpkeadnccodjaaVat
namespace Go.Proofs.Ytjpkeadnccodjaa
open Go.RowKit

theorem lastS_take {l : List Vr} {j : Nat} {v : Vr} (h : l[j]? = some v) (s : ByteArray) : lastS (l.take (j + 1)) s = if setsB v s then some v.st else lastS (l.take j) s := by
  rw [List.take_add_one, h, Option.toList_some, lastS_snoc]

set_option maxHeartbeats 4000000 in
set_option maxRecDepth 10000 in
theorem dsetter_any (w : World) (s : ByteArray) (u : Value) (l : List Vr) (hl : VersL w u l) (hf : fewV l) :
    Ret 17 #[.string s, u] w (.tuple #[.int .i64 ((setL s l).getD 0), .bool (setL s l).isSome]) := by
  have CO := Lib.hid (dorder_any w u l hl (by have := hf.1; omega))
  have HF := Lib.hid hf
  obtain ⟨O, hO⟩ : ∃ O, ordL l = O := ⟨_, rfl⟩
  have HSET : setL s l = lastS O s := by unfold setL; rw [hO]
  rw [hO] at CO
  have hOn : O.length ≤ 200 := by rw [← hO, ordL_length]; exact hf.1
  have HFS := Lib.hid (show ∀ v ∈ O, v.fs.length ≤ 100 from fun v hv => hf.2 v ((ordL_perm l).mem_iff.1 (by rw [hO]; exact hv)))
  rw [HSET]
  obtain ⟨T, hT⟩ : ∃ T, lastS O s = T := ⟨_, rfl⟩
  rw [hT]
  have HT := Lib.hid hT
  clear hl hO hf HSET hT
  obtain ⟨n, hnm⟩ : ∃ n, O.length = n := ⟨_, rfl⟩
  rw [hnm] at hOn
  have HN := Lib.hid hnm
  go_enter Try.func17, Try.ntmps17
  go_wp2_with (go_at_call 12; (with_reducible refine CO.out.mono ?_); rintro e w1 ⟨x1, rfl, ⟨⟨A1, c1, rfl, hr1, hc1, hn1⟩, hvf1⟩, hb1⟩; have HR1 := Lib.hid hr1; have HV1 := Lib.hid hvf1; have HB1 := Lib.hid hb1; rw [hnm]; clear hr1 hc1 hn1 hvf1 hb1 hnm)
  go_loopw [6] (fun i wr => ∃ k : Nat, k ≤ n ∧ i = .int .i64 ((k : Int) - 1) ∧ T = lastS (O.take k) s ∧ wr = w1) (fun i _ => (intOf i + 1).toNat)
  case atStart => exact ⟨n, Nat.le_refl _, by go_num, by rw [List.take_of_length_le (by have := HN.out; omega)]; exact HT.out.symm, rfl⟩
  case round =>
    obtain ⟨k, hk, rfl, hTT, hwr⟩ := hrel
    obtain rfl := hwr.symm
    by_cases hk0 : k = 0
    · subst hk0
      have HE := Lib.hid (show T = none by rw [hTT]; rfl)
      clear hTT
      go_wp2_with fail
      go_ret2
      exact ⟨by rw [HE.out]; rfl, HB1.out⟩
    · obtain ⟨j, hj⟩ : ∃ j, k = j + 1 := ⟨k - 1, by omega⟩
      have hjn : j < n := by omega
      have hjI : (j : Int) < (n : Int) := by omega
      have ej : (k : Int) - 1 = (j : Int) := by omega
      obtain ⟨v, hx⟩ : ∃ v, O[j]? = some v := ⟨_, List.getElem?_eq_getElem (by have := HN.out; omega)⟩
      obtain ⟨g, off, rfl, hX⟩ := HR1.out.cells7 hx
      have hv := HV1.out v (List.mem_of_getElem? hx)
      have CG := Lib.hid (dget_any w1 v.fa v.fc v.fs s hv.1 (by have := HFS.out v (List.mem_of_getElem? hx); omega))
      obtain ⟨z0, z1, z2, z3, z4, z5, z6⟩ := hX
      rw [hj, lastS_take hx] at hTT
      rw [ej]
      have w1' : IntKind.i64.wrap ((j : Int) - 1) = (j : Int) - 1 := by rw [IntKind.wrap_i64]; omega
      have hj0 : (0 : Int) ≤ (j : Int) := by omega
      cases hs : (getL v.fs s).isSome with
      | false =>
        have NX := Lib.hid (show T = lastS (O.take j) s by rw [hTT, if_neg (by unfold setsB; rw [hs]; simp)])
        rw [hs] at CG
        clear hs hTT hv hx ej hj
        generalize (getL v.fs s).getD 0 = q at *
        go_wp2_with (go_at_call 23; (with_reducible refine CG.out.mono ?_); rintro e w2 ⟨rfl, rfl⟩)
        exact ⟨⟨j, by omega, by go_num, NX.out, trivial⟩, by simp [intOf] <;> omega⟩
      | true =>
        rw [hs] at CG
        cases hg : v.gone with
        | true =>
          have NX := Lib.hid (show T = lastS (O.take j) s by rw [hTT, if_neg (by unfold setsB; rw [hs, hg]; simp)])
          rw [hg] at z6
          clear hs hTT hv hx ej hj hg
          generalize (getL v.fs s).getD 0 = q at *
          go_wp2_with (go_at_call 23; (with_reducible refine CG.out.mono ?_); rintro e w2 ⟨rfl, rfl⟩)
          exact ⟨⟨j, by omega, by go_num, NX.out, trivial⟩, by simp [intOf] <;> omega⟩
        | false =>
          have NX := Lib.hid (show T = some v.st by rw [hTT, if_pos (by unfold setsB; rw [hs, hg]; simp)])
          rw [hg] at z6
          clear hs hTT hv hx ej hj hg
          generalize (getL v.fs s).getD 0 = q at *
          go_wp2_with (go_at_call 23; (with_reducible refine CG.out.mono ?_); rintro e w2 ⟨rfl, rfl⟩)
          go_ret2
          exact ⟨by rw [NX.out]; rfl, HB1.out⟩

end Go.Proofs.Ytjpkeadnccodjaa
