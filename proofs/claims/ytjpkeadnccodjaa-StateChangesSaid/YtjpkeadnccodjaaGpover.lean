/-
  The program's Over: the last value of each name in a map, its entries put in order by names.
-/
import Derived.Test.YtjpkeadnccodjaaGpmap
namespace Go.Proofs.Ytjpkeadnccodjaa
open Go.RowKit

set_option maxHeartbeats 4000000 in
set_option maxRecDepth 100000 in
theorem pover_any (w : World) (A : Option Addr) (c : Nat) (L : List (List Fd)) (hL : RowsF w A L) (hT : L.flatten.length ≤ 20000) (hn : L.length ≤ 200) (hok : ∀ l ∈ L, okF l) :
    Calls Try.prog 37 #[.slice A L.length c] w fun e w' => ∃ v, e = .returned v ∧ ListF w' v (overL L.flatten) ∧ Below w.heap.size w w' := by
  have hmm := @run_makeMap Try.prog
  obtain ⟨all, hall⟩ : ∃ all, L.flatten = all := ⟨_, rfl⟩
  rw [hall] at hT ⊢
  have HALL := Lib.hid hall
  have HL := Lib.hid hL
  have HT := Lib.hid hT
  have HOK := Lib.hid hok
  obtain ⟨n, hnm⟩ : ∃ n, L.length = n := ⟨_, rfl⟩
  rw [hnm] at hn ⊢
  have HN := Lib.hid hnm
  clear hL hT hnm hok hall
  go_enter Try.func37, Try.ntmps37
  go_wp2_with fail
  go_loopw [14] (fun i wr => ∃ (k : Nat) (D : DataW Unit), k ≤ n ∧ i = .int .i64 k ∧ OM w (L.take k).flatten D wr) (fun i _ => n - (intOf i).toNat)
  case atStart => exact ⟨0, _, Nat.zero_le _, rfl, OM.nil w⟩
  case round =>
    obtain ⟨k, D0, hk, rfl, hM0⟩ := hrel
    have HM0 := Lib.hid hM0
    clear hM0
    by_cases hlt : k < n
    · have hlt' : (k : Int) < (n : Int) := by omega
      obtain ⟨row, hrow⟩ : ∃ row, L[k]? = some row := ⟨_, List.getElem?_eq_getElem (by have := HN.out; omega)⟩
      obtain ⟨g, off, v, rfl, cv, B, d, rfl, hF, hcd, hnd⟩ := HL.out k row hrow
      have cv1 := keepc HM0.out.bel cv
      have HF := Lib.hid hF
      have HROW := Lib.hid hrow
      have HOKR := Lib.hid (HOK.out row (List.mem_of_getElem? hrow))
      obtain ⟨m, hm⟩ : ∃ m, row.length = m := ⟨_, rfl⟩
      have hm63 : m ≤ 20000 := by
        have := flat_pre hrow m
        rw [List.length_append, ← hm, List.take_length, HALL.out] at this
        have := HT.out
        omega
      have HM := Lib.hid hm
      rw [hm] at cv1
      clear cv hF hrow hm hcd hnd
      go_wp2_with fail
      go_loopw [20] (fun j wr' => ∃ (t : Nat) (D : DataW Unit), t ≤ m ∧ j = .int .i64 t ∧ OM w ((L.take k).flatten ++ row.take t) D wr') (fun j _ => m - (intOf j).toNat)
      case atStart => exact ⟨0, _, Nat.zero_le _, rfl, by rw [List.take_zero, List.append_nil]; exact HM0.out⟩
      case round =>
        obtain ⟨t, D, ht, rfl, hM⟩ := hrel
        have HMD := Lib.hid hM
        clear hM
        by_cases hlt2 : t < m
        · have hlt2' : (t : Int) < (m : Int) := by omega
          obtain ⟨f, hf⟩ : ∃ f, row[t]? = some f := ⟨_, List.getElem?_eq_getElem (by have := HM.out; omega)⟩
          obtain ⟨g2, off2, rfl, c0, c1⟩ := (HF.out.below HMD.out.bel) t f hf
          have HX := Lib.hid (show (L.take k).flatten ++ row.take t ++ [f] = (L.take k).flatten ++ row.take (t + 1) by
            rw [List.take_add_one, hf, Option.toList_some, List.append_assoc])
          have HLEN := Lib.hid (show ((L.take k).flatten ++ row.take t).length < maxLen by
            have h2 := flat_pre HROW.out t
            rw [HALL.out] at h2
            have := HT.out
            unfold maxLen
            omega)
          have HKEY := Lib.hid (WideMaps.keyOf_string_mk Try.underlying9 (s := f.n) (by have := HOKR.out f (List.mem_of_getElem? hf); unfold maxLen; omega))
          clear hf
          go_wp2_with (first
            | (at_mapUpdate; refine wpList_mapUpdate_own _ rfl _ _ _ MT rfl KT VT keyS Try.underlying58 anyI w.heap.size _ D rfl (HMD.out.alloc _).map HLEN.out _ _ _ rfl rfl HKEY.out (.lit (.int .i64 f.v)) [] rfl ?_; intro w1 hown1 hgrow1)
            | go_in)
          have NX := Lib.hid ((HMD.out.alloc _).put hown1 hgrow1)
          clear hown1 hgrow1
          go_wp2_with fail
          exact ⟨⟨t + 1, _, by omega, by go_num, by rw [← HX.out]; exact NX.out⟩, by simp [intOf] <;> omega⟩
        · obtain rfl : t = m := by omega
          have hlt2' : ¬ (t : Int) < (t : Int) := by omega
          have HX := Lib.hid (show (L.take k).flatten ++ row.take t = (L.take (k + 1)).flatten by
            rw [flat_next HROW.out, List.take_of_length_le (l := row) (by have := HM.out; omega)])
          go_wp2_with fail
          exact ⟨⟨k + 1, D, by omega, by go_num, by rw [← HX.out]; exact HMD.out⟩, by simp [intOf] <;> omega⟩
    · obtain rfl : k = n := by omega
      have hlt' : ¬ (k : Int) < (k : Int) := by omega
      have HX := Lib.hid (show (L.take k).flatten = all by rw [List.take_of_length_le (by have := HN.out; omega), HALL.out])
      rw [HX.out] at HM0
      have HS := Lib.hid (map_size HM0.out.map)
      go_wp2_with (first
        | (at_range; refine wpList_range_own _ rfl _ MT rfl KT VT keyS Try.underlying58 anyI w.heap.size _ D0 rfl HM0.out.map ?_; intro w0 hrg0 hg0 hs0)
        | go_in)
      have HG0 := Lib.hid hg0
      have HR0 := Lib.hid hrg0
      obtain ⟨r, hr⟩ : ∃ r, wr.heap.size = r := ⟨_, rfl⟩
      rw [hr] at HR0 ⊢
      have HRZ := Lib.hid (show w.heap.size ≤ r by rw [← hr]; exact HM0.out.bel.size)
      have HB0 := Lib.hid (show Below w.heap.size w w0 from HM0.out.bel.grown hg0 HM0.out.bel.size (fun j hj => by cases hj))
      clear hg0 hrg0 hs0 hr
      go_loopw [8] (fun o wr => ∃ (left : Lit → Bool) (cnt : Nat) (acc : List Fd), wr.ranges Try.prog KT anyI w.heap.size r all.length D0 left cnt ∧ acc.length + cnt ≤ all.length ∧ OF w acc o wr ∧ Got all left acc) (fun _ wr => wr.rangeLeft w.heap.size r)
      case atStart => exact ⟨_, _, [], HR0.out, by have := HS.out; simpa using this, (OF.nil w).below HB0.out, Got.start HM0.out.says⟩
      case round =>
        obtain ⟨left, cnt, acc, hrg, hcs, hO, hG⟩ := hrel
        have HO := Lib.hid hO
        have HGT := Lib.hid hG
        have HRG := Lib.hid hrg
        have HCS := Lib.hid hcs
        clear hO hG hrg hcs
        go_wp2_with (first
          | (at_next; refine wpList_next_ranges _ rfl _ rfl KT keyS anyI (fun s : ByteArray => Value.string s) (Value.int .i64) keyS_inv anyI_inv w.heap.size r all.length D0 left cnt rfl HRG.out ?_ ?_)
          | go_in)
        · intro hc0 hl0
          have HL0 := Lib.hid hl0
          have CS := Lib.hid (sort_fields wr HO.out.own (by have := HCS.out; have := HT.out; omega) HO.out.bel.size)
          clear hl0 hc0
          go_wp2_with (go_at_call 46; (with_reducible refine CS.out.mono ?_); rintro e w2 ⟨rfl, m, hp, hs, hl2, hb2⟩)
          go_ret
          exact ⟨_, rfl, by rw [← HGT.out.done HL0.out hp hs]; exact hl2, HO.out.bel.trans hb2⟩
        · intro x c kl yd yp w1 cnt1 hkey hlk hv hat hrg1 hcl hg1 hs1 hen
          have ekl := keyS_lit hkey
          subst ekl
          have ey : ((DataW.lit (.int .i64 c), []) : DataW Unit × List MemPlace) = (yd, yp) := Option.some.inj hv
          injection ey with ey1 ey2
          subst ey1
          have HGT1 := Lib.hid (HGT.out.step HM0.out.says hlk hat)
          have HO1 := Lib.hid (HO.out.other hg1 (ne_iter HO.out.own HRG.out).1 (fun j hj => by cases hj; exact HRZ.out))
          have HO2 := Lib.hid (HO1.out.below ((bl w1).alloc (Nat.le_refl _) (oc ⟨x, c⟩)))
          have HR2 := Lib.hid (hrg1.alloc (oc ⟨x, c⟩))
          have HLT := Lib.hid hcl
          clear hrg1 hg1 hs1 hkey hlk hv hat hcl
          go_wp2_with (first
            | (at_builtin; refine wpList_appF rfl (.tmp 38) (.tmp 42) rfl rfl HO2.out.own rfl rfl (field_one w1 ⟨x, c⟩ FT) (by simp) (by have := HCS.out; have := HT.out; simp; omega) HO2.out.bel.size ?_; intro v' w3 hown3 hg3; have HN3 := Lib.hid (HO2.out.grown hg3 hown3); have HR3 := Lib.hid (HR2.out.kept hg3 (fun e => (ne_iter HO2.out.own HR2.out).2 e.symm) (fun e => (ne_iter HO2.out.own HR2.out).1 e.symm)); clear hown3 hg3)
            | go_in)
          go_roundw
          case rel => exact ⟨_, cnt1, acc ++ [⟨x, c⟩], HR3.out, by have := HCS.out; have := HLT.out; simp; omega, HN3.out, HGT1.out⟩
          case measure => rw [HR3.out.left_eq, HRG.out.left_eq]; exact HLT.out

end Go.Proofs.Ytjpkeadnccodjaa
