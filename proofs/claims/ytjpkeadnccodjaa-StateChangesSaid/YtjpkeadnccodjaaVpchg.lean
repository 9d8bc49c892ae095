/-
  The program's Changed.
-/
import Derived.Test.YtjpkeadnccodjaaVfirsts
import Derived.Test.YtjpkeadnccodjaaGpover
import Derived.Test.YtjpkeadnccodjaaVpset
import Derived.Test.YtjpkeadnccodjaaVchg
namespace Go.Proofs.Ytjpkeadnccodjaa
open Go.RowKit

/-- What is asked at a name is what the fields give first. -/
def Gives (D : DataW Unit) (l : List Fd) : Prop := ∀ (s : ByteArray) (zd : DataW Unit), D.atKey (.string s.data.toList) zd = match getL l s with | some v => .lit (.int .i64 v) | none => zd
theorem Says.gives {D : DataW Unit} {l : List Fd} (h : Says D l.reverse) : Gives D l ∧ ∀ s : ByteArray, Maps.has D (.string s.data.toList) = (getL l s).isSome :=
  ⟨fun s zd => by rw [h.2, last_rev]; cases getL l s <;> rfl, fun s => by rw [h.has, last_rev]⟩
theorem gives_at {D : DataW Unit} {l : List Fd} (h : Gives D l) (s : ByteArray) : D.atKey (.string s.data.toList) (.lit (.int .i64 0)) = .lit (.int .i64 ((getL l s).getD 0)) := by
  rw [h]
  cases getL l s <;> rfl

theorem MapF.below {w w' : World} {b n : Nat} {D : DataW Unit} (h : MapF w b n D) (hb : Below w.heap.size w w') : MapF w' b n D :=
  h.kept (row := none) ⟨hb.os, hb.tape, hb.output, hb.size, fun k hk _ => hb.block k hk⟩ (by simp)
/-- A name is asked of the map of first values. -/
theorem wpList_lookF {ops : Array Oper} {rest : List Oper} {o : Oper} {a : Act} {w : World} {Q : Exit → Act → World → Prop} (hg : o.guard = none) (m x : Operand) {t : TypeId} (ht : t = MT) (hop : o.op = Op.lookup t m x true)
    {b n : Nat} {D : DataW Unit} {l : List Fd} {s : ByteArray} {p : Int} {is : Bool} (hp : (getL l s).getD 0 = p) (hi : (getL l s).isSome = is) (hm : a.eval m = .map (some b)) (hx : a.eval x = .string s) (hown : MapF w b n D) (hS : Says D l.reverse) (hkey : keyOf Try.prog KT (.string s) = some (.string s.data.toList))
    (hK : wpList Try.prog ops Q rest (a.put o.dst (.tuple #[.int .i64 p, .bool is])) w) : wpList Try.prog ops Q (o :: rest) a w := by
  subst ht
  refine wpList_lookup_own_ok w hg m x MT hop KT VT keyS Try.underlying58 anyI (Try.zeroValue3 w) (.lit (.int .i64 0)) [] rfl b n D hm hown _ _ hx hkey fun v ps hv => ?_
  obtain ⟨c, rfl⟩ := anyI_inv v _ hv
  rw [gives_at hS.gives.1, hp] at hv
  have e : c = p := by
    have := Option.some.inj hv
    injection this with this
    injection this with this
    injection this
  rw [hS.gives.2, hi, e]
  exact hK

set_option maxHeartbeats 4000000 in
set_option maxRecDepth 10000 in
theorem pchanged_any (w : World) (ua ub : Value) (a b : List Fd) (ha : ListF w ua a) (hb : ListF w ub b) (hn : a.length ≤ 1000) (hm : b.length ≤ 1000) (oa : okF a) (ob : okF b) : Calls Try.prog 20 #[ua, ub] w fun e w' => ∃ x, e = .returned x ∧ ListE ES w' x (chgL a b) ∧ Below w.heap.size w w' := by
  have HA := Lib.hid ha
  have HB := Lib.hid hb
  obtain ⟨A, c, rfl, hA, hc, hnc⟩ := ha
  obtain ⟨B, d, rfl, hB, hd, hnd⟩ := hb
  have CO0 := fun w' (h : Below w.heap.size w w') => pover_any (w'.alloc (.cells #[.slice A a.length c, .slice B b.length d] 29)) (some ⟨w'.heap.size, 0, none⟩) 2 [a, b] (rows_two (HA.out.below h) (HB.out.below h)) (by simp; omega) (by simp) (fun l hl => by
    rcases List.mem_cons.1 hl with rfl | hl
    · exact oa
    · obtain rfl : l = b := by simpa using hl
      exact ob)
  rw [show ([a, b] : List (List Fd)).flatten = a ++ b by simp] at CO0
  have CO := Lib.hid (show ∀ w', Below w.heap.size w w' → Calls Try.prog 37 #[.slice (some ⟨w'.heap.size, 0, none⟩) 2 2] (w'.alloc (.cells #[.slice A a.length c, .slice B b.length d] 29)) fun e w2 => ∃ v, e = .returned v ∧ ListF w2 v (overL (a ++ b)) ∧ Below w'.heap.size w' w2 from
    fun w' h => (CO0 w' h).mono fun e w2 ⟨v, he, hv, hb⟩ => ⟨v, he, hv, ((bl w').alloc (Nat.le_refl _) _).trans (hb.mono (by simp))⟩)
  obtain ⟨O, hO⟩ : ∃ O, overL (a ++ b) = O := ⟨_, rfl⟩
  have hOn : O.length ≤ 2000 := by rw [← hO]; have := overL_length (a ++ b); rw [List.length_append] at this; omega
  have HOK := Lib.hid (show okF O from fun f hf => by
    rw [← hO] at hf
    rcases List.mem_append.1 (overL_mem hf) with h | h
    · exact oa f h
    · exact ob f h)
  have HCH := Lib.hid (show chgL a b = (O.map Fd.n).filter fun s => differB a b s by unfold chgL; rw [hO])
  rw [hO] at CO
  have CF1 := Lib.hid (fun w' (h : Below w.heap.size w w') => firsts_any w' A c a (hA.below h) oa hn)
  have CF2 := Lib.hid (fun w' (h : Below w.heap.size w w') => firsts_any w' B d b (hB.below h) ob hm)
  have HDF := Lib.hid (fun s => show differB a b s = (decide ((getL a s).getD 0 ≠ (getL b s).getD 0) || ((getL a s).isSome != (getL b s).isSome)) from rfl)
  clear CO0 hA hc hnc hB hd hnd HA HB hO hn hm oa ob
  generalize a.length = na at *
  generalize b.length = nb at *
  go_enter Try.func20, Try.ntmps20
  go_wp2_with (first
    | (go_at_call 36; (with_reducible refine (CF1.out _ (by (repeat (first | exact (bl w) | refine belowN ?_ _ | refine Below.alloc ?_ (by have hsz := Below.size (bl w); first | omega | (simp; done) | (simp; omega) | (simp at hsz ⊢; omega)) _)))).mono ?_); rintro e w1 ⟨D1, rfl, hm1, hs1, hb1⟩; have HB1 := Lib.hid (show Below w.heap.size w w1 from hb1); have HM1 := Lib.hid hm1; have HS1 := Lib.hid hs1; clear CF1 hm1 hs1 hb1)
    | (go_at_call 36; (with_reducible refine (CF2.out _ (by (repeat (first | exact HB1.out | refine belowN ?_ _ | refine Below.alloc ?_ (by have hsz := Below.size HB1.out; first | omega | (simp; done) | (simp; omega) | (simp at hsz ⊢; omega)) _)))).mono ?_); rintro e w2 ⟨D2, rfl, hm2, hs2, hb2⟩; have HB2 := Lib.hid (show Below w1.heap.size w1 w2 from hb2); have HM2 := Lib.hid hm2; have HS2 := Lib.hid hs2; clear CF2 hm2 hs2 hb2)
    | (go_at_call 37; (with_reducible refine (CO.out w2 (chain HB1.out HB2.out)).mono ?_); rintro e w3 ⟨x3, rfl, ⟨A3, c3, rfl, hr3, hc3, hn3⟩, hb3⟩; have HR3 := Lib.hid hr3; have HB3 := Lib.hid hb3; clear hr3 hc3 hn3 hb3))
  obtain ⟨n, hnm⟩ : ∃ n, O.length = n := ⟨_, rfl⟩
  rw [hnm] at hOn ⊢
  have HN := Lib.hid hnm
  clear hnm
  go_loopw [5, 23] (fun o i wr => ∃ t vs, t ≤ n ∧ i = .int .i64 (t : Nat) ∧ vs = ((O.take t).map Fd.n).filter (fun s => differB a b s) ∧ OE ES w3 vs o wr) (fun _ i _ => n - (intOf i).toNat)
  case atStart => exact ⟨0, [], Nat.zero_le _, rfl, rfl, OE.nil w3⟩
  case round =>
    obtain ⟨t, vs, ht, rfl, hvs, hO⟩ := hrel
    have HVS := Lib.hid hvs
    have HO2 := Lib.hid hO
    have hlen : vs.length ≤ 2000 := by
      rw [hvs]
      have := List.length_filter_le (fun s => differB a b s) ((O.take t).map Fd.n)
      rw [List.length_map, List.length_take] at this
      omega
    clear hvs hO
    by_cases hlt : t < n
    · have hlt' : (t : Int) < (n : Int) := by omega
      obtain ⟨f, hf⟩ : ∃ f, O[t]? = some f := ⟨_, List.getElem?_eq_getElem (by have := HN.out; omega)⟩
      obtain ⟨g, off, rfl, c0, c1'⟩ := (HR3.out.below HO2.out.bel) t f hf
      have HKEY := Lib.hid (WideMaps.keyOf_string_mk Try.underlying9 (s := f.n) (by have := HOK.out f (List.mem_of_getElem? hf); unfold maxLen; omega))
      have HRW := Lib.hid (show RowE ES ((wr.alloc (oc f)).alloc (.cells #[.string f.n] 9)) (some ⟨wr.heap.size + 1, 0, none⟩) [f.n] by
        have := rowE_one (E := ES) (wr.alloc (oc f)) f.n #[.string f.n] rfl 9
        rwa [show (wr.alloc (oc f)).heap.size = wr.heap.size + 1 by simp] at this)
      have HLEN := Lib.hid hlen
      have DF := HDF.out f.n
      have NXT := Lib.hid (fun h : differB a b f.n = true => show vs ++ [f.n] = ((O.take (t + 1)).map Fd.n).filter (fun s => differB a b s) by
        rw [List.take_add_one, hf, Option.toList_some, List.map_append, List.filter_append, HVS.out]; simp [h])
      have NXF := Lib.hid (fun h : differB a b f.n = false => show vs = ((O.take (t + 1)).map Fd.n).filter (fun s => differB a b s) by
        rw [List.take_add_one, hf, Option.toList_some, List.map_append, List.filter_append, HVS.out]; simp [h])
      clear hf hlen
      obtain ⟨p, hp⟩ : ∃ p, (getL a f.n).getD 0 = p := ⟨_, rfl⟩
      obtain ⟨q, hq⟩ : ∃ q, (getL b f.n).getD 0 = q := ⟨_, rfl⟩
      obtain ⟨is, hi⟩ : ∃ is, (getL a f.n).isSome = is := ⟨_, rfl⟩
      obtain ⟨ok, hk⟩ : ∃ ok, (getL b f.n).isSome = ok := ⟨_, rfl⟩
      have HPA := Lib.hid hp
      have HPB := Lib.hid hq
      have HIA := Lib.hid hi
      have HIB := Lib.hid hk
      rw [hp, hq, hi, hk] at DF
      clear hp hq hi hk
      generalize differB a b f.n = D at *
      by_cases hpq : p = q
      · have hne : (p != q) = false := by rw [hpq]; simp
        cases is <;> cases ok
        · have NX := Lib.hid (NXF.out (by rw [DF]; simp [hpq]))
          clear DF
          go_wp2_with (first
            | (at_lookup; refine wpList_lookF rfl (.tmp 28) (.tmp 30) rfl rfl HPA.out HIA.out rfl rfl (MapF.below HM1.out (chain HB2.out (chain HB3.out (by (repeat (first | exact HO2.out.bel | refine belowN ?_ _ | refine Below.alloc ?_ (by have hsz := Below.size HO2.out.bel; first | omega | (simp; done) | (simp; omega) | (simp at hsz ⊢; omega)) _)))))) HS1.out HKEY.out ?_)
            | (at_lookup; refine wpList_lookF rfl (.tmp 35) (.tmp 37) rfl rfl HPB.out HIB.out rfl rfl (MapF.below HM2.out (chain HB3.out (by (repeat (first | exact HO2.out.bel | refine belowN ?_ _ | refine Below.alloc ?_ (by have hsz := Below.size HO2.out.bel; first | omega | (simp; done) | (simp; omega) | (simp at hsz ⊢; omega)) _))))) HS2.out HKEY.out ?_))
          exact ⟨⟨t + 1, vs, by omega, by go_num, NX.out, HO2.out.below (by (repeat (first | exact (bl wr) | refine belowN ?_ _ | refine Below.alloc ?_ (by have hsz := Below.size (bl wr); first | omega | (simp; done) | (simp; omega) | (simp at hsz ⊢; omega)) _)))⟩, by simp [intOf] <;> omega⟩
        · have NX := Lib.hid (NXT.out (by rw [DF]; simp [hpq]))
          clear DF
          go_wp2_with (first
            | (at_lookup; refine wpList_lookF rfl (.tmp 28) (.tmp 30) rfl rfl HPA.out HIA.out rfl rfl (MapF.below HM1.out (chain HB2.out (chain HB3.out (by (repeat (first | exact HO2.out.bel | refine belowN ?_ _ | refine Below.alloc ?_ (by have hsz := Below.size HO2.out.bel; first | omega | (simp; done) | (simp; omega) | (simp at hsz ⊢; omega)) _)))))) HS1.out HKEY.out ?_)
            | (at_lookup; refine wpList_lookF rfl (.tmp 35) (.tmp 37) rfl rfl HPB.out HIB.out rfl rfl (MapF.below HM2.out (chain HB3.out (by (repeat (first | exact HO2.out.bel | refine belowN ?_ _ | refine Below.alloc ?_ (by have hsz := Below.size HO2.out.bel; first | omega | (simp; done) | (simp; omega) | (simp at hsz ⊢; omega)) _))))) HS2.out HKEY.out ?_)
            | (at_builtin; refine wpList_appE (E := ES) rfl (.tmp 49) (.tmp 52) rfl rfl (base := w3.heap.size) rfl (ownE_below HO2.out.own (by (repeat (first | exact (bl wr) | refine belowN ?_ _ | refine Below.alloc ?_ (by have hsz := Below.size (bl wr); first | omega | (simp; done) | (simp; omega) | (simp at hsz ⊢; omega)) _)))) rfl rfl HRW.out (by simp) (by have := HLEN.out; simp; omega) (by have := HO2.out.bel.size; simp; omega) ?_; intro v2 w4 hown4 hg4; have HO4 := Lib.hid ((HO2.out.below (by (repeat (first | exact (bl wr) | refine belowN ?_ _ | refine Below.alloc ?_ (by have hsz := Below.size (bl wr); first | omega | (simp; done) | (simp; omega) | (simp at hsz ⊢; omega)) _)))).grown hg4 hown4)))
          exact ⟨⟨t + 1, _, by omega, by go_num, NX.out, HO4.out⟩, by simp [intOf] <;> omega⟩
        · have NX := Lib.hid (NXT.out (by rw [DF]; simp [hpq]))
          clear DF
          go_wp2_with (first
            | (at_lookup; refine wpList_lookF rfl (.tmp 28) (.tmp 30) rfl rfl HPA.out HIA.out rfl rfl (MapF.below HM1.out (chain HB2.out (chain HB3.out (by (repeat (first | exact HO2.out.bel | refine belowN ?_ _ | refine Below.alloc ?_ (by have hsz := Below.size HO2.out.bel; first | omega | (simp; done) | (simp; omega) | (simp at hsz ⊢; omega)) _)))))) HS1.out HKEY.out ?_)
            | (at_lookup; refine wpList_lookF rfl (.tmp 35) (.tmp 37) rfl rfl HPB.out HIB.out rfl rfl (MapF.below HM2.out (chain HB3.out (by (repeat (first | exact HO2.out.bel | refine belowN ?_ _ | refine Below.alloc ?_ (by have hsz := Below.size HO2.out.bel; first | omega | (simp; done) | (simp; omega) | (simp at hsz ⊢; omega)) _))))) HS2.out HKEY.out ?_)
            | (at_builtin; refine wpList_appE (E := ES) rfl (.tmp 49) (.tmp 52) rfl rfl (base := w3.heap.size) rfl (ownE_below HO2.out.own (by (repeat (first | exact (bl wr) | refine belowN ?_ _ | refine Below.alloc ?_ (by have hsz := Below.size (bl wr); first | omega | (simp; done) | (simp; omega) | (simp at hsz ⊢; omega)) _)))) rfl rfl HRW.out (by simp) (by have := HLEN.out; simp; omega) (by have := HO2.out.bel.size; simp; omega) ?_; intro v2 w4 hown4 hg4; have HO4 := Lib.hid ((HO2.out.below (by (repeat (first | exact (bl wr) | refine belowN ?_ _ | refine Below.alloc ?_ (by have hsz := Below.size (bl wr); first | omega | (simp; done) | (simp; omega) | (simp at hsz ⊢; omega)) _)))).grown hg4 hown4)))
          exact ⟨⟨t + 1, _, by omega, by go_num, NX.out, HO4.out⟩, by simp [intOf] <;> omega⟩
        · have NX := Lib.hid (NXF.out (by rw [DF]; simp [hpq]))
          clear DF
          go_wp2_with (first
            | (at_lookup; refine wpList_lookF rfl (.tmp 28) (.tmp 30) rfl rfl HPA.out HIA.out rfl rfl (MapF.below HM1.out (chain HB2.out (chain HB3.out (by (repeat (first | exact HO2.out.bel | refine belowN ?_ _ | refine Below.alloc ?_ (by have hsz := Below.size HO2.out.bel; first | omega | (simp; done) | (simp; omega) | (simp at hsz ⊢; omega)) _)))))) HS1.out HKEY.out ?_)
            | (at_lookup; refine wpList_lookF rfl (.tmp 35) (.tmp 37) rfl rfl HPB.out HIB.out rfl rfl (MapF.below HM2.out (chain HB3.out (by (repeat (first | exact HO2.out.bel | refine belowN ?_ _ | refine Below.alloc ?_ (by have hsz := Below.size HO2.out.bel; first | omega | (simp; done) | (simp; omega) | (simp at hsz ⊢; omega)) _))))) HS2.out HKEY.out ?_))
          exact ⟨⟨t + 1, vs, by omega, by go_num, NX.out, HO2.out.below (by (repeat (first | exact (bl wr) | refine belowN ?_ _ | refine Below.alloc ?_ (by have hsz := Below.size (bl wr); first | omega | (simp; done) | (simp; omega) | (simp at hsz ⊢; omega)) _)))⟩, by simp [intOf] <;> omega⟩
      · have hne : (p != q) = true := by rw [bne_iff_ne]; exact hpq
        have NX := Lib.hid (NXT.out (by rw [DF]; simp [hpq]))
        clear DF
        cases is <;> cases ok
        all_goals
          go_wp2_with (first
            | (at_lookup; refine wpList_lookF rfl (.tmp 28) (.tmp 30) rfl rfl HPA.out HIA.out rfl rfl (MapF.below HM1.out (chain HB2.out (chain HB3.out (by (repeat (first | exact HO2.out.bel | refine belowN ?_ _ | refine Below.alloc ?_ (by have hsz := Below.size HO2.out.bel; first | omega | (simp; done) | (simp; omega) | (simp at hsz ⊢; omega)) _)))))) HS1.out HKEY.out ?_)
            | (at_lookup; refine wpList_lookF rfl (.tmp 35) (.tmp 37) rfl rfl HPB.out HIB.out rfl rfl (MapF.below HM2.out (chain HB3.out (by (repeat (first | exact HO2.out.bel | refine belowN ?_ _ | refine Below.alloc ?_ (by have hsz := Below.size HO2.out.bel; first | omega | (simp; done) | (simp; omega) | (simp at hsz ⊢; omega)) _))))) HS2.out HKEY.out ?_)
            | (at_builtin; refine wpList_appE (E := ES) rfl (.tmp 49) (.tmp 52) rfl rfl (base := w3.heap.size) rfl (ownE_below HO2.out.own (by (repeat (first | exact (bl wr) | refine belowN ?_ _ | refine Below.alloc ?_ (by have hsz := Below.size (bl wr); first | omega | (simp; done) | (simp; omega) | (simp at hsz ⊢; omega)) _)))) rfl rfl HRW.out (by simp) (by have := HLEN.out; simp; omega) (by have := HO2.out.bel.size; simp; omega) ?_; intro v2 w4 hown4 hg4; have HO4 := Lib.hid ((HO2.out.below (by (repeat (first | exact (bl wr) | refine belowN ?_ _ | refine Below.alloc ?_ (by have hsz := Below.size (bl wr); first | omega | (simp; done) | (simp; omega) | (simp at hsz ⊢; omega)) _)))).grown hg4 hown4)))
          exact ⟨⟨t + 1, _, by omega, by go_num, NX.out, HO4.out⟩, by simp [intOf] <;> omega⟩
    · obtain rfl : t = n := by omega
      have hlt' : ¬ (t : Int) < (t : Int) := by omega
      have HE := Lib.hid (show vs = chgL a b by rw [HCH.out, HVS.out, List.take_of_length_le (by have := HN.out; omega)])
      clear hlen
      go_wp2_with fail
      go_ret
      exact ⟨_, rfl, by rw [← HE.out]; exact HO2.out.list, chain HB1.out (chain HB2.out (chain HB3.out HO2.out.bel))⟩

end Go.Proofs.Ytjpkeadnccodjaa
