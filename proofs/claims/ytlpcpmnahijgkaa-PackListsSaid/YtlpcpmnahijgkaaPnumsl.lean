/-
  Numbers laid one behind the other, by the program and by the document: Nums.
-/
import Derived.Test.YtlpcpmnahijgkaaPlists
import Derived.Test.YtlpcpmnahijgkaaPbuild
namespace Go.Proofs.Ytlpcpmnahijgkaa
open Go.RowKit

def NumsPost (l : List Int) (w : World) (e : Ending) (w' : World) : Prop := e = .returned (.tuple #[.string (numsS l), .int .i64 (numsE l)]) ∧ Below w.heap.size w w'
theorem take_snoc {l : List Int} {k : Nat} {x : Int} (h : l[k]? = some x) : l.take (k + 1) = l.take k ++ [x] := by rw [List.take_add_one, h]; rfl
theorem okL_next {l : List Int} {k : Nat} {x : Int} (h : okL (l.take k)) (hx : l[k]? = some x) (hk : okN x) : okL (l.take (k + 1)) := by
  rw [take_snoc hx]
  intro y hy
  rcases List.mem_append.1 hy with h' | h'
  · exact h y h'
  · obtain rfl := List.mem_singleton.1 h'; exact hk
theorem strCells_append (a b : ByteArray) : Lib.strCells (a ++ b) = Lib.strCells a ++ Lib.strCells b := by simp [Lib.strCells, ByteArray.data_append]

theorem builder_below {B b : Nat} {p : Value} {bs : List Value} {w w' : World} (h : Lib.BuilderAt BT BE B b p bs w) (hb : Below w.heap.size w w') : Lib.BuilderAt BT BE B b p bs w' := by
  have hlt := h.lt
  obtain ⟨hB, v, hbk, hown, hne⟩ := h
  exact ⟨hB, v, (hb.block b hlt).trans hbk, own_below hown hb, hne⟩
theorem isb_below {B b : Nat} {bs : List Value} {w w' : World} (h : Lib.IsBuilder BT BE B b bs w) (hb : Below w.heap.size w w') : Lib.IsBuilder BT BE B b bs w' := by
  rcases h with h | h
  · exact .inl (builder_below h hb)
  · exact .inr (builder_below h hb)
/-- The builder holds the bytes of the first k numbers. -/
structure NB (W : World) (l : List Int) (k : Nat) (wr : World) : Prop where
  isb : Lib.IsBuilder BT BE W.heap.size W.heap.size (Lib.strCells (concS (l.take k))) wr
  ok : okL (l.take k)
  bel : Below W.heap.size W wr

theorem num_at (x : Int) (w : World) : Calls Try.prog 9 #[.int .i64 x] w fun e w' => e = .returned (.tuple #[.string (numS x), .int .i64 (numE x)]) ∧ Below w.heap.size w w' := num_any x w
theorem dnum_at (x : Int) (w : World) : Calls Try.prog 10 #[.int .i64 x] w fun e w' => e = .returned (.tuple #[.string (numS x), .int .i64 (numE x)]) ∧ Below w.heap.size w w' := dnum_any x w

set_option maxHeartbeats 4000000 in
set_option maxRecDepth 10000 in
theorem numsl_any (w : World) (A : Option Addr) (c : Nat) (l : List Int) (hl : Ints w A l) (hn : l.length ≤ 1000) :
    Calls Try.prog 20 #[.slice A l.length c] w (NumsPost l w) := by
  have HB0 := Lib.hid (show NB w l 0 (w.alloc (.cells #[.pointer none, .slice none 0 0] BT)) from ⟨Lib.fresh_isBuilder BT BE w, (by intro x hx; simp at hx), (bl w).alloc (Nat.le_refl _) _⟩)
  have HL := Lib.hid hl
  obtain ⟨n, hnm⟩ : ∃ n, n = l.length := ⟨_, rfl⟩
  rw [← hnm] at hn ⊢
  have HN := Lib.hid hnm
  clear hl hnm
  go_enter Try.func20, Try.ntmps20
  go_wp2_with fail
  go_loopw [11] (fun i wr => ∃ k : Nat, k ≤ n ∧ i = .int .i64 k ∧ NB w l k wr) (fun i _ => n - (intOf i).toNat)
  case atStart => exact ⟨0, Nat.zero_le _, rfl, HB0.out⟩
  case round =>
    obtain ⟨k, hk, rfl, hR⟩ := hrel
    have HR := Lib.hid hR
    clear hR
    by_cases hlt : k < n
    · have hlt' : (k : Int) < (n : Int) := by omega
      obtain ⟨x, hx⟩ : ∃ x, l[k]? = some x := ⟨_, List.getElem?_eq_getElem (by have := HN.out; omega)⟩
      obtain ⟨g, off, rfl, c0⟩ := (HL.out.below (HR.out.bel)) k x hx
      have HX := Lib.hid hx
      clear hx
      by_cases hok : okN x
      · have e0 := Lib.hid (numE_ok hok)
        go_wp2_with (go_at_call 9; refine (num_at x _).mono ?_; rintro e w2 ⟨rfl, hb2⟩; rw [e0.out])
        have hz1 := concS_size (l.take k)
        have hz2 := num_size x
        have hz3 : (l.take k).length ≤ 1000 := by rw [List.length_take]; have := HN.out; omega
        (go_at_call 32; refine (write_any w.heap.size w.heap.size _ (numS x) _ (isb_below HR.out.isb hb2) (by rw [Lib.strCells_length]; omega) (chain HR.out.bel hb2).size).mono ?_)
        rintro e w3 ⟨rfl, hbd, hb3⟩
        have NX := Lib.hid (show NB w l (k + 1) w3 from ⟨by rw [take_snoc HX.out, concS_snoc, strCells_append]; exact .inr hbd, okL_next HR.out.ok HX.out hok, (chain HR.out.bel hb2).trans hb3⟩)
        clear hbd hb3 hz1 hz2 hz3
        go_wp2_with fail
        exact ⟨⟨k + 1, by omega, by go_num, NX.out⟩, by simp [intOf] <;> omega⟩
      · have e0 := Lib.hid (numE_bad hok)
        have NBAD := Lib.hid (nums_bad (List.mem_of_getElem? HX.out) hok)
        go_wp2_with (go_at_call 9; refine (num_at x _).mono ?_; rintro e w2 ⟨rfl, hb2⟩; rw [e0.out])
        go_ret2
        exact ⟨ret_se NBAD.out.1.symm NBAD.out.2.symm, chain HR.out.bel hb2⟩
    · obtain rfl : k = n := by omega
      have hlt' : ¬ (k : Int) < (k : Int) := by omega
      have hall : l.take k = l := List.take_of_length_le (by have := HN.out; omega)
      have NOK := Lib.hid (nums_ok (l := l) (by have := HR.out.ok; rw [hall] at this; exact this))
      have hisb := HR.out.isb
      rw [hall] at hisb
      have CS := Lib.hid (Try.Builder_String_any w.heap.size w.heap.size (concS l).data.toList wr hisb HR.out.bel.size)
      clear hisb hall
      go_wp2_with (go_at_call 33; refine CS.out.mono ?_; rintro e w3 ⟨rfl, hb3⟩)
      go_ret2
      exact ⟨ret_se NOK.out.1.symm NOK.out.2.symm, HR.out.bel.trans hb3⟩

set_option maxHeartbeats 4000000 in
set_option maxRecDepth 10000 in
theorem dnumsl_any (w : World) (A : Option Addr) (c : Nat) (l : List Int) (hl : Ints w A l) (hn : l.length ≤ 1000) :
    Calls Try.prog 21 #[.slice A l.length c] w (NumsPost l w) := by
  have HL := Lib.hid hl
  obtain ⟨n, hnm⟩ : ∃ n, n = l.length := ⟨_, rfl⟩
  rw [← hnm] at hn ⊢
  have HN := Lib.hid hnm
  clear hl hnm
  go_enter Try.func21, Try.ntmps21
  go_wp2_with fail
  go_loopw [4, 5] (fun o i wr => ∃ k : Nat, k ≤ n ∧ i = .int .i64 k ∧ o = .string (concS (l.take k)) ∧ okL (l.take k) ∧ Below w.heap.size w wr) (fun _ i _ => n - (intOf i).toNat)
  case atStart => exact ⟨0, Nat.zero_le _, rfl, rfl, (by intro x hx; simp at hx), bl w⟩
  case round =>
    obtain ⟨k, hk, rfl, rfl, hO, hB⟩ := hrel
    have HO := Lib.hid hO
    have HB := Lib.hid hB
    clear hO hB
    by_cases hlt : k < n
    · have hlt' : (k : Int) < (n : Int) := by omega
      obtain ⟨x, hx⟩ : ∃ x, l[k]? = some x := ⟨_, List.getElem?_eq_getElem (by have := HN.out; omega)⟩
      obtain ⟨g, off, rfl, c0⟩ := (HL.out.below (HB.out)) k x hx
      have HX := Lib.hid hx
      clear hx
      by_cases hok : okN x
      · have e0 := Lib.hid (numE_ok hok)
        have hz1 := concS_size (l.take k)
        have hz2 := num_size x
        have hz3 : (l.take k).length ≤ 1000 := by rw [List.length_take]; have := HN.out; omega
        have hle : ¬ (concS (l.take k)).size + (numS x).size > 9223372036854775807 := by omega
        have NX := Lib.hid (show concS (l.take (k + 1)) = concS (l.take k) ++ numS x by rw [take_snoc HX.out, concS_snoc])
        have NO := Lib.hid (okL_next HO.out HX.out hok)
        clear hz1 hz2 hz3
        generalize concS (l.take k) = a at *
        go_wp2_with (go_at_call 10; refine (dnum_at x _).mono ?_; rintro e w2 ⟨rfl, hb2⟩; rw [e0.out])
        exact ⟨⟨k + 1, by omega, by go_num, by rw [NX.out], NO.out, chain HB.out hb2⟩, by simp [intOf] <;> omega⟩
      · have e0 := Lib.hid (numE_bad hok)
        have NBAD := Lib.hid (nums_bad (List.mem_of_getElem? HX.out) hok)
        go_wp2_with (go_at_call 10; refine (dnum_at x _).mono ?_; rintro e w2 ⟨rfl, hb2⟩; rw [e0.out])
        go_ret2
        exact ⟨ret_se NBAD.out.1.symm NBAD.out.2.symm, chain HB.out hb2⟩
    · obtain rfl : k = n := by omega
      have hlt' : ¬ (k : Int) < (k : Int) := by omega
      have hall : l.take k = l := List.take_of_length_le (by have := HN.out; omega)
      have NOK := Lib.hid (nums_ok (l := l) (by have := HO.out; rw [hall] at this; exact this))
      have HA := Lib.hid (congrArg concS hall)
      clear hall
      go_wp2_with fail
      go_ret2
      exact ⟨ret_se (by rw [NOK.out.1, ← HA.out]) NOK.out.2.symm, HB.out⟩

end Go.Proofs.Ytlpcpmnahijgkaa
