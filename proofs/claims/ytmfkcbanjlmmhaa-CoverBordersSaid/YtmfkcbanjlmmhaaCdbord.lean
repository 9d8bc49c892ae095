/-
  The document's Borders: the first so many of all ends of a list's cover.
-/
import Derived.Test.YtmfkcbanjlmmhaaCdoc
namespace Go.Proofs.Ytmfkcbanjlmmhaa
open Go.RowKit

theorem bord_next {m : List Sp} {k : Nat} {f t : Int} (hp : m[k]? = some (f, t)) : bord (m.take (k + 1)) = bord (m.take k) ++ [f, t] := by rw [take_snoc hp, bord_snoc]
theorem bord_le (m : List Sp) (k : Nat) : (bord (m.take k)).length ≤ 2 * k := by
  rw [bord_length]
  have := List.length_take_le k m
  omega

/-- What Borders leaves. -/
def BordPost (l : List Sp) (q : Nat) (w : World) (e : Ending) (w' : World) : Prop :=
  ∃ A c m, CovOf m (Mem l) ∧ e = .returned (.slice A ((bord m).take q).length c) ∧ Ints w' A ((bord m).take q) ∧ m.length ≤ 1000 ∧ Below w.heap.size w w'

theorem BordPost.mk' {l m : List Sp} {L : List Int} {q n c : Nat} {A : Option Addr} {w w' : World} (hc : CovOf m (Mem l)) (hq : (bord m).take q = L) (hn : L.length = n) (hi : Ints w' A L) (hm : m.length ≤ 1000) (hb : Below w.heap.size w w') : BordPost l q w (.returned (.slice A n c)) w' := by
  subst hn hq
  exact ⟨A, c, m, hc, rfl, hi, hm, hb⟩

set_option maxRecDepth 10000 in
set_option maxHeartbeats 4000000 in
theorem dbord_any (w : World) (A : Option Addr) (c : Nat) (l : List Sp) (most : Int) (hl : Spans w A l) (hA : A = none → c = 0) (hn : l.length ≤ 400) :
    Calls Try.prog 27 #[.slice A l.length c, .int .i64 most] w (BordPost l most.toNat w) := by
  go_enter Try.func27, Try.ntmps27
  go_wp2_with (go_at_call 12; refine (dmake_any _ _ _ _ hl hA hn).mono ?_; rintro e w1 ⟨A1, c1, m, rfl, hsp, hc, hl1, hb⟩)
  obtain ⟨n, hnm⟩ : ∃ n, n = m.length := ⟨_, rfl⟩
  rw [← hnm] at hl1 ⊢
  have HN := Lib.hid hnm
  have HL := Lib.hid hsp
  have HC := Lib.hid hc
  have HB := Lib.hid hb
  clear hnm hsp hc hb hl hA
  go_wp2_with fail
  go_loopw [5, 7] (fun v i wr => ∃ k : Nat, k ≤ n ∧ i = .int .i64 k ∧ EndRel w1 (bord (m.take k)) v wr) (fun _ i _ => n - (intOf i).toNat)
  case atStart => exact ⟨0, Nat.zero_le _, rfl, World.ownsRow_nil _ _ _ _, bl _⟩
  case round =>
    obtain ⟨k, hk, rfl, hR⟩ := hrel
    have HR := Lib.hid hR
    have hsz := hR.2.size
    have hle := bord_le m k
    clear hR
    by_cases hlt : k < n
    · obtain ⟨⟨f, t⟩, hp⟩ : ∃ p, m[k]? = some p := ⟨_, List.getElem?_eq_getElem (by have := HN.out; omega)⟩
      obtain ⟨g, off, rfl, c0, c1⟩ := HL.out.at hp
      have d0 := keepc HR.out.2 c0
      have d1 := keepc HR.out.2 c1
      have HP := Lib.hid hp
      clear hp
      have hown1 : wr.drew.ownsRow w1.heap.size 3 1 u5 (bord (m.take k)).length ((bord (m.take k)).map (Value.int .i64)) := own_below HR.out.1 (belowN' (bl _) 1)
      have hltI : (k : Int) < (n : Int) := by omega
      go_upto_region 6 with fail
      have mk : ∀ w', Below w1.heap.size w1 w' → (Below w1.heap.size w1 w' ∧ w'.cell? ⟨g, off + k * 2, none⟩ = some (.int .i64 f) ∧ w'.cell? ⟨g, off + k * 2 + 1, none⟩ = some (.int .i64 t)) := fun w' h => ⟨h, keepc h c0, keepc h c1⟩
      have MK := Lib.hid mk
      clear mk c0 c1 d0 d1
      go_region_held3 (fun w' => Below w1.heap.size w1 w' ∧ w'.cell? ⟨g, off + k * 2, none⟩ = some (.int .i64 f) ∧ w'.cell? ⟨g, off + k * 2 + 1, none⟩ = some (.int .i64 t))
        (first | exact MK.out _ (belowN' HR.out.2 1) | exact MK.out _ ((belowN' HR.out.2 1).alloc hsz _) | exact MK.out _ hb3 | fail)
        (first
          | (refine step_app rfl (.tmp 16) (.tmp 27) rfl (base := w1.heap.size) rfl (World.ownsRow.alloc hown1 _) rfl rfl (ints_two wr.drew f t _) (by simp) (by simp; omega) (by simp; omega) ?_; intro v' w2 hown2 hg2 hat2; have NX := Lib.hid (EndRel.app HR.out hg2 hown2); have hb3 := NX.out.2))
      go_wp2_with fail
      go_roundw
      case rel => exact ⟨k + 1, by omega, by go_num, by rw [bord_next HP.out]; exact NX.out⟩
      case measure => simp [intOf]; omega
    · obtain ⟨Ai, ci, hv, hin⟩ := own_ints HR.out.1
      subst hv
      have hcap := own_le HR.out.1
      have hall : bord (m.take k) = bord m := by rw [List.take_of_length_le (by have := HN.out; omega)]
      rw [hall] at hin hle hcap
      rw [hall]
      have HIN := Lib.hid hin
      have HBB := Lib.hid HR.out.2
      clear hin hall HR
      by_cases hneg : most < 0
      · by_cases hpos : 0 < (bord m).length
        · have hpI : (0 : Int) < ((bord m).length : Int) := by omega
          have hcI : (0 : Int) ≤ (ci : Int) := by omega
          go_wp2_with fail
          go_ret
          exact BordPost.mk' (L := []) HC.out (by rw [show most.toNat = 0 from by omega]; simp) rfl (Ints.nil _ _) (by have := HN.out; omega) (chain HB.out HBB.out)
        · have e1 : bord m = [] := List.eq_nil_of_length_eq_zero (by omega)
          rw [e1] at hcap hpos HIN ⊢
          simp only [List.length_nil] at hcap hpos HIN ⊢
          have HE := Lib.hid e1
          clear e1
          go_wp2_with fail
          go_ret
          exact BordPost.mk' (L := []) HC.out (by rw [show most.toNat = 0 from by omega]; simp) rfl (Ints.nil _ _) (by have := HN.out; omega) (chain HB.out HBB.out)
      · obtain ⟨q, rfl⟩ : ∃ q : Nat, most = q := ⟨most.toNat, by omega⟩
        rw [Int.toNat_natCast]
        by_cases hpos : q < (bord m).length
        · have hpI : (q : Int) < ((bord m).length : Int) := by omega
          have hcI : (q : Int) ≤ (ci : Int) := by omega
          have h0I : (0 : Int) ≤ (q : Int) := by omega
          go_wp2_with fail
          go_ret
          have e2 : ((bord m).take q).length = q := by rw [List.length_take]; omega
          exact BordPost.mk' HC.out rfl e2 (HIN.out.take q) (by have := HN.out; omega) (chain HB.out HBB.out)
        · have hpI : ¬ (q : Int) < ((bord m).length : Int) := by omega
          go_wp2_with fail
          go_ret
          have e2 : (bord m).take q = bord m := List.take_of_length_le (by omega)
          exact BordPost.mk' HC.out e2 rfl HIN.out (by have := HN.out; omega) (chain HB.out HBB.out)

end Go.Proofs.Ytmfkcbanjlmmhaa
