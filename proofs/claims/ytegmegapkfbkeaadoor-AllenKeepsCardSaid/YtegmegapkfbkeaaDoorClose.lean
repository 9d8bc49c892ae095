/-
  The greatest closed net below what came in, as the program finds it: Close.
-/
import Derived.Test.YtegmegapkfbkeaaDoorPut
import Derived.WalkMore
import Derived.Deep.LoopGhost
namespace Go.Proofs.YtegmegapkfbkeaaDoor
open Go.RowKit

/-- While the net is closed. -/
structure CloseInv (w : World) (P G n : Nat) (N0 T : Nat → Nat) (wr : World) : Prop where
  net : NetAt wr P G n (n * n) T
  small : ∀ p, T p < 8192
  below : Le n T N0
  most : ∀ m, Good n m → Le n m N0 → Le n m T
  world : Below w.heap.size w wr
theorem CloseInv.step {w wr w' : World} {P G n : Nat} {N0 T : Nat → Nat} (h : CloseInv w P G n N0 T wr) (hb : Below wr.heap.size wr w') : CloseInv w P G n N0 T w' :=
  ⟨h.net.step hb, h.small, h.below, h.most, chain h.world hb⟩
theorem CloseInv.put {w wr w' : World} {P G n i k : Nat} {N0 T : Nat → Nat} (h : CloseInv w P G n N0 T wr) (hi : i < n) (hk : k < n) (hG : w.heap.size ≤ G) (hn : NetAt w' P G n (n * n) (putN n T i k (narN n T i k))) (hb : ∀ B, B ≤ G → Below B wr w') :
    CloseInv w P G n N0 (putN n T i k (narN n T i k)) w' :=
  ⟨hn, put_lt h.small (narTo_lt n T i k n), put_le h.small (nar_left n T i k) (nar_turn n T i k) h.below hi hk, fun m hm hl => put_keeps hm (h.most m hm hl) hi hk (nar_keeps hm (h.most m hm hl) hi hk), h.world.trans (hb _ hG)⟩

def FixTo (n : Nat) (T : Nat → Nat) (m : Nat) : Prop := ∀ i k, i < n → k < n → i * n + k < m → narN n T i k = T (i * n + k) ∧ T (i * n + k) ≠ 0
theorem FixTo.next {n i k : Nat} {T : Nat → Nat} (h : FixTo n T (i * n + k)) (hk : k < n) (h1 : narN n T i k = T (i * n + k)) (h2 : narN n T i k ≠ 0) : FixTo n T (i * n + (k + 1)) := fun i' k' hi' hk' hlt => by
  by_cases e : i' * n + k' = i * n + k
  · obtain ⟨rfl, rfl⟩ := place_inj hk' hk e
    exact ⟨h1, by rw [← h1]; exact h2⟩
  · exact h i' k' hi' hk' (by omega)

def CloseOut (w : World) (n : Nat) (N0 : Nat → Nat) (e : Ending) (w' : World) : Prop :=
  Below w.heap.size w w' ∧ ((∃ L g, e = .returned (.tuple #[.slice (some ⟨g, 0, none⟩) (n * n) (n * n), .bool true]) ∧ Arr w' g L (n * n) ∧ w.heap.size ≤ g ∧ Greatest n N0 L ∧ (∀ p, p < n * n → L p ≠ 0) ∧ ∀ p, L p < 8192) ∨
    (e = .returned (.tuple #[.slice none 0 0, .bool false]) ∧ ∃ i k, i < n ∧ k < n ∧ ∀ m, Good n m → Le n m N0 → m (i * n + k) = 0))

theorem ret_slice (A : Option Addr) (l c : Nat) (b : Bool) : Ending.returned (.tuple #[.slice A l c, .bool b]) = .returned (.tuple #[.slice A l c, .bool b]) := rfl

set_option maxRecDepth 100000 in
set_option maxHeartbeats 8000000 in
theorem close_ok (n : Nat) (hn : n ≤ 8) (A : Option Addr) (c : Nat) (zs : Nat → Int) (w : World) (hT : Tab w) (hI : Ints w A zs (n * n)) :
    Calls Tryd.prog 24 #[.int .i64 n, .slice A (n * n) c] w (CloseOut w n (fun p => low (zs p))) := by
  have m3 := mul_le64 hn hn
  have BG := Lib.hid (begin_any n (n * n) m3 A c zs w hT hI)
  have vn := wrap_mul hn hn
  have hnI : (n : Int) ≤ 8 := by omega
  clear hT hI
  obtain ⟨N, eN⟩ : ∃ N, n * n = N := ⟨_, rfl⟩
  have EN := Lib.hid eN
  rw [eN] at vn m3 BG ⊢
  clear eN
  go_enter Tryd.func24, Tryd.ntmps24
  go_wp2_with fail
  go_step3
  go_wp2_with fail
  (go_at_call 36; refine BG.out.mono ?_; rintro e w1 ⟨P, G, T, rfl, hN, hT, hP, hG, hb1⟩)
  have I0 : CloseInv w P G n (fun p => low (zs p)) (fun p => low (zs p)) w1 := ⟨by rw [EN.out]; exact hN.congr hT, fun p => low_lt _, fun _ _ _ _ => Sub.rfl' _, fun _ _ h => h, hb1⟩
  have I0 := Lib.hid I0
  clear hN hT hb1 BG
  go_wp2_with fail
  go_step3
  go_wp2_with fail
  go_loopg [] (sumTo (fun p => low (zs p)) N) (fun g wr => ∃ T, CloseInv w P G n (fun p => low (zs p)) T wr ∧ g = sumTo T N)
  case atStart => exact ⟨_, I0.out, rfl⟩
  case round =>
    obtain ⟨T, hI, rfl⟩ := hrel
    have HI := Lib.hid hI
    clear hI
    go_wp2_with fail
    go_loopg [28] n (fun g ii wr' => ∃ i : Nat, i ≤ n ∧ g = n - i ∧ ii = .int .i64 i ∧ CloseInv w P G n (fun p => low (zs p)) T wr' ∧ FixTo n T (i * n))
    case atStart => exact ⟨0, Nat.zero_le _, rfl, rfl, HI.out, fun _ _ _ _ h => by omega⟩
    case round =>
      obtain ⟨i, hi, rfl, rfl, hI, hF⟩ := hrel
      have HI2 := Lib.hid hI
      have HF2 := Lib.hid hF
      clear hI hF
      by_cases hlt : i < n
      · have hltI : (i : Int) < n := by omega
        go_wp2_with fail
        go_loopg [32] n (fun g kk wr' => ∃ k : Nat, k ≤ n ∧ g = n - k ∧ kk = .int .i64 k ∧ CloseInv w P G n (fun p => low (zs p)) T wr' ∧ FixTo n T (i * n + k))
        case atStart => exact ⟨0, Nat.zero_le _, rfl, rfl, HI2.out, HF2.out⟩
        case round =>
          obtain ⟨k, hk, rfl, rfl, hI, hF⟩ := hrel
          have HI3 := Lib.hid hI
          have HF3 := Lib.hid hF
          clear hI hF
          by_cases hlt2 : k < n
          · have hltJ : (k : Int) < n := by omega
            have NA := Lib.hid (narrow_any n i k P G T hn hlt hlt2 HI3.out.small wr HI3.out.net)
            go_wp2_with fail
            (go_at_call 37; refine NA.out.mono ?_; rintro e w3 ⟨rfl, hb3⟩)
            have HI4 := Lib.hid (HI3.out.step hb3)
            clear hb3
            by_cases hz : narN n T i k = 0
            · have HZ := Lib.hid hz
              rw [hz]
              clear hz
              go_wp2_with fail
              try rw [Exit.noGoto_ret]
              go_ret2
              exact ⟨HI4.out.world, .inr ⟨rfl, i, k, hlt, hlt2, fun m hm hl => by have := nar_keeps hm (HI4.out.most m hm hl) hlt hlt2; rw [HZ.out] at this; exact this.zero⟩⟩
            · have HZ := Lib.hid hz
              have z0 : ((narN n T i k : Int) == 0) = false := by simp; exact hz
              have l1 := place_lt hlt hlt2
              rw [EN.out] at l1
              have c1 := (HI4.out.net.sets.2 (i * n + k) (by rw [EN.out]; exact l1)).1
              have h1 := HI4.out.net.head.2
              rw [EN.out] at h1
              have v1 := wrap_mul (show i ≤ 8 by omega) hn
              have m1 := mul_le64 (show i ≤ 8 by omega) hn
              have v2 := wrap_add (show i * n ≤ 1000 by omega) (show k ≤ 1000 by omega)
              have lp : ((i * n + k : Nat) : Int) < (N : Int) := by omega
              have PU := Lib.hid (put_any n i k (narN n T i k) P G T hn hlt hlt2 w3 HI4.out.net)
              by_cases hq : narN n T i k = T (i * n + k)
              · have NX := Lib.hid (HF3.out.next hlt2 hq hz)
                have q0 : ((narN n T i k : Int) != (T (i * n + k) : Int)) = false := by rw [hq]; simp
                clear hz hq PU
                obtain ⟨x, hx⟩ : ∃ x, narN n T i k = x := ⟨_, rfl⟩
                rw [hx] at z0 q0 ⊢
                obtain ⟨p1, e1⟩ : ∃ p, i * n + k = p := ⟨_, rfl⟩
                rw [e1] at c1 v2 lp q0
                obtain ⟨y, hy⟩ : ∃ y, T p1 = y := ⟨_, rfl⟩
                rw [hy] at c1 q0
                obtain ⟨a1, f1⟩ : ∃ p, i * n = p := ⟨_, rfl⟩
                rw [f1] at v1 v2
                clear hx hy e1 f1 m1 l1
                go_wp2_with fail
                go_roundg (n - (k + 1))
                case measure => omega
                case rel => exact ⟨k + 1, by omega, rfl, by go_num, HI4.out, NX.out⟩
              · have DEC := Lib.hid (put_sum HI4.out.small hlt hlt2 hq)
                have q0 : ((narN n T i k : Int) != (T (i * n + k) : Int)) = true := by simp; omega
                clear hz hq
                obtain ⟨x, hx⟩ : ∃ x, narN n T i k = x := ⟨_, rfl⟩
                rw [hx] at z0 q0 ⊢
                have HX := Lib.hid hx
                rw [hx] at PU
                obtain ⟨p1, e1⟩ : ∃ p, i * n + k = p := ⟨_, rfl⟩
                rw [e1] at c1 v2 lp q0
                obtain ⟨y, hy⟩ : ∃ y, T p1 = y := ⟨_, rfl⟩
                rw [hy] at c1 q0
                obtain ⟨a1, f1⟩ : ∃ p, i * n = p := ⟨_, rfl⟩
                rw [f1] at v1 v2
                clear hx hy e1 f1 m1 l1
                go_wp2_with fail
                (go_at_call 38; refine PU.out.mono ?_; rintro e w4 ⟨rfl, hn4, hb4⟩)
                have HN4 := Lib.hid hn4
                have HB4 := Lib.hid hb4
                clear hn4 hb4
                go_wp2_with fail
                go_roundg (sumTo (putN n T i k (narN n T i k)) N)
                case measure => have := DEC.out; rw [EN.out] at this; exact this
                case rel => exact ⟨_, HI4.out.put hlt hlt2 hG (by rw [HX.out]; exact HN4.out) HB4.out, rfl⟩
          · obtain rfl : k = n := by omega
            go_wp2_with fail
            go_roundg (k - (i + 1))
            case measure => omega
            case rel => exact ⟨i + 1, by omega, rfl, by go_num, HI3.out, by rw [Nat.add_mul, Nat.one_mul]; exact HF3.out⟩
      · obtain rfl : i = n := by omega
        have h1 := HI2.out.net.head.2
        rw [EN.out] at h1
        go_wp2_with fail
        try rw [Exit.noGoto_ret]
        go_ret2
        have hall : ∀ a b, a < i → b < i → narN i T a b = T (a * i + b) ∧ T (a * i + b) ≠ 0 := fun a b ha hb => HF2.out a b ha hb (place_lt ha hb)
        refine ⟨HI2.out.world, .inl ⟨T, G, by rw [EN.out]; rfl, HI2.out.net.sets, hG, ⟨good_of_nar fun a b ha hb => (hall a b ha hb).1, HI2.out.below, HI2.out.most⟩, fun p hp => ?_, HI2.out.small⟩⟩
        obtain ⟨a, b, ha, hb, rfl⟩ := place_of hp
        exact (hall a b ha hb).2

end Go.Proofs.YtegmegapkfbkeaaDoor
