/-
  The program's Add and Sum: a text is gone over by halves of its bytes.
-/
import Derived.Test.YtdigbcglokjbjaaKtable
import Derived.Deep.WholeRow
namespace Go.Proofs.Ytdigbcglokjbjaa
open Go.RowKit

/-- A state behind half a byte. -/
def hb4 (x c : Nat) : Nat := zz 4 (x ^^^ c % 16)
theorem mod16_xor (a b : Nat) : (a ^^^ b) % 16 = a % 16 ^^^ b % 16 := Nat.xor_mod_two_pow (n := 4)
theorem hb4_split (x c : Nat) : x / 16 ^^^ zz 4 ((x % 256 ^^^ c) % 16) = hb4 x c := by
  unfold hb4
  rw [zz_split 4 (x ^^^ c % 16), show (2 : Nat) ^ 4 = 16 from rfl, mod16_xor, mod16_xor x, show x % 256 % 16 = x % 16 by omega, show c % 16 % 16 = c % 16 by omega]
  have e := Nat.xor_div_two_pow (a := x) (b := c % 16) (n := 4)
  rw [show (2 : Nat) ^ 4 = 16 from rfl, show c % 16 / 16 = 0 by omega, Nat.xor_zero] at e
  rw [e]
theorem hb4_lt {x c : Nat} (hx : x < 4294967296) : hb4 x c < 4294967296 := zz_lt 4 (Nat.xor_lt_two_pow (n := 32) hx (by omega))
theorem sb_halves {x c : Nat} (hc : c < 256) : hb4 (hb4 x c) (c / 16) = sb x c := by
  unfold hb4 sb
  rw [show c / 16 % 16 = c / 16 by omega]
  have e : c = (2 ^ 4 * (c / 16)) ^^^ (c % 16) := by
    rw [← xor_split 4 _ _ (Nat.mod_lt _ (by decide))]; omega
  have e2 : zz 4 (x ^^^ c) = zz 4 (x ^^^ c % 16) ^^^ c / 16 := by
    have := congrArg (fun v => zz 4 (x ^^^ v)) e
    rw [show zz 4 (x ^^^ c) = zz 4 (x ^^^ ((2 ^ 4 * (c / 16)) ^^^ (c % 16))) from this, Nat.xor_comm (2 ^ 4 * (c / 16)), ← Nat.xor_assoc, zz_xor, zz_pow]
  rw [← e2, ← zz_add]

/-- The table lies there. -/
def Tab16 (w : World) (T : Nat) : Prop := ∀ j, j < 16 → w.cell? ⟨T, j, none⟩ = some (.int .u32 ((zz 4 j : Nat) : Int))

set_option maxHeartbeats 4000000 in
set_option maxRecDepth 10000 in
theorem take_half (x c S T : Nat) (w : World) (hx : x < 4294967296) (hc : c < 256) (hS : w.cell? ⟨S, 0, none⟩ = some (.int .u32 (x : Int))) (fS : w.frozen? ⟨S, 0, none⟩ = false) (hT : Tab16 w T) :
    Calls Try.prog 20 #[.int .u8 (c : Int), .pointer (some ⟨S, 0, none⟩), .pointer (some ⟨T, 0, none⟩)] w fun e w' => e = .returned (.tuple #[]) ∧ w' = (w.setCell ⟨S, 0, none⟩ (.int .u32 ((hb4 x c : Nat) : Int))).drew := by
  have e0 : IntKind.u8.wrap (x : Int) = ((x % 256 : Nat) : Int) := by rw [IntKind.wrap_u8]; omega
  have e1 : bits .xor .u8 ((x % 256 : Nat) : Int) (c : Int) = ((x % 256 ^^^ c : Nat) : Int) := u8_xor_nat (x % 256) c (by omega) hc
  have ht := hT ((x % 256 ^^^ c) % 16) (by omega)
  have hz : zz 4 ((x % 256 ^^^ c) % 16) < 4294967296 := zz_lt 4 (by omega)
  have e2 : bits .xor .u32 ((x : Int) / 16) ((zz 4 ((x % 256 ^^^ c) % 16) : Nat) : Int) = ((hb4 x c : Nat) : Int) := by
    rw [← hb4_split, ← u32_xor_nat _ _ (by omega) hz]; congr 1
  have hl := hb4_lt (c := c) hx
  have hy : x % 256 ^^^ c < 256 := Nat.xor_lt_two_pow (n := 8) (by omega) hc
  generalize x % 256 ^^^ c = y at *
  generalize x % 256 = x8 at *
  generalize hb4 x c = z at *
  clear hT
  have d1 : Int.tmod (y : Int) 16 = ((y % 16 : Nat) : Int) := by rw [Int.tmod_eq_emod_of_nonneg (by omega)]; omega
  have d2 : (y : Int) % 16 = ((y % 16 : Nat) : Int) := by omega
  have hp : y % 16 < 16 := by omega
  have hpI : ((y % 16 : Nat) : Int) < 16 := by omega
  generalize y % 16 = p at *
  generalize zz 4 p = q at *
  go_enter Try.func20, Try.ntmps20
  go_still_tail 10, (by kernel_rfl)
  change wpList _ _ _ _ _ w.drew
  go_wp2_with fail
  go_end0
  exact ⟨rfl, rfl⟩

/-- The table as it lies behind the store. -/
theorem tab_in {w : World} {T : Nat} {t : TypeId} {fr : Nat × Nat} (h : w.heap[T]? = some (.cells tabA t fr)) : Tab16 w T := by
  intro j hj
  rw [cell_of_row w T j tabA t fr h]
  show tabV.toArray[j]? = _
  rw [List.getElem?_toArray]
  unfold tabV
  rw [List.getElem?_map, List.getElem?_range hj]
  rfl
theorem Tab16.below {w w' : World} {T B : Nat} (h : Tab16 w T) (hT : T < B) (hb : Below B w w') : Tab16 w' T := fun j hj => (hb.cell (p := ⟨T, j, none⟩) hT).trans (h j hj)
theorem Tab16.set {w : World} {T S : Nat} {v : Value} (h : Tab16 w T) (hn : S ≠ T) : Tab16 (w.setCell ⟨S, 0, none⟩ v) T := fun j hj => (World.cell?_setCell_other w _ _ _ (by simp [hn])).trans (h j hj)
/-- A store of the table into a new block. -/
theorem tab_store (w : World) : (storeCells ⟨w.heap.size, 0, none⟩ tabA.toList 0).run Try.prog (w.alloc (.cells noughts TT)) = .ok () (w.alloc (.cells tabA TT)) :=
  run_storeCells_new w TT noughts tabA Try.infoTT rfl tabA_all
theorem tab_at (w : World) (o : Obj) : ((w.alloc (.cells tabA TT)).alloc o).heap[w.heap.size]? = some (.cells tabA TT (0, 0)) := (Below.heap_alloc _ o _ (by simp)).trans (heap_alloc_new w _)
/-- The state's cell. -/
def St (w : World) (S x : Nat) : Prop := w.cell? ⟨S, 0, none⟩ = some (.int .u32 (x : Int)) ∧ w.frozen? ⟨S, 0, none⟩ = false
theorem St.set {w : World} {S x : Nat} (y : Nat) (h : St w S x) : St (w.setCell ⟨S, 0, none⟩ (.int .u32 (y : Int))) S y := ⟨World.cell?_setCell_same w _ _ h.1, by simpa [go_sem] using h.2⟩

theorem not32 {x : Nat} (hx : x < 4294967296) : bits .xor .u32 IntKind.u32.max (x : Int) = ((x ^^^ all1 : Nat) : Int) := by
  rw [Nat.xor_comm]
  exact u32_xor_nat all1 x (by decide) hx

set_option maxHeartbeats 4000000 in
set_option maxRecDepth 10000 in
theorem add_any (n : Int) (hn : isI n) (s : ByteArray) (hs : s.size ≤ 1000000) (w : World) : Ret 11 #[.int .i64 n, .string s] w (.int .i64 ((addN (lo n) (nats s) : Nat) : Int)) := by
  obtain ⟨N, hN⟩ : ∃ N, s.size = N := ⟨_, rfl⟩
  have HN := Lib.hid hN
  have e0 := lo_wrap n
  have hlo := lo_lt n
  generalize lo n = m at *
  have en := not32 hlo
  have HR := Lib.hid (show addN m (nats s) = runN (m ^^^ all1) (nats s) ^^^ all1 from rfl)
  have hx0 : m ^^^ all1 < 4294967296 := Nat.xor_lt_two_pow (n := 32) hlo (by decide)
  generalize m ^^^ all1 = x0 at *
  have HST := Lib.hid (fun w => tab_store w)
  have HSZ := Lib.hid tabA_size
  have CT := Lib.hid (fun w => table_any w)
  have hmf : ∀ (fn : Fn) (first cap : Array Value) (w : World), (Instr.makeFunc fn first cap).run Try.prog w = .ok (.func fn first cap) w := fun _ _ _ _ => rfl
  go_enter Try.func11, Try.ntmps11
  go_wp2_with (first
    | (go_at_call 19; with_reducible refine (CT.out _).mono ?_; rintro e w1 ⟨rfl, hb1⟩; have hst := HST.out w1; unfold noughts at hst))
  have HB1 := Lib.hid hb1
  go_loopw [16] (fun i wr => ∃ k X : Nat, k ≤ N ∧ i = .int .i64 k ∧ runN x0 ((nats s).take k) = X ∧ X < 4294967296 ∧ St wr (w1.heap.size + 1) X ∧ Tab16 wr w1.heap.size ∧ Below w.heap.size w wr) (fun i _ => N - (intOf i).toNat)
  case atStart =>
    refine ⟨0, x0, Nat.zero_le _, rfl, rfl, hx0, ⟨by simp [go_sem], by simp [go_sem]⟩, ?_, ((HB1.out.alloc HB1.out.size _).alloc (by simp; exact Nat.le_succ_of_le HB1.out.size) _)⟩
    exact tab_in (tab_at w1 _)
  case round =>
    obtain ⟨k, X, hk, rfl, hX, hXl, hSt, hTb, hB⟩ := hrel
    have HSt := Lib.hid hSt
    have HTb := Lib.hid hTb
    have HBr := Lib.hid hB
    clear hSt hTb hB
    by_cases hlt : k < N
    · have hlt' : (k : Int) < (N : Int) := by omega
      obtain ⟨c, hc⟩ : ∃ c, (nats s)[k]? = some c := ⟨_, List.getElem?_eq_getElem (by rw [nats_length]; omega)⟩
      have hc256 := nats_lt s c (List.mem_of_getElem? hc)
      have hi := index_run hc
      have NX := Lib.hid (show runN x0 ((nats s).take (k + 1)) = hb4 (hb4 X c) (c / 16) by
        rw [sb_halves hc256, List.take_add_one, hc, Option.toList_some, runN_append, hX]; rfl)
      have hdc : (c : Int) / 16 = ((c / 16 : Nat) : Int) := by omega
      have HC1 := Lib.hid (take_half X c (w1.heap.size + 1) w1.heap.size wr hXl hc256 HSt.out.1 HSt.out.2 HTb.out)
      have hY := hb4_lt (c := c) hXl
      generalize hb4 X c = Y at *
      have HS2 := Lib.hid (HSt.out.set Y)
      have HT2 := Lib.hid (HTb.out.set (S := w1.heap.size + 1) (v := .int .u32 (Y : Int)) (by omega))
      have HD2 := Lib.hid (HBr.out.setCell (p := ⟨w1.heap.size + 1, 0, none⟩) (Nat.le_succ_of_le HB1.out.size) (.int .u32 (Y : Int)))
      generalize wr.setCell ⟨w1.heap.size + 1, 0, none⟩ (.int .u32 (Y : Int)) = wY at *
      have HC2 := Lib.hid (take_half Y (c / 16) (w1.heap.size + 1) w1.heap.size wY.drew hY (by omega) HS2.out.1 HS2.out.2 HT2.out)
      have NZ := Lib.hid (hb4_lt (c := c / 16) hY)
      have HS3 := Lib.hid (St.set (w := wY.drew) (hb4 Y (c / 16)) HS2.out)
      have HT3 := Lib.hid (Tab16.set (w := wY.drew) (S := w1.heap.size + 1) (v := .int .u32 ((hb4 Y (c / 16) : Nat) : Int)) HT2.out (by omega))
      have HD3 := Lib.hid (HD2.out.drew.setCell (p := ⟨w1.heap.size + 1, 0, none⟩) (Nat.le_succ_of_le HB1.out.size) (.int .u32 ((hb4 Y (c / 16) : Nat) : Int)))
      generalize hb4 Y (c / 16) = Z at *
      generalize wY.drew.setCell ⟨w1.heap.size + 1, 0, none⟩ (.int .u32 (Z : Int)) = wZ at *
      clear hc hX
      generalize c / 16 = q at *
      go_wp2_with (first
        | (go_at_call 20; with_reducible refine HC1.out.mono ?_; rintro e w2 ⟨rfl, rfl⟩)
        | (go_at_call 20; with_reducible refine HC2.out.mono ?_; rintro e w2 ⟨rfl, rfl⟩))
      exact ⟨⟨k + 1, Z, by omega, by go_num, NX.out, NZ.out, HS3.out, HT3.out, HD3.out.drew⟩, by simp [intOf] <;> omega⟩
    · obtain rfl : k = N := by omega
      have hlt' : ¬ (k : Int) < (k : Int) := by omega
      have hall : (nats s).take k = nats s := List.take_of_length_le (by rw [nats_length, HN.out]; exact Nat.le_refl _)
      have e2 := not32 hXl
      have HE := Lib.hid (show addN m (nats s) = X ^^^ all1 by rw [HR.out, ← hX, hall])
      have hz : X ^^^ all1 < 4294967296 := Nat.xor_lt_two_pow (n := 32) hXl (by decide)
      clear hall hX
      generalize X ^^^ all1 = z at *
      obtain ⟨c0, f0⟩ := HSt.out
      go_wp2_with fail
      go_ret
      exact ⟨ret_int (by rw [HE.out]), HBr.out⟩

end Go.Proofs.Ytdigbcglokjbjaa
