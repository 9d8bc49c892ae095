/-
  Texts joined into one: what the program's and the document's calls give back, piece by piece.
-/
import Derived.Shelf.Strings.Builder1
import Derived.Shelf.Small.Bits
import Derived.Test.YtmieonfdenjedaaDoorProg
import Derived.Laws.BytesArg
import Derived.Laws.Strings
import Derived.Test.YtmieonfdenjedaaDoorRows
import Derived.BigQuiet
import Derived.ChangeAlike
import Derived.ChangeKeysEq
import Derived.Deep.AppendLies
import Derived.Deep.CutBlock
import Derived.Deep.CutRange
import Derived.Deep.Light
import Derived.Deep.QuietTactic
import Derived.Deep.RegionHeld3
import Derived.Handy
import Derived.Laws.OwnMore
import Derived.Lib.Hide
import Derived.Maps.AppendAt
import Derived.OneCell
import Derived.OwnWalk
import Derived.RegionTactic
import Derived.StillTailTactics
import Derived.WalkArith
import Derived.WalkKit
import Derived.WalkLawsBesides
import Derived.WalkSpells
import Derived.Deep.RegionLaw
import Derived.Laws.StructEq

/-
  What library functions do, as contracts of this program: each is one application of the shelf's contract.
-/
namespace Go.Proofs
open Go.Shelf
def Tryd.lays169_ren : Go.Shelf.Ren := ⟨fun | 169 => 52 | n => n, fun | 70 => 75 | 9 => 9 | 0 => 0 | 72 => 78 | 37 => 76 | 127 => 105 | 3 => 3 | 5 => 5 | n => n, fun | n => n⟩
theorem Tryd.lays169 : Go.Proofs.Lays.n169 Tryd.prog Tryd.lays169_ren := {
  mixed := by kernel_rfl
  f169 := Tryd.func52.trans (congrArg some (by kernel_rfl))
  t0 := Tryd.underlying0
  a0 := Tryd.isAgg0
  z0 := Tryd.sizeOf0
  v0 := Tryd.zeroValue0
  t3 := Tryd.underlying3
  a3 := Tryd.isAgg3
  z3 := Tryd.sizeOf3
  v3 := Tryd.zeroValue3
  t9 := Tryd.underlying9
  a9 := Tryd.isAgg9
  z9 := Tryd.sizeOf9
  v9 := Tryd.zeroValue9
  t37 := Tryd.underlying76
  a37 := Tryd.isAgg76
  z37 := Tryd.sizeOf76
  v37 := Tryd.zeroValue76
  t70 := Tryd.underlying75
  a70 := Tryd.isAgg75
  z70 := Tryd.sizeOf75
  v70 := Tryd.zeroValue75
  t72 := Tryd.underlying78
  a72 := Tryd.isAgg78
  z72 := Tryd.sizeOf78
  v72 := Tryd.zeroValue78
  t127 := Tryd.underlying105
  a127 := Tryd.isAgg105
  z127 := Tryd.sizeOf105
  v127 := Tryd.zeroValue105 }
theorem Tryd.Builder_Extra_169 : Builder.Extra Tryd.prog Tryd.lays169_ren := {
  sizeBuilder := by kernel_rfl
  liesBuilder := by kernel_rfl
  t5 := Tryd.underlying5
  a5 := Tryd.isAgg5
  z5 := Tryd.sizeOf5
  v5 := Tryd.zeroValue5
  infoByte := by kernel_rfl
  cellsByte := by kernel_rfl
  sizeByte := by kernel_rfl
  neB5 := by decide }
open Go.RowKit in
/-- (*strings.Builder).String: "String returns the accumulated string.": OF A BUILDER THAT HOLDS AT LEAST ONE BYTE. ✋ THE MODEL FREEZES THOSE BYTES IN THE BUFFER (unsafe.String): a later write INTO them ends the model's run without an answer; a later append BEHIND them goes on. The statement's order of evaluation is drawn: one draw. (LAID: no walk: one application.) -/
theorem Tryd.Builder_String (B b : Nat) (l : List UInt8) (w : World) (h : Lib.IsBuilder 78 5 B b (Lib.byteCells l) w) (h0 : l ≠ []) :
    Calls Tryd.prog 52 #[.pointer (some ⟨b, 0, none⟩)] w fun e w' => e = .returned (.string ⟨l.toArray⟩) ∧ Below B w w' := Any.Builder_String Tryd.lays169 Tryd.Builder_Extra_169 B b l w h h0
open Go.RowKit in
/-- (*strings.Builder).String OF A BUILDER THAT HOLDS NO BYTE: the empty string. (Its buffer is nil, or a row of which it has taken nothing yet; where that row has NO capacity the model lays one new block for unsafe.SliceData's 'some address'.) One draw. (LAID: no walk: one application.) -/
theorem Tryd.Builder_String_empty (B b : Nat) (w : World) (h : Lib.IsBuilder 78 5 B b [] w) (hBw : B ≤ w.heap.size) :
    Calls Tryd.prog 52 #[.pointer (some ⟨b, 0, none⟩)] w fun e w' => e = .returned (.string ⟨#[]⟩) ∧ Below B w w' := Any.Builder_String_empty Tryd.lays169 Tryd.Builder_Extra_169 B b w h hBw
open Go.RowKit in
/-- (*strings.Builder).String: "String returns the accumulated string.": WHATEVER THE BUILDER HOLDS. (LAID: no walk: one application.) -/
theorem Tryd.Builder_String_any (B b : Nat) (l : List UInt8) (w : World) (h : Lib.IsBuilder 78 5 B b (Lib.byteCells l) w) (hBw : B ≤ w.heap.size) :
    Calls Tryd.prog 52 #[.pointer (some ⟨b, 0, none⟩)] w fun e w' => e = .returned (.string ⟨l.toArray⟩) ∧ Below B w w' := Any.Builder_String_any Tryd.lays169 Tryd.Builder_Extra_169 B b l w h hBw
def Tryd.lays126_ren : Go.Shelf.Ren := ⟨fun | 126 => 79 | n => n, fun | 5 => 5 | 3 => 3 | 9 => 9 | n => n, fun | n => n⟩
theorem Tryd.lays126 : Go.Proofs.Lays.n126 Tryd.prog Tryd.lays126_ren := {
  mixed := by kernel_rfl
  f126 := Tryd.func79.trans (congrArg some (by kernel_rfl))
  t3 := Tryd.underlying3
  a3 := Tryd.isAgg3
  z3 := Tryd.sizeOf3
  v3 := Tryd.zeroValue3
  t5 := Tryd.underlying5
  a5 := Tryd.isAgg5
  z5 := Tryd.sizeOf5
  v5 := Tryd.zeroValue5
  t9 := Tryd.underlying9
  a9 := Tryd.isAgg9
  z9 := Tryd.sizeOf9
  v9 := Tryd.zeroValue9 }
/-- bits.Len8: "Len8 returns the minimum number of bits required to represent x; the result is 0 for x == 0.": IT RETURNS 'Lib.bitLen x'; the world is as it was. ('h0', 'h1': x is a uint8.) (LAID: no walk: one application.) -/
theorem Tryd.bits_Len8 (x : Int) (w : World) (h0 : 0 ≤ x) (h1 : x ≤ 255) :
    Calls Tryd.prog 79 #[.int .u8 x] w fun e w' => e = .returned (.int .i64 (Lib.bitLen x.toNat)) ∧ w' = w := Any.bits_Len8 Tryd.lays126 x w h0 h1
def Tryd.lays131_ren : Go.Shelf.Ren := ⟨fun | 131 => 72 | 126 => 79 | n => n, fun | 5 => 5 | 3 => 3 | 9 => 9 | n => n, fun | n => n⟩
theorem Tryd.lays131 : Go.Proofs.Lays.n131 Tryd.prog Tryd.lays131_ren := {
  mixed := by kernel_rfl
  f126 := Tryd.func79.trans (congrArg some (by kernel_rfl))
  f131 := Tryd.func72.trans (congrArg some (by kernel_rfl))
  t3 := Tryd.underlying3
  a3 := Tryd.isAgg3
  z3 := Tryd.sizeOf3
  v3 := Tryd.zeroValue3
  t5 := Tryd.underlying5
  a5 := Tryd.isAgg5
  z5 := Tryd.sizeOf5
  v5 := Tryd.zeroValue5
  t9 := Tryd.underlying9
  a9 := Tryd.isAgg9
  z9 := Tryd.sizeOf9
  v9 := Tryd.zeroValue9 }
/-- bits.LeadingZeros8: "LeadingZeros8 returns the number of leading zero bits in x; the result is 8 for x == 0.": IT RETURNS '8 - Lib.bitLen x'; the world is as it was. ITS CALLEE bits.Len8 IS MET BY ITS OWN CONTRACT OFF THE SHELF (lay that first): ENTERED IN PLACE it sends the kernel out of memory. (LAID: no walk: one application.) -/
theorem Tryd.bits_LeadingZeros8 (x : Int) (w : World) (h0 : 0 ≤ x) (h1 : x ≤ 255) :
    Calls Tryd.prog 72 #[.int .u8 x] w fun e w' => e = .returned (.int .i64 (8 - (Lib.bitLen x.toNat : Int))) ∧ w' = w := Any.bits_LeadingZeros8 Tryd.lays131 x w h0 h1
end Go.Proofs

/-
  Plain facts on numbers as bytes: how many bytes a number has, which ones they are, that they are taken as it, and their order.
-/
namespace Go.Proofs.YtmieonfdenjedaaDoor

/-- How many bytes stand behind the first one. -/
def kN (n : Nat) : Nat :=
  if n < 128 then 0 else if n < 16384 then 1 else if n < 2097152 then 2 else if n < 268435456 then 3 else if n < 34359738368 then 4
  else if n < 4398046511104 then 5 else if n < 562949953421312 then 6 else if n < 72057594037927936 then 7 else 8
/-- The first byte's mark. -/
def mark : Nat → Nat
  | 0 => 0 | 1 => 128 | 2 => 192 | 3 => 224 | 4 => 240 | 5 => 248 | 6 => 252 | 7 => 254 | _ => 255
/-- The lowest k bytes of a number, the highest first. -/
def be : Nat → Nat → List Nat
  | 0, _ => []
  | k + 1, n => (n / 256 ^ k % 256) :: be k n
/-- The first byte. -/
def topB (n : Nat) : Nat := mark (kN n) + n / 256 ^ kN n
def enc (n : Nat) : List Nat := topB n :: be (kN n) n
/-- The number that bytes are. -/
def val : List Nat → Nat
  | [] => 0
  | b :: l => b * 256 ^ l.length + val l
/-- How many bytes a first byte begins. -/
def ones (c : Nat) : Nat := if c < 128 then 0 else if c < 192 then 1 else if c < 224 then 2 else if c < 240 then 3 else if c < 248 then 4 else if c < 252 then 5 else if c < 254 then 6 else if c < 255 then 7 else 8

theorem kN_cases (n : Nat) : (n < 128 ∧ kN n = 0) ∨ (128 ≤ n ∧ n < 16384 ∧ kN n = 1) ∨ (16384 ≤ n ∧ n < 2097152 ∧ kN n = 2) ∨ (2097152 ≤ n ∧ n < 268435456 ∧ kN n = 3) ∨ (268435456 ≤ n ∧ n < 34359738368 ∧ kN n = 4) ∨ (34359738368 ≤ n ∧ n < 4398046511104 ∧ kN n = 5) ∨ (4398046511104 ≤ n ∧ n < 562949953421312 ∧ kN n = 6) ∨ (562949953421312 ≤ n ∧ n < 72057594037927936 ∧ kN n = 7) ∨ (72057594037927936 ≤ n ∧ kN n = 8) := by
  unfold kN
  by_cases h0 : n < 128
  · rw [if_pos h0]; omega
  by_cases h1 : n < 16384
  · rw [if_neg h0, if_pos h1]; omega
  by_cases h2 : n < 2097152
  · rw [if_neg h0, if_neg h1, if_pos h2]; omega
  by_cases h3 : n < 268435456
  · rw [if_neg h0, if_neg h1, if_neg h2, if_pos h3]; omega
  by_cases h4 : n < 34359738368
  · rw [if_neg h0, if_neg h1, if_neg h2, if_neg h3, if_pos h4]; omega
  by_cases h5 : n < 4398046511104
  · rw [if_neg h0, if_neg h1, if_neg h2, if_neg h3, if_neg h4, if_pos h5]; omega
  by_cases h6 : n < 562949953421312
  · rw [if_neg h0, if_neg h1, if_neg h2, if_neg h3, if_neg h4, if_neg h5, if_pos h6]; omega
  by_cases h7 : n < 72057594037927936
  · rw [if_neg h0, if_neg h1, if_neg h2, if_neg h3, if_neg h4, if_neg h5, if_neg h6, if_pos h7]; omega
  rw [if_neg h0, if_neg h1, if_neg h2, if_neg h3, if_neg h4, if_neg h5, if_neg h6, if_neg h7]; omega
theorem ones_cases (c : Nat) : (c < 128 ∧ ones c = 0) ∨ (128 ≤ c ∧ c < 192 ∧ ones c = 1) ∨ (192 ≤ c ∧ c < 224 ∧ ones c = 2) ∨ (224 ≤ c ∧ c < 240 ∧ ones c = 3) ∨ (240 ≤ c ∧ c < 248 ∧ ones c = 4) ∨ (248 ≤ c ∧ c < 252 ∧ ones c = 5) ∨ (252 ≤ c ∧ c < 254 ∧ ones c = 6) ∨ (254 ≤ c ∧ c < 255 ∧ ones c = 7) ∨ (255 ≤ c ∧ ones c = 8) := by
  unfold ones
  by_cases h0 : c < 128
  · rw [if_pos h0]; omega
  by_cases h1 : c < 192
  · rw [if_neg h0, if_pos h1]; omega
  by_cases h2 : c < 224
  · rw [if_neg h0, if_neg h1, if_pos h2]; omega
  by_cases h3 : c < 240
  · rw [if_neg h0, if_neg h1, if_neg h2, if_pos h3]; omega
  by_cases h4 : c < 248
  · rw [if_neg h0, if_neg h1, if_neg h2, if_neg h3, if_pos h4]; omega
  by_cases h5 : c < 252
  · rw [if_neg h0, if_neg h1, if_neg h2, if_neg h3, if_neg h4, if_pos h5]; omega
  by_cases h6 : c < 254
  · rw [if_neg h0, if_neg h1, if_neg h2, if_neg h3, if_neg h4, if_neg h5, if_pos h6]; omega
  by_cases h7 : c < 255
  · rw [if_neg h0, if_neg h1, if_neg h2, if_neg h3, if_neg h4, if_neg h5, if_neg h6, if_pos h7]; omega
  rw [if_neg h0, if_neg h1, if_neg h2, if_neg h3, if_neg h4, if_neg h5, if_neg h6, if_neg h7]; omega
theorem kN_le (n : Nat) : kN n ≤ 8 := by have := kN_cases n; omega
theorem be_length : ∀ k n, (be k n).length = k
  | 0, _ => rfl
  | k + 1, n => by simp [be, be_length k n]
theorem enc_length (n : Nat) : (enc n).length = kN n + 1 := by simp [enc, be_length]
theorem be_lt : ∀ k n, ∀ b ∈ be k n, b < 256
  | 0, _ => by simp [be]
  | k + 1, n => by
    intro b hb
    rcases List.mem_cons.1 hb with rfl | h
    · exact Nat.mod_lt _ (by decide)
    · exact be_lt k n b h
theorem pow_pos' (k : Nat) : 0 < 256 ^ k := Nat.pow_pos (by decide)
theorem be_mod : ∀ k b m, be k (b * 256 ^ k + m) = be k m
  | 0, _, _ => rfl
  | k + 1, b, m => by
    have e : b * 256 ^ (k + 1) + m = (b * 256) * 256 ^ k + m := by rw [Nat.pow_succ, Nat.mul_comm (256 ^ k) 256, ← Nat.mul_assoc]
    rw [be, be, e, be_mod k (b * 256) m, Nat.mul_comm (b * 256) (256 ^ k), Nat.mul_add_div (pow_pos' k), Nat.add_comm, Nat.add_mul_mod_self_right]
theorem val_be : ∀ k n, val (be k n) = n % 256 ^ k
  | 0, n => by simp [be, val, Nat.mod_one]
  | k + 1, n => by
    rw [be, val, be_length, val_be k n, Nat.mod_pow_succ, Nat.mul_comm (n / 256 ^ k % 256)]
    omega
theorem val_lt : ∀ l : List Nat, (∀ b ∈ l, b < 256) → val l < 256 ^ l.length
  | [], _ => by simp [val]
  | b :: l, h => by
    have h1 := val_lt l fun c hc => h c (by simp [hc])
    have h2 := h b (by simp)
    rw [val, List.length_cons, Nat.pow_succ]
    have h3 : b * 256 ^ l.length + 256 ^ l.length ≤ 256 * 256 ^ l.length := by
      rw [← Nat.succ_mul]; exact Nat.mul_le_mul_right _ h2
    rw [Nat.mul_comm (256 ^ l.length)]
    omega
theorem be_val : ∀ l : List Nat, (∀ b ∈ l, b < 256) → be l.length (val l) = l
  | [], _ => rfl
  | b :: l, h => by
    have h1 := val_lt l fun c hc => h c (by simp [hc])
    have h2 := h b (by simp)
    rw [List.length_cons, be, val, be_mod, be_val l fun c hc => h c (by simp [hc]), Nat.mul_comm b, Nat.mul_add_div (pow_pos' _), Nat.div_eq_of_lt h1, Nat.add_zero, Nat.mod_eq_of_lt h2]

/- The first byte of each size. -/
theorem topB_of {n k : Nat} (h : kN n = k) : topB n = mark k + n / 256 ^ k := by rw [topB, h]
theorem topB_range {n : Nat} (hn : n < 4611686018427387904) : mark (kN n) ≤ topB n ∧ topB n < 256 ∧ ones (topB n) = kN n ∧ n / 256 ^ kN n < 128 := by
  have h := kN_cases n
  unfold topB
  rcases h with h | h | h | h | h | h | h | h | h
  all_goals
    obtain ⟨k, hk⟩ : ∃ k, kN n = k := ⟨_, rfl⟩
    have e : k = k := rfl
    simp only [hk] at h ⊢
    obtain rfl : k = _ := by first | exact h.2.2 | exact h.2
    simp only [mark, Nat.pow_zero, Nat.div_one, Nat.reducePow]
    refine ⟨by omega, by omega, ?_, by omega⟩
    refine (fun (c : Nat) (lo : _) => ?_) (0 : Nat) trivial
    have := ones_cases (mark (kN n) + n / 256 ^ kN n)
    simp only [hk, mark, Nat.pow_zero, Nat.div_one, Nat.reducePow] at this
    omega
theorem mark_mono {k k' : Nat} (h : k < k') (h' : k' ≤ 8) : mark k < mark k' := by
  have key : ∀ k', k' ≤ 8 → ∀ k, k < k' → mark k < mark k' := by decide
  exact key k' h' k h
theorem ones_mono {c d : Nat} (h : c ≤ d) : ones c ≤ ones d := by
  have h1 := ones_cases c
  have h2 := ones_cases d
  omega
theorem kN_mono {n m : Nat} (h : n ≤ m) : kN n ≤ kN m := by
  have h1 := kN_cases n
  have h2 := kN_cases m
  omega

/-- Somewhere the first one is less, and ahead of that both are one. -/
def Diff (l m : List Nat) : Prop := ∃ p x y l' m', l = p ++ x :: l' ∧ m = p ++ y :: m' ∧ x < y
theorem Diff.cons {l m : List Nat} (b : Nat) (h : Diff l m) : Diff (b :: l) (b :: m) := by
  obtain ⟨p, x, y, l', m', rfl, rfl, h⟩ := h
  exact ⟨b :: p, x, y, l', m', rfl, rfl, h⟩
theorem be_diff : ∀ k n m, n % 256 ^ k < m % 256 ^ k → Diff (be k n) (be k m)
  | 0, n, m, h => by simp [Nat.mod_one] at h
  | k + 1, n, m, h => by
    rw [Nat.mod_pow_succ, Nat.mod_pow_succ] at h
    rw [be, be]
    rcases Nat.lt_trichotomy (n / 256 ^ k % 256) (m / 256 ^ k % 256) with h1 | h1 | h1
    · exact ⟨[], _, _, _, _, rfl, rfl, h1⟩
    · rw [h1] at h ⊢
      exact (be_diff k n m (by omega)).cons _
    · exfalso
      have h2 : 256 ^ k * (m / 256 ^ k % 256) + 256 ^ k ≤ 256 ^ k * (n / 256 ^ k % 256) := by
        rw [← Nat.mul_succ]; exact Nat.mul_le_mul_left _ h1
      have h3 := Nat.mod_lt n (pow_pos' k)
      have h4 := Nat.mod_lt m (pow_pos' k)
      omega
/-- Of two numbers the lesser one's bytes are less, and neither begins with the other one's. -/
theorem enc_diff {n m : Nat} (h : n < m) (hm : m < 4611686018427387904) : Diff (enc n) (enc m) := by
  have rn := topB_range (n := n) (by omega)
  have rm := topB_range hm
  unfold enc
  rcases Nat.lt_or_ge (kN n) (kN m) with h1 | h1
  · refine ⟨[], _, _, _, _, rfl, rfl, ?_⟩
    rcases Nat.lt_or_ge (topB n) (topB m) with h2 | h2
    · exact h2
    · have := ones_mono h2
      omega
  · have hk : kN n = kN m := Nat.le_antisymm (kN_mono (Nat.le_of_lt h)) h1
    rw [topB_of hk, topB_of rfl, hk]
    have hd := Nat.div_le_div_right (c := 256 ^ kN m) (Nat.le_of_lt h)
    rcases Nat.lt_or_ge (n / 256 ^ kN m) (m / 256 ^ kN m) with h2 | h2
    · exact ⟨[], _, _, _, _, rfl, rfl, by omega⟩
    · have he : n / 256 ^ kN m = m / 256 ^ kN m := Nat.le_antisymm hd h2
      rw [he]
      refine (be_diff _ _ _ ?_).cons _
      have e1 := Nat.div_add_mod n (256 ^ kN m)
      have e2 := Nat.div_add_mod m (256 ^ kN m)
      rw [he] at e1
      omega

/- Taking. -/
/-- The number that a first byte, and those behind it, make. -/
def takeV (c : Nat) (r : List Nat) : Nat := (c - mark (ones c)) * 256 ^ ones c + val (r.take (ones c))
theorem mark_ones {c : Nat} : mark (ones c) ≤ c := by
  have key : ∀ k, k ≤ 8 → ∀ c, ones c = k → mark k ≤ c := by
    intro k hk c hc
    have h := ones_cases c
    rw [hc] at h
    have hk' : k = 0 ∨ k = 1 ∨ k = 2 ∨ k = 3 ∨ k = 4 ∨ k = 5 ∨ k = 6 ∨ k = 7 ∨ k = 8 := by omega
    rcases hk' with rfl | rfl | rfl | rfl | rfl | rfl | rfl | rfl | rfl <;> simp only [mark] <;> omega
  exact key _ (by have := ones_cases c; omega) c rfl
theorem takeV_enc {n : Nat} (hn : n < 4611686018427387904) (rest : List Nat) : takeV (topB n) (be (kN n) n ++ rest) = n := by
  obtain ⟨h1, _, h3, _⟩ := topB_range hn
  rw [takeV, h3, List.take_append_of_le_length (by rw [be_length]; omega), List.take_of_length_le (by rw [be_length]; omega), val_be, topB]
  have := Nat.div_add_mod n (256 ^ kN n)
  rw [Nat.add_sub_cancel_left, Nat.mul_comm]
  exact this
/-- What is taken is laid as the same bytes, just if no fewer would do. -/
theorem enc_takeV {c : Nat} {r : List Nat} (hr : ∀ b ∈ r, b < 256) (hl : ones c ≤ r.length) (hk : kN (takeV c r) = ones c) : enc (takeV c r) = c :: r.take (ones c) := by
  have hlen : (r.take (ones c)).length = ones c := by rw [List.length_take]; omega
  have hb : ∀ b ∈ r.take (ones c), b < 256 := fun b hb => hr b (List.mem_of_mem_take hb)
  have hv := val_lt _ hb
  rw [hlen] at hv
  have e2 := be_val _ hb
  rw [hlen] at e2
  rw [enc, topB, hk]
  have hm := mark_ones (c := c)
  have e1 : takeV c r / 256 ^ ones c = c - mark (ones c) := by
    rw [takeV, Nat.mul_comm, Nat.mul_add_div (pow_pos' _), Nat.div_eq_of_lt hv, Nat.add_zero]
  rw [e1, show mark (ones c) + (c - mark (ones c)) = c from by omega]
  congr 1
  rw [takeV, be_mod, e2]
theorem enc_takeV_iff {c : Nat} {r : List Nat} (hr : ∀ b ∈ r, b < 256) (hl : ones c ≤ r.length) : enc (takeV c r) = c :: r.take (ones c) ↔ kN (takeV c r) = ones c := by
  refine ⟨fun h => ?_, enc_takeV hr hl⟩
  have := congrArg List.length h
  rw [enc_length, List.length_cons, List.length_take] at this
  omega

end Go.Proofs.YtmieonfdenjedaaDoor

/-
  Plain facts on bits: a number's bytes, laid bit by bit.
-/
namespace Go.Proofs.YtmieonfdenjedaaDoor

/-- All bits of a number's bytes: its own, and the mark's. -/
def whole (n : Nat) : Nat := mark (kN n) * 256 ^ kN n + n
def bitAt (v i : Nat) : Nat := v / 2 ^ i % 2
theorem whole_be {n : Nat} (hn : n < 4611686018427387904) : be (kN n + 1) (whole n) = enc n := by
  obtain ⟨_, h2, _, _⟩ := topB_range hn
  rw [be, enc, whole, be_mod, Nat.mul_comm (mark (kN n)), Nat.mul_add_div (pow_pos' _), ← topB]
  rw [Nat.mod_eq_of_lt h2]
theorem p256 (p : Nat) : 256 ^ p = 2 ^ (8 * p) := by rw [Nat.pow_mul]
theorem be_get : ∀ (k n j : Nat), j < k → (be k n)[j]? = some (n / 256 ^ (k - 1 - j) % 256)
  | 0, _, _, h => by omega
  | k + 1, n, 0, _ => by simp [be]
  | k + 1, n, j + 1, h => by
    rw [be, List.getElem?_cons_succ, be_get k n j (by omega)]
    congr 4
    omega
theorem two_pos (i : Nat) : 0 < 2 ^ i := Nat.pow_pos (by decide)
/-- One more bit changes one byte. -/
theorem be_step {K w i : Nat} (hw : w < 2 ^ i) (hi : i < 8 * K) : be K (w + 2 ^ i) = (be K w).set (K - 1 - i / 8) (w / 256 ^ (i / 8) % 256 + 2 ^ (i % 8)) ∧ w / 256 ^ (i / 8) % 256 + 2 ^ (i % 8) < 256 := by
  have hsplit : 2 ^ i = 256 ^ (i / 8) * 2 ^ (i % 8) := by
    rw [p256, ← Nat.pow_add]; congr 1; omega
  have hlow : w / 256 ^ (i / 8) < 2 ^ (i % 8) := by
    rw [Nat.div_lt_iff_lt_mul (pow_pos' _), Nat.mul_comm, ← hsplit]; exact hw
  have h8 : 2 ^ (i % 8) * 2 ≤ 256 := by
    have : i % 8 < 8 := Nat.mod_lt _ (by decide)
    have key : ∀ r, r < 8 → 2 ^ r * 2 ≤ 256 := by decide
    exact key _ this
  have hm : w / 256 ^ (i / 8) % 256 = w / 256 ^ (i / 8) := Nat.mod_eq_of_lt (by omega)
  refine ⟨?_, by rw [hm]; omega⟩
  apply List.ext_getElem?
  intro j
  rcases Nat.lt_or_ge j K with hj | hj
  · rw [be_get K _ j hj]
    rcases Nat.lt_trichotomy (K - 1 - j) (i / 8) with h | h | h
    · rw [List.getElem?_set_ne (by omega), be_get K _ j hj]
      congr 1
      have e : 2 ^ i = 256 ^ (K - 1 - j) * (256 * (256 ^ (i / 8 - (K - 1 - j) - 1) * 2 ^ (i % 8))) := by
        rw [hsplit, ← Nat.mul_assoc, ← Nat.mul_assoc, ← Nat.pow_succ, ← Nat.pow_add]
        congr 2; omega
      rw [e, Nat.add_comm w, Nat.mul_add_div (pow_pos' _), Nat.add_comm, Nat.add_mul_mod_self_left]
    · have hp : K - 1 - i / 8 = j := by omega
      rw [hp, List.getElem?_set_self (by rw [be_length]; exact hj), h]
      congr 1
      rw [hsplit, Nat.add_comm w, Nat.mul_add_div (pow_pos' _), hm, Nat.add_comm]
      exact Nat.mod_eq_of_lt (by omega)
    · rw [List.getElem?_set_ne (by omega), be_get K _ j hj]
      have hbig : 2 ^ (i + 1) ≤ 256 ^ (K - 1 - j) := by
        rw [p256]; exact Nat.pow_le_pow_right (by decide) (by omega)
      have h2 : 2 ^ (i + 1) = 2 ^ i * 2 := Nat.pow_succ ..
      rw [Nat.div_eq_of_lt (show w + 2 ^ i < 256 ^ (K - 1 - j) by omega), Nat.div_eq_of_lt (show w < 256 ^ (K - 1 - j) by omega)]
  · rw [List.getElem?_eq_none (by rw [be_length]; omega), List.getElem?_eq_none (by rw [List.length_set, be_length]; omega)]
theorem mod_next (v i : Nat) : v % 2 ^ (i + 1) = v % 2 ^ i + bitAt v i * 2 ^ i := by
  rw [Nat.mod_pow_succ, bitAt, Nat.mul_comm (2 ^ i)]
theorem bit_or (v i : Nat) : bitAt v i = 0 ∨ bitAt v i = 1 := by
  unfold bitAt
  omega
/-- A higher number's bits. -/
theorem bit_low {n m r i : Nat} (h : i < r) : bitAt (m * 2 ^ r + n) i = bitAt n i := by
  unfold bitAt
  have e : m * 2 ^ r = 2 ^ i * (2 * (m * 2 ^ (r - i - 1))) := by
    have h2 : 2 ^ r = 2 ^ i * (2 * 2 ^ (r - i - 1)) := by
      rw [show 2 ^ i * (2 * 2 ^ (r - i - 1)) = 2 ^ (i + (1 + (r - i - 1))) from by rw [Nat.pow_add, Nat.pow_add, Nat.pow_one]]
      congr 1
      omega
    rw [h2, Nat.mul_left_comm, Nat.mul_left_comm m]
  rw [e, Nat.mul_add_div (two_pos i), Nat.add_comm, Nat.add_mul_mod_self_left]
theorem bit_high {n m r i : Nat} (hn : n < 2 ^ r) : bitAt (m * 2 ^ r + n) (r + i) = bitAt m i := by
  unfold bitAt
  rw [Nat.pow_add, ← Nat.div_div_eq_div_mul, Nat.mul_comm m, Nat.mul_add_div (two_pos r), Nat.div_eq_of_lt hn, Nat.add_zero]
theorem mark_eq {k : Nat} (h : k < 8) : mark k * 256 ^ k = (2 * (2 ^ k - 1)) * 2 ^ (7 * (k + 1)) := by
  have key : ∀ k, k < 8 → mark k * 256 ^ k = (2 * (2 ^ k - 1)) * 2 ^ (7 * (k + 1)) := by decide
  exact key k h
theorem kN_room {n : Nat} (h : kN n < 8) : n < 2 ^ (7 * (kN n + 1)) := by
  have hc := kN_cases n
  obtain ⟨k, hk⟩ : ∃ k, kN n = k := ⟨_, rfl⟩
  rw [hk] at h ⊢ hc
  have hk' : k = 0 ∨ k = 1 ∨ k = 2 ∨ k = 3 ∨ k = 4 ∨ k = 5 ∨ k = 6 ∨ k = 7 := by omega
  rcases hk' with rfl | rfl | rfl | rfl | rfl | rfl | rfl | rfl <;> simp only [Nat.reduceAdd, Nat.reduceMul, Nat.reducePow] <;> omega
/-- The bits of a number's bytes, the lowest first: the number's own, then (where there is one) a 0, then the mark's. -/
theorem whole_bits_own {n i : Nat} (h : kN n < 8) (hi : i < 7 * (kN n + 1)) : bitAt (whole n) i = bitAt n i := by
  rw [whole, mark_eq h]; exact bit_low hi
theorem whole_bits_zero {n : Nat} (h : kN n < 8) : bitAt (whole n) (7 * (kN n + 1)) = 0 := by
  rw [whole, mark_eq h]
  have h0 := bit_high (m := 2 * (2 ^ kN n - 1)) (i := 0) (kN_room h)
  rw [show 7 * (kN n + 1) + 0 = 7 * (kN n + 1) from rfl] at h0
  exact h0.trans (by unfold bitAt; omega)
theorem whole_bits_mark {n t : Nat} (h : kN n < 8) (ht : t < kN n) : bitAt (whole n) (7 * (kN n + 1) + 1 + t) = 1 := by
  rw [whole, mark_eq h, Nat.add_assoc]
  rw [bit_high (kN_room h), bitAt, Nat.add_comm 1 t, Nat.pow_succ, Nat.mul_comm (2 ^ t), ← Nat.div_div_eq_div_mul, Nat.mul_div_cancel_left _ (by decide)]
  have key : ∀ k, k < 8 → ∀ t, t < k → (2 ^ k - 1) / 2 ^ t % 2 = 1 := by decide
  exact key _ h _ ht
theorem whole_bits_own8 {n i : Nat} (h : kN n = 8) (hi : i < 64) : bitAt (whole n) i = bitAt n i := by
  rw [whole, h, show (256 : Nat) ^ 8 = 2 ^ 64 from rfl]; exact bit_low hi
theorem whole_bits_mark8 {n t : Nat} (hn : n < 4611686018427387904) (h : kN n = 8) (ht : t < 8) : bitAt (whole n) (64 + t) = 1 := by
  rw [whole, h, show (256 : Nat) ^ 8 = 2 ^ 64 from rfl, bit_high (by omega)]
  have key : ∀ t, t < 8 → bitAt (mark 8) t = 1 := by decide
  exact key t ht
theorem whole_lt {n : Nat} (hn : n < 4611686018427387904) : whole n < 2 ^ (8 * (kN n + 1)) := by
  obtain ⟨_, h2, _, _⟩ := topB_range hn
  rw [whole, ← p256, Nat.pow_succ]
  have e := Nat.div_add_mod n (256 ^ kN n)
  have hm := Nat.mod_lt n (pow_pos' (kN n))
  unfold topB at h2
  have h3 : (mark (kN n) + n / 256 ^ kN n) * 256 ^ kN n + 256 ^ kN n ≤ 256 * 256 ^ kN n := by rw [← Nat.succ_mul]; exact Nat.mul_le_mul_right _ h2
  rw [Nat.add_mul, Nat.mul_comm (n / 256 ^ kN n)] at h3
  rw [Nat.mul_comm (256 ^ kN n) 256]
  omega

end Go.Proofs.YtmieonfdenjedaaDoor

/-
  Plain facts on texts: a text's bytes as numbers, and back; what a text begins with.
-/
namespace Go.Proofs.YtmieonfdenjedaaDoor

/-- The text of these bytes. -/
def bytesN (l : List Nat) : ByteArray := ⟨(l.map UInt8.ofNat).toArray⟩
/-- A text's bytes. -/
def nats (s : ByteArray) : List Nat := s.data.toList.map UInt8.toNat
theorem nats_length (s : ByteArray) : (nats s).length = s.size := by rw [nats, List.length_map, Array.length_toList]; rfl
theorem nats_lt (s : ByteArray) : ∀ b ∈ nats s, b < 256 := by
  intro b hb
  obtain ⟨u, _, rfl⟩ := List.mem_map.1 hb
  exact u.toNat_lt
theorem nats_bytes {l : List Nat} (h : ∀ b ∈ l, b < 256) : nats (bytesN l) = l := by
  simp only [nats, bytesN, List.map_map]
  refine (List.map_congr_left fun b hb => ?_).trans (List.map_id l)
  have := h b hb
  simp only [Function.comp, id]
  rw [UInt8.toNat_ofNat']
  omega
theorem bytes_nats (s : ByteArray) : bytesN (nats s) = s := by
  apply ByteArray.ext
  simp only [nats, bytesN, List.map_map]
  have e : s.data.toList.map (UInt8.ofNat ∘ UInt8.toNat) = s.data.toList := (List.map_congr_left fun u _ => by simp).trans (List.map_id _)
  rw [e]
theorem nats_inj {a b : ByteArray} (h : nats a = nats b) : a = b := by rw [← bytes_nats a, h, bytes_nats]
theorem nats_append (a b : ByteArray) : nats (a ++ b) = nats a ++ nats b := by simp [nats, ByteArray.data_append]
theorem nats_extract (s : ByteArray) (i j : Nat) : nats (s.extract i j) = ((nats s).drop i).take (j - i) := by
  simp [nats, ByteArray.data_extract, List.map_drop, List.map_take]
theorem nats_nil : nats ⟨#[]⟩ = [] := rfl
theorem size_bytes (l : List Nat) : (bytesN l).size = l.length := by
  show (l.map UInt8.ofNat).toArray.size = l.length
  rw [List.size_toArray, List.length_map]
theorem str_nums (l : List Nat) : strOfNums (l.map fun n : Nat => (n : Int)) = bytesN l := by
  simp only [strOfNums, bytesN, List.map_map]
  rfl
theorem nats_get {s : ByteArray} {i : Nat} (h : i < s.size) : (nats s)[i]? = some s[i].toNat := by
  have h' : i < s.data.toList.length := by rw [Array.length_toList]; exact h
  rw [nats, List.getElem?_map, List.getElem?_eq_getElem h']
  rfl
theorem bytes_append (l m : List Nat) : bytesN (l ++ m) = bytesN l ++ bytesN m := by
  apply ByteArray.ext
  simp [bytesN, ByteArray.data_append]
theorem bytes_eq {l m : List Nat} (hl : ∀ b ∈ l, b < 256) (hm : ∀ b ∈ m, b < 256) (h : bytesN l = bytesN m) : l = m := by
  rw [← nats_bytes hl, h, nats_bytes hm]

/-- What s begins with: a number, what is behind it, and the error. -/
def tk (s : ByteArray) : Nat × ByteArray × Nat :=
  match nats s with
  | [] => (0, ⟨#[]⟩, 9)
  | c :: r =>
    if r.length < ones c then (0, ⟨#[]⟩, 9)
    else if 4611686018427387904 ≤ takeV c r ∨ kN (takeV c r) ≠ ones c then (0, ⟨#[]⟩, 8)
    else (takeV c r, s.extract (ones c + 1) s.size, 0)
def tkN (s : ByteArray) : Nat := (tk s).1
def tkR (s : ByteArray) : ByteArray := (tk s).2.1
def tkE (s : ByteArray) : Nat := (tk s).2.2
theorem tk_nil {s : ByteArray} (h : s.size = 0) : tkN s = 0 ∧ tkR s = ⟨#[]⟩ ∧ tkE s = 9 := by
  have : nats s = [] := List.eq_nil_of_length_eq_zero (by rw [nats_length]; exact h)
  simp [tkN, tkR, tkE, tk, this]
theorem tk_short {s : ByteArray} {c : Nat} {r : List Nat} (h : nats s = c :: r) (hl : r.length < ones c) : tkN s = 0 ∧ tkR s = ⟨#[]⟩ ∧ tkE s = 9 := by
  simp [tkN, tkR, tkE, tk, h, hl]
theorem tk_form {s : ByteArray} {c : Nat} {r : List Nat} (h : nats s = c :: r) (hl : ones c ≤ r.length) (hf : 4611686018427387904 ≤ takeV c r ∨ kN (takeV c r) ≠ ones c) : tkN s = 0 ∧ tkR s = ⟨#[]⟩ ∧ tkE s = 8 := by
  have : ¬ r.length < ones c := by omega
  simp [tkN, tkR, tkE, tk, h, this, hf]
theorem tk_good {s : ByteArray} {c : Nat} {r : List Nat} (h : nats s = c :: r) (hl : ones c ≤ r.length) (hm : takeV c r < 4611686018427387904) (hk : kN (takeV c r) = ones c) : tkN s = takeV c r ∧ tkR s = s.extract (ones c + 1) s.size ∧ tkE s = 0 := by
  have h1 : ¬ r.length < ones c := by omega
  have h2 : ¬ (4611686018427387904 ≤ takeV c r ∨ kN (takeV c r) ≠ ones c) := by omega
  simp [tkN, tkR, tkE, tk, h, h1, h2]
theorem tk_cases (s : ByteArray) : (tkN s = 0 ∧ tkR s = ⟨#[]⟩ ∧ (tkE s = 8 ∨ tkE s = 9)) ∨ ∃ c r, nats s = c :: r ∧ ones c ≤ r.length ∧ takeV c r < 4611686018427387904 ∧ kN (takeV c r) = ones c ∧ tkN s = takeV c r ∧ tkR s = s.extract (ones c + 1) s.size ∧ tkE s = 0 := by
  cases h : nats s with
  | nil =>
    have := tk_nil (s := s) (by rw [← nats_length, h]; rfl)
    exact .inl ⟨this.1, this.2.1, .inr this.2.2⟩
  | cons c r =>
    rcases Nat.lt_or_ge r.length (ones c) with h1 | h1
    · have := tk_short h h1
      exact .inl ⟨this.1, this.2.1, .inr this.2.2⟩
    · by_cases h2 : 4611686018427387904 ≤ takeV c r ∨ kN (takeV c r) ≠ ones c
      · have := tk_form h h1 h2
        exact .inl ⟨this.1, this.2.1, .inl this.2.2⟩
      · have h3 : takeV c r < 4611686018427387904 ∧ kN (takeV c r) = ones c := by omega
        exact .inr ⟨c, r, rfl, h1, h3.1, h3.2, tk_good h h1 h3.1 h3.2⟩
theorem tkN_lt (s : ByteArray) : tkN s < 4611686018427387904 := by
  rcases tk_cases s with ⟨h, _⟩ | ⟨c, r, _, _, h1, _, h2, _⟩ <;> omega
theorem tkE_cases (s : ByteArray) : tkE s = 0 ∨ tkE s = 8 ∨ tkE s = 9 := by
  rcases tk_cases s with ⟨_, _, h⟩ | ⟨c, r, _, _, _, _, _, _, h⟩ <;> omega
theorem tkR_size (s : ByteArray) : (tkR s).size ≤ s.size := by
  rcases tk_cases s with ⟨_, h, _⟩ | ⟨c, r, _, _, _, _, _, h, _⟩
  · rw [h]; exact Nat.zero_le _
  · rw [h, ByteArray.size_extract]; omega
theorem tk_err {s : ByteArray} (h : tkE s ≠ 0) : tkN s = 0 ∧ tkR s = ⟨#[]⟩ := by
  rcases tk_cases s with ⟨h1, h2, _⟩ | ⟨c, r, _, _, _, _, _, _, h3⟩
  · exact ⟨h1, h2⟩
  · exact absurd h3 h

/-- The bytes of a number. -/
def encS (n : Nat) : ByteArray := bytesN (enc n)
theorem enc_lt {n : Nat} (hn : n < 4611686018427387904) : ∀ b ∈ enc n, b < 256 := by
  intro b hb
  rcases List.mem_cons.1 hb with rfl | h
  · exact (topB_range hn).2.1
  · exact be_lt _ _ _ h
theorem encS_size (n : Nat) : (encS n).size = kN n + 1 := by rw [encS, size_bytes, enc_length]
theorem nats_encS {n : Nat} (hn : n < 4611686018427387904) : nats (encS n) = enc n := nats_bytes (enc_lt hn)
/-- A number's bytes are taken as it, whatever is behind them. -/
theorem tk_enc {n : Nat} (hn : n < 4611686018427387904) (b : ByteArray) : tkN (encS n ++ b) = n ∧ tkR (encS n ++ b) = b ∧ tkE (encS n ++ b) = 0 := by
  have h : nats (encS n ++ b) = topB n :: (be (kN n) n ++ nats b) := by rw [nats_append, nats_encS hn]; rfl
  have ht := topB_range hn
  have hv := takeV_enc hn (nats b)
  have g := tk_good h (by rw [ht.2.2.1, List.length_append, be_length]; omega) (by rw [hv]; exact hn) (by rw [hv, ht.2.2.1])
  refine ⟨g.1.trans hv, g.2.1.trans ?_, g.2.2⟩
  apply nats_inj
  rw [nats_extract, nats_append, nats_encS hn, ht.2.2.1, List.drop_append_of_le_length (by rw [enc_length]; omega), List.drop_of_length_le (by rw [enc_length]; omega), List.nil_append]
  apply List.take_of_length_le
  rw [nats_length, ByteArray.size_append, encS_size]
  omega
/-- What is taken is laid as the same bytes. -/
theorem tk_again {s : ByteArray} (h : tkE s = 0) : encS (tkN s) ++ tkR s = s := by
  rcases tk_cases s with ⟨_, _, h1⟩ | ⟨c, r, hs, hl, _, hk, hn, hr, _⟩
  · omega
  · have hb : ∀ b ∈ r, b < 256 := fun b hb => nats_lt s b (by rw [hs]; exact List.mem_cons_of_mem _ hb)
    have hc : c < 256 := nats_lt s c (by rw [hs]; exact List.mem_cons_self)
    apply nats_inj
    rw [nats_append, hr, hn, encS, enc_takeV hb hl hk, nats_bytes (fun b h => by
      rcases List.mem_cons.1 h with rfl | h
      · exact hc
      · exact hb b (List.mem_of_mem_take h)), nats_extract, ← nats_length, hs]
    rw [List.drop_succ_cons, List.take_of_length_le (l := List.drop _ _) (by rw [List.length_drop, List.length_cons]; omega), List.cons_append, List.take_append_drop]

/-- The bytes of a text. -/
def textS (s : ByteArray) : ByteArray := encS s.size ++ s
/-- What s begins with, as a text of at most so many bytes. -/
def tt (s : ByteArray) (most : Int) : ByteArray × ByteArray × Nat :=
  if tkE s ≠ 0 then (⟨#[]⟩, ⟨#[]⟩, tkE s) else if most < tkN s then (⟨#[]⟩, ⟨#[]⟩, 4) else if (tkR s).size < tkN s then (⟨#[]⟩, ⟨#[]⟩, 9)
  else ((tkR s).extract 0 (tkN s), (tkR s).extract (tkN s) (tkR s).size, 0)
def ttS (s : ByteArray) (most : Int) : ByteArray := (tt s most).1
def ttR (s : ByteArray) (most : Int) : ByteArray := (tt s most).2.1
def ttE (s : ByteArray) (most : Int) : Nat := (tt s most).2.2
theorem tt_text {s b : ByteArray} {most : Int} (hs : s.size < 4611686018427387904) (hm : s.size ≤ most) : ttS (textS s ++ b) most = s ∧ ttR (textS s ++ b) most = b ∧ ttE (textS s ++ b) most = 0 := by
  have e : textS s ++ b = encS s.size ++ (s ++ b) := by rw [textS, ByteArray.append_assoc]
  obtain ⟨h1, h2, h3⟩ := tk_enc hs (s ++ b)
  rw [e]
  have k1 : ¬ most < (s.size : Int) := by omega
  have k2 : ¬ (s ++ b).size < s.size := by rw [ByteArray.size_append]; omega
  simp only [ttS, ttR, ttE, tt, h1, h2, h3, ne_eq, not_true_eq_false, if_false, k1, k2]
  refine ⟨?_, ?_, trivial⟩
  · apply nats_inj
    rw [nats_extract, nats_append, List.drop_zero, List.take_append_of_le_length (by rw [nats_length]; omega), List.take_of_length_le (by rw [nats_length]; omega)]
  · apply nats_inj
    rw [nats_extract, nats_append, List.drop_append_of_le_length (by rw [nats_length]; omega), List.drop_of_length_le (by rw [nats_length]; omega), List.nil_append, List.take_of_length_le (by rw [nats_length, ByteArray.size_append]; omega)]
theorem tt_big {s b : ByteArray} {most : Int} (hs : s.size < 4611686018427387904) (hm : most < s.size) : ttS (textS s ++ b) most = ⟨#[]⟩ ∧ ttR (textS s ++ b) most = ⟨#[]⟩ ∧ ttE (textS s ++ b) most = 4 := by
  have e : textS s ++ b = encS s.size ++ (s ++ b) := by rw [textS, ByteArray.append_assoc]
  obtain ⟨h1, h2, h3⟩ := tk_enc hs (s ++ b)
  rw [e]
  simp [ttS, ttR, ttE, tt, h1, h3, hm]
theorem tt_again {s : ByteArray} {most : Int} (h : ttE s most = 0) : textS (ttS s most) ++ ttR s most = s := by
  unfold ttE tt at h
  by_cases h0 : tkE s ≠ 0
  · rw [if_pos h0] at h; exact absurd h h0
  · by_cases h1 : most < tkN s
    · rw [if_neg h0, if_pos h1] at h; simp at h
    · by_cases h2 : (tkR s).size < tkN s
      · rw [if_neg h0, if_neg h1, if_pos h2] at h; simp at h
      · simp only [ttS, ttR, tt, if_neg h0, if_neg h1, if_neg h2]
        have hz : ((tkR s).extract 0 (tkN s)).size = tkN s := by rw [ByteArray.size_extract]; omega
        have hj : (tkR s).extract 0 (tkN s) ++ (tkR s).extract (tkN s) (tkR s).size = tkR s := by
          apply nats_inj
          rw [nats_append, nats_extract, nats_extract, List.drop_zero, Nat.sub_zero, ← nats_length, List.take_of_length_le (l := List.drop _ _) (by rw [List.length_drop]; omega), List.take_append_drop]
        rw [textS, hz, ByteArray.append_assoc, hj]
        exact tk_again (by omega)

end Go.Proofs.YtmieonfdenjedaaDoor

/-
  What the small calls of pack give back: behind, mark, and the ones at a byte's head; the document's power. Each leaves the world as it was.
-/
namespace Go.Proofs.YtmieonfdenjedaaDoor
open Go.RowKit

abbrev Same (F : Nat) (args : Array Value) (w : World) (v : Value) : Prop := Calls Tryd.prog F args w fun e w' => e = .returned v ∧ w' = w
theorem bl (w : World) : Below w.heap.size w w := Below.refl _ _
theorem chain {W w w1 : World} (h : Below W.heap.size W w) (hb : Below w.heap.size w w1) : Below W.heap.size W w1 := h.trans (hb.mono h.size)
theorem keepc {w w1 : World} (hb : Below w.heap.size w w1) {b o : Nat} {v : Value} (h : w.cell? ⟨b, o, none⟩ = some v) : w1.cell? ⟨b, o, none⟩ = some v := by
  have : b < w.heap.size := by
    rcases Nat.lt_or_ge b w.heap.size with h' | h'
    · exact h'
    · simp [World.cell?, Array.getElem?_eq_none h'] at h
  exact (hb.cell (p := ⟨b, o, none⟩) this).trans h
theorem ret_int {k : IntKind} {a b : Int} (h : a = b) : Ending.returned (.int k a) = .returned (.int k b) := by rw [h]

/-- The first number that needs more bytes behind. -/
theorem kN_lt_iff {n k : Nat} (hk : k < 8) : kN n ≤ k ↔ n < 2 ^ (7 * (k + 1)) := by
  have hc := kN_cases n
  have hk' : k = 0 ∨ k = 1 ∨ k = 2 ∨ k = 3 ∨ k = 4 ∨ k = 5 ∨ k = 6 ∨ k = 7 := by omega
  rcases hk' with rfl | rfl | rfl | rfl | rfl | rfl | rfl | rfl <;> simp only [Nat.reduceAdd, Nat.reduceMul, Nat.reducePow] <;> omega

/-- 1 << (7*(k+1)), below 2^62. -/
theorem shl_one {k : Nat} (hk : k < 8) : wrap64 (2 ^ (7 * (k + 1))) = ((2 ^ (7 * (k + 1)) : Nat) : Int) := by
  have hk' : k = 0 ∨ k = 1 ∨ k = 2 ∨ k = 3 ∨ k = 4 ∨ k = 5 ∨ k = 6 ∨ k = 7 := by omega
  rcases hk' with rfl | rfl | rfl | rfl | rfl | rfl | rfl | rfl <;> decide +kernel

set_option maxHeartbeats 1000000 in
theorem behind_any (n : Nat) (_hn : n < 4611686018427387904) (w : World) : Same 74 #[.int .i64 (n : Int)] w (.int .i64 (kN n : Int)) := by
  go_enter Tryd.func74, Tryd.ntmps74
  go_wp2
  go_loopw [4] (fun i wr => ∃ k : Nat, k ≤ 8 ∧ i = .int .i64 k ∧ (∀ j, j < k → ¬ kN n ≤ j) ∧ wr = w) (fun i _ => 8 - (intOf i).toNat)
  case atStart => exact ⟨0, Nat.zero_le _, rfl, fun j h => by omega, rfl⟩
  case round =>
    obtain ⟨k, hk, rfl, hno, rfl⟩ := hrel
    have HN := Lib.hid hno
    clear hno
    by_cases hlt : k < 8
    · have hs := shl_one hlt
      have hi := kN_lt_iff (n := n) hlt
      obtain ⟨p, hp⟩ : ∃ p : Nat, 2 ^ (7 * (k + 1)) = p := ⟨_, rfl⟩
      rw [hp] at hs hi
      have HP := Lib.hid hp
      clear hp
      have h7 : IntKind.i64.wrap (7 * ((k : Int) + 1)) = 7 * ((k : Int) + 1) := IntWalk.i64_in _ (by omega)
      have h71 : IntKind.i64.wrap ((k : Int) + 1) = (k : Int) + 1 := IntWalk.i64_in _ (by omega)
      have hsh := hs
      clear hs
      by_cases hl : n < p
      · have hle : kN n ≤ k := hi.2 hl
        have hl' : (n : Int) < (p : Int) := by omega
        clear hi
        go_wp2_with fail
        go_ret
        refine ⟨ret_int ?_, rfl⟩
        have := HN.out
        rcases Nat.lt_or_ge (kN n) k with h | h
        · exact absurd (Nat.le_refl _) (this _ h)
        · omega
      · have hle : ¬ kN n ≤ k := fun h => hl (hi.1 h)
        have hl' : ¬ (n : Int) < (p : Int) := by omega
        clear hi
        go_wp2_with fail
        refine ⟨⟨k + 1, by omega, by go_num, fun j hj => ?_, trivial⟩, by simp [intOf]; omega⟩
        rcases Nat.lt_or_ge j k with h | h
        · exact HN.out j h
        · obtain rfl : j = k := by omega
          exact hle
    · go_wp2_with fail
      go_ret
      refine ⟨ret_int ?_, rfl⟩
      have h8 := kN_le n
      have := HN.out
      rcases Nat.lt_or_ge (kN n) 8 with h | h
      · exact absurd (Nat.le_refl _) (this _ (by omega))
      · omega

theorem mark_bits {k : Nat} (hk : k ≤ 8) : bits BinOp.xor IntKind.u8 IntKind.u8.max (255 / 2 ^ k) = ((mark k : Nat) : Int) := by
  have key : ∀ k : Nat, k ≤ 8 → bits BinOp.xor IntKind.u8 IntKind.u8.max (255 / 2 ^ k) = ((mark k : Nat) : Int) := by decide
  exact key k hk

set_option maxHeartbeats 1000000 in
theorem mark_any (k : Nat) (hk : k ≤ 8) (w : World) : Same 73 #[.int .i64 (k : Int)] w (.int .u8 (mark k : Int)) := by
  go_enter Tryd.func73, Tryd.ntmps73
  go_wp2_with fail
  go_ret
  exact ⟨ret_int (mark_bits hk), rfl⟩

theorem two_wrap {i : Nat} (hi : i < 7) : IntKind.u8.wrap (2 * ((2 ^ i : Nat) : Int)) = ((2 ^ (i + 1) : Nat) : Int) := by
  have key : ∀ i : Nat, i < 7 → IntKind.u8.wrap (2 * ((2 ^ i : Nat) : Int)) = ((2 ^ (i + 1) : Nat) : Int) := by decide
  exact key i hi

set_option maxHeartbeats 1000000 in
theorem power_any (t : Nat) (ht : t ≤ 7) (w : World) : Same 70 #[.int .i64 (t : Int)] w (.int .u8 ((2 ^ t : Nat) : Int)) := by
  go_enter Tryd.func70, Tryd.ntmps70
  go_wp2
  go_loopw [3, 4] (fun p i wr => ∃ k : Nat, k ≤ t ∧ i = .int .i64 k ∧ p = .int .u8 ((2 ^ k : Nat) : Int) ∧ wr = w) (fun _ i _ => t - (intOf i).toNat)
  case atStart => exact ⟨0, Nat.zero_le _, rfl, rfl, rfl⟩
  case round =>
    obtain ⟨k, hk, rfl, rfl, rfl⟩ := hrel
    by_cases hlt : k < t
    · have hw := two_wrap (i := k) (by omega)
      obtain ⟨p, hp⟩ : ∃ p : Nat, 2 ^ k = p := ⟨_, rfl⟩
      obtain ⟨q, hq⟩ : ∃ q : Nat, 2 ^ (k + 1) = q := ⟨_, rfl⟩
      rw [hp, hq] at hw
      rw [hp]
      have HQ := Lib.hid hq
      clear hp hq
      have hlt' : (k : Int) < (t : Int) := by omega
      go_wp2_with fail
      exact ⟨⟨k + 1, by omega, by go_num, by rw [HQ.out], trivial⟩, by simp [intOf]; omega⟩
    · have hlt' : ¬ (k : Int) < (t : Int) := by omega
      go_wp2_with fail
      go_ret
      obtain rfl : k = t := by omega
      exact ⟨rfl, rfl⟩

theorem xor_byte {c : Nat} (hc : c < 256) : bits BinOp.xor IntKind.u8 IntKind.u8.max (c : Int) = ((255 - c : Nat) : Int) := by
  have key : ∀ c : Nat, c < 256 → bits BinOp.xor IntKind.u8 IntKind.u8.max (c : Int) = ((255 - c : Nat) : Int) := by decide +kernel
  exact key c hc
theorem bitLen_ones {c : Nat} (hc : c < 256) : 8 - (Lib.bitLen (255 - c) : Int) = ((ones c : Nat) : Int) := by
  have key : ∀ c : Nat, c < 256 → 8 - (Lib.bitLen (255 - c) : Int) = ((ones c : Nat) : Int) := by decide +kernel
  exact key c hc
theorem zeros_any (c : Nat) (hc : c < 256) (w : World) : Same 72 #[.int .u8 ((255 - c : Nat) : Int)] w (.int .i64 (ones c : Int)) := by
  have h := Tryd.bits_LeadingZeros8 ((255 - c : Nat) : Int) w (by omega) (by omega)
  rw [Int.toNat_natCast, bitLen_ones hc] at h
  exact h

theorem keepf {w w1 : World} (hb : Below w.heap.size w w1) {b o : Nat} (hlt : b < w.heap.size) (h : w.frozen? ⟨b, o, none⟩ = false) : w1.frozen? ⟨b, o, none⟩ = false := (hb.frozen (p := ⟨b, o, none⟩) hlt).trans h
end Go.Proofs.YtmieonfdenjedaaDoor

/-
  A row of bytes of the call's own: made, put, read as a text.
-/
namespace Go.Proofs.YtmieonfdenjedaaDoor
open Go.RowKit

/-- Block g holds the first n bytes of T. -/
def Arr (w : World) (g : Nat) (T : Nat → Nat) (n : Nat) : Prop := g < w.heap.size ∧ ∀ i, i < n → w.cell? ⟨g, i, none⟩ = some (.int .u8 (T i)) ∧ w.frozen? ⟨g, i, none⟩ = false
theorem Arr.below {W w : World} {g n : Nat} {T : Nat → Nat} (h : Arr W g T n) {B : Nat} (hg : g < B) (hb : Below B W w) : Arr w g T n :=
  ⟨Nat.lt_of_lt_of_le h.1 hb.size, fun i hi => ⟨(hb.cell (p := ⟨g, i, none⟩) hg).trans (h.2 i hi).1, (hb.frozen (p := ⟨g, i, none⟩) hg).trans (h.2 i hi).2⟩⟩
def upd (T : Nat → Nat) (p v : Nat) : Nat → Nat := fun q => if q = p then v else T q
theorem Arr.put {w : World} {g n p v : Nat} {T : Nat → Nat} (h : Arr w g T n) (hp : p < n) : Arr (w.setCell ⟨g, p, none⟩ (.int .u8 v)) g (upd T p v) n := by
  refine ⟨by simpa [World.setCell] using h.1, fun i hi => ?_⟩
  obtain ⟨c, f⟩ := h.2 i hi
  unfold upd
  by_cases e : i = p
  · subst e
    rw [if_pos rfl]
    exact ⟨World.cell?_setCell_same w _ _ c, by simpa [go_sem] using f⟩
  · rw [if_neg e]
    exact ⟨(World.cell?_setCell_other w _ _ _ (by simp)).trans c, by simpa [go_sem] using f⟩
theorem Arr.drewN {w : World} {g n : Nat} {T : Nat → Nat} (h : Arr w g T n) (q : Nat) : Arr (w.drewN q) g T n := h
theorem Arr.congr {w : World} {g n : Nat} {T U : Nat → Nat} (h : Arr w g T n) (e : ∀ i, i < n → T i = U i) : Arr w g U n := ⟨h.1, fun i hi => by rw [← e i hi]; exact h.2 i hi⟩

theorem Tryd.infoByte : (Tryd.prog.info? 5).map (fun i => (i.zero, i.size, i.bytes)) = some (some (.int .u8 0), 1, 1) := by kernel_rfl

/-- A row of noughts is made. -/
theorem make_bytes (w : World) (n : Nat) (hn : n ≤ 100000) : ∃ w', (Instr.makeSlice 76 (.int .i64 (n : Int)) (.int .i64 (n : Int))).run Tryd.prog w = .ok (.slice (some ⟨w.heap.size, 0, none⟩) n n) w' ∧
    Arr w' w.heap.size (fun _ => 0) n ∧ Below w.heap.size w w' := by
  obtain ⟨i0, hi, hz0, hz1, hz2⟩ := info_parts Tryd.infoByte
  obtain ⟨w', hrun, hown, hg⟩ := run_make_full (P := Tryd.prog) w w.heap.size 76 5 i0 (.int .u8 0) 1 Tryd.underlying76 hi hz0 hz1 .i64 .i64 n (by rw [hz2]; omega) (by unfold maxLen; omega) (Nat.le_refl _)
  refine ⟨w', hrun, ⟨(hown.lt _ rfl).2, fun i hi => ⟨?_, hown.frozenAt i⟩⟩, (Below.refl _ _).grown hg (Nat.le_refl _) (fun k hk => by cases hk)⟩
  have hl : (madeCells (Value.int .u8 0).cells (n * 1)).toList[i]? = some (.int .u8 0) := by
    simp [madeCells, Value.cells, hi]
    rw [Nat.mod_one]; rfl
  have := hown.cells (g := w.heap.size) rfl i _ hl
  have add : (⟨w.heap.size, 0, none⟩ : Addr).add i = ⟨w.heap.size, 0 + i, none⟩ := by unfold Addr.add; split <;> simp_all
  rw [add, Nat.zero_add] at this
  exact this

/-- A row of bytes read as a text. -/
theorem conv_arr {w : World} {g n c : Nat} {T : Nat → Nat} {l : List Nat} (h : Arr w g T n) (hl : l.length = n) (hT : ∀ i, i < n → l[i]? = some (T i)) :
    (convert 76 9 (.slice (some ⟨g, 0, none⟩) n c)).run Tryd.prog w = .ok (.string (bytesN l)) w := by
  have k := run_convert_bytes_arg (P := Tryd.prog) w 76 5 Tryd.underlying76 Tryd.underlying5 g 0 n c (l.map fun n : Nat => (n : Int)) (by rw [List.length_map, hl]) (fun i hi => by
    rw [Nat.zero_add, (h.2 i hi).1, List.getD_eq_getElem?_getD, List.getElem?_map, hT i hi]
    rfl) 9 Tryd.underlying9
  rw [str_nums] at k
  exact k

end Go.Proofs.YtmieonfdenjedaaDoor

/-
  A number's bytes, laid by the program: Num.
-/
namespace Go.Proofs.YtmieonfdenjedaaDoor
open Go.RowKit

/-- What Num and the document's Num give back. -/
def numS (n : Int) : ByteArray := if 0 ≤ n ∧ n ≤ 4611686018427387903 then encS n.toNat else ⟨#[]⟩
def numE (n : Int) : Int := if 0 ≤ n ∧ n ≤ 4611686018427387903 then 0 else 2
def NumPost (n : Int) (w : World) (e : Ending) (w' : World) : Prop := e = .returned (.tuple #[.string (numS n), .int .i64 (numE n)]) ∧ Below w.heap.size w w'

theorem ret_se {s t : ByteArray} {a b : Int} (h : s = t) (k : a = b) : Ending.returned (.tuple #[.string s, .int .i64 a]) = .returned (.tuple #[.string t, .int .i64 b]) := by rw [h, k]

/-- The bytes that lie behind the i lowest have been laid. -/
def layT (K n i : Nat) : Nat → Nat := fun j => if K - j < i then n / 256 ^ (K - j) % 256 else 0
theorem layT_put {K n i : Nat} (hi : i < K) : ∀ j, j < K + 1 → upd (layT K n i) (K - i) (n / 256 ^ i % 256) j = layT K n (i + 1) j := by
  intro j hj
  unfold upd layT
  by_cases e : j = K - i
  · rw [if_pos e, if_pos (by omega), show K - j = i from by omega]
  · rw [if_neg e]
    by_cases h : K - j < i
    · rw [if_pos h, if_pos (by omega)]
    · rw [if_neg h, if_neg (by omega)]
theorem layT_all {K n c : Nat} : ∀ j, j < K + 1 → (c :: be K n)[j]? = some (upd (layT K n K) 0 c j) := by
  intro j hj
  rcases j with _ | j
  · rfl
  · rw [List.getElem?_cons_succ, be_get K n j (by omega)]
    unfold upd layT
    rw [if_neg (by omega), if_pos (by omega)]
    congr 4
    omega
theorem top_bits {n : Nat} (hn : n < 4611686018427387904) : bits BinOp.or IntKind.u8 (mark (kN n) : Int) (IntKind.u8.wrap ((n : Int) / 2 ^ (8 * kN n))) = (topB n : Int) := by
  have h := topB_range hn
  have hk := kN_le n
  have h2 := kN_cases n
  have e : (n : Int) / 2 ^ (8 * kN n) = ((n / 256 ^ kN n : Nat) : Int) := by
    rw [p256]; simp
  have hx : n / 256 ^ kN n < 2 ^ (8 - kN n) := by
    have h1 : mark (kN n) + n / 256 ^ kN n < 256 := h.2.1
    have key : ∀ k, k ≤ 8 → 256 ≤ mark k + 2 ^ (8 - k) := by decide
    have := key _ hk
    omega
  have key : ∀ k, k ≤ 8 → ∀ x, x < 2 ^ (8 - k) → bits BinOp.or IntKind.u8 (mark k : Int) (IntKind.u8.wrap ((x : Nat) : Int)) = ((mark k + x : Nat) : Int) := by decide +kernel
  rw [e, key _ hk _ hx]
  rfl
theorem low_byte (n i : Nat) : IntKind.u8.wrap ((n : Int) / 2 ^ (8 * i)) = ((n / 256 ^ i % 256 : Nat) : Int) := by
  have e : (n : Int) / 2 ^ (8 * i) = ((n / 256 ^ i : Nat) : Int) := by
    rw [p256]; simp
  rw [e]
  simp [IntKind.wrap, IntKind.bits, IntKind.signed]

set_option maxHeartbeats 4000000 in
set_option maxRecDepth 10000 in
theorem num_good (n : Nat) (hn : n < 4611686018427387904) (w : World) : Calls Tryd.prog 50 #[.int .i64 (n : Int)] w (NumPost n w) := by
  have hz := low_byte n
  have ht := top_bits hn
  have HB := Lib.hid (behind_any n hn)
  have HM := Lib.hid (mark_any (kN n) (kN_le n))
  have hK := kN_le n
  have HP := Lib.hid (show numS n = bytesN (topB n :: be (kN n) n) ∧ numE n = 0 by unfold numS numE encS enc; rw [if_pos (by omega), if_pos (by omega), Int.toNat_natCast]; exact ⟨rfl, rfl⟩)
  obtain ⟨c, hc⟩ : ∃ c, topB n = c := ⟨_, rfl⟩
  have hc256 : c < 256 := by rw [← hc]; exact (topB_range hn).2.1
  obtain ⟨m, hm⟩ : ∃ m, mark (kN n) = m := ⟨_, rfl⟩
  rw [hc] at ht HP
  rw [hm] at ht HM
  generalize kN n = K at *
  clear hc hm
  obtain ⟨w1, hmk0, hA, hB⟩ := make_bytes w (K + 1) (by omega)
  have hmk : (Instr.makeSlice 76 (.int .i64 ((K : Int) + 1)) (.int .i64 ((K : Int) + 1))).run Tryd.prog w = .ok (.slice (some ⟨w.heap.size, 0, none⟩) (K + 1) (K + 1)) w1 := hmk0
  have HZ := Lib.hid hz
  have HT := Lib.hid ht
  have HA := Lib.hid hA
  have HB1 := Lib.hid hB
  clear hz ht hmk0 hA hB
  have n0 : ¬ (n : Int) < 0 := by omega
  have n1 : ¬ (4611686018427387903 : Int) < (n : Int) := by omega
  have k1 : IntKind.i64.wrap ((K : Int) + 1) = (K : Int) + 1 := IntWalk.i64_in _ (by omega)
  go_enter Tryd.func50, Tryd.ntmps50
  go_wp2_with (go_at_call 74; refine (HB.out _).mono ?_; rintro e w2 ⟨rfl, rfl⟩)
  clear hmk
  have hNS := Lib.hid hn
  clear hn n0 n1
  go_loopw [19] (fun i wr => ∃ k : Nat, k ≤ K ∧ i = .int .i64 k ∧ Arr wr w2.heap.size (layT K n k) (K + 1) ∧ Below w2.heap.size w2 wr) (fun i _ => K - (intOf i).toNat)
  case atStart => exact ⟨0, Nat.zero_le _, rfl, HA.out.congr fun j hj => by unfold layT; rw [if_neg (by omega)], HB1.out⟩
  case round =>
    obtain ⟨k, hk, rfl, hA, hB⟩ := hrel
    have HAr := Lib.hid hA
    have HBr := Lib.hid hB
    clear hA hB
    by_cases hlt : k < K
    · have hlt' : (k : Int) < (K : Int) := by omega
      have w1 : IntKind.i64.wrap ((K : Int) - (k : Int)) = ((K - k : Nat) : Int) := by rw [IntKind.wrap_i64]; omega
      have w3 : ((K - k : Nat) : Int) < (K : Int) + 1 := by omega
      have w4 : IntKind.i64.wrap (8 * (k : Int)) = 8 * (k : Int) := IntWalk.i64_in _ (by omega)
      obtain ⟨c0, f0⟩ := HAr.out.2 (K - k) (by omega)
      have hb := HZ.out k
      have NX := Lib.hid ((HAr.out.put (v := n / 256 ^ k % 256) (show K - k < K + 1 by omega)).congr (layT_put (n := n) hlt))
      obtain ⟨v, hv⟩ : ∃ v : Nat, n / 256 ^ k % 256 = v := ⟨_, rfl⟩
      rw [hv] at hb NX
      clear hv
      generalize K - k = p at *
      go_wp2_with fail
      exact ⟨⟨k + 1, by omega, by go_num, NX.out, HBr.out.setCell (Nat.le_refl _) _⟩, by simp [intOf]; omega⟩
    · have hlt' : ¬ (k : Int) < (K : Int) := by omega
      obtain rfl : k = K := by omega
      obtain ⟨c0, f0⟩ := HAr.out.2 0 (by omega)
      have hkk : (0 : Int) < (k : Int) + 1 := by omega
      have w4 : IntKind.i64.wrap (8 * (k : Int)) = 8 * (k : Int) := IntWalk.i64_in _ (by omega)
      go_wp2_with fail
      go_still_tail 10, (by kernel_rfl)
      still_call (HM.out _)
      repeat still_step
      refine wpStill_nil ?_
      change wpList _ _ _ _ _ wr.drew
      have ht2 : bits BinOp.or IntKind.u8 (m : Int) ((n : Int) / 2 ^ (8 * k) % 256) = (c : Int) := by
        rw [← HT.out]
        simp [IntKind.wrap, IntKind.bits, IntKind.signed]
      have A2 := (HAr.out.put (v := c) (show 0 < k + 1 by omega))
      have cv := conv_arr (c := k + 1) (w := (wr.setCell ⟨w2.heap.size, 0, none⟩ (.int .u8 (c : Int))).drew) (l := c :: be k n) A2 (by simp [be_length]) (layT_all (n := n))
      have HBE := Lib.hid (HBr.out.setCell (p := ⟨w2.heap.size, 0, none⟩) (Nat.le_refl _) (.int .u8 (c : Int))).drew
      clear A2
      go_wp2_with fail
      go_ret2
      exact ⟨ret_se HP.out.1.symm HP.out.2.symm, HBE.out⟩

set_option maxHeartbeats 1000000 in
theorem num_any (n : Int) (w : World) : Calls Tryd.prog 50 #[.int .i64 n] w (NumPost n w) := by
  by_cases h0 : n < 0
  · have HP := Lib.hid (show numS n = ⟨#[]⟩ ∧ numE n = 2 by unfold numS numE; rw [if_neg (by omega), if_neg (by omega)]; exact ⟨rfl, rfl⟩)
    go_enter Tryd.func50, Tryd.ntmps50
    go_wp2_with fail
    go_ret2
    exact ⟨ret_se HP.out.1.symm HP.out.2.symm, bl _⟩
  · by_cases h1 : 4611686018427387903 < n
    · have HP := Lib.hid (show numS n = ⟨#[]⟩ ∧ numE n = 2 by unfold numS numE; rw [if_neg (by omega), if_neg (by omega)]; exact ⟨rfl, rfl⟩)
      go_enter Tryd.func50, Tryd.ntmps50
      go_wp2_with fail
      go_ret2
      exact ⟨ret_se HP.out.1.symm HP.out.2.symm, bl _⟩
    · obtain ⟨m, rfl⟩ : ∃ m : Nat, n = (m : Int) := ⟨n.toNat, by omega⟩
      exact num_good m (by omega) w

end Go.Proofs.YtmieonfdenjedaaDoor

/-
  Lists of numbers in memory, and lists of the call's own that are appended to.
-/
namespace Go.Proofs.YtmieonfdenjedaaDoor
open Go.RowKit

theorem Tryd.infoInt : (Tryd.prog.info? 3).map (fun i => (i.zero, i.size, i.bytes)) = some (some (.int .i64 0), 1, 8) := by kernel_rfl

/-- From A on the numbers of l lie, one behind the other. -/
def Ints (w : World) (A : Option Addr) (l : List Int) : Prop := ∀ i x, l[i]? = some x → ∃ g off, A = some ⟨g, off, none⟩ ∧ w.cell? ⟨g, off + i, none⟩ = some (.int .i64 x)

theorem lt_of_cell {w : World} {g o : Nat} {u : Value} (h : w.cell? ⟨g, o, none⟩ = some u) : g < w.heap.size := by
  rcases Nat.lt_or_ge g w.heap.size with hlt | hge
  · exact hlt
  · simp [World.cell?, Array.getElem?_eq_none hge] at h
theorem Ints.below {w w' : World} {A : Option Addr} {l : List Int} (h : Ints w A l) (hb : Below w.heap.size w w') : Ints w' A l := fun i x hx => by
  obtain ⟨g, off, rfl, c0⟩ := h i x hx
  exact ⟨g, off, rfl, (hb.cell (p := ⟨g, _, none⟩) (lt_of_cell c0)).trans c0⟩
theorem Ints.nil (w : World) (A : Option Addr) : Ints w A [] := fun i p h => by simp at h

abbrev ownI (w : World) (base : Nat) (v : Value) (ts : List Int) : Prop := w.ownsRow base 3 1 v ts.length (ts.map (Value.int .i64))
theorem own_ints {w : World} {base : Nat} {v : Value} {l : List Int} (h : ownI w base v l) : ∃ A c, v = .slice A l.length c ∧ Ints w A l ∧ (A = none → c = 0) := by
  rcases h.2 with ⟨hv, h0⟩ | ⟨g, cap, cur, hv, _⟩
  · obtain rfl : l = [] := List.eq_nil_of_length_eq_zero h0
    exact ⟨_, _, hv, Ints.nil _ _, fun _ => rfl⟩
  · refine ⟨_, _, hv, fun i x hx => ⟨g, 0, rfl, ?_⟩, fun h => by cases h⟩
    have add : ∀ n, (⟨g, 0, none⟩ : Addr).add n = ⟨g, 0 + n, none⟩ := fun n => by unfold Addr.add; split <;> simp_all
    have c0 := h.cells (g := g) (by rw [hv]; rfl) i (.int .i64 x) (by simp [hx])
    rwa [add] at c0
theorem own_below {w w' : World} {base e size n : Nat} {v : Value} {xs : List Value} (h : w.ownsRow base e size v n xs) (hb : Below w.heap.size w w') : w'.ownsRow base e size v n xs :=
  h.kept (row := none) ⟨hb.os, hb.tape, hb.output, hb.size, fun k hk _ => hb.block k hk⟩ (by cases v.ownBlock <;> simp)
theorem news_one (w : World) (x : Int) (ty : TypeId) : ∀ j u, [Value.int .i64 x][j]? = some u → (w.alloc (.cells #[.int .i64 x] ty)).cell? ((⟨w.heap.size, 0, none⟩ : Addr).add j) = some u :=
  World.news_of_block (cs := #[.int .i64 x]) (heap_alloc_new w _)

/-- v is a list of the call's own, with the numbers l. -/
structure OI (W : World) (l : List Int) (v : Value) (wr : World) : Prop where
  own : ownI wr W.heap.size v l
  bel : Below W.heap.size W wr
theorem OI.nil (W : World) : OI W [] (.slice none 0 0) W := ⟨World.ownsRow_nil _ _ _ _, bl W⟩
theorem OI.below {W w w' : World} {l : List Int} {v : Value} (h : OI W l v w) (hb : Below w.heap.size w w') : OI W l v w' := ⟨own_below h.own hb, chain h.bel hb⟩
theorem OI.app {W wr w2 : World} {l : List Int} {v v' : Value} {x : Int} {ty : TypeId} {o : Option Nat} (h : OI W l v wr) (ho : o = v.ownBlock) (hg : (wr.alloc (.cells #[.int .i64 x] ty)).grownBy w2 o)
    (hown : w2.ownsRow W.heap.size 3 1 v' (l.length + 1) (l.map (Value.int .i64) ++ [.int .i64 x])) : OI W (l ++ [x]) v' w2 := by
  subst ho
  refine ⟨by simpa [ownI] using hown, (h.bel.alloc h.bel.size _).grown hg (by have := h.bel.size; simp; omega) fun r hr => (h.own.lt r hr).1⟩

/-- The lowest i bits of v. -/
def bitsL (v i : Nat) : List Int := (List.range i).map fun j => ((bitAt v j : Nat) : Int)
theorem bitsL_length (v i : Nat) : (bitsL v i).length = i := by simp [bitsL]
theorem bitsL_succ (v i : Nat) : bitsL v (i + 1) = bitsL v i ++ [((bitAt v i : Nat) : Int)] := by simp [bitsL, List.range_succ]
theorem bitsL_get {v i j : Nat} (h : j < i) : (bitsL v i)[j]? = some ((bitAt v j : Nat) : Int) := by
  simp [bitsL, h]

end Go.Proofs.YtmieonfdenjedaaDoor

/-
  A number's bytes, laid by the document bit by bit: its Num.
-/
namespace Go.Proofs.YtmieonfdenjedaaDoor
open Go.RowKit

/-- The least number that needs more than k bytes behind (k at most 7). -/
def topN (k : Nat) : Nat := 2 ^ (7 * (min k 7 + 1))
theorem topN_next {k : Nat} (h : k < 7) : wrap64 (128 * ((topN k : Nat) : Int)) = ((topN (k + 1) : Nat) : Int) := by
  have hk' : k = 0 ∨ k = 1 ∨ k = 2 ∨ k = 3 ∨ k = 4 ∨ k = 5 ∨ k = 6 := by omega
  rcases hk' with rfl | rfl | rfl | rfl | rfl | rfl | rfl <;> decide +kernel
theorem topN_iff {n k : Nat} (hk : k < 8) : kN n ≤ k ↔ n < topN k := by
  rw [kN_lt_iff hk, topN, show min k 7 = k from by omega]

theorem own_intsN {w : World} {base : Nat} {v : Value} {l : List Int} {N : Nat} (h : ownI w base v l) (hl : l.length = N) : ∃ A c, v = .slice A N c ∧ Ints w A l ∧ (A = none → c = 0) := by
  subst hl
  exact own_ints h
theorem Ints.some {w : World} {A : Option Addr} {l : List Int} (h : Ints w A l) (hl : 0 < l.length) : ∃ g off, A = .some ⟨g, off, none⟩ ∧ g < w.heap.size := by
  obtain ⟨g, off, e, c⟩ := h 0 _ (List.getElem?_eq_getElem hl)
  exact ⟨g, off, e, lt_of_cell c⟩
theorem Ints.at {w : World} {g off i : Nat} {x : Int} {l : List Int} (h : Ints w (.some ⟨g, off, none⟩) l) (hx : l[i]? = .some x) : w.cell? ⟨g, off + i, none⟩ = .some (.int .i64 x) := by
  obtain ⟨g', off', e, c⟩ := h i x hx
  injection e with e
  injection e with e1 e2
  subst e1 e2
  exact c
theorem Ints.put {w : World} {g off G j : Nat} {u : Value} {l : List Int} (h : Ints w (.some ⟨g, off, none⟩) l) (hne : g ≠ G) : Ints (w.setCell ⟨G, j, none⟩ u).drew (.some ⟨g, off, none⟩) l := fun i x hx =>
  ⟨g, off, rfl, (World.cell?_setCell_other w _ _ _ (by simp)).trans (h.at hx)⟩
theorem be_zero (K j : Nat) : (be K 0).getD j 0 = 0 := by
  rw [List.getD_eq_getElem?_getD]
  rcases Nat.lt_or_ge j K with h | h
  · rw [be_get _ _ _ h]; simp
  · rw [List.getElem?_eq_none (by rw [be_length]; exact h)]; rfl

theorem bit_step {v k K : Nat} (hb : bitAt v k = 1) (hk : k < 8 * (K + 1)) : (be (K + 1) (v % 2 ^ k)).getD (K - k / 8) 0 + 2 ^ (k % 8) < 256 ∧
    ∀ j, j < K + 1 → upd (fun j => (be (K + 1) (v % 2 ^ k)).getD j 0) (K - k / 8) ((be (K + 1) (v % 2 ^ k)).getD (K - k / 8) 0 + 2 ^ (k % 8)) j = (be (K + 1) (v % 2 ^ (k + 1))).getD j 0 := by
  have hs := be_step (K := K + 1) (w := v % 2 ^ k) (i := k) (Nat.mod_lt _ (two_pos k)) hk
  have e : K + 1 - 1 - k / 8 = K - k / 8 := by omega
  rw [e] at hs
  have hg : (be (K + 1) (v % 2 ^ k)).getD (K - k / 8) 0 = v % 2 ^ k / 256 ^ (k / 8) % 256 := by
    rw [List.getD_eq_getElem?_getD, be_get _ _ _ (by omega), show K + 1 - 1 - (K - k / 8) = k / 8 from by omega]
    rfl
  rw [hg]
  refine ⟨hs.2, fun j hj => ?_⟩
  rw [mod_next, hb, Nat.one_mul, hs.1]
  unfold upd
  simp only [List.getD_eq_getElem?_getD]
  by_cases h : j = K - k / 8
  · subst h
    rw [if_pos rfl, List.getElem?_set_self (by rw [be_length]; omega)]
    rfl
  · rw [if_neg h, List.getElem?_set_ne (fun h' => h h'.symm)]

set_option maxHeartbeats 4000000 in
set_option maxRecDepth 10000 in
theorem dnum_good (n : Nat) (hn : n < 4611686018427387904) (w : World) : Calls Tryd.prog 62 #[.int .i64 (n : Int)] w (NumPost n w) := by
  obtain ⟨i0, hi, hz0, hz1, hz2⟩ := info_parts Tryd.infoInt
  have n0 : ¬ (n : Int) < 0 := by omega
  have n1 : ¬ (4611686018427387903 : Int) < (n : Int) := by omega
  have hK := kN_le n
  go_enter Tryd.func62, Tryd.ntmps62
  go_wp2_with fail
  clear n0 n1
  have HNN := Lib.hid hn
  go_loopw [4, 5] (fun i t wr => ∃ k : Nat, k ≤ kN n ∧ i = .int .i64 k ∧ t = .int .i64 (topN k : Int) ∧ wr = w) (fun i _ _ => 8 - (intOf i).toNat)
  case atStart => exact ⟨0, Nat.zero_le _, rfl, rfl, rfl⟩
  case round =>
    obtain ⟨k, hk, rfl, rfl, hwr⟩ := hrel
    obtain rfl := hwr.symm
    by_cases hlt : k < kN n
    · have k8 : (k : Int) < 8 := by omega
      have hge : ¬ n < topN k := fun h => by have := (topN_iff (n := n) (k := k) (by omega)).2 h; omega
      have hge' : (topN k : Int) ≤ (n : Int) := by omega
      by_cases h7 : k < 7
      · have h7' : (k : Int) + 1 < 8 := by omega
        have ht := topN_next h7
        obtain ⟨p, hp⟩ : ∃ p, topN k = p := ⟨_, rfl⟩
        rw [hp] at ht hge' hge ⊢
        clear hp
        go_wp2_with fail
        exact ⟨⟨k + 1, by omega, by go_num, by rw [ht], trivial⟩, by simp [intOf]; omega⟩
      · have h7' : ¬ (k : Int) + 1 < 8 := by omega
        have ht : topN (k + 1) = topN k := by unfold topN; congr 2; omega
        obtain ⟨p, hp⟩ : ∃ p, topN k = p := ⟨_, rfl⟩
        rw [hp] at ht hge' hge ⊢
        clear hp
        go_wp2_with fail
        exact ⟨⟨k + 1, by omega, by go_num, by rw [ht], trivial⟩, by simp [intOf]; omega⟩
    · obtain rfl : kN n = k := by omega
      have hge : kN n < 8 → ¬ (topN (kN n) : Int) ≤ (n : Int) := fun h8 => by have := (topN_iff h8).1 (Nat.le_refl (kN n)); omega
      obtain ⟨room, R8, R9⟩ : ∃ room : Nat, (kN n < 8 → room = 7 * (kN n + 1)) ∧ (kN n = 8 → room = 64) := by
        by_cases h : kN n = 8
        · exact ⟨64, fun h' => by omega, fun _ => rfl⟩
        · exact ⟨7 * (kN n + 1), fun _ => rfl, fun h' => absurd h' h⟩
      have r64 : room ≤ 64 := by omega
      have OWN := Lib.hid (show ∀ i, i < room → bitAt (whole n) i = bitAt n i from fun i h => by
        rcases Nat.lt_or_ge (kN n) 8 with h8 | h8
        · exact whole_bits_own h8 (by omega)
        · exact whole_bits_own8 (by omega) (by omega))
      have ZERO := Lib.hid (show kN n < 8 → bitAt (whole n) room = 0 from fun h8 => by rw [R8 h8]; exact whole_bits_zero h8)
      obtain ⟨B0, hB0, hB8, MARK0⟩ : ∃ B0 : Nat, (kN n < 8 → B0 = room + 1) ∧ (kN n = 8 → B0 = room) ∧ ∀ t, t < kN n → bitAt (whole n) (B0 + t) = 1 := by
        by_cases h : kN n = 8
        · exact ⟨room, fun h' => by omega, fun _ => rfl, fun t ht => by rw [R9 h]; exact whole_bits_mark8 hn h (by omega)⟩
        · exact ⟨room + 1, fun _ => rfl, fun h' => absurd h' h, fun t ht => by rw [R8 (by omega)]; exact whole_bits_mark (by omega) ht⟩
      have MARK := Lib.hid MARK0
      have HV := Lib.hid (whole_be hn)
      have VLT := Lib.hid (whole_lt hn)
      have HP := Lib.hid (show numS n = bytesN (enc n) ∧ numE n = 0 by unfold numS numE encS; rw [if_pos (by omega), if_pos (by omega), Int.toNat_natCast]; exact ⟨rfl, rfl⟩)
      have hB : B0 + kN n = 8 * (kN n + 1) := by
        rcases Nat.lt_or_ge (kN n) 8 with h8 | h8
        · have := R8 h8; have := hB0 h8; omega
        · have := R9 (by omega); have := hB8 (by omega); omega
      clear MARK0
      generalize whole n = v at *
      generalize topN (kN n) = tp at *
      generalize kN n = K at *
      rcases Nat.lt_or_ge K 8 with h8 | h8
      · have h8i : (K : Int) < 8 := by omega
        have hg := hge h8
        have CND := Lib.hid (fun (i : Nat) (h : i < room) => (show (i : Int) < 7 * ((K : Int) + 1) by have := R8 h8; omega))
        have CNN := Lib.hid (fun (i : Nat) (h : ¬ i < room) => (show ¬ (i : Int) < 7 * ((K : Int) + 1) by have := R8 h8; omega))
        have HB0 := hB0 h8
        clear hge R8 R9 hB0 hB8
        go_wp2_with fail
        go_loopw [0, 6, 8] (fun q b i wr => ∃ k qn : Nat, k ≤ room ∧ n / 2 ^ k = qn ∧ i = .int .i64 k ∧ q = .int .i64 (qn : Int) ∧ OI w (bitsL v k) b wr) (fun _ _ i _ => room - (intOf i).toNat)
        case atStart => exact ⟨0, n, Nat.zero_le _, by simp, rfl, rfl, OI.nil _⟩
        case round =>
          obtain ⟨k, q, hk, hq, rfl, rfl, hO⟩ := hrel
          have HO := Lib.hid hO
          clear hO
          have hown := HO.out.own
          have hsz := HO.out.bel.size
          have hlen := bitsL_length v k
          by_cases hlt : k < room
          · have hc := CND.out k hlt
            have hb := Lib.hid (show bitAt v k = q % 2 by rw [OWN.out k hlt, bitAt, hq])
            have hq2 : n / 2 ^ (k + 1) = q / 2 := by rw [Nat.pow_succ, ← Nat.div_div_eq_div_mul, hq]
            have HQ2 := Lib.hid hq2
            have q62 : q < 4611686018427387904 := by rw [← hq]; exact Nat.lt_of_le_of_lt (Nat.div_le_self _ _) HNN.out
            clear hq hq2
            go_wp2_with (at_builtin; refine wpList_append_own _ rfl (.tmp 41) (.tmp 44) 107 rfl w.heap.size 3 i0 (.int .i64 0) 1 8 Tryd.underlying107 hi hz0 hz1 hz2 rfl (by decide) _ _ _ rfl (World.ownsRow.alloc hown _) ⟨wr.heap.size, 0, none⟩ 1 1 [.int .i64 ((q : Int) % 2)] rfl rfl (news_one wr _ _) (by simp [Value.oneCell']) (by unfold maxLen; omega) (by omega) (by simp; omega) ?_; intro v' w2 hown2 hgrow2 _)
            have NX := HO.out.app rfl hgrow2 hown2
            rw [show (q : Int) % 2 = ((bitAt v k : Nat) : Int) by rw [hb.out]; omega, ← bitsL_succ] at NX
            exact ⟨⟨k + 1, q / 2, by omega, HQ2.out, by go_num, by go_num, NX⟩, by simp [intOf]; omega⟩
          · have hc := CNN.out k hlt
            obtain rfl : room = k := by omega
            clear hq
            go_wp2_with (at_builtin; refine wpList_append_own _ rfl (.tmp 50) (.tmp 51) 107 rfl w.heap.size 3 i0 (.int .i64 0) 1 8 Tryd.underlying107 hi hz0 hz1 hz2 rfl (by decide) _ _ _ rfl (World.ownsRow.alloc hown _) ⟨wr.heap.size, 0, none⟩ 1 1 [.int .i64 0] rfl rfl (news_one wr _ _) (by simp [Value.oneCell']) (by unfold maxLen; omega) (by omega) (by simp; omega) ?_; intro v' w2 hown2 hgrow2 _)
            have NX := HO.out.app rfl hgrow2 hown2
            rw [show (0 : Int) = ((bitAt v room : Nat) : Int) by rw [ZERO.out h8]; rfl, ← bitsL_succ, ← HB0] at NX
            clear hown hgrow2 hown2 hsz
            have NX := Lib.hid NX
            go_loopw [6, 9] (fun b i wr => ∃ t : Nat, t ≤ K ∧ i = .int .i64 t ∧ OI w (bitsL v (B0 + t)) b wr) (fun _ i _ => K - (intOf i).toNat)
            case atStart => exact ⟨0, Nat.zero_le _, rfl, NX.out⟩
            case round =>
              obtain ⟨t, ht, rfl, hO⟩ := hrel
              have HO := Lib.hid hO
              clear hO NX
              by_cases hlt : t < K
              · have hlt' : (t : Int) < (K : Int) := by omega
                have hown := HO.out.own
                have hsz := HO.out.bel.size
                have hlen := bitsL_length v (B0 + t)
                go_wp2_with (at_builtin; refine wpList_append_own _ rfl (.tmp 58) (.tmp 59) 107 rfl w.heap.size 3 i0 (.int .i64 0) 1 8 Tryd.underlying107 hi hz0 hz1 hz2 rfl (by decide) _ _ _ rfl (World.ownsRow.alloc hown _) ⟨wr.heap.size, 0, none⟩ 1 1 [.int .i64 1] rfl rfl (news_one wr _ _) (by simp [Value.oneCell']) (by unfold maxLen; omega) (by omega) (by simp; omega) ?_; intro v' w2 hown2 hgrow2 _)
                have NX := HO.out.app rfl hgrow2 hown2
                rw [show (1 : Int) = ((bitAt v (B0 + t) : Nat) : Int) by rw [MARK.out t hlt]; rfl, ← bitsL_succ] at NX
                first
                  | exact ⟨⟨t + 1, by omega, by go_num, NX⟩, by simp [intOf]; omega⟩
                  | (go_roundw
                     case rel => exact ⟨t + 1, by omega, by go_num, NX⟩
                     case measure => simp [intOf]; omega)
              · have hlt' : ¬ (t : Int) < (K : Int) := by omega
                obtain rfl : K = t := by omega
                obtain ⟨N, hN⟩ : ∃ N, N = 8 * (K + 1) := ⟨_, rfl⟩
                obtain ⟨A, c, rfl, hI, _⟩ := own_intsN HO.out.own (N := N) (by rw [bitsL_length, hN, ← hB])
                obtain ⟨g, off, rfl, gG⟩ := hI.some (by rw [bitsL_length]; omega)
                obtain ⟨w2, hmk0, hA, hB2⟩ := make_bytes wr (K + 1) (by omega)
                have hmk : (Instr.makeSlice 76 (.int .i64 ((K : Int) + 1)) (.int .i64 ((K : Int) + 1))).run Tryd.prog wr = .ok (.slice (some ⟨wr.heap.size, 0, none⟩) (K + 1) (K + 1)) w2 := hmk0
                have HI := Lib.hid (show Ints w2 (some ⟨g, off, none⟩) (bitsL v N) by rw [hN, ← hB]; exact hI.below hB2)
                have HA := Lib.hid hA
                have HB2 := Lib.hid (show Below w.heap.size w w2 from chain HO.out.bel hB2)
                have hG := HO.out.bel.size
                have hG2 : wr.heap.size < w2.heap.size := HA.out.1
                clear hI hA hB2 hmk0
                go_wp2_with fail
                clear hmk
                generalize wr.heap.size = G at *
                go_loopw [11] (fun i wr => ∃ k : Nat, k ≤ N ∧ i = .int .i64 k ∧ Arr wr G (fun j => (be (K + 1) (v % 2 ^ k)).getD j 0) (K + 1) ∧ Below w.heap.size w wr ∧ Ints wr (some ⟨g, off, none⟩) (bitsL v N)) (fun i _ => N - (intOf i).toNat)
                case atStart => exact ⟨0, Nat.zero_le _, rfl, HA.out.congr fun j _ => (by rw [Nat.pow_zero, Nat.mod_one, be_zero]), HB2.out, HI.out⟩
                case round =>
                  obtain ⟨k, hk, rfl, hA, hB3, hI⟩ := hrel
                  have HA := Lib.hid hA
                  have HB3 := Lib.hid hB3
                  have HI := Lib.hid hI
                  clear hA hB3 hI
                  by_cases hlt : k < N
                  · have hlt' : (k : Int) < (N : Int) := by omega
                    have c0 := HI.out.at (bitsL_get hlt)
                    rcases bit_or v k with hbit | hbit
                    · rw [hbit] at c0
                      go_wp2_with fail
                      exact ⟨⟨k + 1, by omega, by go_num, HA.out.congr fun j _ => (by rw [mod_next, hbit]; simp), HB3.out, HI.out⟩, by simp [intOf]; omega⟩
                    · rw [hbit] at c0
                      obtain ⟨ho, hup⟩ := bit_step hbit (K := K) (by omega)
                      have UP := Lib.hid hup
                      obtain ⟨r, hr⟩ : ∃ r, k % 8 = r := ⟨_, rfl⟩
                      obtain ⟨p, hp⟩ : ∃ p, k / 8 = p := ⟨_, rfl⟩
                      obtain ⟨j, hj⟩ : ∃ j, K - p = j := ⟨_, rfl⟩
                      have e1 : (k : Int) / 8 = (p : Int) := by omega
                      have e2 : (k : Int) % 8 = (r : Int) := by omega
                      have hjK : j < K + 1 := by omega
                      have hjI : (j : Int) < (K : Int) + 1 := by omega
                      have e3 : wrap64 ((K : Int) - (p : Int)) = (j : Int) := by rw [IntWalk.wrap64_in _ (by omega)]; omega
                      have e4 : Int.tmod (k : Int) 8 = (r : Int) := by rw [Int.tmod_eq_emod_of_nonneg (by omega)]; omega
                      have e5 : IntKind.i64.wrap (p : Int) = (p : Int) := IntWalk.i64_in _ (by omega)
                      have e6 : IntKind.i64.wrap ((K : Int) - (p : Int)) = (j : Int) := by rw [IntWalk.i64_in _ (by omega)]; omega
                      have PW := Lib.hid (fun w => power_any r (by omega) w)
                      rw [hr, hp, hj] at ho UP
                      obtain ⟨c1, f1⟩ := HA.out.2 j hjK
                      have NX := Lib.hid ((HA.out.put (v := (be (K + 1) (v % 2 ^ k)).getD j 0 + 2 ^ r) hjK).congr UP.out)
                      obtain ⟨x, hx⟩ : ∃ x, (be (K + 1) (v % 2 ^ k)).getD j 0 = x := ⟨_, rfl⟩
                      obtain ⟨y, hy⟩ : ∃ y, 2 ^ r = y := ⟨_, rfl⟩
                      rw [hy] at PW
                      simp only [hx, hy] at c1 NX ho
                      clear hx hy hr hp hj UP
                      go_wp2_with fail
                      go_still_tail 17, (by kernel_rfl)
                      still_call (PW.out _)
                      repeat still_step
                      refine wpStill_nil ?_
                      change wpList _ _ _ _ _ wr.drew
                      go_wp2_with fail
                      have hx : (x : Int) + (y : Int) = ((x + y : Nat) : Int) := by omega
                      rw [hx]
                      exact ⟨⟨k + 1, by omega, by go_num, NX.out, (HB3.out.setCell (p := ⟨G, j, none⟩) hG _).drew, HI.out.put (Nat.ne_of_lt gG)⟩, by simp [intOf]; omega⟩
                  · have hlt' : ¬ (k : Int) < (N : Int) := by omega
                    obtain rfl : k = N := by omega
                    have cv := conv_arr (c := K + 1) (w := wr) (l := enc n) HA.out (by rw [← HV.out, be_length]) (fun j hj => by
                      rw [← HV.out, Nat.mod_eq_of_lt (by rw [hN]; exact VLT.out), List.getD_eq_getElem?_getD, be_get _ _ _ hj]; rfl)
                    go_wp2_with fail
                    go_ret2
                    exact ⟨ret_se HP.out.1.symm HP.out.2.symm, HB3.out⟩
      · obtain rfl : K = 8 := by omega
        have CND := Lib.hid (fun (i : Nat) (h : i < room) => (show (i : Int) < 64 by have := R9 rfl; omega))
        have CNN := Lib.hid (fun (i : Nat) (h : ¬ i < room) => (show ¬ (i : Int) < 64 by have := R9 rfl; omega))
        have HB0 := hB8 rfl
        clear hge R8 R9 hB0 hB8
        go_wp2_with fail
        go_loopw [0, 6, 8] (fun q b i wr => ∃ k qn : Nat, k ≤ room ∧ n / 2 ^ k = qn ∧ i = .int .i64 k ∧ q = .int .i64 (qn : Int) ∧ OI w (bitsL v k) b wr) (fun _ _ i _ => room - (intOf i).toNat)
        case atStart => exact ⟨0, n, Nat.zero_le _, by simp, rfl, rfl, OI.nil _⟩
        case round =>
          obtain ⟨k, q, hk, hq, rfl, rfl, hO⟩ := hrel
          have HO := Lib.hid hO
          clear hO
          have hown := HO.out.own
          have hsz := HO.out.bel.size
          have hlen := bitsL_length v k
          by_cases hlt : k < room
          · have hc := CND.out k hlt
            have hb := Lib.hid (show bitAt v k = q % 2 by rw [OWN.out k hlt, bitAt, hq])
            have hq2 : n / 2 ^ (k + 1) = q / 2 := by rw [Nat.pow_succ, ← Nat.div_div_eq_div_mul, hq]
            have HQ2 := Lib.hid hq2
            have q62 : q < 4611686018427387904 := by rw [← hq]; exact Nat.lt_of_le_of_lt (Nat.div_le_self _ _) HNN.out
            clear hq hq2
            go_wp2_with (at_builtin; refine wpList_append_own _ rfl (.tmp 41) (.tmp 44) 107 rfl w.heap.size 3 i0 (.int .i64 0) 1 8 Tryd.underlying107 hi hz0 hz1 hz2 rfl (by decide) _ _ _ rfl (World.ownsRow.alloc hown _) ⟨wr.heap.size, 0, none⟩ 1 1 [.int .i64 ((q : Int) % 2)] rfl rfl (news_one wr _ _) (by simp [Value.oneCell']) (by unfold maxLen; omega) (by omega) (by simp; omega) ?_; intro v' w2 hown2 hgrow2 _)
            have NX := HO.out.app rfl hgrow2 hown2
            rw [show (q : Int) % 2 = ((bitAt v k : Nat) : Int) by rw [hb.out]; omega, ← bitsL_succ] at NX
            exact ⟨⟨k + 1, q / 2, by omega, HQ2.out, by go_num, by go_num, NX⟩, by simp [intOf]; omega⟩
          · have hc := CNN.out k hlt
            obtain rfl : room = k := by omega
            clear hq
            go_wp2_with fail
            obtain ⟨w2, hw2⟩ : ∃ w2, wr = w2 := ⟨_, rfl⟩
            rw [← HB0] at HO
            have NX := Lib.hid (show OI w (bitsL v B0) _ w2 from hw2 ▸ HO.out)
            subst hw2
            clear hown hsz
            go_loopw [6, 9] (fun b i wr => ∃ t : Nat, t ≤ 8 ∧ i = .int .i64 t ∧ OI w (bitsL v (B0 + t)) b wr) (fun _ i _ => 8 - (intOf i).toNat)
            case atStart => exact ⟨0, Nat.zero_le _, rfl, NX.out⟩
            case round =>
              obtain ⟨t, ht, rfl, hO⟩ := hrel
              have HO := Lib.hid hO
              clear hO NX
              by_cases hlt : t < 8
              · have hlt' : (t : Int) < (8 : Int) := by omega
                have hown := HO.out.own
                have hsz := HO.out.bel.size
                have hlen := bitsL_length v (B0 + t)
                go_wp2_with (at_builtin; refine wpList_append_own _ rfl (.tmp 58) (.tmp 59) 107 rfl w.heap.size 3 i0 (.int .i64 0) 1 8 Tryd.underlying107 hi hz0 hz1 hz2 rfl (by decide) _ _ _ rfl (World.ownsRow.alloc hown _) ⟨wr.heap.size, 0, none⟩ 1 1 [.int .i64 1] rfl rfl (news_one wr _ _) (by simp [Value.oneCell']) (by unfold maxLen; omega) (by omega) (by simp; omega) ?_; intro v' w2 hown2 hgrow2 _)
                have NX := HO.out.app rfl hgrow2 hown2
                rw [show (1 : Int) = ((bitAt v (B0 + t) : Nat) : Int) by rw [MARK.out t hlt]; rfl, ← bitsL_succ] at NX
                first
                  | exact ⟨⟨t + 1, by omega, by go_num, NX⟩, by simp [intOf]; omega⟩
                  | (go_roundw
                     case rel => exact ⟨t + 1, by omega, by go_num, NX⟩
                     case measure => simp [intOf]; omega)
              · have hlt' : ¬ (t : Int) < (8 : Int) := by omega
                obtain rfl : 8 = t := by omega
                obtain ⟨N, hN⟩ : ∃ N, N = 8 * (8 + 1) := ⟨_, rfl⟩
                obtain ⟨A, c, rfl, hI, _⟩ := own_intsN HO.out.own (N := N) (by rw [bitsL_length, hN, ← hB])
                obtain ⟨g, off, rfl, gG⟩ := hI.some (by rw [bitsL_length]; omega)
                obtain ⟨w2, hmk0, hA, hB2⟩ := make_bytes wr (8 + 1) (by omega)
                have hmk : (Instr.makeSlice 76 (.int .i64 9) (.int .i64 9)).run Tryd.prog wr = .ok (.slice (some ⟨wr.heap.size, 0, none⟩) (8 + 1) (8 + 1)) w2 := hmk0
                have HI := Lib.hid (show Ints w2 (some ⟨g, off, none⟩) (bitsL v N) by rw [hN, ← hB]; exact hI.below hB2)
                have HA := Lib.hid hA
                have HB2 := Lib.hid (show Below w.heap.size w w2 from chain HO.out.bel hB2)
                have hG := HO.out.bel.size
                have hG2 : wr.heap.size < w2.heap.size := HA.out.1
                clear hI hA hB2 hmk0
                go_wp2_with fail
                clear hmk
                generalize wr.heap.size = G at *
                go_loopw [11] (fun i wr => ∃ k : Nat, k ≤ N ∧ i = .int .i64 k ∧ Arr wr G (fun j => (be (8 + 1) (v % 2 ^ k)).getD j 0) (8 + 1) ∧ Below w.heap.size w wr ∧ Ints wr (some ⟨g, off, none⟩) (bitsL v N)) (fun i _ => N - (intOf i).toNat)
                case atStart => exact ⟨0, Nat.zero_le _, rfl, HA.out.congr fun j _ => (by rw [Nat.pow_zero, Nat.mod_one, be_zero]), HB2.out, HI.out⟩
                case round =>
                  obtain ⟨k, hk, rfl, hA, hB3, hI⟩ := hrel
                  have HA := Lib.hid hA
                  have HB3 := Lib.hid hB3
                  have HI := Lib.hid hI
                  clear hA hB3 hI
                  by_cases hlt : k < N
                  · have hlt' : (k : Int) < (N : Int) := by omega
                    have c0 := HI.out.at (bitsL_get hlt)
                    rcases bit_or v k with hbit | hbit
                    · rw [hbit] at c0
                      go_wp2_with fail
                      exact ⟨⟨k + 1, by omega, by go_num, HA.out.congr fun j _ => (by rw [mod_next, hbit]; simp), HB3.out, HI.out⟩, by simp [intOf]; omega⟩
                    · rw [hbit] at c0
                      obtain ⟨ho, hup⟩ := bit_step hbit (K := 8) (by omega)
                      have UP := Lib.hid hup
                      obtain ⟨r, hr⟩ : ∃ r, k % 8 = r := ⟨_, rfl⟩
                      obtain ⟨p, hp⟩ : ∃ p, k / 8 = p := ⟨_, rfl⟩
                      obtain ⟨j, hj⟩ : ∃ j, 8 - p = j := ⟨_, rfl⟩
                      have e1 : (k : Int) / 8 = (p : Int) := by omega
                      have e2 : (k : Int) % 8 = (r : Int) := by omega
                      have hjK : j < 8 + 1 := by omega
                      have hjI : (j : Int) < 9 := by omega
                      have e3 : wrap64 (8 - (p : Int)) = (j : Int) := by rw [IntWalk.wrap64_in _ (by omega)]; omega
                      have e4 : Int.tmod (k : Int) 8 = (r : Int) := by rw [Int.tmod_eq_emod_of_nonneg (by omega)]; omega
                      have e5 : IntKind.i64.wrap (p : Int) = (p : Int) := IntWalk.i64_in _ (by omega)
                      have e6 : IntKind.i64.wrap (8 - (p : Int)) = (j : Int) := by rw [IntWalk.i64_in _ (by omega)]; omega
                      have PW := Lib.hid (fun w => power_any r (by omega) w)
                      rw [hr, hp, hj] at ho UP
                      obtain ⟨c1, f1⟩ := HA.out.2 j hjK
                      have NX := Lib.hid ((HA.out.put (v := (be (8 + 1) (v % 2 ^ k)).getD j 0 + 2 ^ r) hjK).congr UP.out)
                      obtain ⟨x, hx⟩ : ∃ x, (be (8 + 1) (v % 2 ^ k)).getD j 0 = x := ⟨_, rfl⟩
                      obtain ⟨y, hy⟩ : ∃ y, 2 ^ r = y := ⟨_, rfl⟩
                      rw [hy] at PW
                      simp only [hx, hy] at c1 NX ho
                      clear hx hy hr hp hj UP
                      go_wp2_with fail
                      go_still_tail 17, (by kernel_rfl)
                      still_call (PW.out _)
                      repeat still_step
                      refine wpStill_nil ?_
                      change wpList _ _ _ _ _ wr.drew
                      go_wp2_with fail
                      have hx : (x : Int) + (y : Int) = ((x + y : Nat) : Int) := by omega
                      rw [hx]
                      exact ⟨⟨k + 1, by omega, by go_num, NX.out, (HB3.out.setCell (p := ⟨G, j, none⟩) hG _).drew, HI.out.put (Nat.ne_of_lt gG)⟩, by simp [intOf]; omega⟩
                  · have hlt' : ¬ (k : Int) < (N : Int) := by omega
                    obtain rfl : k = N := by omega
                    have cv := conv_arr (c := 8 + 1) (w := wr) (l := enc n) HA.out (by rw [← HV.out, be_length]) (fun j hj => by
                      rw [← HV.out, Nat.mod_eq_of_lt (by rw [hN]; exact VLT.out), List.getD_eq_getElem?_getD, be_get _ _ _ hj]; rfl)
                    go_wp2_with fail
                    go_ret2
                    exact ⟨ret_se HP.out.1.symm HP.out.2.symm, HB3.out⟩

end Go.Proofs.YtmieonfdenjedaaDoor

/-
  Plain facts on taking: a first byte's ones counted and taken off bit by bit, and the number gathered byte by byte, as long as it is not too great.
-/
namespace Go.Proofs.YtmieonfdenjedaaDoor

theorem val_append : ∀ l m : List Nat, val (l ++ m) = val l * 256 ^ m.length + val m
  | [], m => by simp [val]
  | b :: l, m => by
    rw [List.cons_append, val, val, val_append l m, List.length_append, Nat.pow_add, Nat.add_mul, ← Nat.mul_assoc]
    omega
theorem val_snoc (l : List Nat) (c : Nat) : val (l ++ [c]) = 256 * val l + c := by
  rw [val_append]
  simp [val]
  omega
/-- The first byte's ones, counted from the top. -/
theorem ones_bits {c : Nat} (hc : c < 256) : ones c ≤ 8 ∧ (∀ j, j < ones c → c / 2 ^ (7 - j) % 2 = 1) ∧ (ones c < 8 → c / 2 ^ (7 - ones c) % 2 = 0) := by
  have key : ∀ c, c < 256 → (ones c ≤ 8 ∧ (∀ j, j < ones c → c / 2 ^ (7 - j) % 2 = 1) ∧ (ones c < 8 → c / 2 ^ (7 - ones c) % 2 = 0)) := by decide +kernel
  exact key c hc
/-- A byte of which the bits from 7 down to 8 - t have been taken off, where they are there. -/
def strip (c : Nat) : Nat → Nat
  | 0 => c
  | t + 1 => if 2 ^ (7 - t) ≤ strip c t then strip c t - 2 ^ (7 - t) else strip c t
theorem strip_all {c : Nat} (hc : c < 256) : strip c (min (ones c + 1) 8) = c - mark (ones c) := by
  have key : ∀ c, c < 256 → strip c (min (ones c + 1) 8) = c - mark (ones c) := by decide +kernel
  exact key c hc
theorem strip_le (c : Nat) : ∀ t, strip c t ≤ c
  | 0 => Nat.le_refl _
  | t + 1 => by
    have := strip_le c t
    unfold strip
    split
    · exact Nat.le_trans (Nat.sub_le _ _) this
    · exact this
/-- The bytes without the mark. -/
def bare (c : Nat) (r : List Nat) : List Nat := (c - mark (ones c)) :: r.take (ones c)
theorem bare_val {c : Nat} {r : List Nat} (hl : ones c ≤ r.length) : val (bare c r) = takeV c r := by
  rw [bare, val, takeV, List.length_take, Nat.min_eq_left hl]
theorem bare_length {c : Nat} {r : List Nat} (hl : ones c ≤ r.length) : (bare c r).length = ones c + 1 := by
  rw [bare, List.length_cons, List.length_take, Nat.min_eq_left hl]
/-- What has been gathered of the first i bytes: their number, or it is too great already. -/
structure Gath (L : List Nat) (i n : Nat) (big : Bool) : Prop where
  not : big = false → n = val (L.take i)
  yes : big = true → 4611686018427387904 ≤ val L
  low : n < 4611686018427387904 * 256
theorem Gath.start (L : List Nat) : Gath L 0 0 false := ⟨fun _ => by simp [val], (fun h => by cases h), by omega⟩
theorem Gath.great {L : List Nat} {i n : Nat} (h : Gath L i n false) (hi : i < L.length) (hn : 18014398509481984 ≤ n) : Gath L (i + 1) n true := by
  refine ⟨(fun h => by cases h), fun _ => ?_, h.low⟩
  have e := val_append (L.take i) (L.drop i)
  rw [List.take_append_drop, ← h.not rfl, List.length_drop] at e
  have h1 : 256 ^ 1 ≤ 256 ^ (L.length - i) := Nat.pow_le_pow_right (by decide) (by omega)
  have h2 := Nat.mul_le_mul hn h1
  simp only [Nat.pow_one] at h2
  omega
theorem Gath.stays {L : List Nat} {i n : Nat} (h : Gath L i n true) : Gath L (i + 1) n true := ⟨(fun h => by cases h), h.yes, h.low⟩
theorem Gath.next {L : List Nat} {i n c : Nat} (h : Gath L i n false) (hc : L[i]? = some c) (hb : c < 256) (hn : n < 18014398509481984) : Gath L (i + 1) (256 * n + c) false := by
  refine ⟨fun _ => ?_, (fun h => by cases h), by omega⟩
  rw [List.take_add_one, hc, Option.toList_some, val_snoc, ← h.not rfl]

end Go.Proofs.YtmieonfdenjedaaDoor

/-
  Numbers with a sign, texts, and the chapter's examples, by the program and by the document.
-/
namespace Go.Proofs.YtmieonfdenjedaaDoor
open Go.RowKit

theorem num_bad {n : Int} (h : ¬ (0 ≤ n ∧ n ≤ 4611686018427387903)) : numS n = ⟨#[]⟩ ∧ numE n = 2 := by
  unfold numS numE
  rw [if_neg h, if_neg h]
  exact ⟨rfl, rfl⟩
theorem num_ok {n : Nat} (h : n < 4611686018427387904) : numS n = encS n ∧ numE n = 0 := by
  unfold numS numE
  rw [if_pos (by omega), if_pos (by omega), Int.toNat_natCast]
  exact ⟨rfl, rfl⟩

set_option maxHeartbeats 1000000 in
theorem dnum_any (n : Int) (w : World) : Calls Tryd.prog 62 #[.int .i64 n] w (NumPost n w) := by
  by_cases h0 : n < 0
  · have HP := Lib.hid (num_bad (n := n) (by omega))
    go_enter Tryd.func62, Tryd.ntmps62
    go_wp2_with fail
    go_ret2
    exact ⟨ret_se HP.out.1.symm HP.out.2.symm, bl _⟩
  · by_cases h1 : 4611686018427387903 < n
    · have HP := Lib.hid (num_bad (n := n) (by omega))
      go_enter Tryd.func62, Tryd.ntmps62
      go_wp2_with fail
      go_ret2
      exact ⟨ret_se HP.out.1.symm HP.out.2.symm, bl _⟩
    · obtain ⟨m, rfl⟩ : ∃ m : Nat, n = (m : Int) := ⟨n.toNat, by omega⟩
      exact dnum_good m (by omega) w

/-- A number with a sign as one without. -/
def zig (n : Int) : Int := if n < 0 then -2 * n - 1 else 2 * n
def intS (n : Int) : ByteArray := if -2305843009213693952 ≤ n ∧ n ≤ 2305843009213693951 then numS (zig n) else ⟨#[]⟩
def intE (n : Int) : Int := if -2305843009213693952 ≤ n ∧ n ≤ 2305843009213693951 then numE (zig n) else 2
def IntPost (n : Int) (w : World) (e : Ending) (w' : World) : Prop := e = .returned (.tuple #[.string (intS n), .int .i64 (intE n)]) ∧ Below w.heap.size w w'
theorem int_bad {n : Int} (h : ¬ (-2305843009213693952 ≤ n ∧ n ≤ 2305843009213693951)) : intS n = ⟨#[]⟩ ∧ intE n = 2 := by
  unfold intS intE
  rw [if_neg h, if_neg h]
  exact ⟨rfl, rfl⟩
theorem int_ok {n z : Int} (h : -2305843009213693952 ≤ n ∧ n ≤ 2305843009213693951) (hz : zig n = z) : intS n = numS z ∧ intE n = numE z := by
  unfold intS intE
  rw [if_pos h, if_pos h, hz]
  exact ⟨rfl, rfl⟩
theorem zig_neg {n : Int} (h : n < 0) : zig n = -2 * n - 1 := by unfold zig; rw [if_pos h]
theorem zig_pos {n : Int} (h : ¬ n < 0) : zig n = 2 * n := by unfold zig; rw [if_neg h]

set_option maxHeartbeats 1000000 in
theorem int_any (n : Int) (w : World) : Calls Tryd.prog 60 #[.int .i64 n] w (IntPost n w) := by
  by_cases h0 : n < -2305843009213693952
  · have HP := Lib.hid (int_bad (n := n) (by omega))
    go_enter Tryd.func60, Tryd.ntmps60
    go_wp2_with fail
    go_ret2
    exact ⟨ret_se HP.out.1.symm HP.out.2.symm, bl _⟩
  · by_cases h1 : 2305843009213693951 < n
    · have HP := Lib.hid (int_bad (n := n) (by omega))
      go_enter Tryd.func60, Tryd.ntmps60
      go_wp2_with fail
      go_ret2
      exact ⟨ret_se HP.out.1.symm HP.out.2.symm, bl _⟩
    · by_cases h2 : n < 0
      · have HP := Lib.hid (int_ok (n := n) (by omega) (zig_neg h2))
        have CN := Lib.hid (fun w => num_any (-2 * n - 1) w)
        go_enter Tryd.func60, Tryd.ntmps60
        go_wp2_with (go_at_call 50; refine (CN.out _).mono ?_; rintro e w1 ⟨rfl, hb⟩)
        go_ret2
        exact ⟨ret_se HP.out.1.symm HP.out.2.symm, hb⟩
      · have HP := Lib.hid (int_ok (n := n) (by omega) (zig_pos h2))
        have CN := Lib.hid (fun w => num_any (2 * n) w)
        go_enter Tryd.func60, Tryd.ntmps60
        go_wp2_with (go_at_call 50; refine (CN.out _).mono ?_; rintro e w1 ⟨rfl, hb⟩)
        go_ret2
        exact ⟨ret_se HP.out.1.symm HP.out.2.symm, hb⟩

set_option maxHeartbeats 1000000 in
theorem dint_any (n : Int) (w : World) : Calls Tryd.prog 63 #[.int .i64 n] w (IntPost n w) := by
  by_cases h0 : n < -2305843009213693952
  · have HP := Lib.hid (int_bad (n := n) (by omega))
    go_enter Tryd.func63, Tryd.ntmps63
    go_wp2_with fail
    go_ret2
    exact ⟨ret_se HP.out.1.symm HP.out.2.symm, bl _⟩
  · by_cases h1 : 2305843009213693951 < n
    · have HP := Lib.hid (int_bad (n := n) (by omega))
      go_enter Tryd.func63, Tryd.ntmps63
      go_wp2_with fail
      go_ret2
      exact ⟨ret_se HP.out.1.symm HP.out.2.symm, bl _⟩
    · by_cases h2 : n < 0
      · have HP := Lib.hid (fun (z : Int) (hz : zig n = z) => int_ok (n := n) (by omega) hz)
        have HZ := Lib.hid (zig_neg h2)
        go_enter Tryd.func63, Tryd.ntmps63
        go_wp2_with (go_at_call 62; refine (dnum_any _ _).mono ?_; rintro e w1 ⟨rfl, hb⟩)
        go_ret2
        exact ⟨ret_se (HP.out _ (by rw [HZ.out]; omega)).1.symm (HP.out _ (by rw [HZ.out]; omega)).2.symm, hb⟩
      · have HP := Lib.hid (int_ok (n := n) (by omega) (zig_pos h2))
        have CN := Lib.hid (fun w => dnum_any (2 * n) w)
        go_enter Tryd.func63, Tryd.ntmps63
        go_wp2_with (go_at_call 62; refine (CN.out _).mono ?_; rintro e w1 ⟨rfl, hb⟩)
        go_ret2
        exact ⟨ret_se HP.out.1.symm HP.out.2.symm, hb⟩

abbrev Ret (F : Nat) (args : Array Value) (w : World) (v : Value) : Prop := Calls Tryd.prog F args w fun e w' => e = .returned v ∧ Below w.heap.size w w'
theorem ret_s {s t : ByteArray} (h : s = t) : Ending.returned (.string s) = .returned (.string t) := by rw [h]

set_option maxHeartbeats 1000000 in
theorem dnumof_any (n : Nat) (hn : n < 4611686018427387904) (w : World) : Ret 38 #[.int .i64 (n : Int)] w (.string (encS n)) := by
  have HP := Lib.hid (num_ok hn)
  have CN := Lib.hid (fun w => dnum_any n w)
  go_enter Tryd.func38, Tryd.ntmps38
  go_wp2_with (go_at_call 62; refine (CN.out _).mono ?_; rintro e w1 ⟨rfl, hb⟩)
  go_ret
  exact ⟨ret_s HP.out.1, hb⟩

set_option maxHeartbeats 1000000 in
theorem text_any (s : ByteArray) (hs : s.size ≤ 4611686018427387903) (w : World) : Ret 59 #[.string s] w (.string (textS s)) := by
  have HP := Lib.hid (num_ok (n := s.size) (by omega))
  have CN := Lib.hid (fun w => num_any s.size w)
  have hk := kN_le s.size
  have hz := encS_size s.size
  have hle : ¬ (encS s.size).size + s.size > 9223372036854775807 := by omega
  have HT := Lib.hid (show textS s = encS s.size ++ s from rfl)
  go_enter Tryd.func59, Tryd.ntmps59
  go_wp2_with (go_at_call 50; refine (CN.out _).mono ?_; rintro e w1 ⟨rfl, hb⟩; rw [HP.out.1])
  go_ret
  exact ⟨rfl, hb⟩

set_option maxHeartbeats 1000000 in
theorem dtext_any (s : ByteArray) (hs : s.size ≤ 4611686018427387903) (w : World) : Ret 39 #[.string s] w (.string (textS s)) := by
  have CN := Lib.hid (fun w => dnumof_any s.size (by omega) w)
  have hk := kN_le s.size
  have hz := encS_size s.size
  have hle : ¬ (encS s.size).size + s.size > 9223372036854775807 := by omega
  go_enter Tryd.func39, Tryd.ntmps39
  go_wp2_with (go_at_call 38; refine (CN.out _).mono ?_; rintro e w1 ⟨rfl, hb⟩)
  go_ret
  exact ⟨rfl, hb⟩

end Go.Proofs.YtmieonfdenjedaaDoor

/-
  Plain facts on keys: a text's key byte by byte, its order, and what is taken of bytes as a text.
-/
namespace Go.Proofs.YtmieonfdenjedaaDoor

/-- Byte by byte the first list is less. -/
def lessN : List Nat → List Nat → Bool
  | _, [] => false
  | [], _ :: _ => true
  | a :: l, b :: m => decide (a < b) || a == b && lessN l m
theorem lessN_nil (l : List Nat) : lessN l [] = false := by cases l <;> rfl
theorem lessN_self : ∀ l : List Nat, lessN l l = false
  | [] => rfl
  | a :: l => by rw [lessN, lessN_self l]; simp
theorem lessN_diff {l m : List Nat} (h : Diff l m) : lessN l m = true ∧ lessN m l = false := by
  obtain ⟨p, x, y, l', m', rfl, rfl, hxy⟩ := h
  induction p with
  | nil =>
    have h2 : ¬ y < x := by omega
    have h3 : ¬ y = x := by omega
    simp [lessN, hxy, h2, h3]
  | cons b p ih => simp [lessN, ih.1, ih.2]
/-- One of two lists is less, or they are the same. -/
theorem lessN_or : ∀ l m : List Nat, lessN l m = true ∨ lessN m l = true ∨ l = m
  | [], [] => .inr (.inr rfl)
  | [], _ :: _ => .inl rfl
  | _ :: _, [] => .inr (.inl rfl)
  | a :: l, b :: m => by
    rcases Nat.lt_trichotomy a b with h | h | h
    · exact .inl (by simp [lessN, h])
    · subst h
      rcases lessN_or l m with h | h | h
      · exact .inl (by simp [lessN, h])
      · exact .inr (.inl (by simp [lessN, h]))
      · exact .inr (.inr (by rw [h]))
    · exact .inr (.inl (by simp [lessN, h]))
theorem lessN_not : ∀ l m : List Nat, lessN l m = true → lessN m l = false
  | _, [], h => by rw [lessN_nil] at h; cases h
  | [], b :: m, _ => rfl
  | a :: l, b :: m, h => by
    simp only [lessN, Bool.or_eq_true, decide_eq_true_eq, Bool.and_eq_true, beq_iff_eq] at h
    rcases h with h | ⟨h, h'⟩
    · have h1 : ¬ b < a := by omega
      have h2 : ¬ b = a := by omega
      simp [lessN, h1, h2]
    · subst h
      simp [lessN, lessN_not l m h']
/-- Texts are compared as their bytes. -/
theorem less_nats (a b : ByteArray) : Op.bytesLess a.toList b.toList = lessN (nats a) (nats b) := by
  rw [ByteArray.toList_eq, ByteArray.toList_eq, nats, nats]
  generalize a.data.toList = l
  generalize b.data.toList = m
  induction l generalizing m with
  | nil => cases m <;> rfl
  | cons x l ih =>
    cases m with
    | nil => rfl
    | cons y m =>
      rw [Op.bytesLess, List.map_cons, List.map_cons, lessN, ih m]
      congr 1
      congr 1
      rw [Bool.eq_iff_iff]
      simp only [beq_iff_eq]
      exact UInt8.toNat_inj.symm

/-- The key of a text. -/
def esc : List Nat → List Nat
  | [] => []
  | 0 :: l => 0 :: 255 :: esc l
  | (c + 1) :: l => (c + 1) :: esc l
def keyT (l : List Nat) : List Nat := esc l ++ [0, 0]
theorem esc_append : ∀ l m : List Nat, esc (l ++ m) = esc l ++ esc m
  | [], _ => rfl
  | 0 :: l, m => by rw [List.cons_append, esc, esc, esc_append l m]; rfl
  | (c + 1) :: l, m => by rw [List.cons_append, esc, esc, esc_append l m]; rfl
theorem esc_lt : ∀ l : List Nat, (∀ b ∈ l, b < 256) → ∀ b ∈ esc l, b < 256
  | [], _ => by simp [esc]
  | 0 :: l, h => by
    intro b hb
    rw [esc] at hb
    rcases List.mem_cons.1 hb with rfl | hb
    · omega
    · rcases List.mem_cons.1 hb with rfl | hb
      · omega
      · exact esc_lt l (fun c hc => h c (List.mem_cons_of_mem _ hc)) b hb
  | (c + 1) :: l, h => by
    intro b hb
    rw [esc] at hb
    rcases List.mem_cons.1 hb with rfl | hb
    · exact h _ List.mem_cons_self
    · exact esc_lt l (fun c hc => h c (List.mem_cons_of_mem _ hc)) b hb
theorem esc_length : ∀ l : List Nat, l.length ≤ (esc l).length ∧ (esc l).length ≤ 2 * l.length
  | [] => by simp [esc]
  | 0 :: l => by have := esc_length l; simp [esc]; omega
  | (c + 1) :: l => by have := esc_length l; simp [esc]; omega
theorem keyT_cons0 (l : List Nat) : keyT (0 :: l) = 0 :: 255 :: keyT l := rfl
theorem keyT_cons (c : Nat) (l : List Nat) : keyT ((c + 1) :: l) = (c + 1) :: keyT l := rfl
theorem keyT_nil : keyT [] = [0, 0] := rfl
/-- Of two texts the lesser one's key is less, and neither begins with the other one's. -/
theorem keyT_diff : ∀ l m : List Nat, lessN l m = true → Diff (keyT l) (keyT m)
  | _, [], h => by rw [lessN_nil] at h; cases h
  | [], 0 :: m, _ => ⟨[0], 0, 255, _, _, rfl, rfl, by decide⟩
  | [], (c + 1) :: m, _ => ⟨[], 0, c + 1, _, _, rfl, rfl, by omega⟩
  | 0 :: l, 0 :: m, h => by
    rw [keyT_cons0, keyT_cons0]
    exact ((keyT_diff l m (by simpa [lessN] using h)).cons _).cons _
  | 0 :: l, (c + 1) :: m, _ => ⟨[], 0, c + 1, _, _, rfl, rfl, by omega⟩
  | (c + 1) :: l, 0 :: m, h => by simp [lessN] at h
  | (c + 1) :: l, (d + 1) :: m, h => by
    rw [keyT_cons, keyT_cons]
    simp only [lessN, Bool.or_eq_true, decide_eq_true_eq, Bool.and_eq_true, beq_iff_eq] at h
    rcases h with h | ⟨h, h'⟩
    · exact ⟨[], _, _, _, _, rfl, rfl, h⟩
    · rw [h]; exact (keyT_diff l m h').cons _
theorem keyT_less (l m : List Nat) : lessN (keyT l) (keyT m) = lessN l m := by
  rcases lessN_or l m with h | h | h
  · rw [h, (lessN_diff (keyT_diff l m h)).1]
  · rw [lessN_not _ _ h, (lessN_diff (keyT_diff m l h)).2]
  · subst h; rw [lessN_self, lessN_self]
theorem Diff.not_prefix {l m : List Nat} (h : Diff l m) : ¬ l <+: m ∧ ¬ m <+: l := by
  obtain ⟨p, x, y, l', m', rfl, rfl, hxy⟩ := h
  constructor <;> intro k <;> rw [List.prefix_append_right_inj, List.cons_prefix_cons] at k <;> omega
/-- A key begins with another one just if it is the same. -/
theorem keyT_prefix (l m : List Nat) : keyT m <+: keyT l ↔ l = m := by
  constructor
  · intro h
    rcases lessN_or l m with h' | h' | h'
    · exact absurd h (keyT_diff l m h').not_prefix.2
    · exact absurd h (keyT_diff m l h').not_prefix.1
    · exact h'
  · rintro rfl; exact List.prefix_refl _

/-- What bytes begin with, as a text: it, what is behind it, the error. -/
def takT : List Nat → List Nat × List Nat × Nat
  | [] => ([], [], 9)
  | [0] => ([], [], 9)
  | 0 :: 0 :: r => ([], r, 0)
  | 0 :: (d + 1) :: r => if d = 254 then (if (takT r).2.2 = 0 then (0 :: (takT r).1, (takT r).2.1, 0) else ([], [], (takT r).2.2)) else ([], [], 8)
  | (c + 1) :: r => if (takT r).2.2 = 0 then ((c + 1) :: (takT r).1, (takT r).2.1, 0) else ([], [], (takT r).2.2)
theorem takT_key : ∀ l b : List Nat, takT (keyT l ++ b) = (l, b, 0)
  | [], b => rfl
  | 0 :: l, b => by
    rw [keyT_cons0, List.cons_append, List.cons_append, takT, if_pos rfl, takT_key l b, if_pos rfl]
  | (c + 1) :: l, b => by
    rw [keyT_cons, List.cons_append, takT, takT_key l b, if_pos rfl]
theorem takT_err : ∀ s : List Nat, (takT s).2.2 = 0 ∨ takT s = ([], [], 8) ∨ takT s = ([], [], 9)
  | [] => .inr (.inr rfl)
  | [0] => .inr (.inr rfl)
  | 0 :: 0 :: r => .inl rfl
  | 0 :: (d + 1) :: r => by
    rw [takT]
    by_cases h : d = 254
    · rw [if_pos h]
      by_cases h2 : (takT r).2.2 = 0
      · rw [if_pos h2]; exact .inl rfl
      · rw [if_neg h2]
        rcases takT_err r with h3 | h3 | h3
        · exact absurd h3 h2
        · rw [h3]; exact .inr (.inl rfl)
        · rw [h3]; exact .inr (.inr rfl)
    · rw [if_neg h]; exact .inr (.inl rfl)
  | (c + 1) :: r => by
    rw [takT]
    by_cases h2 : (takT r).2.2 = 0
    · rw [if_pos h2]; exact .inl rfl
    · rw [if_neg h2]
      rcases takT_err r with h3 | h3 | h3
      · exact absurd h3 h2
      · rw [h3]; exact .inr (.inl rfl)
      · rw [h3]; exact .inr (.inr rfl)

end Go.Proofs.YtmieonfdenjedaaDoor

/-
  Plain facts on fields: names, lists whose names rise, lists laid over lists.
-/
namespace Go.Proofs.YtmieonfdenjedaaDoor

/-- A field: its name, its value. -/
structure Fd where
  n : ByteArray
  v : Int
def letterB (c : Nat) : Bool := decide (97 ≤ c) && decide (c ≤ 122)
def innerB (c : Nat) : Bool := letterB c || c == 45 || (decide (48 ≤ c) && decide (c ≤ 57))
/-- Are these a name's bytes? -/
def nameL : List Nat → Bool
  | [] => false
  | c :: r => letterB c && r.all innerB && decide (r.length ≤ 11)
def nameB (s : ByteArray) : Bool := nameL (nats s)
/-- May this be a value? -/
def valB (v : Int) : Bool := decide (-2305843009213693952 ≤ v) && decide (v ≤ 2305843009213693951)
/-- What is wrong with a field alone. -/
def oneE (f : Fd) : Nat := if nameB f.n then (if valB f.v then 0 else 2) else 8
def aheadB (a b : ByteArray) : Bool := lessN (nats a) (nats b)
/-- What is wrong with the fields behind one that is ahead. -/
def rightG : Option ByteArray → List Fd → Nat
  | _, [] => 0
  | none, f :: l => if oneE f = 0 then rightG (some f.n) l else oneE f
  | some p, f :: l => if oneE f = 0 then (if aheadB p f.n then rightG (some f.n) l else 16) else oneE f
def rightE (l : List Fd) : Nat := if 8 < l.length then 4 else rightG none l
/-- The first field that is wrong alone. -/
def firstE : List Fd → Nat
  | [] => 0
  | f :: l => if oneE f = 0 then firstE l else oneE f
/-- A field more, or in the place of that of its name. -/
def layL : List Fd → Fd → List Fd
  | [], f => [f]
  | g :: l, f => if aheadB g.n f.n then g :: layL l f else if nats g.n = nats f.n then f :: l else f :: g :: l
def overL (l : List Fd) : List Fd := l.foldl layL []
def makeF (l : List Fd) : List Fd × Nat :=
  if 8 < l.length then ([], 4) else if firstE l = 0 then (if (overL l).length = l.length then (overL l, 0) else ([], 7)) else ([], firstE l)
def getL : List Fd → ByteArray → Option Int
  | [], _ => none
  | f :: l, s => if nats f.n = nats s then some f.v else getL l s
/-- The last value of a name. -/
def lastL : List Fd → ByteArray → Option Int
  | [], _ => none
  | f :: l, s => match lastL l s with
    | some v => some v
    | none => if nats f.n = nats s then some f.v else none

theorem lessN_trans : ∀ a b c : List Nat, lessN a b = true → lessN b c = true → lessN a c = true
  | _, _, [], _, h => by rw [lessN_nil] at h; cases h
  | _, [], _ :: _, h, _ => by rw [lessN_nil] at h; cases h
  | [], _ :: _, _ :: _, _, _ => rfl
  | a :: l, b :: m, c :: n, h, h' => by
    simp only [lessN, Bool.or_eq_true, decide_eq_true_eq, Bool.and_eq_true, beq_iff_eq] at h h' ⊢
    rcases h with h | ⟨h, h2⟩
    · rcases h' with h' | ⟨h', h3⟩
      · exact .inl (by omega)
      · exact .inl (by omega)
    · rcases h' with h' | ⟨h', h3⟩
      · exact .inl (by omega)
      · exact .inr ⟨by omega, lessN_trans l m n h2 h3⟩
/-- Names rise. -/
def Rises : List Fd → Prop
  | [] => True
  | f :: l => (∀ g ∈ l, aheadB f.n g.n = true) ∧ Rises l
theorem ahead_ne {a b : ByteArray} (h : aheadB a b = true) : nats a ≠ nats b := by
  intro e
  unfold aheadB at h
  rw [e, lessN_self] at h
  cases h
theorem layL_mem : ∀ (l : List Fd) (f g : Fd), g ∈ layL l f → g = f ∨ g ∈ l
  | [], f, g, h => by simp [layL] at h; exact .inl h
  | x :: l, f, g, h => by
    rw [layL] at h
    split at h
    · rcases List.mem_cons.1 h with h | h
      · exact .inr (by rw [h]; exact List.mem_cons_self)
      · rcases layL_mem l f g h with h | h
        · exact .inl h
        · exact .inr (List.mem_cons_of_mem _ h)
    · split at h
      · rcases List.mem_cons.1 h with h | h
        · exact .inl h
        · exact .inr (List.mem_cons_of_mem _ h)
      · rcases List.mem_cons.1 h with h | h
        · exact .inl h
        · exact .inr h
theorem layL_rises : ∀ (l : List Fd) (f : Fd), Rises l → Rises (layL l f)
  | [], f, _ => ⟨by simp, trivial⟩
  | x :: l, f, h => by
    rw [layL]
    by_cases h1 : aheadB x.n f.n = true
    · rw [if_pos h1]
      refine ⟨fun g hg => ?_, layL_rises l f h.2⟩
      rcases layL_mem l f g hg with rfl | hg
      · exact h1
      · exact h.1 g hg
    · rw [if_neg h1]
      by_cases h2 : nats x.n = nats f.n
      · rw [if_pos h2]
        refine ⟨fun g hg => ?_, h.2⟩
        have := h.1 g hg
        unfold aheadB at this ⊢
        rw [← h2]; exact this
      · rw [if_neg h2]
        have h3 : aheadB f.n x.n = true := by
          unfold aheadB at h1 ⊢
          rcases lessN_or (nats f.n) (nats x.n) with h | h | h
          · exact h
          · exact absurd h h1
          · exact absurd h.symm h2
        refine ⟨fun g hg => ?_, h⟩
        rcases List.mem_cons.1 hg with rfl | hg
        · exact h3
        · exact lessN_trans _ _ _ h3 (h.1 g hg)
theorem getL_none {l : List Fd} {s : ByteArray} (h : ∀ g ∈ l, nats g.n ≠ nats s) : getL l s = none := by
  induction l with
  | nil => rfl
  | cons f l ih =>
    rw [getL, if_neg (h f List.mem_cons_self)]
    exact ih fun g hg => h g (List.mem_cons_of_mem _ hg)
theorem layL_get : ∀ (l : List Fd) (f : Fd) (s : ByteArray), Rises l → getL (layL l f) s = if nats f.n = nats s then some f.v else getL l s
  | [], f, s, _ => rfl
  | x :: l, f, s, h => by
    rw [layL]
    by_cases h1 : aheadB x.n f.n = true
    · rw [if_pos h1, getL, getL, layL_get l f s h.2]
      by_cases h2 : nats x.n = nats s
      · have : nats f.n ≠ nats s := fun e => ahead_ne h1 (h2.trans e.symm)
        rw [if_pos h2, if_neg this, if_pos h2]
      · rw [if_neg h2, if_neg h2]
    · rw [if_neg h1]
      by_cases h2 : nats x.n = nats f.n
      · rw [if_pos h2, getL, getL]
        by_cases h3 : nats f.n = nats s
        · rw [if_pos h3, if_pos h3]
        · rw [if_neg h3, if_neg h3, if_neg (by rw [h2]; exact h3)]
      · rw [if_neg h2, getL]
/-- Two lists whose names rise are one, if they give the same of each name. -/
theorem rises_ext : ∀ a b : List Fd, Rises a → Rises b → (∀ s, getL a s = getL b s) → a = b
  | [], [], _, _, _ => rfl
  | [], y :: b, _, _, h => by have := h y.n; rw [getL, getL, if_pos rfl] at this; cases this
  | x :: a, [], _, _, h => by have := h x.n; rw [getL, getL, if_pos rfl] at this; cases this
  | x :: a, y :: b, ha, hb, h => by
    have hxy : nats x.n = nats y.n := by
      rcases lessN_or (nats x.n) (nats y.n) with h1 | h1 | h1
      · have e := h x.n
        rw [getL, if_pos rfl, getL, if_neg (fun e => ahead_ne h1 e.symm), getL_none fun g hg e => ahead_ne (lessN_trans _ _ _ h1 (hb.1 g hg)) e.symm] at e
        cases e
      · have e := h y.n
        rw [getL, if_neg (fun e => ahead_ne h1 e.symm), getL_none (fun g hg e => ahead_ne (lessN_trans _ _ _ h1 (ha.1 g hg)) e.symm), getL, if_pos rfl] at e
        cases e
      · exact h1
    have hv : x.v = y.v := by
      have e := h x.n
      rw [getL, if_pos rfl, getL, if_pos hxy.symm] at e
      exact Option.some.inj e
    have hr : a = b := by
      apply rises_ext a b ha.2 hb.2
      intro s
      have e := h s
      rw [getL, getL] at e
      by_cases hs : nats x.n = nats s
      · rw [getL_none fun g hg e => ahead_ne (ha.1 g hg) (hs.trans e.symm), getL_none fun g hg e => ahead_ne (hb.1 g hg) ((hxy.symm.trans hs).trans e.symm)]
      · rw [if_neg hs, if_neg (by rw [← hxy]; exact hs)] at e
        exact e
    obtain ⟨xn, xv⟩ := x
    obtain ⟨yn, yv⟩ := y
    obtain rfl : xn = yn := nats_inj hxy
    obtain rfl : xv = yv := hv
    rw [hr]
theorem foldl_rises : ∀ (l a : List Fd), Rises a → Rises (l.foldl layL a)
  | [], _, h => h
  | f :: l, a, h => foldl_rises l _ (layL_rises a f h)
theorem overL_rises (l : List Fd) : Rises (overL l) := foldl_rises l [] trivial
theorem foldl_get : ∀ (l a : List Fd) (s : ByteArray), Rises a → getL (l.foldl layL a) s = match lastL l s with | some v => some v | none => getL a s
  | [], _, _, _ => rfl
  | f :: l, a, s, h => by
    rw [List.foldl_cons, foldl_get l _ s (layL_rises a f h), lastL, layL_get a f s h]
    cases lastL l s with
    | some v => rfl
    | none => by_cases hs : nats f.n = nats s <;> simp [hs]
theorem overL_get (l : List Fd) (s : ByteArray) : getL (overL l) s = lastL l s := by
  rw [overL, foldl_get l [] s trivial]
  cases lastL l s <;> rfl
theorem lastL_append : ∀ (l m : List Fd) (s : ByteArray), lastL (l ++ m) s = match lastL m s with | some v => some v | none => lastL l s
  | [], m, s => by cases h : lastL m s <;> simp [lastL, h]
  | f :: l, m, s => by
    rw [List.cons_append, lastL, lastL_append l m s, lastL]
    cases lastL m s <;> rfl
theorem lastL_rises : ∀ (l : List Fd) (s : ByteArray), Rises l → lastL l s = getL l s
  | [], _, _ => rfl
  | f :: l, s, h => by
    rw [lastL, lastL_rises l s h.2, getL]
    by_cases hs : nats f.n = nats s
    · rw [getL_none fun g hg e => ahead_ne (h.1 g hg) (hs.trans e.symm)]
    · simp [hs]
      cases getL l s <;> rfl
theorem over_last (l : List Fd) (s : ByteArray) : lastL (overL l) s = lastL l s := by
  rw [lastL_rises _ s (overL_rises l), overL_get]
/-- Laid over each other first, or all at once. -/
theorem over_left (a b : List Fd) : overL (overL a ++ b) = overL (a ++ b) := by
  apply rises_ext _ _ (overL_rises _) (overL_rises _)
  intro s
  rw [overL_get, overL_get, lastL_append, lastL_append, over_last]
theorem over_right (a b : List Fd) : overL (a ++ overL b) = overL (a ++ b) := by
  apply rises_ext _ _ (overL_rises _) (overL_rises _)
  intro s
  rw [overL_get, overL_get, lastL_append, lastL_append, over_last]
theorem over_self (a : List Fd) : overL (a ++ a) = overL a := by
  apply rises_ext _ _ (overL_rises _) (overL_rises _)
  intro s
  rw [overL_get, overL_get, lastL_append]
  cases lastL a s <;> rfl

end Go.Proofs.YtmieonfdenjedaaDoor

/-
  What a text begins with, by the program: TakeNum.
-/
namespace Go.Proofs.YtmieonfdenjedaaDoor
open Go.RowKit
set_option maxRecDepth 100000

/-- What TakeNum, and the document's, give back. -/
def TakePost (s : ByteArray) (w : World) (e : Ending) (w' : World) : Prop := e = .returned (.tuple #[.int .i64 (tkN s : Int), .string (tkR s), .int .i64 (tkE s : Int)]) ∧ Below w.heap.size w w'
theorem ret_ise {a b c d : Int} {s t : ByteArray} (h : a = b) (k : s = t) (l : c = d) : Ending.returned (.tuple #[.int .i64 a, .string s, .int .i64 c]) = .returned (.tuple #[.int .i64 b, .string t, .int .i64 d]) := by rw [h, k, l]
theorem index_run {s : ByteArray} {i c : Nat} (h : (nats s)[i]? = some c) (w : World) : (Instr.index 9 (.string s) (.int .i64 (i : Int))).run Tryd.prog w = .ok (.int .u8 (c : Int)) w := by
  have hi : i < s.size := by
    rw [← nats_length]
    rcases Nat.lt_or_ge i (nats s).length with h' | h'
    · exact h'
    · rw [List.getElem?_eq_none h'] at h; cases h
  rw [nats_get hi] at h
  injection h with h
  rw [run_index_string w 9 s .i64 i Tryd.underlying9, dif_pos (by omega)]
  simp only [Int.toNat_natCast, h]

theorem and_not_mark {c : Nat} (hc : c < 256) : bits BinOp.andNot IntKind.u8 (c : Int) (mark (ones c) : Int) = ((c - mark (ones c) : Nat) : Int) := by
  have key : ∀ c : Nat, c < 256 → bits BinOp.andNot IntKind.u8 (c : Int) (mark (ones c) : Int) = ((c - mark (ones c) : Nat) : Int) := by decide +kernel
  exact key c hc
theorem bare_lt {c : Nat} (hc : c < 256) : ones c = 8 ∧ c - mark (ones c) = 0 ∨ ones c ≤ 7 ∧ c - mark (ones c) < 128 := by
  have key : ∀ c : Nat, c < 256 → (ones c = 8 ∧ c - mark (ones c) = 0 ∨ ones c ≤ 7 ∧ c - mark (ones c) < 128) := by decide +kernel
  exact key c hc
theorem bare_take (c : Nat) {r : List Nat} {k : Nat} (hk : k ≤ ones c) : (bare c r).take (k + 1) = (c - mark (ones c)) :: r.take k := by
  rw [bare, List.take_succ_cons, List.take_take, Nat.min_eq_left hk]
theorem gather_start (c : Nat) (r : List Nat) : val ((bare c r).take (0 + 1)) = c - mark (ones c) := by
  rw [bare_take c (Nat.zero_le _)]; simp [val]
theorem gather_all {c : Nat} {r : List Nat} (hl : ones c ≤ r.length) : val ((bare c r).take (ones c + 1)) = takeV c r := by
  rw [List.take_of_length_le (by rw [bare_length hl]; omega), bare_val hl]
theorem gather_lt {c : Nat} {r : List Nat} (hc : c < 256) (hl : ones c ≤ r.length) (hr : ∀ b ∈ r, b < 256) : ∀ k, k < ones c → val ((bare c r).take (k + 1)) < 72057594037927936 := by
  intro k hk
  have hb := val_lt (r.take k) (fun b hb => hr b (List.mem_of_mem_take hb))
  have hlen : (r.take k).length = k := by rw [List.length_take]; omega
  rw [bare_take c (Nat.le_of_lt hk), val, hlen]
  rw [hlen] at hb
  rcases bare_lt hc with ⟨h1, h2⟩ | ⟨h1, h2⟩
  · have h3 : 256 ^ k ≤ 256 ^ 7 := Nat.pow_le_pow_right (by decide) (by omega)
    rw [h2]; omega
  · have h3 : 256 ^ k ≤ 256 ^ 6 := Nat.pow_le_pow_right (by decide) (by omega)
    have h4 : (c - mark (ones c)) * 256 ^ k ≤ 127 * 256 ^ 6 := Nat.mul_le_mul (by omega) h3
    omega
theorem gather_next {c : Nat} {r : List Nat} (hl : ones c ≤ r.length) (hr : ∀ b ∈ r, b < 256) : ∀ k, k < ones c → ∃ b, r[k]? = some b ∧ b < 256 ∧ val ((bare c r).take (k + 1 + 1)) = 256 * val ((bare c r).take (k + 1)) + b := by
  intro k hk
  have hkr : k < r.length := by omega
  refine ⟨r[k], List.getElem?_eq_getElem hkr, hr _ (List.getElem_mem hkr), ?_⟩
  rw [bare_take c (Nat.le_of_lt hk), bare_take c hk, List.take_add_one, List.getElem?_eq_getElem hkr, Option.toList_some, ← List.cons_append, val_snoc]

theorem wraps_u64' (n : Int) (h0 : 0 ≤ n) (h1 : n < 2 ^ 64) : IntKind.u64.wrap n = n := by
  rw [IntKind.wrap_u64]
  omega
theorem shl_or {n b : Nat} (hn : n < 72057594037927936) (hb : b < 256) : bits BinOp.or IntKind.u64 ((n : Int) * 256) (b : Int) = ((256 * n + b : Nat) : Int) := by
  rw [bits_join .u64 64 (by decide) wraps_u64' 8 _ _ (by omega) (by omega) (by omega) (by omega) (by omega) (by omega)]
  omega

theorem belowN {n : Nat} {W w : World} (h : Below n W w) (q : Nat) : Below n W (w.drewN q) := h.trans ⟨rfl, rfl, rfl, Nat.le_refl _, fun _ _ => rfl⟩

set_option maxHeartbeats 1000000 in
theorem take_nil (w : World) : Calls Tryd.prog 47 #[.string ⟨#[]⟩] w (TakePost ⟨#[]⟩ w) := by
  have HT := Lib.hid (tk_nil (s := ⟨#[]⟩) rfl)
  go_enter Tryd.func47, Tryd.ntmps47
  go_wp2_with fail
  go_ret3
  exact ⟨ret_ise (by rw [HT.out.1]; rfl) HT.out.2.1.symm (by rw [HT.out.2.2]; rfl), bl _⟩

set_option maxHeartbeats 4000000 in
set_option maxRecDepth 10000 in
theorem take_cons (s : ByteArray) (hs : s.size ≤ 4611686018427387903) (c : Nat) (r : List Nat) (h : nats s = c :: r) (w : World) : Calls Tryd.prog 47 #[.string s] w (TakePost s w) := by
  have hc : c < 256 := nats_lt s c (by rw [h]; exact List.mem_cons_self)
  have hlen : s.size = r.length + 1 := by rw [← nats_length, h]; rfl
  have hi0 : ∀ w, (Instr.index 9 (.string s) (.int .i64 0)).run Tryd.prog w = .ok (.int .u8 (c : Int)) w := fun w => index_run (i := 0) (by rw [h]; rfl) w
  have hne : s.toList.isEmpty = false := by
    rw [ByteArray.toList_eq]
    have h2 : s.data.toList.length = s.size := Array.length_toList
    cases h3 : s.data.toList with
    | nil => rw [h3] at h2; simp at h2; omega
    | cons => rfl
  have hr : ∀ b ∈ r, b < 256 := fun b hb => nats_lt s b (by rw [h]; exact List.mem_cons_of_mem _ hb)
  have hx := xor_byte hc
  have HT := Lib.hid h
  by_cases hl : r.length < ones c
  · have TK := Lib.hid (tk_short h hl)
    clear h
    have hl' : (r.length : Int) + 1 ≤ (ones c : Int) := by omega
    go_enter Tryd.func47, Tryd.ntmps47
    go_wp2_with (go_at_call 72; refine (zeros_any c hc _).mono ?_; rintro e w2 ⟨rfl, rfl⟩)
    go_ret3
    exact ⟨ret_ise (by rw [TK.out.1]; rfl) TK.out.2.1.symm (by rw [TK.out.2.2]; rfl), bl _⟩
  · have hl' : ¬ (r.length : Int) + 1 ≤ (ones c : Int) := by omega
    have HL := Lib.hid (Nat.le_of_not_lt hl)
    have ho : ones c ≤ 8 := (ones_bits hc).1
    have HM := Lib.hid (fun w => mark_any (ones c) ho w)
    have ha := and_not_mark hc
    have HG := Lib.hid (gather_lt hc HL.out hr)
    have GN := Lib.hid (gather_next (c := c) HL.out hr)
    have G0 := Lib.hid (gather_start c r)
    have GA := Lib.hid (gather_all HL.out)
    have TF := Lib.hid (tk_form (s := s) h HL.out)
    have TG := Lib.hid (tk_good (s := s) h HL.out)
    clear h hl
    have HZ := Lib.hid (fun w => zeros_any c hc w)
    have HLEN := Lib.hid hlen
    have hd : ((c - mark (ones c) : Nat) : Int) < 256 := by omega
    generalize ones c = O at *
    generalize mark O = m at *
    generalize c - m = d at *
    generalize takeV c r = v at *
    go_enter Tryd.func47, Tryd.ntmps47
    go_wp2_with (go_at_call 72; refine (HZ.out _).mono ?_; rintro e w2 ⟨rfl, rfl⟩)
    go_quiet (first | (go_at_call 73; exact (HM.out _).mono fun e w' h => ⟨h.1, _, h.2⟩))
    go_wp2_with fail
    go_loopw [6, 25] (fun a i wr => ∃ k n : Nat, k ≤ O ∧ i = .int .i64 k ∧ val ((bare c r).take (k + 1)) = n ∧ a = .int .u64 (n : Int) ∧ Below w2.heap.size w2 wr) (fun _ i _ => O - (intOf i).toNat)
    case atStart => exact ⟨0, d, Nat.zero_le _, rfl, G0.out, rfl, by exact ⟨rfl, rfl, rfl, Nat.le_refl _, fun _ _ => rfl⟩⟩
    case round =>
      obtain ⟨k, n, hk, rfl, hn, rfl, hB⟩ := hrel
      have HB := Lib.hid hB
      clear hB
      by_cases hlt : k < O
      · have hlt' : (k : Int) < (O : Int) := by omega
        have hn56 := HG.out k hlt
        obtain ⟨b, hb, hb256, hnx⟩ := GN.out k hlt
        have hi : ∀ w, (Instr.index 9 (.string s) (.int .i64 ((k : Int) + 1))).run Tryd.prog w = .ok (.int .u8 (b : Int)) w := fun w => index_run (i := k + 1) (by rw [HT.out]; exact hb) w
        rw [hn] at hn56 hnx
        have NX := Lib.hid hnx
        have s1 := shl_or hn56 hb256
        clear hn hnx hb
        go_wp2_with fail
        exact ⟨⟨k + 1, 256 * n + b, by omega, by go_num, NX.out, by go_num, HB.out⟩, by simp [intOf]; omega⟩
      · have hlt' : ¬ (k : Int) < (O : Int) := by omega
        obtain rfl : O = k := by omega
        obtain rfl : n = v := by rw [← hn]; exact GA.out
        clear hn
        by_cases hm : n < 4611686018427387904
        · have hm' : ¬ (4611686018427387903 : Int) < (n : Int) := by omega
          have CB := Lib.hid (fun w => behind_any n hm w)
          have hcv : wrap64 (n : Int) = (n : Int) := IntWalk.wrap64_in _ (by omega)
          by_cases hk2 : kN n = O
          · have TK := Lib.hid (TG.out hm hk2)
            have hk3 : (kN n : Int) = (O : Int) := by omega
            go_wp2_with (go_at_call 74; refine (CB.out _).mono ?_; rintro e w3 ⟨rfl, rfl⟩)
            go_quiet (fail)
            go_wp2_with fail
            go_ret3
            exact ⟨ret_ise (by rw [TK.out.1]) (by rw [TK.out.2.1, HLEN.out]) (by rw [TK.out.2.2]; rfl), belowN HB.out _⟩
          · have TK := Lib.hid (TF.out (.inr hk2))
            have hk3 : ¬ (kN n : Int) = (O : Int) := by omega
            go_wp2_with (go_at_call 74; refine (CB.out _).mono ?_; rintro e w3 ⟨rfl, rfl⟩)
            go_ret3
            exact ⟨ret_ise (by rw [TK.out.1]; rfl) TK.out.2.1.symm (by rw [TK.out.2.2]; rfl), HB.out⟩
        · have TK := Lib.hid (TF.out (.inl (Nat.le_of_not_lt hm)))
          have hm' : (4611686018427387903 : Int) < (n : Int) := by omega
          go_wp2_with fail
          go_ret3
          exact ⟨ret_ise (by rw [TK.out.1]; rfl) TK.out.2.1.symm (by rw [TK.out.2.2]; rfl), HB.out⟩

theorem take_any (s : ByteArray) (hs : s.size ≤ 4611686018427387903) (w : World) : Calls Tryd.prog 47 #[.string s] w (TakePost s w) := by
  cases h : nats s with
  | nil =>
    obtain rfl : s = ⟨#[]⟩ := nats_inj h
    exact take_nil w
  | cons c r => exact take_cons s hs c r h w

/-- A number without a sign as one with. -/
def unzig (n : Nat) : Int := if n % 2 = 1 then -((n : Int) / 2) - 1 else (n : Int) / 2
theorem unzig_odd {n : Nat} (h : n % 2 = 1) : unzig n = -((n : Int) / 2) - 1 := by unfold unzig; rw [if_pos h]
theorem unzig_even {n : Nat} (h : ¬ n % 2 = 1) : unzig n = (n : Int) / 2 := by unfold unzig; rw [if_neg h]
def TakeIntPost (s : ByteArray) (w : World) (e : Ending) (w' : World) : Prop := e = .returned (.tuple #[.int .i64 (unzig (tkN s)), .string (tkR s), .int .i64 (tkE s : Int)]) ∧ Below w.heap.size w w'

set_option maxHeartbeats 1000000 in
theorem takeint_any (s : ByteArray) (hs : s.size ≤ 4611686018427387903) (w : World) : Calls Tryd.prog 67 #[.string s] w (TakeIntPost s w) := by
  have CT := Lib.hid (fun w => take_any s hs w)
  have hn := tkN_lt s
  obtain ⟨n, hN⟩ : ∃ n, tkN s = n := ⟨_, rfl⟩
  have HN := Lib.hid hN
  rw [hN] at hn
  clear hN
  by_cases ho : n % 2 = 1
  · have h1 : (n : Int) % 2 = 1 := by omega
    have HU := Lib.hid (unzig_odd ho)
    go_enter Tryd.func67, Tryd.ntmps67
    go_wp2_with (go_at_call 47; refine (CT.out _).mono ?_; rintro e w1 ⟨rfl, hb⟩; rw [HN.out])
    go_ret3
    refine ⟨ret_ise ?_ rfl rfl, hb⟩
    rw [HN.out, HU.out, Int.tdiv_eq_ediv_of_nonneg (by omega), IntWalk.wrap64_in _ (by omega)]
    omega
  · have h1 : ¬ (n : Int) % 2 = 1 := by omega
    have HU := Lib.hid (unzig_even ho)
    go_enter Tryd.func67, Tryd.ntmps67
    go_wp2_with (go_at_call 47; refine (CT.out _).mono ?_; rintro e w1 ⟨rfl, hb⟩; rw [HN.out])
    go_ret3
    refine ⟨ret_ise ?_ rfl rfl, hb⟩
    rw [HN.out, HU.out]

end Go.Proofs.YtmieonfdenjedaaDoor

/-
  The document's Name and one: is a text a name, what is wrong with a field alone. Fields in memory.
-/
namespace Go.Proofs.YtmieonfdenjedaaDoor
open Go.RowKit

/-- What a name's first bytes may be. -/
def preOk : List Nat → Bool
  | [] => true
  | c :: r => letterB c && r.all innerB
theorem preOk_snoc (l : List Nat) (c : Nat) : preOk (l ++ [c]) = (preOk l && if l = [] then letterB c else innerB c) := by
  cases l with
  | nil => simp [preOk]
  | cons d r => simp [preOk, Bool.and_assoc]
theorem preOk_more : ∀ (l : List Nat) (k : Nat), preOk (l.take k) = false → preOk l = false
  | [], _, h => by simp [preOk] at h
  | c :: r, 0, h => by simp [preOk] at h
  | c :: r, k + 1, h => by
    rw [List.take_succ_cons, preOk] at h
    rw [preOk]
    cases hc : letterB c with
    | false => rfl
    | true =>
      rw [hc, Bool.true_and] at h
      rw [Bool.true_and]
      rw [List.all_eq_false] at h ⊢
      obtain ⟨x, hx, h2⟩ := h
      exact ⟨x, List.mem_of_mem_take hx, h2⟩
theorem nameL_pre (l : List Nat) : nameL l = (preOk l && (!l.isEmpty && decide (l.length ≤ 12))) := by
  cases l with
  | nil => rfl
  | cons c r =>
    rw [nameL, preOk, List.isEmpty_cons, List.length_cons]
    simp
theorem name_bad {s : ByteArray} {k c : Nat} (hc : (nats s)[k]? = some c) (hp : preOk ((nats s).take k) = true) (h : (if k = 0 then letterB c else innerB c) = false) : nameB s = false := by
  unfold nameB
  rw [nameL_pre, preOk_more (nats s) (k + 1), Bool.false_and]
  rw [List.take_add_one, hc, Option.toList_some, preOk_snoc, hp, Bool.true_and]
  have hk : k < (nats s).length := by
    rcases Nat.lt_or_ge k (nats s).length with h' | h'
    · exact h'
    · rw [List.getElem?_eq_none h'] at hc; cases hc
  have e : ((nats s).take k = []) ↔ k = 0 := by
    rw [← List.length_eq_zero_iff, List.length_take, Nat.min_eq_left (by omega)]
  by_cases h0 : k = 0
  · rw [if_pos (e.2 h0)]; rw [if_pos h0] at h; exact h
  · rw [if_neg (fun h' => h0 (e.1 h'))]; rw [if_neg h0] at h; exact h
theorem name_next {s : ByteArray} {k c : Nat} (hc : (nats s)[k]? = some c) (hp : preOk ((nats s).take k) = true) (h : (if k = 0 then letterB c else innerB c) = true) : preOk ((nats s).take (k + 1)) = true := by
  rw [List.take_add_one, hc, Option.toList_some, preOk_snoc, hp, Bool.true_and]
  have hk : k < (nats s).length := by
    rcases Nat.lt_or_ge k (nats s).length with h' | h'
    · exact h'
    · rw [List.getElem?_eq_none h'] at hc; cases hc
  have e : ((nats s).take k = []) ↔ k = 0 := by
    rw [← List.length_eq_zero_iff, List.length_take, Nat.min_eq_left (by omega)]
  by_cases h0 : k = 0
  · rw [if_pos (e.2 h0)]; rw [if_pos h0] at h; exact h
  · rw [if_neg (fun h' => h0 (e.1 h'))]; rw [if_neg h0] at h; exact h
theorem letter_inner {c k : Nat} (h : letterB c = true) : (if k = 0 then letterB c else innerB c) = true := by
  split
  · exact h
  · unfold innerB; rw [h]; rfl
theorem byte0 {s : ByteArray} {c : Nat} (h : (nats s)[0]? = some c) (h0 : 0 < s.size) : (s[0]'h0).toNat = c := by
  have := nats_get (s := s) (i := 0) h0
  rw [this] at h
  exact Option.some.inj h
theorem ret_bool {a b : Bool} (h : a = b) : Ending.returned (.bool a) = .returned (.bool b) := by rw [h]

set_option maxHeartbeats 4000000 in
set_option maxRecDepth 10000 in
theorem dname_any (s : ByteArray) (hs : s.size ≤ 9223372036854775807) (w : World) : Same 71 #[.string s] w (.bool (nameB s)) := by
  obtain ⟨n, hn⟩ : ∃ n, s.size = n := ⟨_, rfl⟩
  have HN := Lib.hid hn
  go_enter Tryd.func71, Tryd.ntmps71
  go_wp2_with fail
  go_loopw [3] (fun i wr => ∃ k : Nat, k ≤ n ∧ i = .int .i64 k ∧ preOk ((nats s).take k) = true ∧ wr = w) (fun i _ => n - (intOf i).toNat)
  case atStart => exact ⟨0, Nat.zero_le _, rfl, rfl, rfl⟩
  case round =>
    obtain ⟨k, hk, rfl, hp, hwr⟩ := hrel
    obtain rfl := hwr.symm
    by_cases hlt : k < n
    · have hlt' : (k : Int) < (n : Int) := by omega
      obtain ⟨c, hc⟩ : ∃ c, (nats s)[k]? = some c := ⟨_, List.getElem?_eq_getElem (by rw [nats_length]; omega)⟩
      have hi := index_run hc
      have NEX := Lib.hid (name_next hc hp)
      have BAD := Lib.hid (name_bad hc hp)
      have HC := Lib.hid hc
      clear hp hc
      by_cases a1 : 97 ≤ c
      · have a1' : (97 : Int) ≤ (c : Int) := by omega
        by_cases a2 : c ≤ 122
        · have a2' : (c : Int) ≤ 122 := by omega
          have NX := Lib.hid (NEX.out (letter_inner (by unfold letterB; simp [a1, a2])))
          go_wp2_with fail
          exact ⟨⟨k + 1, by omega, by go_num, NX.out, trivial⟩, by simp [intOf] <;> omega⟩
        · have a2' : ¬ (c : Int) ≤ 122 := by omega
          have BD := Lib.hid (BAD.out (by unfold innerB letterB; simp [a2]; intro _; omega))
          by_cases k0 : k = 0
          · have kb : ((k : Int) == 0) = true := by rw [beq_iff_eq]; omega
            have kd : decide ((k : Int) = 0) = true := by rw [decide_eq_true_eq]; omega
            clear k0
            go_wp2_with fail
            go_ret
            exact ⟨ret_bool BD.out.symm, rfl⟩
          · have k0' : ¬ (k : Int) = 0 := by omega
            have b1 : ((c : Int) != 45) = true := by rw [bne_iff_ne]; omega
            have b2 : ¬ (c : Int) < 48 := by omega
            have b3 : (57 : Int) < (c : Int) := by omega
            go_wp2_with fail
            go_ret
            exact ⟨ret_bool BD.out.symm, rfl⟩
      · have a1' : ¬ (97 : Int) ≤ (c : Int) := by omega
        by_cases k0 : k = 0
        · have BD := Lib.hid (BAD.out (by rw [if_pos k0]; unfold letterB; simp [a1]))
          have kb : ((k : Int) == 0) = true := by rw [beq_iff_eq]; omega
          have kd : decide ((k : Int) = 0) = true := by rw [decide_eq_true_eq]; omega
          clear k0
          go_wp2_with fail
          go_ret
          exact ⟨ret_bool BD.out.symm, rfl⟩
        · have k0' : ¬ (k : Int) = 0 := by omega
          by_cases c1 : c = 45
          · subst c1
            have hi : ∀ w, (Instr.index 9 (.string s) (.int .i64 (k : Int))).run Tryd.prog w = .ok (.int .u8 45) w := hi
            have NX := Lib.hid (NEX.out (by rw [if_neg k0]; rfl))
            clear a1 a1'
            go_wp2_with fail
            exact ⟨⟨k + 1, by omega, by go_num, NX.out, trivial⟩, by simp [intOf] <;> omega⟩
          · have b1 : ((c : Int) != 45) = true := by rw [bne_iff_ne]; omega
            by_cases c2 : c < 48
            · have c2' : (c : Int) < 48 := by omega
              have BD := Lib.hid (BAD.out (by rw [if_neg k0]; unfold innerB letterB; simp [a1, c1]; intro _; omega))
              go_wp2_with fail
              go_ret
              exact ⟨ret_bool BD.out.symm, rfl⟩
            · have c2' : ¬ (c : Int) < 48 := by omega
              by_cases c3 : 57 < c
              · have c3' : (57 : Int) < (c : Int) := by omega
                have BD := Lib.hid (BAD.out (by rw [if_neg k0]; unfold innerB letterB; simp [a1, c1]; intro _; omega))
                go_wp2_with fail
                go_ret
                exact ⟨ret_bool BD.out.symm, rfl⟩
              · have c3' : ¬ (57 : Int) < (c : Int) := by omega
                have NX := Lib.hid (NEX.out (by rw [if_neg k0]; unfold innerB letterB; simp [c1]; right; omega))
                go_wp2_with fail
                exact ⟨⟨k + 1, by omega, by go_num, NX.out, trivial⟩, by simp [intOf] <;> omega⟩
    · obtain rfl : k = n := by omega
      have hlt' : ¬ (k : Int) < (k : Int) := by omega
      have hall : (nats s).take k = nats s := List.take_of_length_le (by rw [nats_length, hn]; exact Nat.le_refl _)
      rw [hall] at hp
      have NE : nameB s = (!(nats s).isEmpty && decide (s.size ≤ 12)) := by
        unfold nameB
        rw [nameL_pre, hp, Bool.true_and, nats_length]
      by_cases h0 : s = ⟨#[]⟩
      · have NB := Lib.hid (show nameB s = false by rw [NE, h0]; rfl)
        subst h0
        go_wp2_with fail
        go_ret
        exact ⟨ret_bool NB.out.symm, rfl⟩
      · have he : (nats s).isEmpty = false := by
          cases h3 : nats s with
          | nil => exact absurd (nats_inj (a := s) (b := ⟨#[]⟩) h3) h0
          | cons => rfl
        have hne : s.toList.isEmpty = false := by
          rw [ByteArray.toList_eq]
          unfold nats at he
          rw [List.isEmpty_map] at he
          exact he
        by_cases h12 : s.size ≤ 12
        · have h12' : (s.size : Int) ≤ 12 := by omega
          have h12k : (k : Int) ≤ 12 := by omega
          have NB := Lib.hid (show nameB s = true by rw [NE, he]; simp [h12])
          clear NE hp hall
          go_wp2_with fail
          go_ret
          exact ⟨ret_bool NB.out.symm, rfl⟩
        · have h12' : ¬ (s.size : Int) ≤ 12 := by omega
          have h12k : ¬ (k : Int) ≤ 12 := by omega
          have NB := Lib.hid (show nameB s = false by rw [NE]; simp [h12])
          clear NE hp hall
          go_wp2_with fail
          go_ret
          exact ⟨ret_bool NB.out.symm, rfl⟩

end Go.Proofs.YtmieonfdenjedaaDoor

/-
  Fields in memory; the document's one, Right and Get.
-/
namespace Go.Proofs.YtmieonfdenjedaaDoor
open Go.RowKit

/-- A field as a value. -/
abbrev fv (f : Fd) : Value := .agg #[.string f.n, .int .i64 f.v]
/-- From A on the fields of l lie, one behind the other. -/
def Fields (w : World) (A : Option Addr) (l : List Fd) : Prop := ∀ i f, l[i]? = some f → ∃ g off, A = some ⟨g, off, none⟩ ∧ w.cell? ⟨g, off + i * 2, none⟩ = some (.string f.n) ∧ w.cell? ⟨g, off + i * 2 + 1, none⟩ = some (.int .i64 f.v)
theorem Fields.below {w w' : World} {A : Option Addr} {l : List Fd} (h : Fields w A l) (hb : Below w.heap.size w w') : Fields w' A l := fun i f hf => by
  obtain ⟨g, off, rfl, c0, c1⟩ := h i f hf
  exact ⟨g, off, rfl, keepc hb c0, keepc hb c1⟩
theorem Fields.nil (w : World) (A : Option Addr) : Fields w A [] := fun i f h => by simp at h
theorem Fields.at {w : World} {g off k : Nat} {f : Fd} {l : List Fd} (h : Fields w (some ⟨g, off, none⟩) l) (hf : l[k]? = some f) : w.cell? ⟨g, off + k * 2, none⟩ = some (.string f.n) ∧ w.cell? ⟨g, off + k * 2 + 1, none⟩ = some (.int .i64 f.v) := by
  obtain ⟨g', off', e, c0, c1⟩ := h k f hf
  injection e with e
  injection e with e1 e2
  subst e1 e2
  exact ⟨c0, c1⟩
/-- Fields whose names are not too long. -/
def okF (l : List Fd) : Prop := ∀ f ∈ l, f.n.size ≤ 9223372036854775807

theorem intE_val (v : Int) : intE v = if valB v then 0 else 2 := by
  unfold valB
  by_cases h : -2305843009213693952 ≤ v ∧ v ≤ 2305843009213693951
  · rw [(int_ok h rfl).2, if_pos (by simp [h.1, h.2])]
    unfold numE zig
    split <;> rw [if_pos (by omega)]
  · rw [(int_bad h).2, if_neg]
    simp only [Bool.and_eq_true, decide_eq_true_eq]
    exact h

set_option maxHeartbeats 1000000 in
theorem done_any (f : Fd) (hf : f.n.size ≤ 9223372036854775807) (w : World) : Ret 57 #[fv f] w (.int .i64 ((oneE f : Nat) : Int)) := by
  have CN := Lib.hid (fun w => dname_any f.n hf w)
  have CI := Lib.hid (fun w => dint_any f.v w)
  have HVv := intE_val f.v
  cases hn : nameB f.n with
  | false =>
    have HE := Lib.hid (show oneE f = 8 by unfold oneE; rw [hn]; rfl)
    rw [hn] at CN
    clear hn HVv
    go_enter Tryd.func57, Tryd.ntmps57
    go_wp2_with (go_at_call 71; with_reducible refine (CN.out _).mono ?_; rintro e w2 ⟨rfl, rfl⟩)
    go_ret
    exact ⟨ret_int (by rw [HE.out]; rfl), (bl w).alloc (Nat.le_refl _) _⟩
  | true =>
    rw [hn] at CN
    cases hv : valB f.v with
    | false =>
      have HE := Lib.hid (show oneE f = 2 by unfold oneE; rw [hn, hv]; rfl)
      have HV := Lib.hid (show intE f.v = 2 by rw [HVv, hv]; rfl)
      clear hn hv HVv
      go_enter Tryd.func57, Tryd.ntmps57
      go_wp2_with (go_at_call 71; with_reducible refine (CN.out _).mono ?_; rintro e w2 ⟨rfl, rfl⟩)
      (go_at_call 63; (with_reducible refine (CI.out _).mono ?_); rintro e w3 ⟨rfl, hb⟩; rw [HV.out])
      go_wp2_with fail
      go_ret
      exact ⟨ret_int (by rw [HE.out]; rfl), ((bl w).alloc (Nat.le_refl _) _).trans (hb.mono (by simp))⟩
    | true =>
      have HE := Lib.hid (show oneE f = 0 by unfold oneE; rw [hn, hv]; rfl)
      have HV := Lib.hid (show intE f.v = 0 by rw [HVv, hv]; rfl)
      clear hn hv HVv
      go_enter Tryd.func57, Tryd.ntmps57
      go_wp2_with (go_at_call 71; with_reducible refine (CN.out _).mono ?_; rintro e w2 ⟨rfl, rfl⟩)
      (go_at_call 63; (with_reducible refine (CI.out _).mono ?_); rintro e w3 ⟨rfl, hb⟩; rw [HV.out])
      go_wp2_with fail
      go_ret
      exact ⟨ret_int (by rw [HE.out]; rfl), ((bl w).alloc (Nat.le_refl _) _).trans (hb.mono (by simp))⟩

theorem drop_consF {l : List Fd} {k : Nat} {f : Fd} (h : l[k]? = some f) : l.drop k = f :: l.drop (k + 1) := by
  have hk : k < l.length := by
    rcases Nat.lt_or_ge k l.length with h' | h'
    · exact h'
    · rw [List.getElem?_eq_none h'] at h; cases h
  rw [List.drop_eq_getElem_cons hk]
  rw [List.getElem?_eq_getElem hk] at h
  rw [Option.some.inj h]
theorem rightG_none (f : Fd) (l : List Fd) : rightG none (f :: l) = if oneE f = 0 then rightG (some f.n) l else oneE f := rfl
theorem rightG_some (p : ByteArray) (f : Fd) (l : List Fd) : rightG (some p) (f :: l) = if oneE f = 0 then (if aheadB p f.n then rightG (some f.n) l else 16) else oneE f := rfl
theorem rightG_bad (o : Option ByteArray) {f : Fd} (l : List Fd) (h : oneE f ≠ 0) : rightG o (f :: l) = oneE f := by
  cases o
  · rw [rightG_none, if_neg h]
  · rw [rightG_some, if_neg h]

set_option maxHeartbeats 4000000 in
set_option maxRecDepth 10000 in
theorem dright_any (w : World) (A : Option Addr) (c : Nat) (l : List Fd) (hl : Fields w A l) (hok : okF l) (hn : l.length ≤ 9223372036854775807) :
    Ret 34 #[.slice A l.length c] w (.int .i64 ((rightE l : Nat) : Int)) := by
  by_cases h8 : 8 < l.length
  · have h8' : (8 : Int) < (l.length : Int) := by omega
    have HE := Lib.hid (show rightE l = 4 by unfold rightE; rw [if_pos h8])
    go_enter Tryd.func34, Tryd.ntmps34
    go_wp2_with fail
    go_ret
    exact ⟨ret_int (by rw [HE.out]; rfl), bl w⟩
  · have h8' : ¬ (8 : Int) < (l.length : Int) := by omega
    have HR := Lib.hid (show rightE l = rightG none l by unfold rightE; rw [if_neg h8])
    have HL := Lib.hid hl
    have HO := Lib.hid hok
    obtain ⟨n, hnm⟩ : ∃ n, l.length = n := ⟨_, rfl⟩
    rw [hnm] at hn h8 h8' ⊢
    have HN := Lib.hid hnm
    clear hl hnm hok
    go_enter Tryd.func34, Tryd.ntmps34
    go_wp2_with fail
    go_loopw [3] (fun i wr => ∃ (k : Nat) (o : Option ByteArray), k ≤ n ∧ i = .int .i64 k ∧ rightG none l = rightG o (l.drop k) ∧ (k = 0 ∧ o = none ∨ ∃ j f, k = j + 1 ∧ l[j]? = some f ∧ o = some f.n) ∧ Below w.heap.size w wr) (fun i _ => n - (intOf i).toNat)
    case atStart => exact ⟨0, none, Nat.zero_le _, rfl, rfl, .inl ⟨rfl, rfl⟩, bl w⟩
    case round =>
      obtain ⟨k, o, hk, rfl, hg, ho, hB⟩ := hrel
      have HB := Lib.hid hB
      clear hB
      by_cases hlt : k < n
      · have hlt' : (k : Int) < (n : Int) := by omega
        obtain ⟨f, hf⟩ : ∃ f, l[k]? = some f := ⟨_, List.getElem?_eq_getElem (by have := HN.out; omega)⟩
        have FL := (HL.out.below HB.out)
        obtain ⟨g, off, rfl, c0, c1⟩ := FL k f hf
        have CO := Lib.hid (fun w => done_any f (HO.out f (List.mem_of_getElem? hf)) w)
        rw [drop_consF hf] at hg
        by_cases h0 : oneE f = 0
        · have E0 := Lib.hid h0
          rcases ho with ⟨hk0, rfl⟩ | ⟨j, p, hkj, hp, rfl⟩
          · rw [rightG_none, if_pos h0] at hg
            have NX := Lib.hid hg
            have HF := Lib.hid hf
            have kp : ¬ 0 < k := by omega
            have kq : decide (0 < k) = false := by rw [decide_eq_false_iff_not]; exact kp
            clear hg h0 FL hf hk0
            go_wp2_with (go_at_call 57; with_reducible refine (CO.out _).mono ?_; rintro e w2 ⟨rfl, hb⟩; rw [E0.out]; have HB2 := Lib.hid (chain HB.out hb); clear hb)
            go_quiet (fail)
            go_wp2_with fail
            exact ⟨⟨k + 1, _, by omega, by go_num, NX.out, .inr ⟨k, f, rfl, HF.out, rfl⟩, belowN HB2.out _⟩, by simp [intOf] <;> omega⟩
          · have HP := Lib.hid hp
            obtain ⟨b0, _⟩ := FL.at hp
            have HF := Lib.hid hf
            have w1 : IntKind.i64.wrap ((k : Int) - 1) = (j : Int) := by rw [IntKind.wrap_i64]; omega
            have kp : 0 < k := by omega
            have kq : decide (0 < k) = true := by rw [decide_eq_true_eq]; exact kp
            have jn : (j : Int) < (n : Int) := by omega
            have e1 := less_nats p.n f.n
            have B0 := Lib.hid b0
            have D0 := Lib.hid c0
            have HKJ := Lib.hid hkj
            clear hp hf FL b0 hkj
            cases ha : aheadB p.n f.n with
            | true =>
              rw [rightG_some, if_pos h0, if_pos ha] at hg
              have NX := Lib.hid hg
              rw [show lessN (nats p.n) (nats f.n) = true from ha] at e1
              clear hg h0 ha
              go_wp2_with (go_at_call 57; with_reducible refine (CO.out _).mono ?_; rintro e w2 ⟨rfl, hb⟩; rw [E0.out]; have HB2 := Lib.hid (chain HB.out hb); have b1 := keepc hb B0.out; have d1 := keepc hb D0.out; clear hb)
              go_quiet (fail)
              go_wp2_with fail
              exact ⟨⟨k + 1, _, by omega, by go_num, NX.out, .inr ⟨k, f, rfl, HF.out, rfl⟩, belowN HB2.out _⟩, by simp [intOf] <;> omega⟩
            | false =>
              have NX := Lib.hid (show rightE l = 16 by rw [HR.out, hg, rightG_some, if_pos h0, if_neg (by rw [ha]; simp)])
              rw [show lessN (nats p.n) (nats f.n) = false from ha] at e1
              clear hg h0 ha
              go_wp2_with (go_at_call 57; with_reducible refine (CO.out _).mono ?_; rintro e w2 ⟨rfl, hb⟩; rw [E0.out]; have HB2 := Lib.hid (chain HB.out hb); have b1 := keepc hb B0.out; have d1 := keepc hb D0.out; clear hb)
              go_quiet (fail)
              go_wp2_with fail
              go_ret
              exact ⟨ret_int (by rw [NX.out]; rfl), belowN HB2.out _⟩
        · have NX := Lib.hid (show rightE l = oneE f by rw [HR.out, hg, rightG_bad o _ h0])
          have h0' : ¬ ((oneE f : Nat) : Int) = 0 := by omega
          clear hg ho FL
          generalize oneE f = z at *
          go_wp2_with (go_at_call 57; with_reducible refine (CO.out _).mono ?_; rintro e w2 ⟨rfl, hb⟩)
          go_ret
          exact ⟨ret_int (by rw [NX.out]), chain HB.out hb⟩
      · obtain rfl : k = n := by omega
        have hlt' : ¬ (k : Int) < (k : Int) := by omega
        rw [List.drop_of_length_le (by have := HN.out; omega)] at hg
        have HE := Lib.hid (show rightE l = 0 by rw [HR.out, hg]; cases o <;> rfl)
        clear hg ho
        go_wp2_with fail
        go_ret
        exact ⟨ret_int (by rw [HE.out]; rfl), HB.out⟩

end Go.Proofs.YtmieonfdenjedaaDoor

/-
  The document's Get and Same.
-/
namespace Go.Proofs.YtmieonfdenjedaaDoor
open Go.RowKit

theorem bytes_is {s t : ByteArray} : s.toList = t.toList ↔ nats s = nats t := by
  constructor
  · intro h
    rw [ByteArray.toList_eq, ByteArray.toList_eq] at h
    unfold nats; rw [h]
  · intro h; rw [nats_inj h]
theorem ret_ib {a b : Int} {c d : Bool} (h : a = b) (k : c = d) : Ending.returned (.tuple #[.int .i64 a, .bool c]) = .returned (.tuple #[.int .i64 b, .bool d]) := by rw [h, k]

/-- Are two lists the same, field by field? -/
def sameF : List Fd → List Fd → Bool
  | [], [] => true
  | f :: a, g :: b => decide (f.n.toList = g.n.toList ∧ f.v = g.v) && sameF a b
  | _, _ => false
theorem sameF_self : ∀ l : List Fd, sameF l l = true
  | [] => rfl
  | f :: l => by rw [sameF, sameF_self l]; simp
theorem sameF_eq : ∀ a b : List Fd, sameF a b = true → a = b
  | [], [], _ => rfl
  | [], _ :: _, h => by simp [sameF] at h
  | _ :: _, [], h => by simp [sameF] at h
  | f :: a, g :: b, h => by
    rw [sameF, Bool.and_eq_true, decide_eq_true_eq] at h
    obtain ⟨fn, fv⟩ := f
    obtain ⟨gn, gv⟩ := g
    obtain ⟨⟨h1, h2⟩, h3⟩ := h
    obtain rfl : fn = gn := nats_inj (bytes_is.1 h1)
    obtain rfl : fv = gv := h2
    rw [sameF_eq a b h3]
theorem sameF_len : ∀ a b : List Fd, a.length ≠ b.length → sameF a b = false
  | [], [], h => absurd rfl h
  | [], _ :: _, _ => rfl
  | _ :: _, [], _ => rfl
  | f :: a, g :: b, h => by rw [sameF, sameF_len a b (fun e => h (by rw [List.length_cons, List.length_cons, e])), Bool.and_false]
theorem Tryd.noGuardField : Tryd.prog.eqGuardType Tryd.prog.depth 90 = false := by kernel_rfl
set_option maxRecDepth 100000 in
theorem run_neq_field (f g : Fd) (w : World) : (binOp .neq 90 (fv f) (fv g)).run Tryd.prog w = .ok (.bool (!decide (f.n.toList = g.n.toList ∧ f.v = g.v))) w := by
  rw [run_neq_struct, run_equalIn_struct w 9999 90 _ _ Tryd.underlying90 (by kernel_rfl)]
  have h3 := Tryd.underlying3
  have h9 := Tryd.underlying9
  have a3 : ∀ w, (isAgg 3).run Tryd.prog w = .ok false w := Tryd.isAgg3
  have a9 : ∀ w, (isAgg 9).run Tryd.prog w = .ok false w := Tryd.isAgg9
  have c9 : Tryd.prog.cellsOf 9 = 1 := by kernel_rfl
  simp [Op.eqFields, Program.fieldsOf, Tryd.underlying90, part, a3, a9, run_equalIn_int w 9998 _ .i64 .i64 _ _ h3, run_equalIn_string w 9998 _ _ _ h9]
  by_cases h1 : f.n.toList = g.n.toList
  · by_cases h2 : f.v = g.v <;> simp [h1, h2]
  · simp [h1]

set_option maxHeartbeats 2000000 in
theorem dsame_any (w : World) (A B : Option Addr) (c d : Nat) (a b : List Fd) (ha : Fields w A a) (hb : Fields w B b) (hn : a.length ≤ 9223372036854775807) (_hm : b.length ≤ 9223372036854775807) :
    Ret 36 #[.slice A a.length c, .slice B b.length d] w (.bool (sameF a b)) := by
  by_cases hnm : a.length ≠ b.length
  · have HS := Lib.hid (sameF_len a b hnm)
    have hne : ((a.length : Int) != (b.length : Int)) = true := by rw [bne_iff_ne]; omega
    clear ha hb
    generalize a.length = n at *
    generalize b.length = m at *
    go_enter Tryd.func36, Tryd.ntmps36
    go_wp2_with fail
    go_ret
    exact ⟨ret_bool HS.out.symm, bl w⟩
  · obtain ⟨n, hn1⟩ : ∃ n, a.length = n := ⟨_, rfl⟩
    have hn2 : b.length = n := by omega
    obtain ⟨t, ht⟩ : ∃ t, sameF a b = t := ⟨_, rfl⟩
    have HT := Lib.hid ht
    rw [hn1] at hn ⊢
    rw [hn2, ht]
    have HA := Lib.hid ha
    have HB := Lib.hid hb
    have HN1 := Lib.hid hn1
    have HN2 := Lib.hid hn2
    clear ha hb hn1 hn2 hnm _hm ht
    have hng := Tryd.noGuardField
    go_enter Tryd.func36, Tryd.ntmps36
    go_wp2_with fail
    go_loopw [5] (fun i wr => ∃ k : Nat, k ≤ n ∧ i = .int .i64 k ∧ t = sameF (a.drop k) (b.drop k) ∧ Below w.heap.size w wr) (fun i _ => n - (intOf i).toNat)
    case atStart => exact ⟨0, Nat.zero_le _, rfl, HT.out.symm, bl w⟩
    case round =>
      obtain ⟨k, hk, rfl, hg, hW⟩ := hrel
      have HW := Lib.hid hW
      clear hW
      by_cases hlt : k < n
      · have hlt' : (k : Int) < (n : Int) := by omega
        obtain ⟨f, hf⟩ : ∃ f, a[k]? = some f := ⟨_, List.getElem?_eq_getElem (by have := HN1.out; omega)⟩
        obtain ⟨g, hgg⟩ : ∃ g, b[k]? = some g := ⟨_, List.getElem?_eq_getElem (by have := HN2.out; omega)⟩
        obtain ⟨g1, off, rfl, c0, c1⟩ := (HA.out.below HW.out) k f hf
        obtain ⟨g2, off', rfl, d0, d1⟩ := (HB.out.below HW.out) k g hgg
        rw [drop_consF hf, drop_consF hgg, sameF] at hg
        have hq := run_neq_field f g
        by_cases h : f.n.toList = g.n.toList ∧ f.v = g.v
        · rw [decide_eq_true h] at hq hg
          have HG := Lib.hid (show t = sameF (a.drop (k + 1)) (b.drop (k + 1)) by rw [hg, Bool.true_and])
          have hq : ∀ w, (binOp .neq 90 (fv f) (fv g)).run Tryd.prog w = .ok (.bool false) w := hq
          clear hg hf hgg h
          go_wp2_with fail
          go_quiet (fail)
          go_wp2_with fail
          exact ⟨⟨k + 1, by omega, by go_num, HG.out, belowN HW.out _⟩, by simp [intOf] <;> omega⟩
        · rw [decide_eq_false h] at hq hg
          have HG := Lib.hid (show t = false by rw [hg, Bool.false_and])
          have hq : ∀ w, (binOp .neq 90 (fv f) (fv g)).run Tryd.prog w = .ok (.bool true) w := hq
          clear hg hf hgg h
          go_wp2_with fail
          go_quiet (fail)
          go_wp2_with fail
          go_ret
          exact ⟨ret_bool HG.out.symm, belowN HW.out _⟩
      · obtain rfl : k = n := by omega
        have hlt' : ¬ (k : Int) < (k : Int) := by omega
        rw [List.drop_of_length_le (by have := HN1.out; omega), List.drop_of_length_le (by have := HN2.out; omega)] at hg
        have HG := Lib.hid (show t = true from hg)
        clear hg
        go_wp2_with fail
        go_ret
        exact ⟨ret_bool HG.out.symm, HW.out⟩

end Go.Proofs.YtmieonfdenjedaaDoor

/-
  append of fields onto a list of the call's own, whatever the source, also as one step of a statement whose order is open.
-/
namespace Go.Proofs.YtmieonfdenjedaaDoor
open Go.RowKit

abbrev FT : TypeId := 90
theorem Tryd.infoField : (Tryd.prog.info? FT).map (fun i => (i.zero, i.size, i.bytes)) = some (some (.agg #[.string ⟨#[]⟩, .int .i64 0]), 2, 24) := by kernel_rfl
/-- The cells of fields. -/
def flatF : List Fd → List Value
  | [] => []
  | f :: l => .string f.n :: .int .i64 f.v :: flatF l
theorem flatF_length : ∀ l : List Fd, (flatF l).length = l.length * 2
  | [] => rfl
  | f :: l => by have := flatF_length l; simp [flatF]; omega
theorem flatF_append : ∀ l m : List Fd, flatF (l ++ m) = flatF l ++ flatF m
  | [], _ => rfl
  | f :: l, m => by rw [List.cons_append, flatF, flatF, flatF_append l m]; rfl
theorem flatF_get : ∀ (l : List Fd) (i : Nat) (f : Fd), l[i]? = some f → (flatF l)[i * 2]? = some (.string f.n) ∧ (flatF l)[i * 2 + 1]? = some (.int .i64 f.v)
  | [], _, _, h => by simp at h
  | g :: l, 0, f, h => by
    obtain rfl : g = f := by simpa using h
    exact ⟨rfl, rfl⟩
  | g :: l, i + 1, f, h => by
    have ih := flatF_get l i f (by simpa using h)
    rw [show (i + 1) * 2 = i * 2 + 2 from by omega]
    exact ih
theorem flatF_one : ∀ l : List Fd, ∀ u ∈ flatF l, u.oneCell' = true
  | [], u, h => by simp [flatF] at h
  | f :: l, u, h => by
    rcases List.mem_cons.1 h with rfl | h
    · rfl
    · rcases List.mem_cons.1 h with rfl | h
      · rfl
      · exact flatF_one l u h
abbrev ownF (w : World) (base : Nat) (v : Value) (l : List Fd) : Prop := w.ownsRow base FT 2 v l.length (flatF l)
theorem own_fields {w : World} {base : Nat} {v : Value} {l : List Fd} (h : ownF w base v l) : ∃ A c, v = .slice A l.length c ∧ Fields w A l ∧ (A = none → c = 0) ∧ l.length ≤ c := by
  rcases h.2 with ⟨hv, h0⟩ | ⟨g, cap, cur, hv, _, _, hn, _⟩
  · obtain rfl : l = [] := List.eq_nil_of_length_eq_zero h0
    exact ⟨_, _, hv, Fields.nil _ _, fun _ => rfl, Nat.zero_le _⟩
  · refine ⟨_, _, hv, fun i f hf => ?_, (fun h => by cases h), hn⟩
    have add : ∀ n, (⟨g, 0, none⟩ : Addr).add n = ⟨g, 0 + n, none⟩ := fun n => by unfold Addr.add; split <;> simp_all
    obtain ⟨f0, f1⟩ := flatF_get l i f hf
    have c0 := h.cells (g := g) (by rw [hv]; rfl) _ _ f0
    have c1 := h.cells (g := g) (by rw [hv]; rfl) _ _ f1
    rw [add] at c0 c1
    exact ⟨g, 0, rfl, c0, by rw [Nat.add_assoc]; exact c1⟩
theorem own_belowF {w w' : World} {base e size n : Nat} {v : Value} {xs : List Value} (h : w.ownsRow base e size v n xs) (hb : Below w.heap.size w w') : w'.ownsRow base e size v n xs :=
  h.kept (row := none) ⟨hb.os, hb.tape, hb.output, hb.size, fun k hk _ => hb.block k hk⟩ (by cases v.ownBlock <;> simp)
theorem own_lowerF {w : World} {b b' : Nat} {v : Value} {ts : List Fd} (hb : b ≤ b') (h : ownF w b' v ts) : ownF w b v ts := by
  refine ⟨h.1, ?_⟩
  rcases h.2 with h2 | ⟨g, cap, cur, hv, hg, r⟩
  · exact .inl h2
  · exact .inr ⟨g, cap, cur, hv, by omega, r⟩
theorem flatF_cell {w : World} {g off : Nat} {l : List Fd} (h : Fields w (some ⟨g, off, none⟩) l) {j : Nat} {u : Value} (hu : (flatF l)[j]? = some u) : w.cell? ((⟨g, off, none⟩ : Addr).add j) = some u := by
  have hj : j < l.length * 2 := by
    rcases Nat.lt_or_ge j (flatF l).length with h1 | h1
    · rw [flatF_length] at h1; exact h1
    · rw [List.getElem?_eq_none h1] at hu; cases hu
  obtain ⟨f, hf⟩ : ∃ f, l[j / 2]? = some f := ⟨_, List.getElem?_eq_getElem (by omega)⟩
  obtain ⟨e0, e1⟩ := flatF_get l (j / 2) f hf
  obtain ⟨c0, c1⟩ := h.at hf
  rw [Go.WideShapes.add_plain]
  rcases Nat.mod_two_eq_zero_or_one j with h2 | h2
  · rw [show j / 2 * 2 = j from by omega] at e0 c0
    rw [e0] at hu
    injection hu with hu
    rw [← hu]; exact c0
  · rw [show j / 2 * 2 + 1 = j from by omega] at e1
    rw [Nat.add_assoc, show j / 2 * 2 + 1 = j from by omega] at c1
    rw [e1] at hu
    injection hu with hu
    rw [← hu]; exact c1

theorem run_appF (w : World) {base : Nat} {v : Value} {ts : List Fd} (hown : ownF w base v ts) (B : Option Addr) (c : Nat) (xs : List Fd) (hx : Fields w B xs) (hc : B = none → c = 0)
    (hl : ts.length + xs.length ≤ 1000000) (hbase : base ≤ w.heap.size) (ty : TypeId) :
    ∃ v' w', (Builtin.append_ #[24, 24] ty #[v, .slice B xs.length c]).run Tryd.prog w = .ok v' w' ∧ ownF w' base v' (ts ++ xs) ∧ w.grownBy w' v.ownBlock ∧ (v'.ownBlock = v.ownBlock ∨ v'.ownBlock = some w.heap.size) := by
  obtain ⟨i0, hi, hz0, hz1, hz2⟩ := info_parts Tryd.infoField
  rcases B with _ | ad
  · obtain rfl : xs = [] := by
      rcases xs with _ | ⟨x, xs⟩
      · rfl
      · obtain ⟨_, _, h, _⟩ := hx 0 x (by simp)
        cases h
    obtain rfl := hc rfl
    exact ⟨v, w, run_append_owned_none (P := Tryd.prog) w base 24 ty FT i0 2 Tryd.underlying24 hi v _ _ hown, by simpa [ownF] using hown, World.grownBy.refl _ _, .inl rfl⟩
  · have hcell : ∀ j u, (flatF xs)[j]? = some u → w.cell? (ad.add j) = some u := fun j u hu => by
      rcases xs with _ | ⟨p, xs⟩
      · simp [flatF] at hu
      · obtain ⟨g, off, he, _⟩ := hx 0 p (by simp)
        obtain rfl : ad = ⟨g, off, none⟩ := Option.some.inj he
        exact flatF_cell hx hu
    obtain ⟨v', w', hrun, h2, h3, _, h5⟩ := run_append_own_at (P := Tryd.prog) w base 24 ty FT i0 (.agg #[.string ⟨#[]⟩, .int .i64 0]) 2 24 Tryd.underlying24 hi hz0 hz1 hz2 rfl (by decide) v _ _ hown ad xs.length c (flatF xs) (flatF_length xs) hcell
      (flatF_one xs) (by unfold maxLen; omega) (by omega) hbase
    exact ⟨v', w', hrun, by unfold ownF; rw [flatF_append, List.length_append]; exact h2, h3, h5⟩

theorem step_appF {ops : Array Oper} {o : Oper} {a : Act} {w : World} {K : Act → World → Prop} {Q : Exit → Act → World → Prop} {E : Prop} (hgd : o.guard = none) (s x : Operand)
    (ho : o.op = .call { callee := .builtin .append, args := #[s, x], argTypes := #[24, 24] })
    {base : Nat} {v : Value} {ts : List Fd} (hs : a.eval s = v) (hown : ownF w base v ts) {B : Option Addr} {c m : Nat} {xs : List Fd} (hv : a.eval x = .slice B m c) (hm : m = xs.length) (hx : Fields w B xs) (hc : B = none → c = 0)
    (hl : ts.length + xs.length ≤ 1000000) (hbase : base ≤ w.heap.size)
    (h : ∀ v' w', ownF w' base v' (ts ++ xs) → w.grownBy w' v.ownBlock → (v'.ownBlock = v.ownBlock ∨ v'.ownBlock = some w.heap.size) → K (a.put o.dst v') w') :
    if Region.wanted o (yielded ops a.tmps) = true then Oper.wp Tryd.prog o a w K Q else E := by
  subst hm
  have hw : Region.wanted o (yielded ops a.tmps) = true := by simp [Region.wanted, hgd]
  rw [if_pos hw]
  obtain ⟨v', w', hrun, h2, h3, h4⟩ := run_appF w hown B c xs hx hc hl hbase o.type
  unfold Oper.wp execOp
  simp only [ho, resolve, invoke, builtin, Sem.run_bind, Sem.run_pure, Result.andThen_ok, List.map_toArray, List.map_cons, List.map_nil, hs, hv, hrun]
  exact h v' w' h2 h3 h4

theorem below_grownF {a w w1 : World} {row : Option Nat} (h : Below a.heap.size a w) (hg : w.grownBy w1 row) (hr : ∀ r, row = some r → a.heap.size ≤ r) : Below a.heap.size a w1 := h.grown hg h.size hr
theorem own_emptyF {w : World} {b base : Nat} (h : w.heap[b]? = some (.cells #[] FT (0, 0))) (hb : base ≤ b) : ownF w base (.slice (some ⟨b, 0, none⟩) 0 0) [] :=
  ⟨rfl, .inr ⟨b, 0, #[], rfl, hb, h, by simp, by simp [maxLen], (by simp; try rfl), (by simp; try rfl)⟩⟩
/-- The block of one field. -/
abbrev oc (f : Fd) : Obj := .cells #[.string f.n, .int .i64 f.v] FT
theorem own_f1 (W : World) : ownF (W.alloc (.cells #[] FT)).drew W.heap.size (.slice (some ⟨W.heap.size, 0, none⟩) 0 0) [] := own_emptyF (heap_alloc_new W _) (Nat.le_refl _)
theorem own_f2 (W : World) (x : Fd) : ownF ((W.alloc (.cells #[] FT)).alloc (oc x)).drew W.heap.size (.slice (some ⟨W.heap.size, 0, none⟩) 0 0) [] :=
  own_emptyF ((Below.heap_alloc (W.alloc (.cells #[] FT)) _ W.heap.size (by simp)).trans (heap_alloc_new W _)) (Nat.le_refl _)
theorem own_f3 (W : World) (x : Fd) : ownF ((W.alloc (oc x)).alloc (.cells #[] FT)).drew W.heap.size (.slice (some ⟨W.heap.size + 1, 0, none⟩) 0 0) [] :=
  own_emptyF (w := ((W.alloc (oc x)).alloc (.cells #[] FT))) (by have := heap_alloc_new (W.alloc (oc x)) (.cells #[] FT); simpa using this) (by omega)
theorem field_cell {w : World} {b : Nat} {x : Fd} (h : w.cell? ⟨b, 0, none⟩ = some (.string x.n)) (h1 : w.cell? ⟨b, 1, none⟩ = some (.int .i64 x.v)) : Fields w (some ⟨b, 0, none⟩) [x] := fun i y hy => by
  rcases i with _ | i
  · obtain rfl : x = y := by simpa using hy
    exact ⟨_, _, rfl, by simpa using h, by simpa using h1⟩
  · simp at hy
theorem field_one (w : World) (x : Fd) (t : TypeId) : Fields (w.alloc (.cells #[.string x.n, .int .i64 x.v] t)) (some ⟨w.heap.size, 0, none⟩) [x] := field_cell (by simp [go_sem]) (by simp [go_sem])
theorem x_f2 {W w1 : World} {x : Fd} (hg : ((W.alloc (.cells #[] FT)).alloc (oc x)).drew.grownBy w1 (Value.slice (some ⟨W.heap.size, 0, none⟩) 0 0).ownBlock) : Fields w1 (some ⟨W.heap.size + 1, 0, none⟩) [x] :=
  field_cell (hg.cell (by simp [go_sem]) (by simp [Value.ownBlock])) (hg.cell (by simp [go_sem]) (by simp [Value.ownBlock]))
theorem x_f3 {W w1 : World} {x : Fd} (hg : ((W.alloc (oc x)).alloc (.cells #[] FT)).drew.grownBy w1 (Value.slice (some ⟨W.heap.size + 1, 0, none⟩) 0 0).ownBlock) : Fields w1 (some ⟨W.heap.size, 0, none⟩) [x] :=
  field_cell (hg.cell (by simp [go_sem]) (by simp [Value.ownBlock])) (hg.cell (by simp [go_sem]) (by simp [Value.ownBlock]))
theorem Fields.take {w : World} {A : Option Addr} {l : List Fd} (h : Fields w A l) (k : Nat) : Fields w A (l.take k) := fun i x hx => by
  rcases Nat.lt_or_ge i k with hi | hi
  · rw [List.getElem?_take_of_lt hi] at hx
    exact h i x hx
  · rw [List.getElem?_take_eq_none hi] at hx
    cases hx
theorem Fields.drop {w : World} {g off : Nat} {l : List Fd} (h : Fields w (some ⟨g, off, none⟩) l) (k : Nat) : Fields w (some ⟨g, off + k * 2, none⟩) (l.drop k) := fun i x hx => by
  rw [List.getElem?_drop] at hx
  obtain ⟨c0, c1⟩ := h.at hx
  exact ⟨g, off + k * 2, rfl, by rw [Nat.add_assoc, ← Nat.add_mul]; exact c0, by rw [Nat.add_assoc off, ← Nat.add_mul]; exact c1⟩

end Go.Proofs.YtmieonfdenjedaaDoor

/-
  A list of fields as a value, a list of such lists.
-/
namespace Go.Proofs.YtmieonfdenjedaaDoor
open Go.RowKit

/-- A list of fields as a value. -/
def ListF (W : World) (v : Value) (l : List Fd) : Prop := ∃ A c, v = .slice A l.length c ∧ Fields W A l ∧ l.length ≤ c ∧ (A = none → c = 0)
/-- A list of lists. -/
def RowsF (W : World) (A : Option Addr) (L : List (List Fd)) : Prop := ∀ i l, L[i]? = some l → ∃ g off v, A = some ⟨g, off, none⟩ ∧ W.cell? ⟨g, off + i, none⟩ = some v ∧ ListF W v l

theorem ListF.below {w w' : World} {v : Value} {l : List Fd} (h : ListF w v l) (hb : Below w.heap.size w w') : ListF w' v l := by
  obtain ⟨A, c, e, h1, h2, h3⟩ := h
  exact ⟨A, c, e, h1.below hb, h2, h3⟩
theorem RowsF.below {w w' : World} {A : Option Addr} {L : List (List Fd)} (h : RowsF w A L) (hb : Below w.heap.size w w') : RowsF w' A L := fun i l hl => by
  obtain ⟨g, off, v, e, hc, hv⟩ := h i l hl
  exact ⟨g, off, v, e, keepc hb hc, hv.below hb⟩
theorem ListF.nil (w : World) : ListF w (.slice none 0 0) [] := ⟨none, 0, rfl, Fields.nil _ _, Nat.le_refl _, fun _ => rfl⟩
theorem ListF.own {w : World} {base : Nat} {v : Value} {l : List Fd} (h : ownF w base v l) : ListF w v l := by
  obtain ⟨A, c, e, h1, h2, h3⟩ := own_fields h
  exact ⟨A, c, e, h1, h3, h2⟩
theorem wpList_appF {ops : Array Oper} {rest : List Oper} {o : Oper} {a : Act} {w : World} {Q : Exit → Act → World → Prop} (hgd : o.guard = none) (s x : Operand)
    (ho : o.op = .call { callee := .builtin .append, args := #[s, x], argTypes := #[24, 24] })
    {base : Nat} {v : Value} {ts : List Fd} (hs : a.eval s = v) (hown : ownF w base v ts) {B : Option Addr} {c m : Nat} {xs : List Fd} (hv : a.eval x = .slice B m c) (hm : m = xs.length) (hx : Fields w B xs) (hc : B = none → c = 0)
    (hl : ts.length + xs.length ≤ 1000000) (hbase : base ≤ w.heap.size)
    (h : ∀ v' w', ownF w' base v' (ts ++ xs) → w.grownBy w' v.ownBlock → wpList Tryd.prog ops Q rest (a.put o.dst v') w') : wpList Tryd.prog ops Q (o :: rest) a w := by
  subst hm
  obtain ⟨v', w', hrun, h2, h3, h4⟩ := run_appF w hown B c xs hx hc hl hbase o.type
  refine wpList_plain hgd fun _ hK => ?_
  unfold Oper.wp execOp
  simp only [ho, resolve, invoke, builtin, Sem.run_bind, Sem.run_pure, Result.andThen_ok, List.map_toArray, List.map_cons, List.map_nil, hs, hv, hrun]
  exact hK _ _ (h v' w' h2 h3)
/-- A list of the call's own, whose blocks lie from that world on. -/
structure OF (W : World) (l : List Fd) (v : Value) (w : World) : Prop where
  own : ownF w W.heap.size v l
  bel : Below W.heap.size W w
theorem OF.nil (W : World) : OF W [] (.slice none 0 0) W := ⟨World.ownsRow_nil _ _ _ _, bl W⟩
theorem OF.below {W w w' : World} {l : List Fd} {v : Value} (h : OF W l v w) (hb : Below w.heap.size w w') : OF W l v w' := ⟨own_belowF h.own hb, chain h.bel hb⟩
theorem OF.grown {W w w' : World} {l m : List Fd} {v v' : Value} (h : OF W l v w) (hg : w.grownBy w' v.ownBlock) (hown : ownF w' W.heap.size v' m) : OF W m v' w' :=
  ⟨hown, below_grownF h.bel hg (fun r hr => (h.own.lt r hr).1)⟩
theorem OF.list {W w : World} {l : List Fd} {v : Value} (h : OF W l v w) : ListF w v l := ListF.own h.own
theorem OF.set {W w : World} {l : List Fd} {v : Value} (h : OF W l v w) {b o : Nat} (u : Value) (hne : v.ownBlock ≠ some b) (hb : W.heap.size ≤ b) : OF W l v (w.setCell ⟨b, o, none⟩ u) :=
  ⟨h.own.kept (row := some b) ⟨rfl, rfl, rfl, by simp [World.setCell], fun k _ hk => Below.heap_setCell _ _ _ _ (fun e => hk (by simp [e]))⟩ (Or.inr hne), h.bel.setCell (p := ⟨b, o, none⟩) hb u⟩
theorem OF.ne {W w : World} {l : List Fd} {v : Value} (h : OF W l v w) : v.ownBlock ≠ some w.heap.size := fun e => by
  have := (h.own.lt _ e).2
  omega
/-- A list of the call's own, and a field of its own in block b. -/
structure FW (W0 : World) (acc : List Fd) (o : Value) (b : Nat) (x : Fd) (W : World) : Prop where
  of : OF W0 acc o W
  ne : o.ownBlock ≠ some b
  le : W0.heap.size ≤ b
  lt : b < W.heap.size
  c0 : W.cell? ⟨b, 0, none⟩ = some (.string x.n)
  c1 : W.cell? ⟨b, 1, none⟩ = some (.int .i64 x.v)
  f0 : W.frozen? ⟨b, 0, none⟩ = false
  f1 : W.frozen? ⟨b, 1, none⟩ = false
theorem FW.set0 {W0 W : World} {acc : List Fd} {o : Value} {b : Nat} {x : Fd} (h : FW W0 acc o b x W) (s : ByteArray) : FW W0 acc o b ⟨s, x.v⟩ (W.setCell ⟨b, 0, none⟩ (.string s)) :=
  ⟨h.of.set _ h.ne h.le, h.ne, h.le, by simpa [World.setCell] using h.lt, World.cell?_setCell_same _ _ _ h.c0, (World.cell?_setCell_other _ _ _ _ (by simp)).trans h.c1, by simpa [go_sem] using h.f0, by simpa [go_sem] using h.f1⟩
theorem FW.set1 {W0 W : World} {acc : List Fd} {o : Value} {b : Nat} {x : Fd} (h : FW W0 acc o b x W) (v : Int) : FW W0 acc o b ⟨x.n, v⟩ (W.setCell ⟨b, 1, none⟩ (.int .i64 v)) :=
  ⟨h.of.set _ h.ne h.le, h.ne, h.le, by simpa [World.setCell] using h.lt, (World.cell?_setCell_other _ _ _ _ (by simp)).trans h.c0, World.cell?_setCell_same _ _ _ h.c1, by simpa [go_sem] using h.f0, by simpa [go_sem] using h.f1⟩
theorem FW.below {W0 W w' : World} {acc : List Fd} {o : Value} {b : Nat} {x : Fd} (h : FW W0 acc o b x W) (hb : Below W.heap.size W w') : FW W0 acc o b x w' :=
  ⟨h.of.below hb, h.ne, h.le, Nat.lt_of_lt_of_le h.lt hb.size, keepc hb h.c0, keepc hb h.c1, (hb.frozen (p := ⟨b, 0, none⟩) h.lt).trans h.f0, (hb.frozen (p := ⟨b, 1, none⟩) h.lt).trans h.f1⟩
theorem FW.drewN {W0 W : World} {acc : List Fd} {o : Value} {b : Nat} {x : Fd} (h : FW W0 acc o b x W) (q : Nat) : FW W0 acc o b x (W.drewN q) := h.below ⟨rfl, rfl, rfl, Nat.le_refl _, fun _ _ => rfl⟩
/-- The field in the block is laid behind the list. -/
theorem FW.start {W0 w w2 : World} {acc : List Fd} {o : Value} {T : TypeId} {x : Fd} (h : OF W0 acc o w) (hb2 : Below (w.alloc (.cells #[.string x.n, .int .i64 x.v] T)).heap.size (w.alloc (.cells #[.string x.n, .int .i64 x.v] T)) w2) : FW W0 acc o w.heap.size x w2 :=
  FW.below (W := w.alloc (.cells #[.string x.n, .int .i64 x.v] T)) ⟨h.below ((bl w).alloc (Nat.le_refl _) _), h.ne, h.bel.size, by simp, by simp [go_sem], by simp [go_sem], by simp [go_sem], by simp [go_sem]⟩ hb2
theorem drop_consL {α : Type} {l : List α} {k : Nat} {f : α} (h : l[k]? = some f) : l.drop k = f :: l.drop (k + 1) := by
  have hk : k < l.length := by
    rcases Nat.lt_or_ge k l.length with h' | h'
    · exact h'
    · rw [List.getElem?_eq_none h'] at h; cases h
  rw [List.drop_eq_getElem_cons hk]
  rw [List.getElem?_eq_getElem hk] at h
  rw [Option.some.inj h]
theorem flat_split {L : List (List Fd)} {k : Nat} {row : List Fd} (h : L[k]? = some row) : L.flatten = (L.take k).flatten ++ (row ++ (L.drop (k + 1)).flatten) := by
  have e := List.take_append_drop k L
  rw [drop_consL h] at e
  have := congrArg List.flatten e
  rw [List.flatten_append, List.flatten_cons] at this
  exact this.symm
theorem flat_next {L : List (List Fd)} {k : Nat} {row : List Fd} (h : L[k]? = some row) : (L.take (k + 1)).flatten = (L.take k).flatten ++ row := by
  rw [List.take_add_one, h, Option.toList_some, List.flatten_append, List.flatten_cons, List.flatten_nil, List.append_nil]
theorem flat_pre {L : List (List Fd)} {k : Nat} {row : List Fd} (h : L[k]? = some row) (t : Nat) : ((L.take k).flatten ++ row.take t).length ≤ L.flatten.length := by
  rw [flat_split h, List.length_append, List.length_append, List.length_append, List.length_take]
  omega

/-- Fields that are laid in a new block. -/
theorem fields_new (w : World) (l : List Fd) (T : TypeId) : Fields (w.alloc (.cells (flatF l).toArray T)) (some ⟨w.heap.size, 0, none⟩) l := fun i f hf => by
  obtain ⟨h0, h1⟩ := flatF_get l i f hf
  refine ⟨w.heap.size, 0, rfl, ?_, ?_⟩
  · rw [cell_of_row _ _ _ _ T (0, 0) (heap_alloc_new w _), Nat.zero_add]
    simpa using h0
  · rw [cell_of_row _ _ _ _ T (0, 0) (heap_alloc_new w _), Nat.zero_add]
    simpa using h1
theorem list_new (w : World) (l : List Fd) (T : TypeId) : ListF (w.alloc (.cells (flatF l).toArray T)) (.slice (some ⟨w.heap.size, 0, none⟩) l.length l.length) l := ⟨_, _, rfl, fields_new w l T, Nat.le_refl _, fun h => by cases h⟩
/-- Lists that are laid in a new block. -/
theorem rows_new (w : World) (T : TypeId) (vs : List Value) (L : List (List Fd)) (h : ∀ (i : Nat) (l : List Fd), L[i]? = some l → ∃ v, vs[i]? = some v ∧ ListF w v l) : RowsF (w.alloc (.cells vs.toArray T)) (some ⟨w.heap.size, 0, none⟩) L := fun i l hl => by
  obtain ⟨v, hv, hL⟩ := h i l hl
  refine ⟨w.heap.size, 0, v, rfl, ?_, hL.below ((bl w).alloc (Nat.le_refl _) _)⟩
  rw [cell_of_row _ _ _ _ T (0, 0) (heap_alloc_new w _), Nat.zero_add]
  simpa using hv
theorem rows_two {w : World} {T : TypeId} {u v : Value} {a b : List Fd} (ha : ListF w u a) (hb : ListF w v b) : RowsF (w.alloc (.cells #[u, v] T)) (some ⟨w.heap.size, 0, none⟩) [a, b] :=
  rows_new w T [u, v] [a, b] fun i l hl => by
    match i, hl with
    | 0, hl => obtain rfl : a = l := by simpa using hl
               exact ⟨u, rfl, ha⟩
    | 1, hl => obtain rfl : b = l := by simpa using hl
               exact ⟨v, rfl, hb⟩
theorem rows_three {w : World} {T : TypeId} {u v x : Value} {a b c : List Fd} (ha : ListF w u a) (hb : ListF w v b) (hc : ListF w x c) : RowsF (w.alloc (.cells #[u, v, x] T)) (some ⟨w.heap.size, 0, none⟩) [a, b, c] :=
  rows_new w T [u, v, x] [a, b, c] fun i l hl => by
    match i, hl with
    | 0, hl => obtain rfl : a = l := by simpa using hl
               exact ⟨u, rfl, ha⟩
    | 1, hl => obtain rfl : b = l := by simpa using hl
               exact ⟨v, rfl, hb⟩
    | 2, hl => obtain rfl : c = l := by simpa using hl
               exact ⟨x, rfl, hc⟩

theorem dsamel_any (w : World) (v u : Value) (a b : List Fd) (ha : ListF w v a) (hb : ListF w u b) (hn : a.length ≤ 9223372036854775807) (hm : b.length ≤ 9223372036854775807) : Ret 36 #[v, u] w (.bool (sameF a b)) := by
  obtain ⟨A, c, rfl, hA, _, _⟩ := ha
  obtain ⟨B, d, rfl, hB, _, _⟩ := hb
  exact dsame_any w A B c d a b hA hB hn hm
end Go.Proofs.YtmieonfdenjedaaDoor

/-
  Plain facts on versions: their order by stamps, what they make of the fields.
-/
namespace Go.Proofs.YtmieonfdenjedaaDoor

/-- A version; where its fields lie (fa, fc) is no part of what it says. -/
structure Vr where
  id : Int
  st : Int
  ent : ByteArray
  sf : Int
  se : Int
  fa : Option Addr
  fc : Nat
  fs : List Fd
  gone : Bool
/-- A version behind those whose stamps are not greater. -/
def insV : List Vr → Vr → List Vr
  | [], x => [x]
  | y :: l, x => if y.st ≤ x.st then y :: insV l x else x :: y :: l
def ordL (l : List Vr) : List Vr := l.foldl insV []
def SortedV (l : List Vr) : Prop := l.Pairwise fun a b => a.st ≤ b.st
theorem insV_perm : ∀ (l : List Vr) (x : Vr), (insV l x).Perm (x :: l)
  | [], x => .refl _
  | y :: l, x => by
    rw [insV]
    split
    · exact ((insV_perm l x).cons y).trans (List.Perm.swap x y l)
    · exact .refl _
theorem insV_sorted : ∀ (l : List Vr) (x : Vr), SortedV l → SortedV (insV l x)
  | [], x, _ => by simp [insV, SortedV]
  | y :: l, x, h => by
    have h' := List.pairwise_cons.1 h
    rw [insV]
    split
    · refine List.pairwise_cons.2 ⟨fun z hz => ?_, insV_sorted l x h'.2⟩
      rcases List.mem_cons.1 ((insV_perm l x).mem_iff.1 hz) with rfl | hz
      · assumption
      · exact h'.1 z hz
    · refine List.pairwise_cons.2 ⟨fun z hz => ?_, h⟩
      rcases List.mem_cons.1 hz with rfl | hz
      · omega
      · have := h'.1 z hz; omega
theorem foldl_perm : ∀ (l a : List Vr), (l.foldl insV a).Perm (a ++ l)
  | [], a => by rw [List.append_nil]; exact .refl _
  | x :: l, a => by
    refine (foldl_perm l (insV a x)).trans ?_
    refine ((insV_perm a x).append_right l).trans ?_
    rw [List.cons_append]
    exact (List.perm_middle (a := x) (l₁ := a) (l₂ := l)).symm
theorem foldl_sorted : ∀ (l a : List Vr), SortedV a → SortedV (l.foldl insV a)
  | [], _, h => h
  | x :: l, a, h => foldl_sorted l _ (insV_sorted a x h)
theorem ordL_perm (l : List Vr) : (ordL l).Perm l := foldl_perm l []
theorem ordL_sorted (l : List Vr) : SortedV (ordL l) := foldl_sorted l [] List.Pairwise.nil
theorem ordL_length (l : List Vr) : (ordL l).length = l.length := (ordL_perm l).length_eq
theorem ordL_snoc (l : List Vr) (x : Vr) : ordL (l ++ [x]) = insV (ordL l) x := by unfold ordL; rw [List.foldl_append]; rfl
/-- The place of a version among those that are in order. -/
theorem insV_at : ∀ (l : List Vr) (x : Vr) (k : Nat), k ≤ l.length → (∀ j y, j < k → l[j]? = some y → y.st ≤ x.st) → (∀ y, l[k]? = some y → x.st < y.st) → insV l x = l.take k ++ x :: l.drop k
  | [], x, k, hk, _, _ => by
    obtain rfl : k = 0 := by simpa using hk
    rfl
  | y :: l, x, 0, _, _, h => by
    have := h y rfl
    rw [insV, if_neg (by omega)]; rfl
  | y :: l, x, k + 1, hk, h1, h2 => by
    have := h1 0 y (by omega) rfl
    rw [insV, if_pos this, insV_at l x k (by simpa using hk) (fun j z hj hz => h1 (j + 1) z (by omega) (by simpa using hz)) (fun z hz => h2 z (by simpa using hz))]
    rfl
theorem sorted_le {l : List Vr} (h : SortedV l) {i j : Nat} {a b : Vr} (ha : l[i]? = some a) (hb : l[j]? = some b) (hij : i ≤ j) : a.st ≤ b.st := by
  rcases Nat.lt_or_ge i j with hlt | hge
  · have hi : i < l.length := (List.getElem?_eq_some_iff.1 ha).1
    have hj : j < l.length := (List.getElem?_eq_some_iff.1 hb).1
    have := List.pairwise_iff_getElem.1 h i j hi hj hlt
    rw [List.getElem?_eq_getElem hi] at ha
    rw [List.getElem?_eq_getElem hj] at hb
    rw [← Option.some.inj ha, ← Option.some.inj hb]
    exact this
  · obtain rfl : i = j := by omega
    rw [ha] at hb
    rw [Option.some.inj hb]
    exact Int.le_refl _
/-- Seen from the end: all from place k on are greater, the one ahead of it is not. -/
theorem insV_from {l : List Vr} (hs : SortedV l) (x : Vr) (k : Nat) (hk : k ≤ l.length) (h1 : ∀ j y, k ≤ j → l[j]? = some y → x.st < y.st) (h2 : k = 0 ∨ ∃ j y, k = j + 1 ∧ l[j]? = some y ∧ y.st ≤ x.st) : insV l x = l.take k ++ x :: l.drop k := by
  refine insV_at l x k hk (fun j y hj hy => ?_) (fun y hy => h1 k y (Nat.le_refl _) hy)
  rcases h2 with rfl | ⟨j', z, rfl, hz, hle⟩
  · omega
  · have := sorted_le hs hy hz (by omega)
    omega

/-- What versions make of the fields. -/
def countsV (l : List Vr) : List (List Fd) := ((ordL l).filter fun v => !v.gone).map Vr.fs
def ofL (l : List Vr) : List Fd := overL (countsV l).flatten
def coversB (v : Vr) (t : Int) : Bool := !v.gone && (decide (-1099511627776 ≤ v.sf) && decide (v.se ≤ 1099511627776) && decide (v.sf < v.se)) && (decide (v.sf ≤ t) && decide (t < v.se))
def atL (t : Int) (l : List Vr) : List Fd := ofL (l.filter fun v => coversB v t)
/-- The stamp of the last one that has a field of that name. -/
def setsB (v : Vr) (s : ByteArray) : Bool := (getL v.fs s).isSome && !v.gone
def lastS : List Vr → ByteArray → Option Int
  | [], _ => none
  | v :: l, s => match lastS l s with
    | some n => some n
    | none => if setsB v s then some v.st else none
def setL (s : ByteArray) (l : List Vr) : Option Int := lastS (ordL l) s
theorem lastS_snoc : ∀ (l : List Vr) (v : Vr) (s : ByteArray), lastS (l ++ [v]) s = if setsB v s then some v.st else lastS l s
  | [], v, s => by simp [lastS]
  | x :: l, v, s => by
    rw [List.cons_append, lastS, lastS_snoc l v s, lastS]
    by_cases h : setsB v s = true
    · rw [if_pos h, if_pos h]
    · rw [if_neg h, if_neg h]
/-- The names of which two lists do not say the same. -/
def differB (a b : List Fd) (s : ByteArray) : Bool := decide ((getL a s).getD 0 ≠ (getL b s).getD 0) || ((getL a s).isSome != (getL b s).isSome)
def chgL (a b : List Fd) : List ByteArray := ((overL (a ++ b)).map Fd.n).filter fun s => differB a b s
/-- Do two versions say the same? -/
def sameV (a b : Vr) : Bool := decide (a.id = b.id) && decide (a.st = b.st) && decide (a.ent.toList = b.ent.toList) && (decide (a.sf = b.sf) && decide (a.se = b.se)) && (a.gone == b.gone) && sameF a.fs b.fs
def sameVs : List Vr → List Vr → Bool
  | [], [] => true
  | a :: l, b :: m => sameV a b && sameVs l m
  | _, _ => false
theorem sameV_self (a : Vr) : sameV a a = true := by simp [sameV, sameF_self]
theorem sameVs_self : ∀ l : List Vr, sameVs l l = true
  | [] => rfl
  | a :: l => by rw [sameVs, sameV_self, sameVs_self l]; rfl
theorem sameVs_len : ∀ a b : List Vr, a.length ≠ b.length → sameVs a b = false
  | [], [], h => absurd rfl h
  | [], _ :: _, _ => rfl
  | _ :: _, [], _ => rfl
  | f :: a, g :: b, h => by rw [sameVs, sameVs_len a b (fun e => h (by rw [List.length_cons, List.length_cons, e])), Bool.and_false]

end Go.Proofs.YtmieonfdenjedaaDoor
