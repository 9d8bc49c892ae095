/-
  Texts joined into one: what the program's and the document's calls give back, piece by piece.
-/
import Derived.Shelf.Small.Bits
import Derived.Shelf.Small.Strs
import Derived.Shelf.Strconv.Itoa0
import Derived.Ground.SlgcProg
import Derived.Shelf.SlicesG.Cmp
import Derived.Test.YtmhddpgeiijhgaaProg
import Derived.Shelf.SlGeneric
import Derived.Shelf.SlSortCmp.NoneTotal
import Derived.Ground.SlsfProg
import Derived.Test.YtmhddpgeiijhgaaRows
import Derived.BigQuiet
import Derived.ChangeAlike
import Derived.ChangeKeysEq
import Derived.Deep.AppendLies
import Derived.Deep.CutBlock
import Derived.Deep.CutRange
import Derived.Deep.Light
import Derived.Deep.QuietTactic
import Derived.Deep.RegionHeld3
import Derived.Handy
import Derived.Laws.BytesArg
import Derived.Laws.OwnMore
import Derived.Laws.Strings
import Derived.Lib.Hide
import Derived.Maps.AppendAt
import Derived.OneCell
import Derived.OwnWalk
import Derived.RegionTactic
import Derived.StillTailTactics
import Derived.WalkArith
import Derived.WalkKit
import Derived.WalkLawsBesides
import Derived.WalkSpells
import Derived.Deep.RegionLaw
import Derived.Laws.StructEq

/-
  What library functions do, as contracts of this program: each is one application of the shelf's contract.
-/
namespace Go.Proofs
open Go.Shelf
def Try.lays128_ren : Go.Shelf.Ren := ⟨fun | 128 => 55 | n => n, fun | 51 => 95 | 3 => 3 | 4 => 4 | 46 => 86 | 5 => 5 | 9 => 9 | n => n, fun | n => n⟩
theorem Try.lays128 : Go.Proofs.Lays.n128 Try.prog Try.lays128_ren := {
  mixed := by kernel_rfl
  f128 := Try.func55.trans (congrArg some (by kernel_rfl))
  t3 := Try.underlying3
  a3 := Try.isAgg3
  z3 := Try.sizeOf3
  v3 := Try.zeroValue3
  t4 := Try.underlying4
  a4 := Try.isAgg4
  z4 := Try.sizeOf4
  v4 := Try.zeroValue4
  t5 := Try.underlying5
  a5 := Try.isAgg5
  z5 := Try.sizeOf5
  v5 := Try.zeroValue5
  t9 := Try.underlying9
  a9 := Try.isAgg9
  z9 := Try.sizeOf9
  v9 := Try.zeroValue9
  t46 := Try.underlying86
  a46 := Try.isAgg86
  z46 := Try.sizeOf86
  v46 := Try.zeroValue86
  t51 := Try.underlying95
  a51 := Try.isAgg95
  z51 := Try.sizeOf95
  v51 := Try.zeroValue95 }
/-- bits.Len32: "Len32 returns the minimum number of bits required to represent x; the result is 0 for x == 0.": IT RETURNS 'Lib.bitLen x'; the world is as it was. ('h0', 'h1': x is a uint32.) (LAID: no walk: one application.) -/
theorem Try.bits_Len32 (x : Int) (w : World) (h0 : 0 ≤ x) (h1 : x ≤ 4294967295) :
    Calls Try.prog 55 #[.int .u32 x] w fun e w' => e = .returned (.int .i64 (Lib.bitLen x.toNat)) ∧ w' = w := Any.bits_Len32 Try.lays128 x w h0 h1
def Try.lays125_ren : Go.Shelf.Ren := ⟨fun | 125 => 44 | 128 => 55 | 129 => 56 | n => n, fun | 46 => 86 | 3 => 3 | 51 => 95 | 53 => 97 | 4 => 4 | 5 => 5 | 9 => 9 | n => n, fun | n => n⟩
theorem Try.lays125 : Go.Proofs.Lays.n125 Try.prog Try.lays125_ren := {
  mixed := by kernel_rfl
  f125 := Try.func44.trans (congrArg some (by kernel_rfl))
  f128 := Try.func55.trans (congrArg some (by kernel_rfl))
  f129 := Try.func56.trans (congrArg some (by kernel_rfl))
  t3 := Try.underlying3
  a3 := Try.isAgg3
  z3 := Try.sizeOf3
  v3 := Try.zeroValue3
  t4 := Try.underlying4
  a4 := Try.isAgg4
  z4 := Try.sizeOf4
  v4 := Try.zeroValue4
  t5 := Try.underlying5
  a5 := Try.isAgg5
  z5 := Try.sizeOf5
  v5 := Try.zeroValue5
  t9 := Try.underlying9
  a9 := Try.isAgg9
  z9 := Try.sizeOf9
  v9 := Try.zeroValue9
  t46 := Try.underlying86
  a46 := Try.isAgg86
  z46 := Try.sizeOf86
  v46 := Try.zeroValue86
  t51 := Try.underlying95
  a51 := Try.isAgg95
  z51 := Try.sizeOf95
  v51 := Try.zeroValue95
  t53 := Try.underlying97
  a53 := Try.isAgg97
  z53 := Try.sizeOf97
  v53 := Try.zeroValue97 }
/-- bits.Len: "Len returns the minimum number of bits required to represent x; the result is 0 for x == 0.": IT RETURNS 'Lib.bitLen x'; the world is as it was. (A uint has 64 bits in the model.) ITS CALLEE bits.Len64 IS MET BY ITS OWN CONTRACT OFF THE SHELF (lay that first). (LAID: no walk: one application.) -/
theorem Try.bits_Len (x : Int) (w : World) (h0 : 0 ≤ x) (h1 : x ≤ 18446744073709551615) :
    Calls Try.prog 44 #[.int .u64 x] w fun e w' => e = .returned (.int .i64 (Lib.bitLen x.toNat)) ∧ w' = w := Any.bits_Len Try.lays125 x w h0 h1
def Try.lays213_ren : Go.Shelf.Ren := ⟨fun | 213 => 45 | 265 => 57 | n => n, fun | 9 => 9 | 3 => 3 | n => n, fun | n => n⟩
theorem Try.lays213 : Go.Proofs.Lays.n213 Try.prog Try.lays213_ren := {
  mixed := by kernel_rfl
  f213 := Try.func45.trans (congrArg some (by kernel_rfl))
  f265 := Try.func57.trans (congrArg some (by kernel_rfl))
  t3 := Try.underlying3
  a3 := Try.isAgg3
  z3 := Try.sizeOf3
  v3 := Try.zeroValue3
  t9 := Try.underlying9
  a9 := Try.isAgg9
  z9 := Try.sizeOf9
  v9 := Try.zeroValue9 }
open Go.RowKit in
/-- internal/bytealg.CompareString (what strings.Compare calls): IT RETURNS 'Lib.compareBytes a b'; the world is as it was. (LAID: no walk: one application.) -/
theorem Try.bytealg_CompareString (a b : ByteArray) (w : World) :
    Calls Try.prog 45 #[.string a, .string b] w fun e w' => e = .returned (.int .i64 (Lib.compareBytes a.data.toList b.data.toList)) ∧ w' = w := Any.bytealg_CompareString Try.lays213 a b w
def Try.lays106_ren : Go.Shelf.Ren := ⟨fun | 106 => 40 | 213 => 45 | 265 => 57 | n => n, fun | 9 => 9 | 3 => 3 | n => n, fun | n => n⟩
theorem Try.lays106 : Go.Proofs.Lays.n106 Try.prog Try.lays106_ren := {
  mixed := by kernel_rfl
  f106 := Try.func40.trans (congrArg some (by kernel_rfl))
  f213 := Try.func45.trans (congrArg some (by kernel_rfl))
  f265 := Try.func57.trans (congrArg some (by kernel_rfl))
  t3 := Try.underlying3
  a3 := Try.isAgg3
  z3 := Try.sizeOf3
  v3 := Try.zeroValue3
  t9 := Try.underlying9
  a9 := Try.isAgg9
  z9 := Try.sizeOf9
  v9 := Try.zeroValue9 }
open Go.RowKit in
/-- strings.Compare: "Compare returns an integer comparing two strings lexicographically. The result will be 0 if a == b, -1 if a < b, and +1 if a > b.": IT RETURNS 'Lib.compareBytes a b'; the world is as it was. (LAID: no walk: one application.) -/
theorem Try.strings_Compare (a b : ByteArray) (w : World) :
    Calls Try.prog 40 #[.string a, .string b] w fun e w' => e = .returned (.int .i64 (Lib.compareBytes a.data.toList b.data.toList)) ∧ w' = w := Any.strings_Compare Try.lays106 a b w
def Try.lays129_ren : Go.Shelf.Ren := ⟨fun | 129 => 56 | n => n, fun | 53 => 97 | 3 => 3 | 4 => 4 | 46 => 86 | 5 => 5 | 9 => 9 | n => n, fun | n => n⟩
theorem Try.lays129 : Go.Proofs.Lays.n129 Try.prog Try.lays129_ren := {
  mixed := by kernel_rfl
  f129 := Try.func56.trans (congrArg some (by kernel_rfl))
  t3 := Try.underlying3
  a3 := Try.isAgg3
  z3 := Try.sizeOf3
  v3 := Try.zeroValue3
  t4 := Try.underlying4
  a4 := Try.isAgg4
  z4 := Try.sizeOf4
  v4 := Try.zeroValue4
  t5 := Try.underlying5
  a5 := Try.isAgg5
  z5 := Try.sizeOf5
  v5 := Try.zeroValue5
  t9 := Try.underlying9
  a9 := Try.isAgg9
  z9 := Try.sizeOf9
  v9 := Try.zeroValue9
  t46 := Try.underlying86
  a46 := Try.isAgg86
  z46 := Try.sizeOf86
  v46 := Try.zeroValue86
  t53 := Try.underlying97
  a53 := Try.isAgg97
  z53 := Try.sizeOf97
  v53 := Try.zeroValue97 }
/-- bits.Len64: "Len64 returns the minimum number of bits required to represent x; the result is 0 for x == 0.": IT RETURNS 'Lib.bitLen x'; the world is as it was. ('h0', 'h1': x is a uint64.) (LAID: no walk: one application.) -/
theorem Try.bits_Len64 (x : Int) (w : World) (h0 : 0 ≤ x) (h1 : x ≤ 18446744073709551615) :
    Calls Try.prog 56 #[.int .u64 x] w fun e w' => e = .returned (.int .i64 (Lib.bitLen x.toNat)) ∧ w' = w := Any.bits_Len64 Try.lays129 x w h0 h1
def Try.laysSlC27_f46_ren : Go.Shelf.Ren := ⟨fun | 7 => 46 | n => n, fun | 22 => 3 | 4 => 4 | n => n, fun | n => n⟩
theorem Try.laysSlC27_f46 : Go.Proofs.SlLaysC2.n7 Try.prog Try.laysSlC27_f46_ren := {
  mixed := by kernel_rfl
  f7 := ⟨Try.f46.name, by decide, Try.func46.trans (congrArg some (by kernel_rfl))⟩
  t4 := Try.underlying4
  a4 := Try.isAgg4
  z4 := Try.sizeOf4
  v4 := Try.zeroValue4
  t22 := Try.underlying3
  a22 := Try.isAgg3
  z22 := Try.sizeOf3
  v22 := Try.zeroValue3 }
open Go.Lib in
/-- cmp.isNaN at an int under a name: 'x != x': false. (LAID AT THE INSTANCE 'cmp.isNaN[int]': no walk: one application.) -/
theorem Try.cmp_isNaN_int (x : Int) (w : World) :
    Calls Try.prog 46 #[.int .i64 x] w fun e w' => e = .returned (.bool false) ∧ w' = w := AnyG.cmp_isNaN_int Try.laysSlC27_f46 x w
def Try.laysSlC25_f41_ren : Go.Shelf.Ren := ⟨fun | 5 => 41 | 7 => 46 | n => n, fun | 22 => 3 | 3 => 3 | 4 => 4 | n => n, fun | n => n⟩
theorem Try.laysSlC25_f41 : Go.Proofs.SlLaysC2.n5 Try.prog Try.laysSlC25_f41_ren := {
  mixed := by kernel_rfl
  f5 := ⟨Try.f41.name, by decide, Try.func41.trans (congrArg some (by kernel_rfl))⟩
  f7 := ⟨Try.f46.name, by decide, Try.func46.trans (congrArg some (by kernel_rfl))⟩
  t3 := Try.underlying3
  a3 := Try.isAgg3
  z3 := Try.sizeOf3
  v3 := Try.zeroValue3
  t4 := Try.underlying4
  a4 := Try.isAgg4
  z4 := Try.sizeOf4
  v4 := Try.zeroValue4
  t22 := Try.underlying3
  a22 := Try.isAgg3
  z22 := Try.sizeOf3
  v22 := Try.zeroValue3 }
open Go.Lib in
/-- cmp.Compare at an int under a name: "Compare returns -1 if x is less than y, 0 if x equals y, +1 if x is greater than y.": IT RETURNS 'Lib.compareInt x y'; the world is as it was. (LAID AT THE INSTANCE 'cmp.Compare[int]': no walk: one application.) -/
theorem Try.cmp_Compare_int (x y : Int) (w : World) :
    Calls Try.prog 41 #[.int .i64 x, .int .i64 y] w fun e w' => e = .returned (.int .i64 (Lib.compareInt x y)) ∧ w' = w := AnyG.cmp_Compare_int Try.laysSlC25_f41 x y w
end Go.Proofs

/-
  What library functions do, as structures of this program.
-/
namespace Go.Proofs
open Go.Shelf
def Try.sortTot_ren : Go.Shelf.Ren := ⟨fun | 6 => 37 | 15 => 44 | 14 => 43 | 28 => 55 | 29 => 56 | 20 => 47 | 21 => 48 | 22 => 49 | 23 => 50 | 24 => 51 | 25 => 52 | 26 => 53 | 27 => 54 | 46 => 58 | 47 => 59 | 48 => 60 | 49 => 61 | 50 => 62 | 57 => 63 | n => n, fun | 22 => 56 | 24 => 78 | 25 => 82 | 3 => 3 | 39 => 86 | 0 => 0 | 53 => 95 | 55 => 97 | 4 => 4 | 46 => 89 | 45 => 88 | 50 => 74 | 5 => 5 | 9 => 9 | 66 => 98 | 70 => 102 | 76 => 104 | 77 => 52 | n => n, fun | n => n⟩
theorem Try.sortTot : Go.Proofs.SlLaysF0.n6 Try.prog Try.sortTot_ren := {
  mixed := by kernel_rfl
  f6 := ⟨Try.f37.name, by decide, Try.func37.trans (congrArg some (by kernel_rfl))⟩
  f14 := ⟨Try.f43.name, by decide, Try.func43.trans (congrArg some (by kernel_rfl))⟩
  f15 := Try.func44.trans (congrArg some (by kernel_rfl))
  f20 := ⟨Try.f47.name, by decide, Try.func47.trans (congrArg some (by kernel_rfl))⟩
  f21 := ⟨Try.f48.name, by decide, Try.func48.trans (congrArg some (by kernel_rfl))⟩
  f22 := ⟨Try.f49.name, by decide, Try.func49.trans (congrArg some (by kernel_rfl))⟩
  f23 := ⟨Try.f50.name, by decide, Try.func50.trans (congrArg some (by kernel_rfl))⟩
  f24 := ⟨Try.f51.name, by decide, Try.func51.trans (congrArg some (by kernel_rfl))⟩
  f25 := ⟨Try.f52.name, by decide, Try.func52.trans (congrArg some (by kernel_rfl))⟩
  f26 := ⟨Try.f53.name, by decide, Try.func53.trans (congrArg some (by kernel_rfl))⟩
  f27 := ⟨Try.f54.name, by decide, Try.func54.trans (congrArg some (by kernel_rfl))⟩
  f28 := Try.func55.trans (congrArg some (by kernel_rfl))
  f29 := Try.func56.trans (congrArg some (by kernel_rfl))
  f46 := ⟨Try.f58.name, by decide, Try.func58.trans (congrArg some (by kernel_rfl))⟩
  f47 := Try.func59.trans (congrArg some (by kernel_rfl))
  f48 := Try.func60.trans (congrArg some (by kernel_rfl))
  f49 := ⟨Try.f61.name, by decide, Try.func61.trans (congrArg some (by kernel_rfl))⟩
  f50 := ⟨Try.f62.name, by decide, Try.func62.trans (congrArg some (by kernel_rfl))⟩
  f57 := ⟨Try.f63.name, by decide, Try.func63.trans (congrArg some (by kernel_rfl))⟩
  t0 := Try.underlying0
  a0 := Try.isAgg0
  z0 := Try.sizeOf0
  v0 := Try.zeroValue0
  t3 := Try.underlying3
  a3 := Try.isAgg3
  z3 := Try.sizeOf3
  v3 := Try.zeroValue3
  t4 := Try.underlying4
  a4 := Try.isAgg4
  z4 := Try.sizeOf4
  v4 := Try.zeroValue4
  t5 := Try.underlying5
  a5 := Try.isAgg5
  z5 := Try.sizeOf5
  v5 := Try.zeroValue5
  t9 := Try.underlying9
  a9 := Try.isAgg9
  z9 := Try.sizeOf9
  v9 := Try.zeroValue9
  t22 := Try.underlying56
  a22 := Try.isAgg56
  z22 := Try.sizeOf56
  v22 := Try.zeroValue56
  t25 := Try.underlying82
  a25 := Try.isAgg82
  z25 := Try.sizeOf82
  v25 := Try.zeroValue82
  t39 := Try.underlying86
  a39 := Try.isAgg86
  z39 := Try.sizeOf86
  v39 := Try.zeroValue86
  t45 := Try.underlying88
  a45 := Try.isAgg88
  z45 := Try.sizeOf88
  v45 := Try.zeroValue88
  t46 := Try.underlying89
  a46 := Try.isAgg89
  z46 := Try.sizeOf89
  v46 := Try.zeroValue89
  t50 := Try.underlying74
  a50 := Try.isAgg74
  z50 := Try.sizeOf74
  v50 := Try.zeroValue74
  t53 := Try.underlying95
  a53 := Try.isAgg95
  z53 := Try.sizeOf95
  v53 := Try.zeroValue95
  t55 := Try.underlying97
  a55 := Try.isAgg97
  z55 := Try.sizeOf97
  v55 := Try.zeroValue97
  t66 := Try.underlying98
  a66 := Try.isAgg98
  z66 := Try.sizeOf98
  v66 := Try.zeroValue98
  t70 := Try.underlying102
  a70 := Try.isAgg102
  z70 := Try.sizeOf102
  v70 := Try.zeroValue102
  t76 := Try.underlying104
  a76 := Try.isAgg104
  z76 := Try.sizeOf104
  v76 := Try.zeroValue104
  t77 := Try.underlying52
  a77 := Try.isAgg52
  z77 := Try.sizeOf52
  v77 := Try.zeroValue52 }
end Go.Proofs

/-
  Plain facts on numbers as bytes: how many bytes a number has, which ones they are, that they are taken as it, and their order.
-/
namespace Go.Proofs.Ytmhddpgeiijhgaa

/-- How many bytes stand behind the first one. -/
def kN (n : Nat) : Nat :=
  if n < 128 then 0 else if n < 16384 then 1 else if n < 2097152 then 2 else if n < 268435456 then 3 else if n < 34359738368 then 4
  else if n < 4398046511104 then 5 else if n < 562949953421312 then 6 else if n < 72057594037927936 then 7 else 8
/-- The first byte's mark. -/
def mark : Nat → Nat
  | 0 => 0 | 1 => 128 | 2 => 192 | 3 => 224 | 4 => 240 | 5 => 248 | 6 => 252 | 7 => 254 | _ => 255
/-- The lowest k bytes of a number, the highest first. -/
def be : Nat → Nat → List Nat
  | 0, _ => []
  | k + 1, n => (n / 256 ^ k % 256) :: be k n
/-- The first byte. -/
def topB (n : Nat) : Nat := mark (kN n) + n / 256 ^ kN n
def enc (n : Nat) : List Nat := topB n :: be (kN n) n
/-- The number that bytes are. -/
def val : List Nat → Nat
  | [] => 0
  | b :: l => b * 256 ^ l.length + val l
/-- How many bytes a first byte begins. -/
def ones (c : Nat) : Nat := if c < 128 then 0 else if c < 192 then 1 else if c < 224 then 2 else if c < 240 then 3 else if c < 248 then 4 else if c < 252 then 5 else if c < 254 then 6 else if c < 255 then 7 else 8

theorem kN_cases (n : Nat) : (n < 128 ∧ kN n = 0) ∨ (128 ≤ n ∧ n < 16384 ∧ kN n = 1) ∨ (16384 ≤ n ∧ n < 2097152 ∧ kN n = 2) ∨ (2097152 ≤ n ∧ n < 268435456 ∧ kN n = 3) ∨ (268435456 ≤ n ∧ n < 34359738368 ∧ kN n = 4) ∨ (34359738368 ≤ n ∧ n < 4398046511104 ∧ kN n = 5) ∨ (4398046511104 ≤ n ∧ n < 562949953421312 ∧ kN n = 6) ∨ (562949953421312 ≤ n ∧ n < 72057594037927936 ∧ kN n = 7) ∨ (72057594037927936 ≤ n ∧ kN n = 8) := by
  unfold kN
  by_cases h0 : n < 128
  · rw [if_pos h0]; omega
  by_cases h1 : n < 16384
  · rw [if_neg h0, if_pos h1]; omega
  by_cases h2 : n < 2097152
  · rw [if_neg h0, if_neg h1, if_pos h2]; omega
  by_cases h3 : n < 268435456
  · rw [if_neg h0, if_neg h1, if_neg h2, if_pos h3]; omega
  by_cases h4 : n < 34359738368
  · rw [if_neg h0, if_neg h1, if_neg h2, if_neg h3, if_pos h4]; omega
  by_cases h5 : n < 4398046511104
  · rw [if_neg h0, if_neg h1, if_neg h2, if_neg h3, if_neg h4, if_pos h5]; omega
  by_cases h6 : n < 562949953421312
  · rw [if_neg h0, if_neg h1, if_neg h2, if_neg h3, if_neg h4, if_neg h5, if_pos h6]; omega
  by_cases h7 : n < 72057594037927936
  · rw [if_neg h0, if_neg h1, if_neg h2, if_neg h3, if_neg h4, if_neg h5, if_neg h6, if_pos h7]; omega
  rw [if_neg h0, if_neg h1, if_neg h2, if_neg h3, if_neg h4, if_neg h5, if_neg h6, if_neg h7]; omega
theorem ones_cases (c : Nat) : (c < 128 ∧ ones c = 0) ∨ (128 ≤ c ∧ c < 192 ∧ ones c = 1) ∨ (192 ≤ c ∧ c < 224 ∧ ones c = 2) ∨ (224 ≤ c ∧ c < 240 ∧ ones c = 3) ∨ (240 ≤ c ∧ c < 248 ∧ ones c = 4) ∨ (248 ≤ c ∧ c < 252 ∧ ones c = 5) ∨ (252 ≤ c ∧ c < 254 ∧ ones c = 6) ∨ (254 ≤ c ∧ c < 255 ∧ ones c = 7) ∨ (255 ≤ c ∧ ones c = 8) := by
  unfold ones
  by_cases h0 : c < 128
  · rw [if_pos h0]; omega
  by_cases h1 : c < 192
  · rw [if_neg h0, if_pos h1]; omega
  by_cases h2 : c < 224
  · rw [if_neg h0, if_neg h1, if_pos h2]; omega
  by_cases h3 : c < 240
  · rw [if_neg h0, if_neg h1, if_neg h2, if_pos h3]; omega
  by_cases h4 : c < 248
  · rw [if_neg h0, if_neg h1, if_neg h2, if_neg h3, if_pos h4]; omega
  by_cases h5 : c < 252
  · rw [if_neg h0, if_neg h1, if_neg h2, if_neg h3, if_neg h4, if_pos h5]; omega
  by_cases h6 : c < 254
  · rw [if_neg h0, if_neg h1, if_neg h2, if_neg h3, if_neg h4, if_neg h5, if_pos h6]; omega
  by_cases h7 : c < 255
  · rw [if_neg h0, if_neg h1, if_neg h2, if_neg h3, if_neg h4, if_neg h5, if_neg h6, if_pos h7]; omega
  rw [if_neg h0, if_neg h1, if_neg h2, if_neg h3, if_neg h4, if_neg h5, if_neg h6, if_neg h7]; omega
theorem kN_le (n : Nat) : kN n ≤ 8 := by have := kN_cases n; omega
theorem be_length : ∀ k n, (be k n).length = k
  | 0, _ => rfl
  | k + 1, n => by simp [be, be_length k n]
theorem enc_length (n : Nat) : (enc n).length = kN n + 1 := by simp [enc, be_length]
theorem be_lt : ∀ k n, ∀ b ∈ be k n, b < 256
  | 0, _ => by simp [be]
  | k + 1, n => by
    intro b hb
    rcases List.mem_cons.1 hb with rfl | h
    · exact Nat.mod_lt _ (by decide)
    · exact be_lt k n b h
theorem pow_pos' (k : Nat) : 0 < 256 ^ k := Nat.pow_pos (by decide)
theorem be_mod : ∀ k b m, be k (b * 256 ^ k + m) = be k m
  | 0, _, _ => rfl
  | k + 1, b, m => by
    have e : b * 256 ^ (k + 1) + m = (b * 256) * 256 ^ k + m := by rw [Nat.pow_succ, Nat.mul_comm (256 ^ k) 256, ← Nat.mul_assoc]
    rw [be, be, e, be_mod k (b * 256) m, Nat.mul_comm (b * 256) (256 ^ k), Nat.mul_add_div (pow_pos' k), Nat.add_comm, Nat.add_mul_mod_self_right]
theorem val_be : ∀ k n, val (be k n) = n % 256 ^ k
  | 0, n => by simp [be, val, Nat.mod_one]
  | k + 1, n => by
    rw [be, val, be_length, val_be k n, Nat.mod_pow_succ, Nat.mul_comm (n / 256 ^ k % 256)]
    omega
theorem val_lt : ∀ l : List Nat, (∀ b ∈ l, b < 256) → val l < 256 ^ l.length
  | [], _ => by simp [val]
  | b :: l, h => by
    have h1 := val_lt l fun c hc => h c (by simp [hc])
    have h2 := h b (by simp)
    rw [val, List.length_cons, Nat.pow_succ]
    have h3 : b * 256 ^ l.length + 256 ^ l.length ≤ 256 * 256 ^ l.length := by
      rw [← Nat.succ_mul]; exact Nat.mul_le_mul_right _ h2
    rw [Nat.mul_comm (256 ^ l.length)]
    omega
theorem be_val : ∀ l : List Nat, (∀ b ∈ l, b < 256) → be l.length (val l) = l
  | [], _ => rfl
  | b :: l, h => by
    have h1 := val_lt l fun c hc => h c (by simp [hc])
    have h2 := h b (by simp)
    rw [List.length_cons, be, val, be_mod, be_val l fun c hc => h c (by simp [hc]), Nat.mul_comm b, Nat.mul_add_div (pow_pos' _), Nat.div_eq_of_lt h1, Nat.add_zero, Nat.mod_eq_of_lt h2]

/- The first byte of each size. -/
theorem topB_of {n k : Nat} (h : kN n = k) : topB n = mark k + n / 256 ^ k := by rw [topB, h]
theorem topB_range {n : Nat} (hn : n < 4611686018427387904) : mark (kN n) ≤ topB n ∧ topB n < 256 ∧ ones (topB n) = kN n ∧ n / 256 ^ kN n < 128 := by
  have h := kN_cases n
  unfold topB
  rcases h with h | h | h | h | h | h | h | h | h
  all_goals
    obtain ⟨k, hk⟩ : ∃ k, kN n = k := ⟨_, rfl⟩
    have e : k = k := rfl
    simp only [hk] at h ⊢
    obtain rfl : k = _ := by first | exact h.2.2 | exact h.2
    simp only [mark, Nat.pow_zero, Nat.div_one, Nat.reducePow]
    refine ⟨by omega, by omega, ?_, by omega⟩
    refine (fun (c : Nat) (lo : _) => ?_) (0 : Nat) trivial
    have := ones_cases (mark (kN n) + n / 256 ^ kN n)
    simp only [hk, mark, Nat.pow_zero, Nat.div_one, Nat.reducePow] at this
    omega
theorem mark_mono {k k' : Nat} (h : k < k') (h' : k' ≤ 8) : mark k < mark k' := by
  have key : ∀ k', k' ≤ 8 → ∀ k, k < k' → mark k < mark k' := by decide
  exact key k' h' k h
theorem ones_mono {c d : Nat} (h : c ≤ d) : ones c ≤ ones d := by
  have h1 := ones_cases c
  have h2 := ones_cases d
  omega
theorem kN_mono {n m : Nat} (h : n ≤ m) : kN n ≤ kN m := by
  have h1 := kN_cases n
  have h2 := kN_cases m
  omega

/-- Somewhere the first one is less, and ahead of that both are one. -/
def Diff (l m : List Nat) : Prop := ∃ p x y l' m', l = p ++ x :: l' ∧ m = p ++ y :: m' ∧ x < y
theorem Diff.cons {l m : List Nat} (b : Nat) (h : Diff l m) : Diff (b :: l) (b :: m) := by
  obtain ⟨p, x, y, l', m', rfl, rfl, h⟩ := h
  exact ⟨b :: p, x, y, l', m', rfl, rfl, h⟩
theorem be_diff : ∀ k n m, n % 256 ^ k < m % 256 ^ k → Diff (be k n) (be k m)
  | 0, n, m, h => by simp [Nat.mod_one] at h
  | k + 1, n, m, h => by
    rw [Nat.mod_pow_succ, Nat.mod_pow_succ] at h
    rw [be, be]
    rcases Nat.lt_trichotomy (n / 256 ^ k % 256) (m / 256 ^ k % 256) with h1 | h1 | h1
    · exact ⟨[], _, _, _, _, rfl, rfl, h1⟩
    · rw [h1] at h ⊢
      exact (be_diff k n m (by omega)).cons _
    · exfalso
      have h2 : 256 ^ k * (m / 256 ^ k % 256) + 256 ^ k ≤ 256 ^ k * (n / 256 ^ k % 256) := by
        rw [← Nat.mul_succ]; exact Nat.mul_le_mul_left _ h1
      have h3 := Nat.mod_lt n (pow_pos' k)
      have h4 := Nat.mod_lt m (pow_pos' k)
      omega
/-- Of two numbers the lesser one's bytes are less, and neither begins with the other one's. -/
theorem enc_diff {n m : Nat} (h : n < m) (hm : m < 4611686018427387904) : Diff (enc n) (enc m) := by
  have rn := topB_range (n := n) (by omega)
  have rm := topB_range hm
  unfold enc
  rcases Nat.lt_or_ge (kN n) (kN m) with h1 | h1
  · refine ⟨[], _, _, _, _, rfl, rfl, ?_⟩
    rcases Nat.lt_or_ge (topB n) (topB m) with h2 | h2
    · exact h2
    · have := ones_mono h2
      omega
  · have hk : kN n = kN m := Nat.le_antisymm (kN_mono (Nat.le_of_lt h)) h1
    rw [topB_of hk, topB_of rfl, hk]
    have hd := Nat.div_le_div_right (c := 256 ^ kN m) (Nat.le_of_lt h)
    rcases Nat.lt_or_ge (n / 256 ^ kN m) (m / 256 ^ kN m) with h2 | h2
    · exact ⟨[], _, _, _, _, rfl, rfl, by omega⟩
    · have he : n / 256 ^ kN m = m / 256 ^ kN m := Nat.le_antisymm hd h2
      rw [he]
      refine (be_diff _ _ _ ?_).cons _
      have e1 := Nat.div_add_mod n (256 ^ kN m)
      have e2 := Nat.div_add_mod m (256 ^ kN m)
      rw [he] at e1
      omega

/- Taking. -/
/-- The number that a first byte, and those behind it, make. -/
def takeV (c : Nat) (r : List Nat) : Nat := (c - mark (ones c)) * 256 ^ ones c + val (r.take (ones c))
theorem mark_ones {c : Nat} : mark (ones c) ≤ c := by
  have key : ∀ k, k ≤ 8 → ∀ c, ones c = k → mark k ≤ c := by
    intro k hk c hc
    have h := ones_cases c
    rw [hc] at h
    have hk' : k = 0 ∨ k = 1 ∨ k = 2 ∨ k = 3 ∨ k = 4 ∨ k = 5 ∨ k = 6 ∨ k = 7 ∨ k = 8 := by omega
    rcases hk' with rfl | rfl | rfl | rfl | rfl | rfl | rfl | rfl | rfl <;> simp only [mark] <;> omega
  exact key _ (by have := ones_cases c; omega) c rfl
theorem takeV_enc {n : Nat} (hn : n < 4611686018427387904) (rest : List Nat) : takeV (topB n) (be (kN n) n ++ rest) = n := by
  obtain ⟨h1, _, h3, _⟩ := topB_range hn
  rw [takeV, h3, List.take_append_of_le_length (by rw [be_length]; omega), List.take_of_length_le (by rw [be_length]; omega), val_be, topB]
  have := Nat.div_add_mod n (256 ^ kN n)
  rw [Nat.add_sub_cancel_left, Nat.mul_comm]
  exact this
/-- What is taken is laid as the same bytes, just if no fewer would do. -/
theorem enc_takeV {c : Nat} {r : List Nat} (hr : ∀ b ∈ r, b < 256) (hl : ones c ≤ r.length) (hk : kN (takeV c r) = ones c) : enc (takeV c r) = c :: r.take (ones c) := by
  have hlen : (r.take (ones c)).length = ones c := by rw [List.length_take]; omega
  have hb : ∀ b ∈ r.take (ones c), b < 256 := fun b hb => hr b (List.mem_of_mem_take hb)
  have hv := val_lt _ hb
  rw [hlen] at hv
  have e2 := be_val _ hb
  rw [hlen] at e2
  rw [enc, topB, hk]
  have hm := mark_ones (c := c)
  have e1 : takeV c r / 256 ^ ones c = c - mark (ones c) := by
    rw [takeV, Nat.mul_comm, Nat.mul_add_div (pow_pos' _), Nat.div_eq_of_lt hv, Nat.add_zero]
  rw [e1, show mark (ones c) + (c - mark (ones c)) = c from by omega]
  congr 1
  rw [takeV, be_mod, e2]
theorem enc_takeV_iff {c : Nat} {r : List Nat} (hr : ∀ b ∈ r, b < 256) (hl : ones c ≤ r.length) : enc (takeV c r) = c :: r.take (ones c) ↔ kN (takeV c r) = ones c := by
  refine ⟨fun h => ?_, enc_takeV hr hl⟩
  have := congrArg List.length h
  rw [enc_length, List.length_cons, List.length_take] at this
  omega

end Go.Proofs.Ytmhddpgeiijhgaa

/-
  Plain facts on taking: a first byte's ones counted and taken off bit by bit, and the number gathered byte by byte, as long as it is not too great.
-/
namespace Go.Proofs.Ytmhddpgeiijhgaa

theorem val_append : ∀ l m : List Nat, val (l ++ m) = val l * 256 ^ m.length + val m
  | [], m => by simp [val]
  | b :: l, m => by
    rw [List.cons_append, val, val, val_append l m, List.length_append, Nat.pow_add, Nat.add_mul, ← Nat.mul_assoc]
    omega
theorem val_snoc (l : List Nat) (c : Nat) : val (l ++ [c]) = 256 * val l + c := by
  rw [val_append]
  simp [val]
  omega
/-- The first byte's ones, counted from the top. -/
theorem ones_bits {c : Nat} (hc : c < 256) : ones c ≤ 8 ∧ (∀ j, j < ones c → c / 2 ^ (7 - j) % 2 = 1) ∧ (ones c < 8 → c / 2 ^ (7 - ones c) % 2 = 0) := by
  have key : ∀ c, c < 256 → (ones c ≤ 8 ∧ (∀ j, j < ones c → c / 2 ^ (7 - j) % 2 = 1) ∧ (ones c < 8 → c / 2 ^ (7 - ones c) % 2 = 0)) := by decide +kernel
  exact key c hc
/-- A byte of which the bits from 7 down to 8 - t have been taken off, where they are there. -/
def strip (c : Nat) : Nat → Nat
  | 0 => c
  | t + 1 => if 2 ^ (7 - t) ≤ strip c t then strip c t - 2 ^ (7 - t) else strip c t
theorem strip_all {c : Nat} (hc : c < 256) : strip c (min (ones c + 1) 8) = c - mark (ones c) := by
  have key : ∀ c, c < 256 → strip c (min (ones c + 1) 8) = c - mark (ones c) := by decide +kernel
  exact key c hc
theorem strip_le (c : Nat) : ∀ t, strip c t ≤ c
  | 0 => Nat.le_refl _
  | t + 1 => by
    have := strip_le c t
    unfold strip
    split
    · exact Nat.le_trans (Nat.sub_le _ _) this
    · exact this
/-- The bytes without the mark. -/
def bare (c : Nat) (r : List Nat) : List Nat := (c - mark (ones c)) :: r.take (ones c)
theorem bare_val {c : Nat} {r : List Nat} (hl : ones c ≤ r.length) : val (bare c r) = takeV c r := by
  rw [bare, val, takeV, List.length_take, Nat.min_eq_left hl]
theorem bare_length {c : Nat} {r : List Nat} (hl : ones c ≤ r.length) : (bare c r).length = ones c + 1 := by
  rw [bare, List.length_cons, List.length_take, Nat.min_eq_left hl]
/-- What has been gathered of the first i bytes: their number, or it is too great already. -/
structure Gath (L : List Nat) (i n : Nat) (big : Bool) : Prop where
  not : big = false → n = val (L.take i)
  yes : big = true → 4611686018427387904 ≤ val L
  low : n < 4611686018427387904 * 256
theorem Gath.start (L : List Nat) : Gath L 0 0 false := ⟨fun _ => by simp [val], (fun h => by cases h), by omega⟩
theorem Gath.great {L : List Nat} {i n : Nat} (h : Gath L i n false) (hi : i < L.length) (hn : 18014398509481984 ≤ n) : Gath L (i + 1) n true := by
  refine ⟨(fun h => by cases h), fun _ => ?_, h.low⟩
  have e := val_append (L.take i) (L.drop i)
  rw [List.take_append_drop, ← h.not rfl, List.length_drop] at e
  have h1 : 256 ^ 1 ≤ 256 ^ (L.length - i) := Nat.pow_le_pow_right (by decide) (by omega)
  have h2 := Nat.mul_le_mul hn h1
  simp only [Nat.pow_one] at h2
  omega
theorem Gath.stays {L : List Nat} {i n : Nat} (h : Gath L i n true) : Gath L (i + 1) n true := ⟨(fun h => by cases h), h.yes, h.low⟩
theorem Gath.next {L : List Nat} {i n c : Nat} (h : Gath L i n false) (hc : L[i]? = some c) (hb : c < 256) (hn : n < 18014398509481984) : Gath L (i + 1) (256 * n + c) false := by
  refine ⟨fun _ => ?_, (fun h => by cases h), by omega⟩
  rw [List.take_add_one, hc, Option.toList_some, val_snoc, ← h.not rfl]

end Go.Proofs.Ytmhddpgeiijhgaa

/-
  What the small calls of pack give back: behind, mark, and the ones at a byte's head; the document's power. Each leaves the world as it was.
-/
namespace Go.Proofs.Ytmhddpgeiijhgaa
open Go.RowKit

abbrev Same (F : Nat) (args : Array Value) (w : World) (v : Value) : Prop := Calls Try.prog F args w fun e w' => e = .returned v ∧ w' = w
theorem bl (w : World) : Below w.heap.size w w := Below.refl _ _
theorem chain {W w w1 : World} (h : Below W.heap.size W w) (hb : Below w.heap.size w w1) : Below W.heap.size W w1 := h.trans (hb.mono h.size)
theorem keepc {w w1 : World} (hb : Below w.heap.size w w1) {b o : Nat} {v : Value} (h : w.cell? ⟨b, o, none⟩ = some v) : w1.cell? ⟨b, o, none⟩ = some v := by
  have : b < w.heap.size := by
    rcases Nat.lt_or_ge b w.heap.size with h' | h'
    · exact h'
    · simp [World.cell?, Array.getElem?_eq_none h'] at h
  exact (hb.cell (p := ⟨b, o, none⟩) this).trans h
theorem ret_int {k : IntKind} {a b : Int} (h : a = b) : Ending.returned (.int k a) = .returned (.int k b) := by rw [h]

/-- The first number that needs more bytes behind. -/
theorem kN_lt_iff {n k : Nat} (hk : k < 8) : kN n ≤ k ↔ n < 2 ^ (7 * (k + 1)) := by
  have hc := kN_cases n
  have hk' : k = 0 ∨ k = 1 ∨ k = 2 ∨ k = 3 ∨ k = 4 ∨ k = 5 ∨ k = 6 ∨ k = 7 := by omega
  rcases hk' with rfl | rfl | rfl | rfl | rfl | rfl | rfl | rfl <;> simp only [Nat.reduceAdd, Nat.reduceMul, Nat.reducePow] <;> omega

/-- 1 << (7*(k+1)), below 2^62. -/
theorem shl_one {k : Nat} (hk : k < 8) : wrap64 (2 ^ (7 * (k + 1))) = ((2 ^ (7 * (k + 1)) : Nat) : Int) := by
  have hk' : k = 0 ∨ k = 1 ∨ k = 2 ∨ k = 3 ∨ k = 4 ∨ k = 5 ∨ k = 6 ∨ k = 7 := by omega
  rcases hk' with rfl | rfl | rfl | rfl | rfl | rfl | rfl | rfl <;> decide +kernel

theorem mark_bits {k : Nat} (hk : k ≤ 8) : bits BinOp.xor IntKind.u8 IntKind.u8.max (255 / 2 ^ k) = ((mark k : Nat) : Int) := by
  have key : ∀ k : Nat, k ≤ 8 → bits BinOp.xor IntKind.u8 IntKind.u8.max (255 / 2 ^ k) = ((mark k : Nat) : Int) := by decide
  exact key k hk

theorem two_wrap {i : Nat} (hi : i < 7) : IntKind.u8.wrap (2 * ((2 ^ i : Nat) : Int)) = ((2 ^ (i + 1) : Nat) : Int) := by
  have key : ∀ i : Nat, i < 7 → IntKind.u8.wrap (2 * ((2 ^ i : Nat) : Int)) = ((2 ^ (i + 1) : Nat) : Int) := by decide
  exact key i hi

theorem xor_byte {c : Nat} (hc : c < 256) : bits BinOp.xor IntKind.u8 IntKind.u8.max (c : Int) = ((255 - c : Nat) : Int) := by
  have key : ∀ c : Nat, c < 256 → bits BinOp.xor IntKind.u8 IntKind.u8.max (c : Int) = ((255 - c : Nat) : Int) := by decide +kernel
  exact key c hc
theorem bitLen_ones {c : Nat} (hc : c < 256) : 8 - (Lib.bitLen (255 - c) : Int) = ((ones c : Nat) : Int) := by
  have key : ∀ c : Nat, c < 256 → 8 - (Lib.bitLen (255 - c) : Int) = ((ones c : Nat) : Int) := by decide +kernel
  exact key c hc
theorem keepf {w w1 : World} (hb : Below w.heap.size w w1) {b o : Nat} (hlt : b < w.heap.size) (h : w.frozen? ⟨b, o, none⟩ = false) : w1.frozen? ⟨b, o, none⟩ = false := (hb.frozen (p := ⟨b, o, none⟩) hlt).trans h
end Go.Proofs.Ytmhddpgeiijhgaa

/-
  A row of bytes of the call's own: made, put, read as a text.
-/
namespace Go.Proofs.Ytmhddpgeiijhgaa
open Go.RowKit

/-- Block g holds the first n bytes of T. -/
def Arr (w : World) (g : Nat) (T : Nat → Nat) (n : Nat) : Prop := g < w.heap.size ∧ ∀ i, i < n → w.cell? ⟨g, i, none⟩ = some (.int .u8 (T i)) ∧ w.frozen? ⟨g, i, none⟩ = false
theorem Arr.below {W w : World} {g n : Nat} {T : Nat → Nat} (h : Arr W g T n) {B : Nat} (hg : g < B) (hb : Below B W w) : Arr w g T n :=
  ⟨Nat.lt_of_lt_of_le h.1 hb.size, fun i hi => ⟨(hb.cell (p := ⟨g, i, none⟩) hg).trans (h.2 i hi).1, (hb.frozen (p := ⟨g, i, none⟩) hg).trans (h.2 i hi).2⟩⟩
def upd (T : Nat → Nat) (p v : Nat) : Nat → Nat := fun q => if q = p then v else T q
theorem Arr.put {w : World} {g n p v : Nat} {T : Nat → Nat} (h : Arr w g T n) (hp : p < n) : Arr (w.setCell ⟨g, p, none⟩ (.int .u8 v)) g (upd T p v) n := by
  refine ⟨by simpa [World.setCell] using h.1, fun i hi => ?_⟩
  obtain ⟨c, f⟩ := h.2 i hi
  unfold upd
  by_cases e : i = p
  · subst e
    rw [if_pos rfl]
    exact ⟨World.cell?_setCell_same w _ _ c, by simpa [go_sem] using f⟩
  · rw [if_neg e]
    exact ⟨(World.cell?_setCell_other w _ _ _ (by simp)).trans c, by simpa [go_sem] using f⟩
theorem Arr.drewN {w : World} {g n : Nat} {T : Nat → Nat} (h : Arr w g T n) (q : Nat) : Arr (w.drewN q) g T n := h
theorem Arr.congr {w : World} {g n : Nat} {T U : Nat → Nat} (h : Arr w g T n) (e : ∀ i, i < n → T i = U i) : Arr w g U n := ⟨h.1, fun i hi => by rw [← e i hi]; exact h.2 i hi⟩

theorem Try.infoByte : (Try.prog.info? 5).map (fun i => (i.zero, i.size, i.bytes)) = some (some (.int .u8 0), 1, 1) := by kernel_rfl

end Go.Proofs.Ytmhddpgeiijhgaa

/-
  Plain facts on bits: a number's bytes, laid bit by bit.
-/
namespace Go.Proofs.Ytmhddpgeiijhgaa

/-- All bits of a number's bytes: its own, and the mark's. -/
def whole (n : Nat) : Nat := mark (kN n) * 256 ^ kN n + n
def bitAt (v i : Nat) : Nat := v / 2 ^ i % 2
theorem whole_be {n : Nat} (hn : n < 4611686018427387904) : be (kN n + 1) (whole n) = enc n := by
  obtain ⟨_, h2, _, _⟩ := topB_range hn
  rw [be, enc, whole, be_mod, Nat.mul_comm (mark (kN n)), Nat.mul_add_div (pow_pos' _), ← topB]
  rw [Nat.mod_eq_of_lt h2]
theorem p256 (p : Nat) : 256 ^ p = 2 ^ (8 * p) := by rw [Nat.pow_mul]
theorem be_get : ∀ (k n j : Nat), j < k → (be k n)[j]? = some (n / 256 ^ (k - 1 - j) % 256)
  | 0, _, _, h => by omega
  | k + 1, n, 0, _ => by simp [be]
  | k + 1, n, j + 1, h => by
    rw [be, List.getElem?_cons_succ, be_get k n j (by omega)]
    congr 4
    omega
theorem two_pos (i : Nat) : 0 < 2 ^ i := Nat.pow_pos (by decide)
/-- One more bit changes one byte. -/
theorem be_step {K w i : Nat} (hw : w < 2 ^ i) (hi : i < 8 * K) : be K (w + 2 ^ i) = (be K w).set (K - 1 - i / 8) (w / 256 ^ (i / 8) % 256 + 2 ^ (i % 8)) ∧ w / 256 ^ (i / 8) % 256 + 2 ^ (i % 8) < 256 := by
  have hsplit : 2 ^ i = 256 ^ (i / 8) * 2 ^ (i % 8) := by
    rw [p256, ← Nat.pow_add]; congr 1; omega
  have hlow : w / 256 ^ (i / 8) < 2 ^ (i % 8) := by
    rw [Nat.div_lt_iff_lt_mul (pow_pos' _), Nat.mul_comm, ← hsplit]; exact hw
  have h8 : 2 ^ (i % 8) * 2 ≤ 256 := by
    have : i % 8 < 8 := Nat.mod_lt _ (by decide)
    have key : ∀ r, r < 8 → 2 ^ r * 2 ≤ 256 := by decide
    exact key _ this
  have hm : w / 256 ^ (i / 8) % 256 = w / 256 ^ (i / 8) := Nat.mod_eq_of_lt (by omega)
  refine ⟨?_, by rw [hm]; omega⟩
  apply List.ext_getElem?
  intro j
  rcases Nat.lt_or_ge j K with hj | hj
  · rw [be_get K _ j hj]
    rcases Nat.lt_trichotomy (K - 1 - j) (i / 8) with h | h | h
    · rw [List.getElem?_set_ne (by omega), be_get K _ j hj]
      congr 1
      have e : 2 ^ i = 256 ^ (K - 1 - j) * (256 * (256 ^ (i / 8 - (K - 1 - j) - 1) * 2 ^ (i % 8))) := by
        rw [hsplit, ← Nat.mul_assoc, ← Nat.mul_assoc, ← Nat.pow_succ, ← Nat.pow_add]
        congr 2; omega
      rw [e, Nat.add_comm w, Nat.mul_add_div (pow_pos' _), Nat.add_comm, Nat.add_mul_mod_self_left]
    · have hp : K - 1 - i / 8 = j := by omega
      rw [hp, List.getElem?_set_self (by rw [be_length]; exact hj), h]
      congr 1
      rw [hsplit, Nat.add_comm w, Nat.mul_add_div (pow_pos' _), hm, Nat.add_comm]
      exact Nat.mod_eq_of_lt (by omega)
    · rw [List.getElem?_set_ne (by omega), be_get K _ j hj]
      have hbig : 2 ^ (i + 1) ≤ 256 ^ (K - 1 - j) := by
        rw [p256]; exact Nat.pow_le_pow_right (by decide) (by omega)
      have h2 : 2 ^ (i + 1) = 2 ^ i * 2 := Nat.pow_succ ..
      rw [Nat.div_eq_of_lt (show w + 2 ^ i < 256 ^ (K - 1 - j) by omega), Nat.div_eq_of_lt (show w < 256 ^ (K - 1 - j) by omega)]
  · rw [List.getElem?_eq_none (by rw [be_length]; omega), List.getElem?_eq_none (by rw [List.length_set, be_length]; omega)]
theorem mod_next (v i : Nat) : v % 2 ^ (i + 1) = v % 2 ^ i + bitAt v i * 2 ^ i := by
  rw [Nat.mod_pow_succ, bitAt, Nat.mul_comm (2 ^ i)]
theorem bit_or (v i : Nat) : bitAt v i = 0 ∨ bitAt v i = 1 := by
  unfold bitAt
  omega
/-- A higher number's bits. -/
theorem bit_low {n m r i : Nat} (h : i < r) : bitAt (m * 2 ^ r + n) i = bitAt n i := by
  unfold bitAt
  have e : m * 2 ^ r = 2 ^ i * (2 * (m * 2 ^ (r - i - 1))) := by
    have h2 : 2 ^ r = 2 ^ i * (2 * 2 ^ (r - i - 1)) := by
      rw [show 2 ^ i * (2 * 2 ^ (r - i - 1)) = 2 ^ (i + (1 + (r - i - 1))) from by rw [Nat.pow_add, Nat.pow_add, Nat.pow_one]]
      congr 1
      omega
    rw [h2, Nat.mul_left_comm, Nat.mul_left_comm m]
  rw [e, Nat.mul_add_div (two_pos i), Nat.add_comm, Nat.add_mul_mod_self_left]
theorem bit_high {n m r i : Nat} (hn : n < 2 ^ r) : bitAt (m * 2 ^ r + n) (r + i) = bitAt m i := by
  unfold bitAt
  rw [Nat.pow_add, ← Nat.div_div_eq_div_mul, Nat.mul_comm m, Nat.mul_add_div (two_pos r), Nat.div_eq_of_lt hn, Nat.add_zero]
theorem mark_eq {k : Nat} (h : k < 8) : mark k * 256 ^ k = (2 * (2 ^ k - 1)) * 2 ^ (7 * (k + 1)) := by
  have key : ∀ k, k < 8 → mark k * 256 ^ k = (2 * (2 ^ k - 1)) * 2 ^ (7 * (k + 1)) := by decide
  exact key k h
theorem kN_room {n : Nat} (h : kN n < 8) : n < 2 ^ (7 * (kN n + 1)) := by
  have hc := kN_cases n
  obtain ⟨k, hk⟩ : ∃ k, kN n = k := ⟨_, rfl⟩
  rw [hk] at h ⊢ hc
  have hk' : k = 0 ∨ k = 1 ∨ k = 2 ∨ k = 3 ∨ k = 4 ∨ k = 5 ∨ k = 6 ∨ k = 7 := by omega
  rcases hk' with rfl | rfl | rfl | rfl | rfl | rfl | rfl | rfl <;> simp only [Nat.reduceAdd, Nat.reduceMul, Nat.reducePow] <;> omega
/-- The bits of a number's bytes, the lowest first: the number's own, then (where there is one) a 0, then the mark's. -/
theorem whole_bits_own {n i : Nat} (h : kN n < 8) (hi : i < 7 * (kN n + 1)) : bitAt (whole n) i = bitAt n i := by
  rw [whole, mark_eq h]; exact bit_low hi
theorem whole_bits_zero {n : Nat} (h : kN n < 8) : bitAt (whole n) (7 * (kN n + 1)) = 0 := by
  rw [whole, mark_eq h]
  have h0 := bit_high (m := 2 * (2 ^ kN n - 1)) (i := 0) (kN_room h)
  rw [show 7 * (kN n + 1) + 0 = 7 * (kN n + 1) from rfl] at h0
  exact h0.trans (by unfold bitAt; omega)
theorem whole_bits_mark {n t : Nat} (h : kN n < 8) (ht : t < kN n) : bitAt (whole n) (7 * (kN n + 1) + 1 + t) = 1 := by
  rw [whole, mark_eq h, Nat.add_assoc]
  rw [bit_high (kN_room h), bitAt, Nat.add_comm 1 t, Nat.pow_succ, Nat.mul_comm (2 ^ t), ← Nat.div_div_eq_div_mul, Nat.mul_div_cancel_left _ (by decide)]
  have key : ∀ k, k < 8 → ∀ t, t < k → (2 ^ k - 1) / 2 ^ t % 2 = 1 := by decide
  exact key _ h _ ht
theorem whole_bits_own8 {n i : Nat} (h : kN n = 8) (hi : i < 64) : bitAt (whole n) i = bitAt n i := by
  rw [whole, h, show (256 : Nat) ^ 8 = 2 ^ 64 from rfl]; exact bit_low hi
theorem whole_bits_mark8 {n t : Nat} (hn : n < 4611686018427387904) (h : kN n = 8) (ht : t < 8) : bitAt (whole n) (64 + t) = 1 := by
  rw [whole, h, show (256 : Nat) ^ 8 = 2 ^ 64 from rfl, bit_high (by omega)]
  have key : ∀ t, t < 8 → bitAt (mark 8) t = 1 := by decide
  exact key t ht
theorem whole_lt {n : Nat} (hn : n < 4611686018427387904) : whole n < 2 ^ (8 * (kN n + 1)) := by
  obtain ⟨_, h2, _, _⟩ := topB_range hn
  rw [whole, ← p256, Nat.pow_succ]
  have e := Nat.div_add_mod n (256 ^ kN n)
  have hm := Nat.mod_lt n (pow_pos' (kN n))
  unfold topB at h2
  have h3 : (mark (kN n) + n / 256 ^ kN n) * 256 ^ kN n + 256 ^ kN n ≤ 256 * 256 ^ kN n := by rw [← Nat.succ_mul]; exact Nat.mul_le_mul_right _ h2
  rw [Nat.add_mul, Nat.mul_comm (n / 256 ^ kN n)] at h3
  rw [Nat.mul_comm (256 ^ kN n) 256]
  omega

end Go.Proofs.Ytmhddpgeiijhgaa

/-
  Lists of numbers in memory, and lists of the call's own that are appended to.
-/
namespace Go.Proofs.Ytmhddpgeiijhgaa
open Go.RowKit

theorem Try.infoInt : (Try.prog.info? 3).map (fun i => (i.zero, i.size, i.bytes)) = some (some (.int .i64 0), 1, 8) := by kernel_rfl

/-- From A on the numbers of l lie, one behind the other. -/
def Ints (w : World) (A : Option Addr) (l : List Int) : Prop := ∀ i x, l[i]? = some x → ∃ g off, A = some ⟨g, off, none⟩ ∧ w.cell? ⟨g, off + i, none⟩ = some (.int .i64 x)

theorem lt_of_cell {w : World} {g o : Nat} {u : Value} (h : w.cell? ⟨g, o, none⟩ = some u) : g < w.heap.size := by
  rcases Nat.lt_or_ge g w.heap.size with hlt | hge
  · exact hlt
  · simp [World.cell?, Array.getElem?_eq_none hge] at h
theorem Ints.below {w w' : World} {A : Option Addr} {l : List Int} (h : Ints w A l) (hb : Below w.heap.size w w') : Ints w' A l := fun i x hx => by
  obtain ⟨g, off, rfl, c0⟩ := h i x hx
  exact ⟨g, off, rfl, (hb.cell (p := ⟨g, _, none⟩) (lt_of_cell c0)).trans c0⟩
theorem Ints.nil (w : World) (A : Option Addr) : Ints w A [] := fun i p h => by simp at h

abbrev ownI (w : World) (base : Nat) (v : Value) (ts : List Int) : Prop := w.ownsRow base 3 1 v ts.length (ts.map (Value.int .i64))
theorem own_ints {w : World} {base : Nat} {v : Value} {l : List Int} (h : ownI w base v l) : ∃ A c, v = .slice A l.length c ∧ Ints w A l ∧ (A = none → c = 0) := by
  rcases h.2 with ⟨hv, h0⟩ | ⟨g, cap, cur, hv, _⟩
  · obtain rfl : l = [] := List.eq_nil_of_length_eq_zero h0
    exact ⟨_, _, hv, Ints.nil _ _, fun _ => rfl⟩
  · refine ⟨_, _, hv, fun i x hx => ⟨g, 0, rfl, ?_⟩, fun h => by cases h⟩
    have add : ∀ n, (⟨g, 0, none⟩ : Addr).add n = ⟨g, 0 + n, none⟩ := fun n => by unfold Addr.add; split <;> simp_all
    have c0 := h.cells (g := g) (by rw [hv]; rfl) i (.int .i64 x) (by simp [hx])
    rwa [add] at c0
theorem own_below {w w' : World} {base e size n : Nat} {v : Value} {xs : List Value} (h : w.ownsRow base e size v n xs) (hb : Below w.heap.size w w') : w'.ownsRow base e size v n xs :=
  h.kept (row := none) ⟨hb.os, hb.tape, hb.output, hb.size, fun k hk _ => hb.block k hk⟩ (by cases v.ownBlock <;> simp)
theorem news_one (w : World) (x : Int) (ty : TypeId) : ∀ j u, [Value.int .i64 x][j]? = some u → (w.alloc (.cells #[.int .i64 x] ty)).cell? ((⟨w.heap.size, 0, none⟩ : Addr).add j) = some u :=
  World.news_of_block (cs := #[.int .i64 x]) (heap_alloc_new w _)

/-- v is a list of the call's own, with the numbers l. -/
structure OI (W : World) (l : List Int) (v : Value) (wr : World) : Prop where
  own : ownI wr W.heap.size v l
  bel : Below W.heap.size W wr
theorem OI.nil (W : World) : OI W [] (.slice none 0 0) W := ⟨World.ownsRow_nil _ _ _ _, bl W⟩
theorem OI.below {W w w' : World} {l : List Int} {v : Value} (h : OI W l v w) (hb : Below w.heap.size w w') : OI W l v w' := ⟨own_below h.own hb, chain h.bel hb⟩
theorem OI.app {W wr w2 : World} {l : List Int} {v v' : Value} {x : Int} {ty : TypeId} {o : Option Nat} (h : OI W l v wr) (ho : o = v.ownBlock) (hg : (wr.alloc (.cells #[.int .i64 x] ty)).grownBy w2 o)
    (hown : w2.ownsRow W.heap.size 3 1 v' (l.length + 1) (l.map (Value.int .i64) ++ [.int .i64 x])) : OI W (l ++ [x]) v' w2 := by
  subst ho
  refine ⟨by simpa [ownI] using hown, (h.bel.alloc h.bel.size _).grown hg (by have := h.bel.size; simp; omega) fun r hr => (h.own.lt r hr).1⟩

/-- The lowest i bits of v. -/
def bitsL (v i : Nat) : List Int := (List.range i).map fun j => ((bitAt v j : Nat) : Int)
theorem bitsL_length (v i : Nat) : (bitsL v i).length = i := by simp [bitsL]
theorem bitsL_succ (v i : Nat) : bitsL v (i + 1) = bitsL v i ++ [((bitAt v i : Nat) : Int)] := by simp [bitsL, List.range_succ]
theorem bitsL_get {v i j : Nat} (h : j < i) : (bitsL v i)[j]? = some ((bitAt v j : Nat) : Int) := by
  simp [bitsL, h]

end Go.Proofs.Ytmhddpgeiijhgaa

/-
  A number's bytes, laid by the document bit by bit: its Num.
-/
namespace Go.Proofs.Ytmhddpgeiijhgaa
open Go.RowKit

/-- The least number that needs more than k bytes behind (k at most 7). -/
def topN (k : Nat) : Nat := 2 ^ (7 * (min k 7 + 1))
theorem topN_next {k : Nat} (h : k < 7) : wrap64 (128 * ((topN k : Nat) : Int)) = ((topN (k + 1) : Nat) : Int) := by
  have hk' : k = 0 ∨ k = 1 ∨ k = 2 ∨ k = 3 ∨ k = 4 ∨ k = 5 ∨ k = 6 := by omega
  rcases hk' with rfl | rfl | rfl | rfl | rfl | rfl | rfl <;> decide +kernel
theorem topN_iff {n k : Nat} (hk : k < 8) : kN n ≤ k ↔ n < topN k := by
  rw [kN_lt_iff hk, topN, show min k 7 = k from by omega]

theorem own_intsN {w : World} {base : Nat} {v : Value} {l : List Int} {N : Nat} (h : ownI w base v l) (hl : l.length = N) : ∃ A c, v = .slice A N c ∧ Ints w A l ∧ (A = none → c = 0) := by
  subst hl
  exact own_ints h
theorem Ints.some {w : World} {A : Option Addr} {l : List Int} (h : Ints w A l) (hl : 0 < l.length) : ∃ g off, A = .some ⟨g, off, none⟩ ∧ g < w.heap.size := by
  obtain ⟨g, off, e, c⟩ := h 0 _ (List.getElem?_eq_getElem hl)
  exact ⟨g, off, e, lt_of_cell c⟩
theorem Ints.at {w : World} {g off i : Nat} {x : Int} {l : List Int} (h : Ints w (.some ⟨g, off, none⟩) l) (hx : l[i]? = .some x) : w.cell? ⟨g, off + i, none⟩ = .some (.int .i64 x) := by
  obtain ⟨g', off', e, c⟩ := h i x hx
  injection e with e
  injection e with e1 e2
  subst e1 e2
  exact c
theorem Ints.put {w : World} {g off G j : Nat} {u : Value} {l : List Int} (h : Ints w (.some ⟨g, off, none⟩) l) (hne : g ≠ G) : Ints (w.setCell ⟨G, j, none⟩ u).drew (.some ⟨g, off, none⟩) l := fun i x hx =>
  ⟨g, off, rfl, (World.cell?_setCell_other w _ _ _ (by simp)).trans (h.at hx)⟩
theorem be_zero (K j : Nat) : (be K 0).getD j 0 = 0 := by
  rw [List.getD_eq_getElem?_getD]
  rcases Nat.lt_or_ge j K with h | h
  · rw [be_get _ _ _ h]; simp
  · rw [List.getElem?_eq_none (by rw [be_length]; exact h)]; rfl

theorem bit_step {v k K : Nat} (hb : bitAt v k = 1) (hk : k < 8 * (K + 1)) : (be (K + 1) (v % 2 ^ k)).getD (K - k / 8) 0 + 2 ^ (k % 8) < 256 ∧
    ∀ j, j < K + 1 → upd (fun j => (be (K + 1) (v % 2 ^ k)).getD j 0) (K - k / 8) ((be (K + 1) (v % 2 ^ k)).getD (K - k / 8) 0 + 2 ^ (k % 8)) j = (be (K + 1) (v % 2 ^ (k + 1))).getD j 0 := by
  have hs := be_step (K := K + 1) (w := v % 2 ^ k) (i := k) (Nat.mod_lt _ (two_pos k)) hk
  have e : K + 1 - 1 - k / 8 = K - k / 8 := by omega
  rw [e] at hs
  have hg : (be (K + 1) (v % 2 ^ k)).getD (K - k / 8) 0 = v % 2 ^ k / 256 ^ (k / 8) % 256 := by
    rw [List.getD_eq_getElem?_getD, be_get _ _ _ (by omega), show K + 1 - 1 - (K - k / 8) = k / 8 from by omega]
    rfl
  rw [hg]
  refine ⟨hs.2, fun j hj => ?_⟩
  rw [mod_next, hb, Nat.one_mul, hs.1]
  unfold upd
  simp only [List.getD_eq_getElem?_getD]
  by_cases h : j = K - k / 8
  · subst h
    rw [if_pos rfl, List.getElem?_set_self (by rw [be_length]; omega)]
    rfl
  · rw [if_neg h, List.getElem?_set_ne (fun h' => h h'.symm)]

end Go.Proofs.Ytmhddpgeiijhgaa

/-
  Plain facts on texts: a text's bytes as numbers, and back; what a text begins with.
-/
namespace Go.Proofs.Ytmhddpgeiijhgaa

/-- The text of these bytes. -/
def bytesN (l : List Nat) : ByteArray := ⟨(l.map UInt8.ofNat).toArray⟩
/-- A text's bytes. -/
def nats (s : ByteArray) : List Nat := s.data.toList.map UInt8.toNat
theorem nats_length (s : ByteArray) : (nats s).length = s.size := by rw [nats, List.length_map, Array.length_toList]; rfl
theorem nats_lt (s : ByteArray) : ∀ b ∈ nats s, b < 256 := by
  intro b hb
  obtain ⟨u, _, rfl⟩ := List.mem_map.1 hb
  exact u.toNat_lt
theorem nats_bytes {l : List Nat} (h : ∀ b ∈ l, b < 256) : nats (bytesN l) = l := by
  simp only [nats, bytesN, List.map_map]
  refine (List.map_congr_left fun b hb => ?_).trans (List.map_id l)
  have := h b hb
  simp only [Function.comp, id]
  rw [UInt8.toNat_ofNat']
  omega
theorem bytes_nats (s : ByteArray) : bytesN (nats s) = s := by
  apply ByteArray.ext
  simp only [nats, bytesN, List.map_map]
  have e : s.data.toList.map (UInt8.ofNat ∘ UInt8.toNat) = s.data.toList := (List.map_congr_left fun u _ => by simp).trans (List.map_id _)
  rw [e]
theorem nats_inj {a b : ByteArray} (h : nats a = nats b) : a = b := by rw [← bytes_nats a, h, bytes_nats]
theorem nats_append (a b : ByteArray) : nats (a ++ b) = nats a ++ nats b := by simp [nats, ByteArray.data_append]
theorem nats_extract (s : ByteArray) (i j : Nat) : nats (s.extract i j) = ((nats s).drop i).take (j - i) := by
  simp [nats, ByteArray.data_extract, List.map_drop, List.map_take]
theorem nats_nil : nats ⟨#[]⟩ = [] := rfl
theorem size_bytes (l : List Nat) : (bytesN l).size = l.length := by
  show (l.map UInt8.ofNat).toArray.size = l.length
  rw [List.size_toArray, List.length_map]
theorem str_nums (l : List Nat) : strOfNums (l.map fun n : Nat => (n : Int)) = bytesN l := by
  simp only [strOfNums, bytesN, List.map_map]
  rfl
theorem nats_get {s : ByteArray} {i : Nat} (h : i < s.size) : (nats s)[i]? = some s[i].toNat := by
  have h' : i < s.data.toList.length := by rw [Array.length_toList]; exact h
  rw [nats, List.getElem?_map, List.getElem?_eq_getElem h']
  rfl
theorem bytes_append (l m : List Nat) : bytesN (l ++ m) = bytesN l ++ bytesN m := by
  apply ByteArray.ext
  simp [bytesN, ByteArray.data_append]
theorem bytes_eq {l m : List Nat} (hl : ∀ b ∈ l, b < 256) (hm : ∀ b ∈ m, b < 256) (h : bytesN l = bytesN m) : l = m := by
  rw [← nats_bytes hl, h, nats_bytes hm]

/-- What s begins with: a number, what is behind it, and the error. -/
def tk (s : ByteArray) : Nat × ByteArray × Nat :=
  match nats s with
  | [] => (0, ⟨#[]⟩, 9)
  | c :: r =>
    if r.length < ones c then (0, ⟨#[]⟩, 9)
    else if 4611686018427387904 ≤ takeV c r ∨ kN (takeV c r) ≠ ones c then (0, ⟨#[]⟩, 8)
    else (takeV c r, s.extract (ones c + 1) s.size, 0)
def tkN (s : ByteArray) : Nat := (tk s).1
def tkR (s : ByteArray) : ByteArray := (tk s).2.1
def tkE (s : ByteArray) : Nat := (tk s).2.2
theorem tk_nil {s : ByteArray} (h : s.size = 0) : tkN s = 0 ∧ tkR s = ⟨#[]⟩ ∧ tkE s = 9 := by
  have : nats s = [] := List.eq_nil_of_length_eq_zero (by rw [nats_length]; exact h)
  simp [tkN, tkR, tkE, tk, this]
theorem tk_short {s : ByteArray} {c : Nat} {r : List Nat} (h : nats s = c :: r) (hl : r.length < ones c) : tkN s = 0 ∧ tkR s = ⟨#[]⟩ ∧ tkE s = 9 := by
  simp [tkN, tkR, tkE, tk, h, hl]
theorem tk_form {s : ByteArray} {c : Nat} {r : List Nat} (h : nats s = c :: r) (hl : ones c ≤ r.length) (hf : 4611686018427387904 ≤ takeV c r ∨ kN (takeV c r) ≠ ones c) : tkN s = 0 ∧ tkR s = ⟨#[]⟩ ∧ tkE s = 8 := by
  have : ¬ r.length < ones c := by omega
  simp [tkN, tkR, tkE, tk, h, this, hf]
theorem tk_good {s : ByteArray} {c : Nat} {r : List Nat} (h : nats s = c :: r) (hl : ones c ≤ r.length) (hm : takeV c r < 4611686018427387904) (hk : kN (takeV c r) = ones c) : tkN s = takeV c r ∧ tkR s = s.extract (ones c + 1) s.size ∧ tkE s = 0 := by
  have h1 : ¬ r.length < ones c := by omega
  have h2 : ¬ (4611686018427387904 ≤ takeV c r ∨ kN (takeV c r) ≠ ones c) := by omega
  simp [tkN, tkR, tkE, tk, h, h1, h2]
theorem tk_cases (s : ByteArray) : (tkN s = 0 ∧ tkR s = ⟨#[]⟩ ∧ (tkE s = 8 ∨ tkE s = 9)) ∨ ∃ c r, nats s = c :: r ∧ ones c ≤ r.length ∧ takeV c r < 4611686018427387904 ∧ kN (takeV c r) = ones c ∧ tkN s = takeV c r ∧ tkR s = s.extract (ones c + 1) s.size ∧ tkE s = 0 := by
  cases h : nats s with
  | nil =>
    have := tk_nil (s := s) (by rw [← nats_length, h]; rfl)
    exact .inl ⟨this.1, this.2.1, .inr this.2.2⟩
  | cons c r =>
    rcases Nat.lt_or_ge r.length (ones c) with h1 | h1
    · have := tk_short h h1
      exact .inl ⟨this.1, this.2.1, .inr this.2.2⟩
    · by_cases h2 : 4611686018427387904 ≤ takeV c r ∨ kN (takeV c r) ≠ ones c
      · have := tk_form h h1 h2
        exact .inl ⟨this.1, this.2.1, .inl this.2.2⟩
      · have h3 : takeV c r < 4611686018427387904 ∧ kN (takeV c r) = ones c := by omega
        exact .inr ⟨c, r, rfl, h1, h3.1, h3.2, tk_good h h1 h3.1 h3.2⟩
theorem tkN_lt (s : ByteArray) : tkN s < 4611686018427387904 := by
  rcases tk_cases s with ⟨h, _⟩ | ⟨c, r, _, _, h1, _, h2, _⟩ <;> omega
theorem tkE_cases (s : ByteArray) : tkE s = 0 ∨ tkE s = 8 ∨ tkE s = 9 := by
  rcases tk_cases s with ⟨_, _, h⟩ | ⟨c, r, _, _, _, _, _, _, h⟩ <;> omega
theorem tkR_size (s : ByteArray) : (tkR s).size ≤ s.size := by
  rcases tk_cases s with ⟨_, h, _⟩ | ⟨c, r, _, _, _, _, _, h, _⟩
  · rw [h]; exact Nat.zero_le _
  · rw [h, ByteArray.size_extract]; omega
theorem tk_err {s : ByteArray} (h : tkE s ≠ 0) : tkN s = 0 ∧ tkR s = ⟨#[]⟩ := by
  rcases tk_cases s with ⟨h1, h2, _⟩ | ⟨c, r, _, _, _, _, _, _, h3⟩
  · exact ⟨h1, h2⟩
  · exact absurd h3 h

/-- The bytes of a number. -/
def encS (n : Nat) : ByteArray := bytesN (enc n)
theorem enc_lt {n : Nat} (hn : n < 4611686018427387904) : ∀ b ∈ enc n, b < 256 := by
  intro b hb
  rcases List.mem_cons.1 hb with rfl | h
  · exact (topB_range hn).2.1
  · exact be_lt _ _ _ h
theorem encS_size (n : Nat) : (encS n).size = kN n + 1 := by rw [encS, size_bytes, enc_length]
theorem nats_encS {n : Nat} (hn : n < 4611686018427387904) : nats (encS n) = enc n := nats_bytes (enc_lt hn)
/-- A number's bytes are taken as it, whatever is behind them. -/
theorem tk_enc {n : Nat} (hn : n < 4611686018427387904) (b : ByteArray) : tkN (encS n ++ b) = n ∧ tkR (encS n ++ b) = b ∧ tkE (encS n ++ b) = 0 := by
  have h : nats (encS n ++ b) = topB n :: (be (kN n) n ++ nats b) := by rw [nats_append, nats_encS hn]; rfl
  have ht := topB_range hn
  have hv := takeV_enc hn (nats b)
  have g := tk_good h (by rw [ht.2.2.1, List.length_append, be_length]; omega) (by rw [hv]; exact hn) (by rw [hv, ht.2.2.1])
  refine ⟨g.1.trans hv, g.2.1.trans ?_, g.2.2⟩
  apply nats_inj
  rw [nats_extract, nats_append, nats_encS hn, ht.2.2.1, List.drop_append_of_le_length (by rw [enc_length]; omega), List.drop_of_length_le (by rw [enc_length]; omega), List.nil_append]
  apply List.take_of_length_le
  rw [nats_length, ByteArray.size_append, encS_size]
  omega
/-- What is taken is laid as the same bytes. -/
theorem tk_again {s : ByteArray} (h : tkE s = 0) : encS (tkN s) ++ tkR s = s := by
  rcases tk_cases s with ⟨_, _, h1⟩ | ⟨c, r, hs, hl, _, hk, hn, hr, _⟩
  · omega
  · have hb : ∀ b ∈ r, b < 256 := fun b hb => nats_lt s b (by rw [hs]; exact List.mem_cons_of_mem _ hb)
    have hc : c < 256 := nats_lt s c (by rw [hs]; exact List.mem_cons_self)
    apply nats_inj
    rw [nats_append, hr, hn, encS, enc_takeV hb hl hk, nats_bytes (fun b h => by
      rcases List.mem_cons.1 h with rfl | h
      · exact hc
      · exact hb b (List.mem_of_mem_take h)), nats_extract, ← nats_length, hs]
    rw [List.drop_succ_cons, List.take_of_length_le (l := List.drop _ _) (by rw [List.length_drop, List.length_cons]; omega), List.cons_append, List.take_append_drop]

/-- The bytes of a text. -/
def textS (s : ByteArray) : ByteArray := encS s.size ++ s
/-- What s begins with, as a text of at most so many bytes. -/
def tt (s : ByteArray) (most : Int) : ByteArray × ByteArray × Nat :=
  if tkE s ≠ 0 then (⟨#[]⟩, ⟨#[]⟩, tkE s) else if most < tkN s then (⟨#[]⟩, ⟨#[]⟩, 4) else if (tkR s).size < tkN s then (⟨#[]⟩, ⟨#[]⟩, 9)
  else ((tkR s).extract 0 (tkN s), (tkR s).extract (tkN s) (tkR s).size, 0)
def ttS (s : ByteArray) (most : Int) : ByteArray := (tt s most).1
def ttR (s : ByteArray) (most : Int) : ByteArray := (tt s most).2.1
def ttE (s : ByteArray) (most : Int) : Nat := (tt s most).2.2
theorem tt_text {s b : ByteArray} {most : Int} (hs : s.size < 4611686018427387904) (hm : s.size ≤ most) : ttS (textS s ++ b) most = s ∧ ttR (textS s ++ b) most = b ∧ ttE (textS s ++ b) most = 0 := by
  have e : textS s ++ b = encS s.size ++ (s ++ b) := by rw [textS, ByteArray.append_assoc]
  obtain ⟨h1, h2, h3⟩ := tk_enc hs (s ++ b)
  rw [e]
  have k1 : ¬ most < (s.size : Int) := by omega
  have k2 : ¬ (s ++ b).size < s.size := by rw [ByteArray.size_append]; omega
  simp only [ttS, ttR, ttE, tt, h1, h2, h3, ne_eq, not_true_eq_false, if_false, k1, k2]
  refine ⟨?_, ?_, trivial⟩
  · apply nats_inj
    rw [nats_extract, nats_append, List.drop_zero, List.take_append_of_le_length (by rw [nats_length]; omega), List.take_of_length_le (by rw [nats_length]; omega)]
  · apply nats_inj
    rw [nats_extract, nats_append, List.drop_append_of_le_length (by rw [nats_length]; omega), List.drop_of_length_le (by rw [nats_length]; omega), List.nil_append, List.take_of_length_le (by rw [nats_length, ByteArray.size_append]; omega)]
theorem tt_big {s b : ByteArray} {most : Int} (hs : s.size < 4611686018427387904) (hm : most < s.size) : ttS (textS s ++ b) most = ⟨#[]⟩ ∧ ttR (textS s ++ b) most = ⟨#[]⟩ ∧ ttE (textS s ++ b) most = 4 := by
  have e : textS s ++ b = encS s.size ++ (s ++ b) := by rw [textS, ByteArray.append_assoc]
  obtain ⟨h1, h2, h3⟩ := tk_enc hs (s ++ b)
  rw [e]
  simp [ttS, ttR, ttE, tt, h1, h3, hm]
theorem tt_again {s : ByteArray} {most : Int} (h : ttE s most = 0) : textS (ttS s most) ++ ttR s most = s := by
  unfold ttE tt at h
  by_cases h0 : tkE s ≠ 0
  · rw [if_pos h0] at h; exact absurd h h0
  · by_cases h1 : most < tkN s
    · rw [if_neg h0, if_pos h1] at h; simp at h
    · by_cases h2 : (tkR s).size < tkN s
      · rw [if_neg h0, if_neg h1, if_pos h2] at h; simp at h
      · simp only [ttS, ttR, tt, if_neg h0, if_neg h1, if_neg h2]
        have hz : ((tkR s).extract 0 (tkN s)).size = tkN s := by rw [ByteArray.size_extract]; omega
        have hj : (tkR s).extract 0 (tkN s) ++ (tkR s).extract (tkN s) (tkR s).size = tkR s := by
          apply nats_inj
          rw [nats_append, nats_extract, nats_extract, List.drop_zero, Nat.sub_zero, ← nats_length, List.take_of_length_le (l := List.drop _ _) (by rw [List.length_drop]; omega), List.take_append_drop]
        rw [textS, hz, ByteArray.append_assoc, hj]
        exact tk_again (by omega)

end Go.Proofs.Ytmhddpgeiijhgaa

/-
  Plain facts on keys: a text's key byte by byte, its order, and what is taken of bytes as a text.
-/
namespace Go.Proofs.Ytmhddpgeiijhgaa

/-- Byte by byte the first list is less. -/
def lessN : List Nat → List Nat → Bool
  | _, [] => false
  | [], _ :: _ => true
  | a :: l, b :: m => decide (a < b) || a == b && lessN l m
theorem lessN_nil (l : List Nat) : lessN l [] = false := by cases l <;> rfl
theorem lessN_self : ∀ l : List Nat, lessN l l = false
  | [] => rfl
  | a :: l => by rw [lessN, lessN_self l]; simp
theorem lessN_diff {l m : List Nat} (h : Diff l m) : lessN l m = true ∧ lessN m l = false := by
  obtain ⟨p, x, y, l', m', rfl, rfl, hxy⟩ := h
  induction p with
  | nil =>
    have h2 : ¬ y < x := by omega
    have h3 : ¬ y = x := by omega
    simp [lessN, hxy, h2, h3]
  | cons b p ih => simp [lessN, ih.1, ih.2]
/-- One of two lists is less, or they are the same. -/
theorem lessN_or : ∀ l m : List Nat, lessN l m = true ∨ lessN m l = true ∨ l = m
  | [], [] => .inr (.inr rfl)
  | [], _ :: _ => .inl rfl
  | _ :: _, [] => .inr (.inl rfl)
  | a :: l, b :: m => by
    rcases Nat.lt_trichotomy a b with h | h | h
    · exact .inl (by simp [lessN, h])
    · subst h
      rcases lessN_or l m with h | h | h
      · exact .inl (by simp [lessN, h])
      · exact .inr (.inl (by simp [lessN, h]))
      · exact .inr (.inr (by rw [h]))
    · exact .inr (.inl (by simp [lessN, h]))
theorem lessN_not : ∀ l m : List Nat, lessN l m = true → lessN m l = false
  | _, [], h => by rw [lessN_nil] at h; cases h
  | [], b :: m, _ => rfl
  | a :: l, b :: m, h => by
    simp only [lessN, Bool.or_eq_true, decide_eq_true_eq, Bool.and_eq_true, beq_iff_eq] at h
    rcases h with h | ⟨h, h'⟩
    · have h1 : ¬ b < a := by omega
      have h2 : ¬ b = a := by omega
      simp [lessN, h1, h2]
    · subst h
      simp [lessN, lessN_not l m h']
/-- Texts are compared as their bytes. -/
theorem less_nats (a b : ByteArray) : Op.bytesLess a.toList b.toList = lessN (nats a) (nats b) := by
  rw [ByteArray.toList_eq, ByteArray.toList_eq, nats, nats]
  generalize a.data.toList = l
  generalize b.data.toList = m
  induction l generalizing m with
  | nil => cases m <;> rfl
  | cons x l ih =>
    cases m with
    | nil => rfl
    | cons y m =>
      rw [Op.bytesLess, List.map_cons, List.map_cons, lessN, ih m]
      congr 1
      congr 1
      rw [Bool.eq_iff_iff]
      simp only [beq_iff_eq]
      exact UInt8.toNat_inj.symm

/-- The key of a text. -/
def esc : List Nat → List Nat
  | [] => []
  | 0 :: l => 0 :: 255 :: esc l
  | (c + 1) :: l => (c + 1) :: esc l
def keyT (l : List Nat) : List Nat := esc l ++ [0, 0]
theorem esc_append : ∀ l m : List Nat, esc (l ++ m) = esc l ++ esc m
  | [], _ => rfl
  | 0 :: l, m => by rw [List.cons_append, esc, esc, esc_append l m]; rfl
  | (c + 1) :: l, m => by rw [List.cons_append, esc, esc, esc_append l m]; rfl
theorem esc_lt : ∀ l : List Nat, (∀ b ∈ l, b < 256) → ∀ b ∈ esc l, b < 256
  | [], _ => by simp [esc]
  | 0 :: l, h => by
    intro b hb
    rw [esc] at hb
    rcases List.mem_cons.1 hb with rfl | hb
    · omega
    · rcases List.mem_cons.1 hb with rfl | hb
      · omega
      · exact esc_lt l (fun c hc => h c (List.mem_cons_of_mem _ hc)) b hb
  | (c + 1) :: l, h => by
    intro b hb
    rw [esc] at hb
    rcases List.mem_cons.1 hb with rfl | hb
    · exact h _ List.mem_cons_self
    · exact esc_lt l (fun c hc => h c (List.mem_cons_of_mem _ hc)) b hb
theorem esc_length : ∀ l : List Nat, l.length ≤ (esc l).length ∧ (esc l).length ≤ 2 * l.length
  | [] => by simp [esc]
  | 0 :: l => by have := esc_length l; simp [esc]; omega
  | (c + 1) :: l => by have := esc_length l; simp [esc]; omega
theorem keyT_cons0 (l : List Nat) : keyT (0 :: l) = 0 :: 255 :: keyT l := rfl
theorem keyT_cons (c : Nat) (l : List Nat) : keyT ((c + 1) :: l) = (c + 1) :: keyT l := rfl
theorem keyT_nil : keyT [] = [0, 0] := rfl
/-- Of two texts the lesser one's key is less, and neither begins with the other one's. -/
theorem keyT_diff : ∀ l m : List Nat, lessN l m = true → Diff (keyT l) (keyT m)
  | _, [], h => by rw [lessN_nil] at h; cases h
  | [], 0 :: m, _ => ⟨[0], 0, 255, _, _, rfl, rfl, by decide⟩
  | [], (c + 1) :: m, _ => ⟨[], 0, c + 1, _, _, rfl, rfl, by omega⟩
  | 0 :: l, 0 :: m, h => by
    rw [keyT_cons0, keyT_cons0]
    exact ((keyT_diff l m (by simpa [lessN] using h)).cons _).cons _
  | 0 :: l, (c + 1) :: m, _ => ⟨[], 0, c + 1, _, _, rfl, rfl, by omega⟩
  | (c + 1) :: l, 0 :: m, h => by simp [lessN] at h
  | (c + 1) :: l, (d + 1) :: m, h => by
    rw [keyT_cons, keyT_cons]
    simp only [lessN, Bool.or_eq_true, decide_eq_true_eq, Bool.and_eq_true, beq_iff_eq] at h
    rcases h with h | ⟨h, h'⟩
    · exact ⟨[], _, _, _, _, rfl, rfl, h⟩
    · rw [h]; exact (keyT_diff l m h').cons _
theorem keyT_less (l m : List Nat) : lessN (keyT l) (keyT m) = lessN l m := by
  rcases lessN_or l m with h | h | h
  · rw [h, (lessN_diff (keyT_diff l m h)).1]
  · rw [lessN_not _ _ h, (lessN_diff (keyT_diff m l h)).2]
  · subst h; rw [lessN_self, lessN_self]
theorem Diff.not_prefix {l m : List Nat} (h : Diff l m) : ¬ l <+: m ∧ ¬ m <+: l := by
  obtain ⟨p, x, y, l', m', rfl, rfl, hxy⟩ := h
  constructor <;> intro k <;> rw [List.prefix_append_right_inj, List.cons_prefix_cons] at k <;> omega
/-- A key begins with another one just if it is the same. -/
theorem keyT_prefix (l m : List Nat) : keyT m <+: keyT l ↔ l = m := by
  constructor
  · intro h
    rcases lessN_or l m with h' | h' | h'
    · exact absurd h (keyT_diff l m h').not_prefix.2
    · exact absurd h (keyT_diff m l h').not_prefix.1
    · exact h'
  · rintro rfl; exact List.prefix_refl _

/-- What bytes begin with, as a text: it, what is behind it, the error. -/
def takT : List Nat → List Nat × List Nat × Nat
  | [] => ([], [], 9)
  | [0] => ([], [], 9)
  | 0 :: 0 :: r => ([], r, 0)
  | 0 :: (d + 1) :: r => if d = 254 then (if (takT r).2.2 = 0 then (0 :: (takT r).1, (takT r).2.1, 0) else ([], [], (takT r).2.2)) else ([], [], 8)
  | (c + 1) :: r => if (takT r).2.2 = 0 then ((c + 1) :: (takT r).1, (takT r).2.1, 0) else ([], [], (takT r).2.2)
theorem takT_key : ∀ l b : List Nat, takT (keyT l ++ b) = (l, b, 0)
  | [], b => rfl
  | 0 :: l, b => by
    rw [keyT_cons0, List.cons_append, List.cons_append, takT, if_pos rfl, takT_key l b, if_pos rfl]
  | (c + 1) :: l, b => by
    rw [keyT_cons, List.cons_append, takT, takT_key l b, if_pos rfl]
theorem takT_err : ∀ s : List Nat, (takT s).2.2 = 0 ∨ takT s = ([], [], 8) ∨ takT s = ([], [], 9)
  | [] => .inr (.inr rfl)
  | [0] => .inr (.inr rfl)
  | 0 :: 0 :: r => .inl rfl
  | 0 :: (d + 1) :: r => by
    rw [takT]
    by_cases h : d = 254
    · rw [if_pos h]
      by_cases h2 : (takT r).2.2 = 0
      · rw [if_pos h2]; exact .inl rfl
      · rw [if_neg h2]
        rcases takT_err r with h3 | h3 | h3
        · exact absurd h3 h2
        · rw [h3]; exact .inr (.inl rfl)
        · rw [h3]; exact .inr (.inr rfl)
    · rw [if_neg h]; exact .inr (.inl rfl)
  | (c + 1) :: r => by
    rw [takT]
    by_cases h2 : (takT r).2.2 = 0
    · rw [if_pos h2]; exact .inl rfl
    · rw [if_neg h2]
      rcases takT_err r with h3 | h3 | h3
      · exact absurd h3 h2
      · rw [h3]; exact .inr (.inl rfl)
      · rw [h3]; exact .inr (.inr rfl)

end Go.Proofs.Ytmhddpgeiijhgaa

/-
  Plain facts on fields: names, lists whose names rise, lists laid over lists.
-/
namespace Go.Proofs.Ytmhddpgeiijhgaa

/-- A field: its name, its value. -/
structure Fd where
  n : ByteArray
  v : Int
def letterB (c : Nat) : Bool := decide (97 ≤ c) && decide (c ≤ 122)
def innerB (c : Nat) : Bool := letterB c || c == 45 || (decide (48 ≤ c) && decide (c ≤ 57))
/-- Are these a name's bytes? -/
def nameL : List Nat → Bool
  | [] => false
  | c :: r => letterB c && r.all innerB && decide (r.length ≤ 11)
def nameB (s : ByteArray) : Bool := nameL (nats s)
/-- May this be a value? -/
def valB (v : Int) : Bool := decide (-2305843009213693952 ≤ v) && decide (v ≤ 2305843009213693951)
/-- What is wrong with a field alone. -/
def oneE (f : Fd) : Nat := if nameB f.n then (if valB f.v then 0 else 2) else 8
def aheadB (a b : ByteArray) : Bool := lessN (nats a) (nats b)
/-- What is wrong with the fields behind one that is ahead. -/
def rightG : Option ByteArray → List Fd → Nat
  | _, [] => 0
  | none, f :: l => if oneE f = 0 then rightG (some f.n) l else oneE f
  | some p, f :: l => if oneE f = 0 then (if aheadB p f.n then rightG (some f.n) l else 16) else oneE f
def rightE (l : List Fd) : Nat := if 8 < l.length then 4 else rightG none l
/-- The first field that is wrong alone. -/
def firstE : List Fd → Nat
  | [] => 0
  | f :: l => if oneE f = 0 then firstE l else oneE f
/-- A field more, or in the place of that of its name. -/
def layL : List Fd → Fd → List Fd
  | [], f => [f]
  | g :: l, f => if aheadB g.n f.n then g :: layL l f else if nats g.n = nats f.n then f :: l else f :: g :: l
def overL (l : List Fd) : List Fd := l.foldl layL []
def makeF (l : List Fd) : List Fd × Nat :=
  if 8 < l.length then ([], 4) else if firstE l = 0 then (if (overL l).length = l.length then (overL l, 0) else ([], 7)) else ([], firstE l)
def getL : List Fd → ByteArray → Option Int
  | [], _ => none
  | f :: l, s => if nats f.n = nats s then some f.v else getL l s
/-- The last value of a name. -/
def lastL : List Fd → ByteArray → Option Int
  | [], _ => none
  | f :: l, s => match lastL l s with
    | some v => some v
    | none => if nats f.n = nats s then some f.v else none

theorem lessN_trans : ∀ a b c : List Nat, lessN a b = true → lessN b c = true → lessN a c = true
  | _, _, [], _, h => by rw [lessN_nil] at h; cases h
  | _, [], _ :: _, h, _ => by rw [lessN_nil] at h; cases h
  | [], _ :: _, _ :: _, _, _ => rfl
  | a :: l, b :: m, c :: n, h, h' => by
    simp only [lessN, Bool.or_eq_true, decide_eq_true_eq, Bool.and_eq_true, beq_iff_eq] at h h' ⊢
    rcases h with h | ⟨h, h2⟩
    · rcases h' with h' | ⟨h', h3⟩
      · exact .inl (by omega)
      · exact .inl (by omega)
    · rcases h' with h' | ⟨h', h3⟩
      · exact .inl (by omega)
      · exact .inr ⟨by omega, lessN_trans l m n h2 h3⟩
/-- Names rise. -/
def Rises : List Fd → Prop
  | [] => True
  | f :: l => (∀ g ∈ l, aheadB f.n g.n = true) ∧ Rises l
theorem ahead_ne {a b : ByteArray} (h : aheadB a b = true) : nats a ≠ nats b := by
  intro e
  unfold aheadB at h
  rw [e, lessN_self] at h
  cases h
theorem layL_mem : ∀ (l : List Fd) (f g : Fd), g ∈ layL l f → g = f ∨ g ∈ l
  | [], f, g, h => by simp [layL] at h; exact .inl h
  | x :: l, f, g, h => by
    rw [layL] at h
    split at h
    · rcases List.mem_cons.1 h with h | h
      · exact .inr (by rw [h]; exact List.mem_cons_self)
      · rcases layL_mem l f g h with h | h
        · exact .inl h
        · exact .inr (List.mem_cons_of_mem _ h)
    · split at h
      · rcases List.mem_cons.1 h with h | h
        · exact .inl h
        · exact .inr (List.mem_cons_of_mem _ h)
      · rcases List.mem_cons.1 h with h | h
        · exact .inl h
        · exact .inr h
theorem layL_rises : ∀ (l : List Fd) (f : Fd), Rises l → Rises (layL l f)
  | [], f, _ => ⟨by simp, trivial⟩
  | x :: l, f, h => by
    rw [layL]
    by_cases h1 : aheadB x.n f.n = true
    · rw [if_pos h1]
      refine ⟨fun g hg => ?_, layL_rises l f h.2⟩
      rcases layL_mem l f g hg with rfl | hg
      · exact h1
      · exact h.1 g hg
    · rw [if_neg h1]
      by_cases h2 : nats x.n = nats f.n
      · rw [if_pos h2]
        refine ⟨fun g hg => ?_, h.2⟩
        have := h.1 g hg
        unfold aheadB at this ⊢
        rw [← h2]; exact this
      · rw [if_neg h2]
        have h3 : aheadB f.n x.n = true := by
          unfold aheadB at h1 ⊢
          rcases lessN_or (nats f.n) (nats x.n) with h | h | h
          · exact h
          · exact absurd h h1
          · exact absurd h.symm h2
        refine ⟨fun g hg => ?_, h⟩
        rcases List.mem_cons.1 hg with rfl | hg
        · exact h3
        · exact lessN_trans _ _ _ h3 (h.1 g hg)
theorem getL_none {l : List Fd} {s : ByteArray} (h : ∀ g ∈ l, nats g.n ≠ nats s) : getL l s = none := by
  induction l with
  | nil => rfl
  | cons f l ih =>
    rw [getL, if_neg (h f List.mem_cons_self)]
    exact ih fun g hg => h g (List.mem_cons_of_mem _ hg)
theorem layL_get : ∀ (l : List Fd) (f : Fd) (s : ByteArray), Rises l → getL (layL l f) s = if nats f.n = nats s then some f.v else getL l s
  | [], f, s, _ => rfl
  | x :: l, f, s, h => by
    rw [layL]
    by_cases h1 : aheadB x.n f.n = true
    · rw [if_pos h1, getL, getL, layL_get l f s h.2]
      by_cases h2 : nats x.n = nats s
      · have : nats f.n ≠ nats s := fun e => ahead_ne h1 (h2.trans e.symm)
        rw [if_pos h2, if_neg this, if_pos h2]
      · rw [if_neg h2, if_neg h2]
    · rw [if_neg h1]
      by_cases h2 : nats x.n = nats f.n
      · rw [if_pos h2, getL, getL]
        by_cases h3 : nats f.n = nats s
        · rw [if_pos h3, if_pos h3]
        · rw [if_neg h3, if_neg h3, if_neg (by rw [h2]; exact h3)]
      · rw [if_neg h2, getL]
/-- Two lists whose names rise are one, if they give the same of each name. -/
theorem rises_ext : ∀ a b : List Fd, Rises a → Rises b → (∀ s, getL a s = getL b s) → a = b
  | [], [], _, _, _ => rfl
  | [], y :: b, _, _, h => by have := h y.n; rw [getL, getL, if_pos rfl] at this; cases this
  | x :: a, [], _, _, h => by have := h x.n; rw [getL, getL, if_pos rfl] at this; cases this
  | x :: a, y :: b, ha, hb, h => by
    have hxy : nats x.n = nats y.n := by
      rcases lessN_or (nats x.n) (nats y.n) with h1 | h1 | h1
      · have e := h x.n
        rw [getL, if_pos rfl, getL, if_neg (fun e => ahead_ne h1 e.symm), getL_none fun g hg e => ahead_ne (lessN_trans _ _ _ h1 (hb.1 g hg)) e.symm] at e
        cases e
      · have e := h y.n
        rw [getL, if_neg (fun e => ahead_ne h1 e.symm), getL_none (fun g hg e => ahead_ne (lessN_trans _ _ _ h1 (ha.1 g hg)) e.symm), getL, if_pos rfl] at e
        cases e
      · exact h1
    have hv : x.v = y.v := by
      have e := h x.n
      rw [getL, if_pos rfl, getL, if_pos hxy.symm] at e
      exact Option.some.inj e
    have hr : a = b := by
      apply rises_ext a b ha.2 hb.2
      intro s
      have e := h s
      rw [getL, getL] at e
      by_cases hs : nats x.n = nats s
      · rw [getL_none fun g hg e => ahead_ne (ha.1 g hg) (hs.trans e.symm), getL_none fun g hg e => ahead_ne (hb.1 g hg) ((hxy.symm.trans hs).trans e.symm)]
      · rw [if_neg hs, if_neg (by rw [← hxy]; exact hs)] at e
        exact e
    obtain ⟨xn, xv⟩ := x
    obtain ⟨yn, yv⟩ := y
    obtain rfl : xn = yn := nats_inj hxy
    obtain rfl : xv = yv := hv
    rw [hr]
theorem foldl_rises : ∀ (l a : List Fd), Rises a → Rises (l.foldl layL a)
  | [], _, h => h
  | f :: l, a, h => foldl_rises l _ (layL_rises a f h)
theorem overL_rises (l : List Fd) : Rises (overL l) := foldl_rises l [] trivial
theorem foldl_get : ∀ (l a : List Fd) (s : ByteArray), Rises a → getL (l.foldl layL a) s = match lastL l s with | some v => some v | none => getL a s
  | [], _, _, _ => rfl
  | f :: l, a, s, h => by
    rw [List.foldl_cons, foldl_get l _ s (layL_rises a f h), lastL, layL_get a f s h]
    cases lastL l s with
    | some v => rfl
    | none => by_cases hs : nats f.n = nats s <;> simp [hs]
theorem overL_get (l : List Fd) (s : ByteArray) : getL (overL l) s = lastL l s := by
  rw [overL, foldl_get l [] s trivial]
  cases lastL l s <;> rfl
theorem lastL_append : ∀ (l m : List Fd) (s : ByteArray), lastL (l ++ m) s = match lastL m s with | some v => some v | none => lastL l s
  | [], m, s => by cases h : lastL m s <;> simp [lastL, h]
  | f :: l, m, s => by
    rw [List.cons_append, lastL, lastL_append l m s, lastL]
    cases lastL m s <;> rfl
theorem lastL_rises : ∀ (l : List Fd) (s : ByteArray), Rises l → lastL l s = getL l s
  | [], _, _ => rfl
  | f :: l, s, h => by
    rw [lastL, lastL_rises l s h.2, getL]
    by_cases hs : nats f.n = nats s
    · rw [getL_none fun g hg e => ahead_ne (h.1 g hg) (hs.trans e.symm)]
    · simp [hs]
      cases getL l s <;> rfl
theorem over_last (l : List Fd) (s : ByteArray) : lastL (overL l) s = lastL l s := by
  rw [lastL_rises _ s (overL_rises l), overL_get]
/-- Laid over each other first, or all at once. -/
theorem over_left (a b : List Fd) : overL (overL a ++ b) = overL (a ++ b) := by
  apply rises_ext _ _ (overL_rises _) (overL_rises _)
  intro s
  rw [overL_get, overL_get, lastL_append, lastL_append, over_last]
theorem over_right (a b : List Fd) : overL (a ++ overL b) = overL (a ++ b) := by
  apply rises_ext _ _ (overL_rises _) (overL_rises _)
  intro s
  rw [overL_get, overL_get, lastL_append, lastL_append, over_last]
theorem over_self (a : List Fd) : overL (a ++ a) = overL a := by
  apply rises_ext _ _ (overL_rises _) (overL_rises _)
  intro s
  rw [overL_get, overL_get, lastL_append]
  cases lastL a s <;> rfl

end Go.Proofs.Ytmhddpgeiijhgaa

/-
  A number's bytes, laid by the program: Num.
-/
namespace Go.Proofs.Ytmhddpgeiijhgaa
open Go.RowKit

/-- What Num and the document's Num give back. -/
def numS (n : Int) : ByteArray := if 0 ≤ n ∧ n ≤ 4611686018427387903 then encS n.toNat else ⟨#[]⟩
def numE (n : Int) : Int := if 0 ≤ n ∧ n ≤ 4611686018427387903 then 0 else 2
def NumPost (n : Int) (w : World) (e : Ending) (w' : World) : Prop := e = .returned (.tuple #[.string (numS n), .int .i64 (numE n)]) ∧ Below w.heap.size w w'

theorem ret_se {s t : ByteArray} {a b : Int} (h : s = t) (k : a = b) : Ending.returned (.tuple #[.string s, .int .i64 a]) = .returned (.tuple #[.string t, .int .i64 b]) := by rw [h, k]

/-- The bytes that lie behind the i lowest have been laid. -/
def layT (K n i : Nat) : Nat → Nat := fun j => if K - j < i then n / 256 ^ (K - j) % 256 else 0
theorem layT_put {K n i : Nat} (hi : i < K) : ∀ j, j < K + 1 → upd (layT K n i) (K - i) (n / 256 ^ i % 256) j = layT K n (i + 1) j := by
  intro j hj
  unfold upd layT
  by_cases e : j = K - i
  · rw [if_pos e, if_pos (by omega), show K - j = i from by omega]
  · rw [if_neg e]
    by_cases h : K - j < i
    · rw [if_pos h, if_pos (by omega)]
    · rw [if_neg h, if_neg (by omega)]
theorem layT_all {K n c : Nat} : ∀ j, j < K + 1 → (c :: be K n)[j]? = some (upd (layT K n K) 0 c j) := by
  intro j hj
  rcases j with _ | j
  · rfl
  · rw [List.getElem?_cons_succ, be_get K n j (by omega)]
    unfold upd layT
    rw [if_neg (by omega), if_pos (by omega)]
    congr 4
    omega
theorem top_bits {n : Nat} (hn : n < 4611686018427387904) : bits BinOp.or IntKind.u8 (mark (kN n) : Int) (IntKind.u8.wrap ((n : Int) / 2 ^ (8 * kN n))) = (topB n : Int) := by
  have h := topB_range hn
  have hk := kN_le n
  have h2 := kN_cases n
  have e : (n : Int) / 2 ^ (8 * kN n) = ((n / 256 ^ kN n : Nat) : Int) := by
    rw [p256]; simp
  have hx : n / 256 ^ kN n < 2 ^ (8 - kN n) := by
    have h1 : mark (kN n) + n / 256 ^ kN n < 256 := h.2.1
    have key : ∀ k, k ≤ 8 → 256 ≤ mark k + 2 ^ (8 - k) := by decide
    have := key _ hk
    omega
  have key : ∀ k, k ≤ 8 → ∀ x, x < 2 ^ (8 - k) → bits BinOp.or IntKind.u8 (mark k : Int) (IntKind.u8.wrap ((x : Nat) : Int)) = ((mark k + x : Nat) : Int) := by decide +kernel
  rw [e, key _ hk _ hx]
  rfl
theorem low_byte (n i : Nat) : IntKind.u8.wrap ((n : Int) / 2 ^ (8 * i)) = ((n / 256 ^ i % 256 : Nat) : Int) := by
  have e : (n : Int) / 2 ^ (8 * i) = ((n / 256 ^ i : Nat) : Int) := by
    rw [p256]; simp
  rw [e]
  simp [IntKind.wrap, IntKind.bits, IntKind.signed]

end Go.Proofs.Ytmhddpgeiijhgaa

/-
  Numbers with a sign, texts, and the chapter's examples, by the program and by the document.
-/
namespace Go.Proofs.Ytmhddpgeiijhgaa
open Go.RowKit

theorem num_bad {n : Int} (h : ¬ (0 ≤ n ∧ n ≤ 4611686018427387903)) : numS n = ⟨#[]⟩ ∧ numE n = 2 := by
  unfold numS numE
  rw [if_neg h, if_neg h]
  exact ⟨rfl, rfl⟩
theorem num_ok {n : Nat} (h : n < 4611686018427387904) : numS n = encS n ∧ numE n = 0 := by
  unfold numS numE
  rw [if_pos (by omega), if_pos (by omega), Int.toNat_natCast]
  exact ⟨rfl, rfl⟩

/-- A number with a sign as one without. -/
def zig (n : Int) : Int := if n < 0 then -2 * n - 1 else 2 * n
def intS (n : Int) : ByteArray := if -2305843009213693952 ≤ n ∧ n ≤ 2305843009213693951 then numS (zig n) else ⟨#[]⟩
def intE (n : Int) : Int := if -2305843009213693952 ≤ n ∧ n ≤ 2305843009213693951 then numE (zig n) else 2
def IntPost (n : Int) (w : World) (e : Ending) (w' : World) : Prop := e = .returned (.tuple #[.string (intS n), .int .i64 (intE n)]) ∧ Below w.heap.size w w'
theorem int_bad {n : Int} (h : ¬ (-2305843009213693952 ≤ n ∧ n ≤ 2305843009213693951)) : intS n = ⟨#[]⟩ ∧ intE n = 2 := by
  unfold intS intE
  rw [if_neg h, if_neg h]
  exact ⟨rfl, rfl⟩
theorem int_ok {n z : Int} (h : -2305843009213693952 ≤ n ∧ n ≤ 2305843009213693951) (hz : zig n = z) : intS n = numS z ∧ intE n = numE z := by
  unfold intS intE
  rw [if_pos h, if_pos h, hz]
  exact ⟨rfl, rfl⟩
theorem zig_neg {n : Int} (h : n < 0) : zig n = -2 * n - 1 := by unfold zig; rw [if_pos h]
theorem zig_pos {n : Int} (h : ¬ n < 0) : zig n = 2 * n := by unfold zig; rw [if_neg h]

abbrev Ret (F : Nat) (args : Array Value) (w : World) (v : Value) : Prop := Calls Try.prog F args w fun e w' => e = .returned v ∧ Below w.heap.size w w'
theorem ret_s {s t : ByteArray} (h : s = t) : Ending.returned (.string s) = .returned (.string t) := by rw [h]

end Go.Proofs.Ytmhddpgeiijhgaa

/-
  Fields in memory; the document's one, Right and Get.
-/
namespace Go.Proofs.Ytmhddpgeiijhgaa
open Go.RowKit

/-- A field as a value. -/
abbrev fv (f : Fd) : Value := .agg #[.string f.n, .int .i64 f.v]
/-- From A on the fields of l lie, one behind the other. -/
def Fields (w : World) (A : Option Addr) (l : List Fd) : Prop := ∀ i f, l[i]? = some f → ∃ g off, A = some ⟨g, off, none⟩ ∧ w.cell? ⟨g, off + i * 2, none⟩ = some (.string f.n) ∧ w.cell? ⟨g, off + i * 2 + 1, none⟩ = some (.int .i64 f.v)
theorem Fields.below {w w' : World} {A : Option Addr} {l : List Fd} (h : Fields w A l) (hb : Below w.heap.size w w') : Fields w' A l := fun i f hf => by
  obtain ⟨g, off, rfl, c0, c1⟩ := h i f hf
  exact ⟨g, off, rfl, keepc hb c0, keepc hb c1⟩
theorem Fields.nil (w : World) (A : Option Addr) : Fields w A [] := fun i f h => by simp at h
theorem Fields.at {w : World} {g off k : Nat} {f : Fd} {l : List Fd} (h : Fields w (some ⟨g, off, none⟩) l) (hf : l[k]? = some f) : w.cell? ⟨g, off + k * 2, none⟩ = some (.string f.n) ∧ w.cell? ⟨g, off + k * 2 + 1, none⟩ = some (.int .i64 f.v) := by
  obtain ⟨g', off', e, c0, c1⟩ := h k f hf
  injection e with e
  injection e with e1 e2
  subst e1 e2
  exact ⟨c0, c1⟩
/-- Fields whose names are not too long. -/
def okF (l : List Fd) : Prop := ∀ f ∈ l, f.n.size ≤ 9223372036854775807

theorem intE_val (v : Int) : intE v = if valB v then 0 else 2 := by
  unfold valB
  by_cases h : -2305843009213693952 ≤ v ∧ v ≤ 2305843009213693951
  · rw [(int_ok h rfl).2, if_pos (by simp [h.1, h.2])]
    unfold numE zig
    split <;> rw [if_pos (by omega)]
  · rw [(int_bad h).2, if_neg]
    simp only [Bool.and_eq_true, decide_eq_true_eq]
    exact h

theorem drop_consF {l : List Fd} {k : Nat} {f : Fd} (h : l[k]? = some f) : l.drop k = f :: l.drop (k + 1) := by
  have hk : k < l.length := by
    rcases Nat.lt_or_ge k l.length with h' | h'
    · exact h'
    · rw [List.getElem?_eq_none h'] at h; cases h
  rw [List.drop_eq_getElem_cons hk]
  rw [List.getElem?_eq_getElem hk] at h
  rw [Option.some.inj h]
theorem rightG_none (f : Fd) (l : List Fd) : rightG none (f :: l) = if oneE f = 0 then rightG (some f.n) l else oneE f := rfl
theorem rightG_some (p : ByteArray) (f : Fd) (l : List Fd) : rightG (some p) (f :: l) = if oneE f = 0 then (if aheadB p f.n then rightG (some f.n) l else 16) else oneE f := rfl
theorem rightG_bad (o : Option ByteArray) {f : Fd} (l : List Fd) (h : oneE f ≠ 0) : rightG o (f :: l) = oneE f := by
  cases o
  · rw [rightG_none, if_neg h]
  · rw [rightG_some, if_neg h]

end Go.Proofs.Ytmhddpgeiijhgaa

/-
  append of fields onto a list of the call's own, whatever the source, also as one step of a statement whose order is open.
-/
namespace Go.Proofs.Ytmhddpgeiijhgaa
open Go.RowKit

abbrev FT : TypeId := 69
theorem Try.infoField : (Try.prog.info? FT).map (fun i => (i.zero, i.size, i.bytes)) = some (some (.agg #[.string ⟨#[]⟩, .int .i64 0]), 2, 24) := by kernel_rfl
/-- The cells of fields. -/
def flatF : List Fd → List Value
  | [] => []
  | f :: l => .string f.n :: .int .i64 f.v :: flatF l
theorem flatF_length : ∀ l : List Fd, (flatF l).length = l.length * 2
  | [] => rfl
  | f :: l => by have := flatF_length l; simp [flatF]; omega
theorem flatF_append : ∀ l m : List Fd, flatF (l ++ m) = flatF l ++ flatF m
  | [], _ => rfl
  | f :: l, m => by rw [List.cons_append, flatF, flatF, flatF_append l m]; rfl
theorem flatF_get : ∀ (l : List Fd) (i : Nat) (f : Fd), l[i]? = some f → (flatF l)[i * 2]? = some (.string f.n) ∧ (flatF l)[i * 2 + 1]? = some (.int .i64 f.v)
  | [], _, _, h => by simp at h
  | g :: l, 0, f, h => by
    obtain rfl : g = f := by simpa using h
    exact ⟨rfl, rfl⟩
  | g :: l, i + 1, f, h => by
    have ih := flatF_get l i f (by simpa using h)
    rw [show (i + 1) * 2 = i * 2 + 2 from by omega]
    exact ih
theorem flatF_one : ∀ l : List Fd, ∀ u ∈ flatF l, u.oneCell' = true
  | [], u, h => by simp [flatF] at h
  | f :: l, u, h => by
    rcases List.mem_cons.1 h with rfl | h
    · rfl
    · rcases List.mem_cons.1 h with rfl | h
      · rfl
      · exact flatF_one l u h
abbrev ownF (w : World) (base : Nat) (v : Value) (l : List Fd) : Prop := w.ownsRow base FT 2 v l.length (flatF l)
theorem own_fields {w : World} {base : Nat} {v : Value} {l : List Fd} (h : ownF w base v l) : ∃ A c, v = .slice A l.length c ∧ Fields w A l ∧ (A = none → c = 0) ∧ l.length ≤ c := by
  rcases h.2 with ⟨hv, h0⟩ | ⟨g, cap, cur, hv, _, _, hn, _⟩
  · obtain rfl : l = [] := List.eq_nil_of_length_eq_zero h0
    exact ⟨_, _, hv, Fields.nil _ _, fun _ => rfl, Nat.zero_le _⟩
  · refine ⟨_, _, hv, fun i f hf => ?_, (fun h => by cases h), hn⟩
    have add : ∀ n, (⟨g, 0, none⟩ : Addr).add n = ⟨g, 0 + n, none⟩ := fun n => by unfold Addr.add; split <;> simp_all
    obtain ⟨f0, f1⟩ := flatF_get l i f hf
    have c0 := h.cells (g := g) (by rw [hv]; rfl) _ _ f0
    have c1 := h.cells (g := g) (by rw [hv]; rfl) _ _ f1
    rw [add] at c0 c1
    exact ⟨g, 0, rfl, c0, by rw [Nat.add_assoc]; exact c1⟩
theorem own_belowF {w w' : World} {base e size n : Nat} {v : Value} {xs : List Value} (h : w.ownsRow base e size v n xs) (hb : Below w.heap.size w w') : w'.ownsRow base e size v n xs :=
  h.kept (row := none) ⟨hb.os, hb.tape, hb.output, hb.size, fun k hk _ => hb.block k hk⟩ (by cases v.ownBlock <;> simp)
theorem own_lowerF {w : World} {b b' : Nat} {v : Value} {ts : List Fd} (hb : b ≤ b') (h : ownF w b' v ts) : ownF w b v ts := by
  refine ⟨h.1, ?_⟩
  rcases h.2 with h2 | ⟨g, cap, cur, hv, hg, r⟩
  · exact .inl h2
  · exact .inr ⟨g, cap, cur, hv, by omega, r⟩
theorem flatF_cell {w : World} {g off : Nat} {l : List Fd} (h : Fields w (some ⟨g, off, none⟩) l) {j : Nat} {u : Value} (hu : (flatF l)[j]? = some u) : w.cell? ((⟨g, off, none⟩ : Addr).add j) = some u := by
  have hj : j < l.length * 2 := by
    rcases Nat.lt_or_ge j (flatF l).length with h1 | h1
    · rw [flatF_length] at h1; exact h1
    · rw [List.getElem?_eq_none h1] at hu; cases hu
  obtain ⟨f, hf⟩ : ∃ f, l[j / 2]? = some f := ⟨_, List.getElem?_eq_getElem (by omega)⟩
  obtain ⟨e0, e1⟩ := flatF_get l (j / 2) f hf
  obtain ⟨c0, c1⟩ := h.at hf
  rw [Go.WideShapes.add_plain]
  rcases Nat.mod_two_eq_zero_or_one j with h2 | h2
  · rw [show j / 2 * 2 = j from by omega] at e0 c0
    rw [e0] at hu
    injection hu with hu
    rw [← hu]; exact c0
  · rw [show j / 2 * 2 + 1 = j from by omega] at e1
    rw [Nat.add_assoc, show j / 2 * 2 + 1 = j from by omega] at c1
    rw [e1] at hu
    injection hu with hu
    rw [← hu]; exact c1

theorem run_appF (w : World) {base : Nat} {v : Value} {ts : List Fd} (hown : ownF w base v ts) (B : Option Addr) (c : Nat) (xs : List Fd) (hx : Fields w B xs) (hc : B = none → c = 0)
    (hl : ts.length + xs.length ≤ 1000000) (hbase : base ≤ w.heap.size) (ty : TypeId) :
    ∃ v' w', (Builtin.append_ #[49, 49] ty #[v, .slice B xs.length c]).run Try.prog w = .ok v' w' ∧ ownF w' base v' (ts ++ xs) ∧ w.grownBy w' v.ownBlock ∧ (v'.ownBlock = v.ownBlock ∨ v'.ownBlock = some w.heap.size) := by
  obtain ⟨i0, hi, hz0, hz1, hz2⟩ := info_parts Try.infoField
  rcases B with _ | ad
  · obtain rfl : xs = [] := by
      rcases xs with _ | ⟨x, xs⟩
      · rfl
      · obtain ⟨_, _, h, _⟩ := hx 0 x (by simp)
        cases h
    obtain rfl := hc rfl
    exact ⟨v, w, run_append_owned_none (P := Try.prog) w base 49 ty FT i0 2 Try.underlying49 hi v _ _ hown, by simpa [ownF] using hown, World.grownBy.refl _ _, .inl rfl⟩
  · have hcell : ∀ j u, (flatF xs)[j]? = some u → w.cell? (ad.add j) = some u := fun j u hu => by
      rcases xs with _ | ⟨p, xs⟩
      · simp [flatF] at hu
      · obtain ⟨g, off, he, _⟩ := hx 0 p (by simp)
        obtain rfl : ad = ⟨g, off, none⟩ := Option.some.inj he
        exact flatF_cell hx hu
    obtain ⟨v', w', hrun, h2, h3, _, h5⟩ := run_append_own_at (P := Try.prog) w base 49 ty FT i0 (.agg #[.string ⟨#[]⟩, .int .i64 0]) 2 24 Try.underlying49 hi hz0 hz1 hz2 rfl (by decide) v _ _ hown ad xs.length c (flatF xs) (flatF_length xs) hcell
      (flatF_one xs) (by unfold maxLen; omega) (by omega) hbase
    exact ⟨v', w', hrun, by unfold ownF; rw [flatF_append, List.length_append]; exact h2, h3, h5⟩

theorem step_appF {ops : Array Oper} {o : Oper} {a : Act} {w : World} {K : Act → World → Prop} {Q : Exit → Act → World → Prop} {E : Prop} (hgd : o.guard = none) (s x : Operand)
    (ho : o.op = .call { callee := .builtin .append, args := #[s, x], argTypes := #[49, 49] })
    {base : Nat} {v : Value} {ts : List Fd} (hs : a.eval s = v) (hown : ownF w base v ts) {B : Option Addr} {c m : Nat} {xs : List Fd} (hv : a.eval x = .slice B m c) (hm : m = xs.length) (hx : Fields w B xs) (hc : B = none → c = 0)
    (hl : ts.length + xs.length ≤ 1000000) (hbase : base ≤ w.heap.size)
    (h : ∀ v' w', ownF w' base v' (ts ++ xs) → w.grownBy w' v.ownBlock → (v'.ownBlock = v.ownBlock ∨ v'.ownBlock = some w.heap.size) → K (a.put o.dst v') w') :
    if Region.wanted o (yielded ops a.tmps) = true then Oper.wp Try.prog o a w K Q else E := by
  subst hm
  have hw : Region.wanted o (yielded ops a.tmps) = true := by simp [Region.wanted, hgd]
  rw [if_pos hw]
  obtain ⟨v', w', hrun, h2, h3, h4⟩ := run_appF w hown B c xs hx hc hl hbase o.type
  unfold Oper.wp execOp
  simp only [ho, resolve, invoke, builtin, Sem.run_bind, Sem.run_pure, Result.andThen_ok, List.map_toArray, List.map_cons, List.map_nil, hs, hv, hrun]
  exact h v' w' h2 h3 h4

theorem below_grownF {a w w1 : World} {row : Option Nat} (h : Below a.heap.size a w) (hg : w.grownBy w1 row) (hr : ∀ r, row = some r → a.heap.size ≤ r) : Below a.heap.size a w1 := h.grown hg h.size hr
theorem own_emptyF {w : World} {b base : Nat} (h : w.heap[b]? = some (.cells #[] FT (0, 0))) (hb : base ≤ b) : ownF w base (.slice (some ⟨b, 0, none⟩) 0 0) [] :=
  ⟨rfl, .inr ⟨b, 0, #[], rfl, hb, h, by simp, by simp [maxLen], (by simp; try rfl), (by simp; try rfl)⟩⟩
/-- The block of one field. -/
abbrev oc (f : Fd) : Obj := .cells #[.string f.n, .int .i64 f.v] FT
theorem own_f1 (W : World) : ownF (W.alloc (.cells #[] FT)).drew W.heap.size (.slice (some ⟨W.heap.size, 0, none⟩) 0 0) [] := own_emptyF (heap_alloc_new W _) (Nat.le_refl _)
theorem own_f2 (W : World) (x : Fd) : ownF ((W.alloc (.cells #[] FT)).alloc (oc x)).drew W.heap.size (.slice (some ⟨W.heap.size, 0, none⟩) 0 0) [] :=
  own_emptyF ((Below.heap_alloc (W.alloc (.cells #[] FT)) _ W.heap.size (by simp)).trans (heap_alloc_new W _)) (Nat.le_refl _)
theorem own_f3 (W : World) (x : Fd) : ownF ((W.alloc (oc x)).alloc (.cells #[] FT)).drew W.heap.size (.slice (some ⟨W.heap.size + 1, 0, none⟩) 0 0) [] :=
  own_emptyF (w := ((W.alloc (oc x)).alloc (.cells #[] FT))) (by have := heap_alloc_new (W.alloc (oc x)) (.cells #[] FT); simpa using this) (by omega)
theorem field_cell {w : World} {b : Nat} {x : Fd} (h : w.cell? ⟨b, 0, none⟩ = some (.string x.n)) (h1 : w.cell? ⟨b, 1, none⟩ = some (.int .i64 x.v)) : Fields w (some ⟨b, 0, none⟩) [x] := fun i y hy => by
  rcases i with _ | i
  · obtain rfl : x = y := by simpa using hy
    exact ⟨_, _, rfl, by simpa using h, by simpa using h1⟩
  · simp at hy
theorem field_one (w : World) (x : Fd) (t : TypeId) : Fields (w.alloc (.cells #[.string x.n, .int .i64 x.v] t)) (some ⟨w.heap.size, 0, none⟩) [x] := field_cell (by simp [go_sem]) (by simp [go_sem])
theorem x_f2 {W w1 : World} {x : Fd} (hg : ((W.alloc (.cells #[] FT)).alloc (oc x)).drew.grownBy w1 (Value.slice (some ⟨W.heap.size, 0, none⟩) 0 0).ownBlock) : Fields w1 (some ⟨W.heap.size + 1, 0, none⟩) [x] :=
  field_cell (hg.cell (by simp [go_sem]) (by simp [Value.ownBlock])) (hg.cell (by simp [go_sem]) (by simp [Value.ownBlock]))
theorem x_f3 {W w1 : World} {x : Fd} (hg : ((W.alloc (oc x)).alloc (.cells #[] FT)).drew.grownBy w1 (Value.slice (some ⟨W.heap.size + 1, 0, none⟩) 0 0).ownBlock) : Fields w1 (some ⟨W.heap.size, 0, none⟩) [x] :=
  field_cell (hg.cell (by simp [go_sem]) (by simp [Value.ownBlock])) (hg.cell (by simp [go_sem]) (by simp [Value.ownBlock]))
theorem Fields.take {w : World} {A : Option Addr} {l : List Fd} (h : Fields w A l) (k : Nat) : Fields w A (l.take k) := fun i x hx => by
  rcases Nat.lt_or_ge i k with hi | hi
  · rw [List.getElem?_take_of_lt hi] at hx
    exact h i x hx
  · rw [List.getElem?_take_eq_none hi] at hx
    cases hx
theorem Fields.drop {w : World} {g off : Nat} {l : List Fd} (h : Fields w (some ⟨g, off, none⟩) l) (k : Nat) : Fields w (some ⟨g, off + k * 2, none⟩) (l.drop k) := fun i x hx => by
  rw [List.getElem?_drop] at hx
  obtain ⟨c0, c1⟩ := h.at hx
  exact ⟨g, off + k * 2, rfl, by rw [Nat.add_assoc, ← Nat.add_mul]; exact c0, by rw [Nat.add_assoc off, ← Nat.add_mul]; exact c1⟩

end Go.Proofs.Ytmhddpgeiijhgaa

/-
  A list of fields as a value, a list of such lists.
-/
namespace Go.Proofs.Ytmhddpgeiijhgaa
open Go.RowKit

/-- A list of fields as a value. -/
def ListF (W : World) (v : Value) (l : List Fd) : Prop := ∃ A c, v = .slice A l.length c ∧ Fields W A l ∧ l.length ≤ c ∧ (A = none → c = 0)
/-- A list of lists. -/
def RowsF (W : World) (A : Option Addr) (L : List (List Fd)) : Prop := ∀ i l, L[i]? = some l → ∃ g off v, A = some ⟨g, off, none⟩ ∧ W.cell? ⟨g, off + i, none⟩ = some v ∧ ListF W v l

theorem ListF.below {w w' : World} {v : Value} {l : List Fd} (h : ListF w v l) (hb : Below w.heap.size w w') : ListF w' v l := by
  obtain ⟨A, c, e, h1, h2, h3⟩ := h
  exact ⟨A, c, e, h1.below hb, h2, h3⟩
theorem RowsF.below {w w' : World} {A : Option Addr} {L : List (List Fd)} (h : RowsF w A L) (hb : Below w.heap.size w w') : RowsF w' A L := fun i l hl => by
  obtain ⟨g, off, v, e, hc, hv⟩ := h i l hl
  exact ⟨g, off, v, e, keepc hb hc, hv.below hb⟩
theorem ListF.nil (w : World) : ListF w (.slice none 0 0) [] := ⟨none, 0, rfl, Fields.nil _ _, Nat.le_refl _, fun _ => rfl⟩
theorem ListF.own {w : World} {base : Nat} {v : Value} {l : List Fd} (h : ownF w base v l) : ListF w v l := by
  obtain ⟨A, c, e, h1, h2, h3⟩ := own_fields h
  exact ⟨A, c, e, h1, h3, h2⟩
theorem wpList_appF {ops : Array Oper} {rest : List Oper} {o : Oper} {a : Act} {w : World} {Q : Exit → Act → World → Prop} (hgd : o.guard = none) (s x : Operand)
    (ho : o.op = .call { callee := .builtin .append, args := #[s, x], argTypes := #[49, 49] })
    {base : Nat} {v : Value} {ts : List Fd} (hs : a.eval s = v) (hown : ownF w base v ts) {B : Option Addr} {c m : Nat} {xs : List Fd} (hv : a.eval x = .slice B m c) (hm : m = xs.length) (hx : Fields w B xs) (hc : B = none → c = 0)
    (hl : ts.length + xs.length ≤ 1000000) (hbase : base ≤ w.heap.size)
    (h : ∀ v' w', ownF w' base v' (ts ++ xs) → w.grownBy w' v.ownBlock → wpList Try.prog ops Q rest (a.put o.dst v') w') : wpList Try.prog ops Q (o :: rest) a w := by
  subst hm
  obtain ⟨v', w', hrun, h2, h3, h4⟩ := run_appF w hown B c xs hx hc hl hbase o.type
  refine wpList_plain hgd fun _ hK => ?_
  unfold Oper.wp execOp
  simp only [ho, resolve, invoke, builtin, Sem.run_bind, Sem.run_pure, Result.andThen_ok, List.map_toArray, List.map_cons, List.map_nil, hs, hv, hrun]
  exact hK _ _ (h v' w' h2 h3)
/-- A list of the call's own, whose blocks lie from that world on. -/
structure OF (W : World) (l : List Fd) (v : Value) (w : World) : Prop where
  own : ownF w W.heap.size v l
  bel : Below W.heap.size W w
theorem OF.nil (W : World) : OF W [] (.slice none 0 0) W := ⟨World.ownsRow_nil _ _ _ _, bl W⟩
theorem OF.below {W w w' : World} {l : List Fd} {v : Value} (h : OF W l v w) (hb : Below w.heap.size w w') : OF W l v w' := ⟨own_belowF h.own hb, chain h.bel hb⟩
theorem OF.grown {W w w' : World} {l m : List Fd} {v v' : Value} (h : OF W l v w) (hg : w.grownBy w' v.ownBlock) (hown : ownF w' W.heap.size v' m) : OF W m v' w' :=
  ⟨hown, below_grownF h.bel hg (fun r hr => (h.own.lt r hr).1)⟩
theorem OF.list {W w : World} {l : List Fd} {v : Value} (h : OF W l v w) : ListF w v l := ListF.own h.own
theorem OF.set {W w : World} {l : List Fd} {v : Value} (h : OF W l v w) {b o : Nat} (u : Value) (hne : v.ownBlock ≠ some b) (hb : W.heap.size ≤ b) : OF W l v (w.setCell ⟨b, o, none⟩ u) :=
  ⟨h.own.kept (row := some b) ⟨rfl, rfl, rfl, by simp [World.setCell], fun k _ hk => Below.heap_setCell _ _ _ _ (fun e => hk (by simp [e]))⟩ (Or.inr hne), h.bel.setCell (p := ⟨b, o, none⟩) hb u⟩
theorem OF.ne {W w : World} {l : List Fd} {v : Value} (h : OF W l v w) : v.ownBlock ≠ some w.heap.size := fun e => by
  have := (h.own.lt _ e).2
  omega
/-- A list of the call's own, and a field of its own in block b. -/
structure FW (W0 : World) (acc : List Fd) (o : Value) (b : Nat) (x : Fd) (W : World) : Prop where
  of : OF W0 acc o W
  ne : o.ownBlock ≠ some b
  le : W0.heap.size ≤ b
  lt : b < W.heap.size
  c0 : W.cell? ⟨b, 0, none⟩ = some (.string x.n)
  c1 : W.cell? ⟨b, 1, none⟩ = some (.int .i64 x.v)
  f0 : W.frozen? ⟨b, 0, none⟩ = false
  f1 : W.frozen? ⟨b, 1, none⟩ = false
theorem FW.set0 {W0 W : World} {acc : List Fd} {o : Value} {b : Nat} {x : Fd} (h : FW W0 acc o b x W) (s : ByteArray) : FW W0 acc o b ⟨s, x.v⟩ (W.setCell ⟨b, 0, none⟩ (.string s)) :=
  ⟨h.of.set _ h.ne h.le, h.ne, h.le, by simpa [World.setCell] using h.lt, World.cell?_setCell_same _ _ _ h.c0, (World.cell?_setCell_other _ _ _ _ (by simp)).trans h.c1, by simpa [go_sem] using h.f0, by simpa [go_sem] using h.f1⟩
theorem FW.set1 {W0 W : World} {acc : List Fd} {o : Value} {b : Nat} {x : Fd} (h : FW W0 acc o b x W) (v : Int) : FW W0 acc o b ⟨x.n, v⟩ (W.setCell ⟨b, 1, none⟩ (.int .i64 v)) :=
  ⟨h.of.set _ h.ne h.le, h.ne, h.le, by simpa [World.setCell] using h.lt, (World.cell?_setCell_other _ _ _ _ (by simp)).trans h.c0, World.cell?_setCell_same _ _ _ h.c1, by simpa [go_sem] using h.f0, by simpa [go_sem] using h.f1⟩
theorem FW.below {W0 W w' : World} {acc : List Fd} {o : Value} {b : Nat} {x : Fd} (h : FW W0 acc o b x W) (hb : Below W.heap.size W w') : FW W0 acc o b x w' :=
  ⟨h.of.below hb, h.ne, h.le, Nat.lt_of_lt_of_le h.lt hb.size, keepc hb h.c0, keepc hb h.c1, (hb.frozen (p := ⟨b, 0, none⟩) h.lt).trans h.f0, (hb.frozen (p := ⟨b, 1, none⟩) h.lt).trans h.f1⟩
theorem FW.drewN {W0 W : World} {acc : List Fd} {o : Value} {b : Nat} {x : Fd} (h : FW W0 acc o b x W) (q : Nat) : FW W0 acc o b x (W.drewN q) := h.below ⟨rfl, rfl, rfl, Nat.le_refl _, fun _ _ => rfl⟩
/-- The field in the block is laid behind the list. -/
theorem FW.start {W0 w w2 : World} {acc : List Fd} {o : Value} {T : TypeId} {x : Fd} (h : OF W0 acc o w) (hb2 : Below (w.alloc (.cells #[.string x.n, .int .i64 x.v] T)).heap.size (w.alloc (.cells #[.string x.n, .int .i64 x.v] T)) w2) : FW W0 acc o w.heap.size x w2 :=
  FW.below (W := w.alloc (.cells #[.string x.n, .int .i64 x.v] T)) ⟨h.below ((bl w).alloc (Nat.le_refl _) _), h.ne, h.bel.size, by simp, by simp [go_sem], by simp [go_sem], by simp [go_sem], by simp [go_sem]⟩ hb2
theorem drop_consL {α : Type} {l : List α} {k : Nat} {f : α} (h : l[k]? = some f) : l.drop k = f :: l.drop (k + 1) := by
  have hk : k < l.length := by
    rcases Nat.lt_or_ge k l.length with h' | h'
    · exact h'
    · rw [List.getElem?_eq_none h'] at h; cases h
  rw [List.drop_eq_getElem_cons hk]
  rw [List.getElem?_eq_getElem hk] at h
  rw [Option.some.inj h]
theorem flat_split {L : List (List Fd)} {k : Nat} {row : List Fd} (h : L[k]? = some row) : L.flatten = (L.take k).flatten ++ (row ++ (L.drop (k + 1)).flatten) := by
  have e := List.take_append_drop k L
  rw [drop_consL h] at e
  have := congrArg List.flatten e
  rw [List.flatten_append, List.flatten_cons] at this
  exact this.symm
theorem flat_next {L : List (List Fd)} {k : Nat} {row : List Fd} (h : L[k]? = some row) : (L.take (k + 1)).flatten = (L.take k).flatten ++ row := by
  rw [List.take_add_one, h, Option.toList_some, List.flatten_append, List.flatten_cons, List.flatten_nil, List.append_nil]
theorem flat_pre {L : List (List Fd)} {k : Nat} {row : List Fd} (h : L[k]? = some row) (t : Nat) : ((L.take k).flatten ++ row.take t).length ≤ L.flatten.length := by
  rw [flat_split h, List.length_append, List.length_append, List.length_append, List.length_take]
  omega

/-- Fields that are laid in a new block. -/
theorem fields_new (w : World) (l : List Fd) (T : TypeId) : Fields (w.alloc (.cells (flatF l).toArray T)) (some ⟨w.heap.size, 0, none⟩) l := fun i f hf => by
  obtain ⟨h0, h1⟩ := flatF_get l i f hf
  refine ⟨w.heap.size, 0, rfl, ?_, ?_⟩
  · rw [cell_of_row _ _ _ _ T (0, 0) (heap_alloc_new w _), Nat.zero_add]
    simpa using h0
  · rw [cell_of_row _ _ _ _ T (0, 0) (heap_alloc_new w _), Nat.zero_add]
    simpa using h1
theorem list_new (w : World) (l : List Fd) (T : TypeId) : ListF (w.alloc (.cells (flatF l).toArray T)) (.slice (some ⟨w.heap.size, 0, none⟩) l.length l.length) l := ⟨_, _, rfl, fields_new w l T, Nat.le_refl _, fun h => by cases h⟩
/-- Lists that are laid in a new block. -/
theorem rows_new (w : World) (T : TypeId) (vs : List Value) (L : List (List Fd)) (h : ∀ (i : Nat) (l : List Fd), L[i]? = some l → ∃ v, vs[i]? = some v ∧ ListF w v l) : RowsF (w.alloc (.cells vs.toArray T)) (some ⟨w.heap.size, 0, none⟩) L := fun i l hl => by
  obtain ⟨v, hv, hL⟩ := h i l hl
  refine ⟨w.heap.size, 0, v, rfl, ?_, hL.below ((bl w).alloc (Nat.le_refl _) _)⟩
  rw [cell_of_row _ _ _ _ T (0, 0) (heap_alloc_new w _), Nat.zero_add]
  simpa using hv
theorem rows_two {w : World} {T : TypeId} {u v : Value} {a b : List Fd} (ha : ListF w u a) (hb : ListF w v b) : RowsF (w.alloc (.cells #[u, v] T)) (some ⟨w.heap.size, 0, none⟩) [a, b] :=
  rows_new w T [u, v] [a, b] fun i l hl => by
    match i, hl with
    | 0, hl => obtain rfl : a = l := by simpa using hl
               exact ⟨u, rfl, ha⟩
    | 1, hl => obtain rfl : b = l := by simpa using hl
               exact ⟨v, rfl, hb⟩
theorem rows_three {w : World} {T : TypeId} {u v x : Value} {a b c : List Fd} (ha : ListF w u a) (hb : ListF w v b) (hc : ListF w x c) : RowsF (w.alloc (.cells #[u, v, x] T)) (some ⟨w.heap.size, 0, none⟩) [a, b, c] :=
  rows_new w T [u, v, x] [a, b, c] fun i l hl => by
    match i, hl with
    | 0, hl => obtain rfl : a = l := by simpa using hl
               exact ⟨u, rfl, ha⟩
    | 1, hl => obtain rfl : b = l := by simpa using hl
               exact ⟨v, rfl, hb⟩
    | 2, hl => obtain rfl : c = l := by simpa using hl
               exact ⟨x, rfl, hc⟩

end Go.Proofs.Ytmhddpgeiijhgaa

/-
  The document's Get and Same.
-/
namespace Go.Proofs.Ytmhddpgeiijhgaa
open Go.RowKit

theorem bytes_is {s t : ByteArray} : s.toList = t.toList ↔ nats s = nats t := by
  constructor
  · intro h
    rw [ByteArray.toList_eq, ByteArray.toList_eq] at h
    unfold nats; rw [h]
  · intro h; rw [nats_inj h]
theorem ret_ib {a b : Int} {c d : Bool} (h : a = b) (k : c = d) : Ending.returned (.tuple #[.int .i64 a, .bool c]) = .returned (.tuple #[.int .i64 b, .bool d]) := by rw [h, k]

/-- Are two lists the same, field by field? -/
def sameF : List Fd → List Fd → Bool
  | [], [] => true
  | f :: a, g :: b => decide (f.n.toList = g.n.toList ∧ f.v = g.v) && sameF a b
  | _, _ => false
theorem sameF_self : ∀ l : List Fd, sameF l l = true
  | [] => rfl
  | f :: l => by rw [sameF, sameF_self l]; simp
theorem sameF_eq : ∀ a b : List Fd, sameF a b = true → a = b
  | [], [], _ => rfl
  | [], _ :: _, h => by simp [sameF] at h
  | _ :: _, [], h => by simp [sameF] at h
  | f :: a, g :: b, h => by
    rw [sameF, Bool.and_eq_true, decide_eq_true_eq] at h
    obtain ⟨fn, fv⟩ := f
    obtain ⟨gn, gv⟩ := g
    obtain ⟨⟨h1, h2⟩, h3⟩ := h
    obtain rfl : fn = gn := nats_inj (bytes_is.1 h1)
    obtain rfl : fv = gv := h2
    rw [sameF_eq a b h3]
theorem sameF_len : ∀ a b : List Fd, a.length ≠ b.length → sameF a b = false
  | [], [], h => absurd rfl h
  | [], _ :: _, _ => rfl
  | _ :: _, [], _ => rfl
  | f :: a, g :: b, h => by rw [sameF, sameF_len a b (fun e => h (by rw [List.length_cons, List.length_cons, e])), Bool.and_false]
theorem Try.noGuardField : Try.prog.eqGuardType Try.prog.depth 69 = false := by kernel_rfl
set_option maxRecDepth 100000 in
theorem run_neq_field (f g : Fd) (w : World) : (binOp .neq 69 (fv f) (fv g)).run Try.prog w = .ok (.bool (!decide (f.n.toList = g.n.toList ∧ f.v = g.v))) w := by
  rw [run_neq_struct, run_equalIn_struct w 9999 69 _ _ Try.underlying69 (by kernel_rfl)]
  have h3 := Try.underlying3
  have h9 := Try.underlying9
  have a3 : ∀ w, (isAgg 3).run Try.prog w = .ok false w := Try.isAgg3
  have a9 : ∀ w, (isAgg 9).run Try.prog w = .ok false w := Try.isAgg9
  have c9 : Try.prog.cellsOf 9 = 1 := by kernel_rfl
  simp [Op.eqFields, Program.fieldsOf, Try.underlying69, part, a3, a9, run_equalIn_int w 9998 _ .i64 .i64 _ _ h3, run_equalIn_string w 9998 _ _ _ h9]
  by_cases h1 : f.n.toList = g.n.toList
  · by_cases h2 : f.v = g.v <;> simp [h1, h2]
  · simp [h1]

end Go.Proofs.Ytmhddpgeiijhgaa

/-
  Plain facts on versions: their order by stamps, what they make of the fields.
-/
namespace Go.Proofs.Ytmhddpgeiijhgaa

/-- A version; where its fields lie (fa, fc) is no part of what it says. -/
structure Vr where
  id : Int
  st : Int
  ent : ByteArray
  sf : Int
  se : Int
  fa : Option Addr
  fc : Nat
  fs : List Fd
  gone : Bool
/-- A version behind those whose stamps are not greater. -/
def insV : List Vr → Vr → List Vr
  | [], x => [x]
  | y :: l, x => if y.st ≤ x.st then y :: insV l x else x :: y :: l
def ordL (l : List Vr) : List Vr := l.foldl insV []
def SortedV (l : List Vr) : Prop := l.Pairwise fun a b => a.st ≤ b.st
theorem insV_perm : ∀ (l : List Vr) (x : Vr), (insV l x).Perm (x :: l)
  | [], x => .refl _
  | y :: l, x => by
    rw [insV]
    split
    · exact ((insV_perm l x).cons y).trans (List.Perm.swap x y l)
    · exact .refl _
theorem insV_sorted : ∀ (l : List Vr) (x : Vr), SortedV l → SortedV (insV l x)
  | [], x, _ => by simp [insV, SortedV]
  | y :: l, x, h => by
    have h' := List.pairwise_cons.1 h
    rw [insV]
    split
    · refine List.pairwise_cons.2 ⟨fun z hz => ?_, insV_sorted l x h'.2⟩
      rcases List.mem_cons.1 ((insV_perm l x).mem_iff.1 hz) with rfl | hz
      · assumption
      · exact h'.1 z hz
    · refine List.pairwise_cons.2 ⟨fun z hz => ?_, h⟩
      rcases List.mem_cons.1 hz with rfl | hz
      · omega
      · have := h'.1 z hz; omega
theorem foldl_perm : ∀ (l a : List Vr), (l.foldl insV a).Perm (a ++ l)
  | [], a => by rw [List.append_nil]; exact .refl _
  | x :: l, a => by
    refine (foldl_perm l (insV a x)).trans ?_
    refine ((insV_perm a x).append_right l).trans ?_
    rw [List.cons_append]
    exact (List.perm_middle (a := x) (l₁ := a) (l₂ := l)).symm
theorem foldl_sorted : ∀ (l a : List Vr), SortedV a → SortedV (l.foldl insV a)
  | [], _, h => h
  | x :: l, a, h => foldl_sorted l _ (insV_sorted a x h)
theorem ordL_perm (l : List Vr) : (ordL l).Perm l := foldl_perm l []
theorem ordL_sorted (l : List Vr) : SortedV (ordL l) := foldl_sorted l [] List.Pairwise.nil
theorem ordL_length (l : List Vr) : (ordL l).length = l.length := (ordL_perm l).length_eq
theorem ordL_snoc (l : List Vr) (x : Vr) : ordL (l ++ [x]) = insV (ordL l) x := by unfold ordL; rw [List.foldl_append]; rfl
/-- The place of a version among those that are in order. -/
theorem insV_at : ∀ (l : List Vr) (x : Vr) (k : Nat), k ≤ l.length → (∀ j y, j < k → l[j]? = some y → y.st ≤ x.st) → (∀ y, l[k]? = some y → x.st < y.st) → insV l x = l.take k ++ x :: l.drop k
  | [], x, k, hk, _, _ => by
    obtain rfl : k = 0 := by simpa using hk
    rfl
  | y :: l, x, 0, _, _, h => by
    have := h y rfl
    rw [insV, if_neg (by omega)]; rfl
  | y :: l, x, k + 1, hk, h1, h2 => by
    have := h1 0 y (by omega) rfl
    rw [insV, if_pos this, insV_at l x k (by simpa using hk) (fun j z hj hz => h1 (j + 1) z (by omega) (by simpa using hz)) (fun z hz => h2 z (by simpa using hz))]
    rfl
theorem sorted_le {l : List Vr} (h : SortedV l) {i j : Nat} {a b : Vr} (ha : l[i]? = some a) (hb : l[j]? = some b) (hij : i ≤ j) : a.st ≤ b.st := by
  rcases Nat.lt_or_ge i j with hlt | hge
  · have hi : i < l.length := (List.getElem?_eq_some_iff.1 ha).1
    have hj : j < l.length := (List.getElem?_eq_some_iff.1 hb).1
    have := List.pairwise_iff_getElem.1 h i j hi hj hlt
    rw [List.getElem?_eq_getElem hi] at ha
    rw [List.getElem?_eq_getElem hj] at hb
    rw [← Option.some.inj ha, ← Option.some.inj hb]
    exact this
  · obtain rfl : i = j := by omega
    rw [ha] at hb
    rw [Option.some.inj hb]
    exact Int.le_refl _
/-- Seen from the end: all from place k on are greater, the one ahead of it is not. -/
theorem insV_from {l : List Vr} (hs : SortedV l) (x : Vr) (k : Nat) (hk : k ≤ l.length) (h1 : ∀ j y, k ≤ j → l[j]? = some y → x.st < y.st) (h2 : k = 0 ∨ ∃ j y, k = j + 1 ∧ l[j]? = some y ∧ y.st ≤ x.st) : insV l x = l.take k ++ x :: l.drop k := by
  refine insV_at l x k hk (fun j y hj hy => ?_) (fun y hy => h1 k y (Nat.le_refl _) hy)
  rcases h2 with rfl | ⟨j', z, rfl, hz, hle⟩
  · omega
  · have := sorted_le hs hy hz (by omega)
    omega

/-- What versions make of the fields. -/
def countsV (l : List Vr) : List (List Fd) := ((ordL l).filter fun v => !v.gone).map Vr.fs
def ofL (l : List Vr) : List Fd := overL (countsV l).flatten
def coversB (v : Vr) (t : Int) : Bool := !v.gone && (decide (-1099511627776 ≤ v.sf) && decide (v.se ≤ 1099511627776) && decide (v.sf < v.se)) && (decide (v.sf ≤ t) && decide (t < v.se))
def atL (t : Int) (l : List Vr) : List Fd := ofL (l.filter fun v => coversB v t)
/-- The stamp of the last one that has a field of that name. -/
def setsB (v : Vr) (s : ByteArray) : Bool := (getL v.fs s).isSome && !v.gone
def lastS : List Vr → ByteArray → Option Int
  | [], _ => none
  | v :: l, s => match lastS l s with
    | some n => some n
    | none => if setsB v s then some v.st else none
def setL (s : ByteArray) (l : List Vr) : Option Int := lastS (ordL l) s
theorem lastS_snoc : ∀ (l : List Vr) (v : Vr) (s : ByteArray), lastS (l ++ [v]) s = if setsB v s then some v.st else lastS l s
  | [], v, s => by simp [lastS]
  | x :: l, v, s => by
    rw [List.cons_append, lastS, lastS_snoc l v s, lastS]
    by_cases h : setsB v s = true
    · rw [if_pos h, if_pos h]
    · rw [if_neg h, if_neg h]
/-- The names of which two lists do not say the same. -/
def differB (a b : List Fd) (s : ByteArray) : Bool := decide ((getL a s).getD 0 ≠ (getL b s).getD 0) || ((getL a s).isSome != (getL b s).isSome)
def chgL (a b : List Fd) : List ByteArray := ((overL (a ++ b)).map Fd.n).filter fun s => differB a b s
/-- Do two versions say the same? -/
def sameV (a b : Vr) : Bool := decide (a.id = b.id) && decide (a.st = b.st) && decide (a.ent.toList = b.ent.toList) && (decide (a.sf = b.sf) && decide (a.se = b.se)) && (a.gone == b.gone) && sameF a.fs b.fs
def sameVs : List Vr → List Vr → Bool
  | [], [] => true
  | a :: l, b :: m => sameV a b && sameVs l m
  | _, _ => false
theorem sameV_self (a : Vr) : sameV a a = true := by simp [sameV, sameF_self]
theorem sameVs_self : ∀ l : List Vr, sameVs l l = true
  | [] => rfl
  | a :: l => by rw [sameVs, sameV_self, sameVs_self l]; rfl
theorem sameVs_len : ∀ a b : List Vr, a.length ≠ b.length → sameVs a b = false
  | [], [], h => absurd rfl h
  | [], _ :: _, _ => rfl
  | _ :: _, [], _ => rfl
  | f :: a, g :: b, h => by rw [sameVs, sameVs_len a b (fun e => h (by rw [List.length_cons, List.length_cons, e])), Bool.and_false]

end Go.Proofs.Ytmhddpgeiijhgaa

/-
  Lists of elements of one type in memory, whatever the type: read, owned, appended to.
-/
namespace Go.Proofs.Ytmhddpgeiijhgaa
open Go.RowKit

/-- An element's type: its cells, its zero value. -/
structure El (α : Type) where
  s : TypeId
  e : TypeId
  sz : Nat
  bys : Nat
  z : Value
  cells : α → List Value
  pos : 0 < sz
  few : bys ≤ 1000
  len : ∀ x, (cells x).length = sz
  one : ∀ x, ∀ u ∈ cells x, u.oneCell' = true
  und : Try.prog.underlying s = some (.slice e)
  info : (Try.prog.info? e).map (fun i => (i.zero, i.size, i.bytes)) = some (some z, sz, bys)
  zs : z.cells.size = sz

section
variable {α : Type} (E : El α)
/-- From A on the elements of l lie, one behind the other. -/
def RowE (w : World) (A : Option Addr) (l : List α) : Prop := ∀ i x, l[i]? = some x → ∃ g off, A = some ⟨g, off, none⟩ ∧ ∀ j u, (E.cells x)[j]? = some u → w.cell? ⟨g, off + i * E.sz + j, none⟩ = some u
/-- A list as a value. -/
def ListE (w : World) (v : Value) (l : List α) : Prop := ∃ A c, v = .slice A l.length c ∧ RowE E w A l ∧ l.length ≤ c ∧ (A = none → c = 0)
def flatE (l : List α) : List Value := l.flatMap E.cells
abbrev ownE (w : World) (base : Nat) (v : Value) (l : List α) : Prop := w.ownsRow base E.e E.sz v l.length (flatE E l)
variable {E}
theorem RowE.below {w w' : World} {A : Option Addr} {l : List α} (h : RowE E w A l) (hb : Below w.heap.size w w') : RowE E w' A l := fun i x hx => by
  obtain ⟨g, off, rfl, hc⟩ := h i x hx
  exact ⟨g, off, rfl, fun j u hu => keepc hb (hc j u hu)⟩
theorem RowE.nil (w : World) (A : Option Addr) : RowE E w A [] := fun i x h => by simp at h
theorem RowE.at {w : World} {g off k : Nat} {x : α} {l : List α} (h : RowE E w (some ⟨g, off, none⟩) l) (hx : l[k]? = some x) {j : Nat} {u : Value} (hu : (E.cells x)[j]? = some u) : w.cell? ⟨g, off + k * E.sz + j, none⟩ = some u := by
  obtain ⟨g', off', e, hc⟩ := h k x hx
  injection e with e
  injection e with e1 e2
  subst e1 e2
  exact hc j u hu
theorem RowE.take {w : World} {A : Option Addr} {l : List α} (h : RowE E w A l) (k : Nat) : RowE E w A (l.take k) := fun i x hx => by
  rcases Nat.lt_or_ge i k with hi | hi
  · rw [List.getElem?_take_of_lt hi] at hx
    exact h i x hx
  · rw [List.getElem?_take_eq_none hi] at hx
    cases hx
theorem RowE.drop {w : World} {g off : Nat} {l : List α} (h : RowE E w (some ⟨g, off, none⟩) l) (k : Nat) : RowE E w (some ⟨g, off + k * E.sz, none⟩) (l.drop k) := fun i x hx => by
  rw [List.getElem?_drop] at hx
  refine ⟨g, off + k * E.sz, rfl, fun j u hu => ?_⟩
  have := h.at hx hu
  rwa [Nat.add_mul, ← Nat.add_assoc off] at this
theorem ListE.below {w w' : World} {v : Value} {l : List α} (h : ListE E w v l) (hb : Below w.heap.size w w') : ListE E w' v l := by
  obtain ⟨A, c, e, h1, h2, h3⟩ := h
  exact ⟨A, c, e, h1.below hb, h2, h3⟩
theorem ListE.nil (w : World) : ListE E w (.slice none 0 0) ([] : List α) := ⟨none, 0, rfl, RowE.nil _ _, Nat.le_refl _, fun _ => rfl⟩
theorem ListE.form {w : World} {v : Value} {l : List α} (h : ListE E w v l) : ∃ A c, v = .slice A l.length c ∧ ListE E w (.slice A l.length c) l := by
  obtain ⟨A, c, rfl, h1⟩ := h
  exact ⟨A, c, rfl, A, c, rfl, h1⟩
theorem flatE_cons (x : α) (l : List α) : flatE E (x :: l) = E.cells x ++ flatE E l := by simp [flatE]
theorem flatE_append (l m : List α) : flatE E (l ++ m) = flatE E l ++ flatE E m := by simp [flatE]
theorem flatE_length : ∀ l : List α, (flatE E l).length = l.length * E.sz
  | [] => by simp [flatE]
  | x :: l => by rw [flatE_cons, List.length_append, E.len, flatE_length l, List.length_cons, Nat.add_mul, Nat.one_mul, Nat.add_comm]
theorem flatE_get : ∀ (l : List α) (i : Nat) (x : α), l[i]? = some x → ∀ j u, (E.cells x)[j]? = some u → (flatE E l)[i * E.sz + j]? = some u
  | [], _, _, h, _, _, _ => by simp at h
  | y :: l, 0, x, h, j, u, hu => by
    obtain rfl : y = x := by simpa using h
    have hj : j < (E.cells y).length := by
      rcases Nat.lt_or_ge j (E.cells y).length with h' | h'
      · exact h'
      · rw [List.getElem?_eq_none h'] at hu; cases hu
    rw [Nat.zero_mul, Nat.zero_add, flatE_cons, List.getElem?_append_left hj]
    exact hu
  | y :: l, i + 1, x, h, j, u, hu => by
    have ih := flatE_get l i x (by simpa using h) j u hu
    rw [flatE_cons, List.getElem?_append_right (by rw [E.len, Nat.add_mul]; omega), E.len, show (i + 1) * E.sz + j - E.sz = i * E.sz + j by rw [Nat.add_mul]; omega]
    exact ih
theorem flatE_one (l : List α) : ∀ u ∈ flatE E l, u.oneCell' = true := fun u hu => by
  obtain ⟨x, _, hx⟩ := List.mem_flatMap.1 hu
  exact E.one x u hx
theorem flatE_cell {w : World} {g off : Nat} {l : List α} (h : RowE E w (some ⟨g, off, none⟩) l) {j : Nat} {u : Value} (hu : (flatE E l)[j]? = some u) : w.cell? ((⟨g, off, none⟩ : Addr).add j) = some u := by
  have hj : j < l.length * E.sz := by
    rcases Nat.lt_or_ge j (flatE E l).length with h1 | h1
    · rw [flatE_length] at h1; exact h1
    · rw [List.getElem?_eq_none h1] at hu; cases hu
  have hq : j / E.sz < l.length := (Nat.div_lt_iff_lt_mul E.pos).2 hj
  obtain ⟨x, hx⟩ : ∃ x, l[j / E.sz]? = some x := ⟨_, List.getElem?_eq_getElem hq⟩
  have hr : j % E.sz < (E.cells x).length := by rw [E.len]; exact Nat.mod_lt _ E.pos
  obtain ⟨u', hu'⟩ : ∃ u', (E.cells x)[j % E.sz]? = some u' := ⟨_, List.getElem?_eq_getElem hr⟩
  have e1 := flatE_get l _ x hx _ u' hu'
  have ej : j / E.sz * E.sz + j % E.sz = j := by rw [Nat.mul_comm]; exact Nat.div_add_mod j E.sz
  rw [ej] at e1
  rw [hu] at e1
  injection e1 with e1
  have c := h.at hx hu'
  rw [Nat.add_assoc, ej] at c
  rw [Go.WideShapes.add_plain, e1]
  exact c
theorem ownE_list {w : World} {base : Nat} {v : Value} {l : List α} (h : ownE E w base v l) : ListE E w v l := by
  rcases h.2 with ⟨hv, h0⟩ | ⟨g, cap, cur, hv, _, _, hn, _⟩
  · obtain rfl : l = [] := List.eq_nil_of_length_eq_zero h0
    exact ⟨none, 0, hv, RowE.nil _ _, Nat.zero_le _, fun _ => rfl⟩
  · refine ⟨_, _, hv, fun i x hx => ⟨g, 0, rfl, fun j u hu => ?_⟩, hn, (fun h => by cases h)⟩
    have c0 := h.cells (g := g) (by rw [hv]; rfl) _ _ (flatE_get l i x hx j u hu)
    rw [Go.WideShapes.add_plain] at c0
    rw [Nat.add_assoc]
    exact c0
theorem ownE_below {w w' : World} {base : Nat} {v : Value} {l : List α} (h : ownE E w base v l) (hb : Below w.heap.size w w') : ownE E w' base v l :=
  h.kept (row := none) ⟨hb.os, hb.tape, hb.output, hb.size, fun k hk _ => hb.block k hk⟩ (by cases v.ownBlock <;> simp)
theorem ownE_lower {w : World} {b b' : Nat} {v : Value} {l : List α} (hb : b ≤ b') (h : ownE E w b' v l) : ownE E w b v l := by
  refine ⟨h.1, ?_⟩
  rcases h.2 with h2 | ⟨g, cap, cur, hv, hg, r⟩
  · exact .inl h2
  · exact .inr ⟨g, cap, cur, hv, by omega, r⟩
theorem ownE_nil (w : World) (base : Nat) : ownE E w base (.slice none 0 0) ([] : List α) := World.ownsRow_nil _ _ _ _
theorem ownE_empty {w : World} {b base : Nat} (h : w.heap[b]? = some (.cells #[] E.e (0, 0))) (hb : base ≤ b) : ownE E w base (.slice (some ⟨b, 0, none⟩) 0 0) ([] : List α) :=
  ⟨by simp [flatE], .inr ⟨b, 0, #[], rfl, hb, h, by simp, by simp [maxLen], by simp, by simp [flatE]⟩⟩

theorem run_appE (w : World) {base : Nat} {v : Value} {ts : List α} (hown : ownE E w base v ts) (B : Option Addr) (c : Nat) (xs : List α) (hx : RowE E w B xs) (hc : B = none → c = 0)
    (hl : ts.length + xs.length ≤ 1000000) (hbase : base ≤ w.heap.size) (ty : TypeId) :
    ∃ v' w', (Builtin.append_ #[E.s, E.s] ty #[v, .slice B xs.length c]).run Try.prog w = .ok v' w' ∧ ownE E w' base v' (ts ++ xs) ∧ w.grownBy w' v.ownBlock ∧ (v'.ownBlock = v.ownBlock ∨ v'.ownBlock = some w.heap.size) := by
  obtain ⟨i0, hi, hz0, hz1, hz2⟩ := info_parts E.info
  rcases B with _ | ad
  · obtain rfl : xs = [] := by
      rcases xs with _ | ⟨x, xs⟩
      · rfl
      · obtain ⟨_, _, h, _⟩ := hx 0 x (by simp)
        cases h
    obtain rfl := hc rfl
    exact ⟨v, w, run_append_owned_none (P := Try.prog) w base E.s ty E.e i0 E.sz E.und hi v _ _ hown, by simpa [ownE] using hown, World.grownBy.refl _ _, .inl rfl⟩
  · have hcell : ∀ j u, (flatE E xs)[j]? = some u → w.cell? (ad.add j) = some u := fun j u hu => by
      rcases xs with _ | ⟨p, xs⟩
      · simp [flatE] at hu
      · obtain ⟨g, off, he, _⟩ := hx 0 p (by simp)
        obtain rfl : ad = ⟨g, off, none⟩ := Option.some.inj he
        exact flatE_cell hx hu
    have hby : (ts.length + xs.length) * E.bys ≤ 1000000 * 1000 := Nat.mul_le_mul hl E.few
    obtain ⟨v', w', hrun, h2, h3, _, h5⟩ := run_append_own_at (P := Try.prog) w base E.s ty E.e i0 E.z E.sz E.bys E.und hi hz0 hz1 hz2 E.zs E.pos v _ _ hown ad xs.length c (flatE E xs) (flatE_length xs) hcell
      (flatE_one xs) (by unfold maxLen; omega) (by omega) hbase
    exact ⟨v', w', hrun, by unfold ownE; rw [flatE_append, List.length_append]; exact h2, h3, h5⟩

theorem step_appE {ops : Array Oper} {o : Oper} {a : Act} {w : World} {K : Act → World → Prop} {Q : Exit → Act → World → Prop} {F : Prop} (hgd : o.guard = none) (s x : Operand) {t : TypeId} (ht : t = E.s)
    (ho : o.op = .call { callee := .builtin .append, args := #[s, x], argTypes := #[t, t] })
    {base : Nat} {v : Value} {ts : List α} (hs : a.eval s = v) (hown : ownE E w base v ts) {B : Option Addr} {c m : Nat} {xs : List α} (hv : a.eval x = .slice B m c) (hm : m = xs.length) (hx : RowE E w B xs) (hc : B = none → c = 0)
    (hl : ts.length + xs.length ≤ 1000000) (hbase : base ≤ w.heap.size)
    (h : ∀ v' w', ownE E w' base v' (ts ++ xs) → w.grownBy w' v.ownBlock → (v'.ownBlock = v.ownBlock ∨ v'.ownBlock = some w.heap.size) → K (a.put o.dst v') w') :
    if Region.wanted o (yielded ops a.tmps) = true then Oper.wp Try.prog o a w K Q else F := by
  subst hm ht
  have hw : Region.wanted o (yielded ops a.tmps) = true := by simp [Region.wanted, hgd]
  rw [if_pos hw]
  obtain ⟨v', w', hrun, h2, h3, h4⟩ := run_appE w hown B c xs hx hc hl hbase o.type
  unfold Oper.wp execOp
  simp only [ho, resolve, invoke, builtin, Sem.run_bind, Sem.run_pure, Result.andThen_ok, List.map_toArray, List.map_cons, List.map_nil, hs, hv, hrun]
  exact h v' w' h2 h3 h4
theorem wpList_appE {ops : Array Oper} {rest : List Oper} {o : Oper} {a : Act} {w : World} {Q : Exit → Act → World → Prop} (hgd : o.guard = none) (s x : Operand) {t : TypeId} (ht : t = E.s)
    (ho : o.op = .call { callee := .builtin .append, args := #[s, x], argTypes := #[t, t] })
    {base : Nat} {v : Value} {ts : List α} (hs : a.eval s = v) (hown : ownE E w base v ts) {B : Option Addr} {c m : Nat} {xs : List α} (hv : a.eval x = .slice B m c) (hm : m = xs.length) (hx : RowE E w B xs) (hc : B = none → c = 0)
    (hl : ts.length + xs.length ≤ 1000000) (hbase : base ≤ w.heap.size)
    (h : ∀ v' w', ownE E w' base v' (ts ++ xs) → w.grownBy w' v.ownBlock → wpList Try.prog ops Q rest (a.put o.dst v') w') : wpList Try.prog ops Q (o :: rest) a w := by
  subst hm ht
  obtain ⟨v', w', hrun, h2, h3, h4⟩ := run_appE w hown B c xs hx hc hl hbase o.type
  refine wpList_plain hgd fun _ hK => ?_
  unfold Oper.wp execOp
  simp only [ho, resolve, invoke, builtin, Sem.run_bind, Sem.run_pure, Result.andThen_ok, List.map_toArray, List.map_cons, List.map_nil, hs, hv, hrun]
  exact hK _ _ (h v' w' h2 h3)

theorem below_grownE {a w w1 : World} {row : Option Nat} (h : Below a.heap.size a w) (hg : w.grownBy w1 row) (hr : ∀ r, row = some r → a.heap.size ≤ r) : Below a.heap.size a w1 := h.grown hg h.size hr
variable (E)
/-- A list of the call's own, whose blocks lie from that world on. -/
structure OE (W : World) (l : List α) (v : Value) (w : World) : Prop where
  own : ownE E w W.heap.size v l
  bel : Below W.heap.size W w
variable {E}
theorem OE.nil (W : World) : OE E W ([] : List α) (.slice none 0 0) W := ⟨ownE_nil _ _, bl W⟩
theorem OE.below {W w w' : World} {l : List α} {v : Value} (h : OE E W l v w) (hb : Below w.heap.size w w') : OE E W l v w' := ⟨ownE_below h.own hb, chain h.bel hb⟩
theorem OE.grown {W w w' : World} {l m : List α} {v v' : Value} (h : OE E W l v w) (hg : w.grownBy w' v.ownBlock) (hown : ownE E w' W.heap.size v' m) : OE E W m v' w' :=
  ⟨hown, below_grownE h.bel hg (fun r hr => (h.own.lt r hr).1)⟩
theorem OE.list {W w : World} {l : List α} {v : Value} (h : OE E W l v w) : ListE E w v l := ownE_list h.own
theorem OE.set {W w : World} {l : List α} {v : Value} (h : OE E W l v w) {b o : Nat} (u : Value) (hne : v.ownBlock ≠ some b) (hb : W.heap.size ≤ b) : OE E W l v (w.setCell ⟨b, o, none⟩ u) :=
  ⟨h.own.kept (row := some b) ⟨rfl, rfl, rfl, by simp [World.setCell], fun k _ hk => Below.heap_setCell _ _ _ _ (fun e => hk (by simp [e]))⟩ (Or.inr hne), h.bel.setCell (p := ⟨b, o, none⟩) hb u⟩
theorem OE.ne {W w : World} {l : List α} {v : Value} (h : OE E W l v w) : v.ownBlock ≠ some w.heap.size := fun e => by
  have := (h.own.lt _ e).2
  omega
/-- Elements that are laid in a new block. -/
theorem rowE_new (w : World) (l : List α) (T : TypeId) : RowE E (w.alloc (.cells (flatE E l).toArray T)) (some ⟨w.heap.size, 0, none⟩) l := fun i x hx => ⟨w.heap.size, 0, rfl, fun j u hu => by
  rw [cell_of_row _ _ _ _ T (0, 0) (heap_alloc_new w _), Nat.zero_add]
  have := flatE_get l i x hx j u hu
  simpa using this⟩
theorem listE_new (w : World) (l : List α) (T : TypeId) : ListE E (w.alloc (.cells (flatE E l).toArray T)) (.slice (some ⟨w.heap.size, 0, none⟩) l.length l.length) l := ⟨_, _, rfl, rowE_new w l T, Nat.le_refl _, fun h => by cases h⟩
theorem rowE_one (w : World) (x : α) (cs : Array Value) (hcs : cs.toList = E.cells x) (T : TypeId) : RowE E (w.alloc (.cells cs T)) (some ⟨w.heap.size, 0, none⟩) [x] := by
  have h := rowE_new (E := E) w [x] T
  rwa [show (flatE E [x]).toArray = cs from by rw [show flatE E [x] = E.cells x by simp [flatE], ← hcs]] at h
end

end Go.Proofs.Ytmhddpgeiijhgaa

/-
  Versions in memory: lists of versions, of lists of fields, of texts.
-/
namespace Go.Proofs.Ytmhddpgeiijhgaa
open Go.RowKit

abbrev cellsV (v : Vr) : List Value := [.int .i64 v.id, .int .i64 v.st, .string v.ent, .int .i64 v.sf, .int .i64 v.se, .slice v.fa v.fs.length v.fc, .bool v.gone]
/-- A version as a value. -/
abbrev vv (v : Vr) : Value := .agg #[.int .i64 v.id, .int .i64 v.st, .string v.ent, .int .i64 v.sf, .int .i64 v.se, .slice v.fa v.fs.length v.fc, .bool v.gone]
def EV : El Vr where
  s := 43
  e := 51
  sz := 7
  bys := 80
  z := .agg #[.int .i64 0, .int .i64 0, .string ⟨#[]⟩, .int .i64 0, .int .i64 0, .slice none 0 0, .bool false]
  cells := cellsV
  pos := by decide
  few := by decide
  len := fun _ => rfl
  one := fun x u hu => by
    simp only [cellsV, List.mem_cons, List.not_mem_nil, or_false] at hu
    rcases hu with rfl | rfl | rfl | rfl | rfl | rfl | rfl <;> rfl
  und := Try.underlying43
  info := by kernel_rfl
  zs := rfl
/-- A list of fields as its value's parts. -/
structure Sl where
  a : Option Addr
  n : Nat
  c : Nat
/-- A version in a block of its own. -/
abbrev ocV (v : Vr) : Obj := .cells #[.int .i64 v.id, .int .i64 v.st, .string v.ent, .int .i64 v.sf, .int .i64 v.se, .slice v.fa v.fs.length v.fc, .bool v.gone] 51
/-- The fields of a version lie where it says. -/
def VF (w : World) (v : Vr) : Prop := Fields w v.fa v.fs ∧ v.fs.length ≤ v.fc ∧ (v.fa = none → v.fc = 0)
theorem VF.below {w w' : World} {v : Vr} (h : VF w v) (hb : Below w.heap.size w w') : VF w' v := ⟨h.1.below hb, h.2⟩
theorem VF.list {w : World} {v : Vr} (h : VF w v) : ListF w (.slice v.fa v.fs.length v.fc) v.fs := ⟨v.fa, v.fc, rfl, h.1, h.2.1, h.2.2⟩
/-- A list of versions as a value. -/
def VersL (w : World) (u : Value) (l : List Vr) : Prop := ListE EV w u l ∧ ∀ v ∈ l, VF w v
theorem VersL.below {w w' : World} {u : Value} {l : List Vr} (h : VersL w u l) (hb : Below w.heap.size w w') : VersL w' u l := ⟨h.1.below hb, fun v hv => (h.2 v hv).below hb⟩
/-- The cells of a version. -/
abbrev Cells7 (w : World) (g o : Nat) (v : Vr) : Prop := w.cell? ⟨g, o, none⟩ = some (.int .i64 v.id) ∧ w.cell? ⟨g, o + 1, none⟩ = some (.int .i64 v.st) ∧ w.cell? ⟨g, o + 2, none⟩ = some (.string v.ent) ∧ w.cell? ⟨g, o + 3, none⟩ = some (.int .i64 v.sf) ∧
  w.cell? ⟨g, o + 4, none⟩ = some (.int .i64 v.se) ∧ w.cell? ⟨g, o + 5, none⟩ = some (.slice v.fa v.fs.length v.fc) ∧ w.cell? ⟨g, o + 6, none⟩ = some (.bool v.gone)
theorem RowE.cells7 {w : World} {A : Option Addr} {l : List Vr} (h : RowE EV w A l) {k : Nat} {v : Vr} (hv : l[k]? = some v) : ∃ g off, A = some ⟨g, off, none⟩ ∧ Cells7 w g (off + k * 7) v := by
  obtain ⟨g, off, rfl, hc⟩ := h k v hv
  exact ⟨g, off, rfl, hc 0 _ rfl, hc 1 _ rfl, hc 2 _ rfl, hc 3 _ rfl, hc 4 _ rfl, hc 5 _ rfl, hc 6 _ rfl⟩
theorem Cells7.below {w w' : World} {g o : Nat} {v : Vr} (h : Cells7 w g o v) (hb : Below w.heap.size w w') : Cells7 w' g o v :=
  ⟨keepc hb h.1, keepc hb h.2.1, keepc hb h.2.2.1, keepc hb h.2.2.2.1, keepc hb h.2.2.2.2.1, keepc hb h.2.2.2.2.2.1, keepc hb h.2.2.2.2.2.2⟩

theorem add_zero_addr (a : Addr) : a.add 0 = a := by
  obtain ⟨b, o, s⟩ := a
  cases s <;> simp [Addr.add]

section
variable {α : Type} {E : El α}
/-- A list is cut at a place: ahead of it, and from it on. -/
theorem slice_ahead {A : Option Addr} {n c k : Nat} (hk : k ≤ n) (hn : n ≤ c) (w : World) : (Instr.slice E.s (.slice A n c) none (some (.int .i64 (k : Int))) none).run Try.prog w = .ok (.slice A k c) w := by
  obtain ⟨i0, hi, hz0, hz1, hz2⟩ := info_parts E.info
  have hel : Try.prog.elem E.s = E.e := by simp [Program.elem, E.und]
  have hu : Try.prog.underlying E.s = some (.slice (Try.prog.elem E.s)) := by rw [hel]; exact E.und
  rw [run_slice_h w E.s A n c hu .i64 (k : Int) (by omega) (by omega)]
  simp [sizeOf, typeInfo, hel, hi, sliced, Result.andThen]
  cases A with
  | none => simp
  | some a => simp [add_zero_addr]
theorem slice_from {A : Option Addr} {n c k : Nat} (hk : k ≤ n) (hn : n ≤ c) (hc : A = none → c = 0) : ∃ B, (∀ w, (Instr.slice E.s (.slice A n c) (some (.int .i64 (k : Int))) none none).run Try.prog w = .ok (.slice B (n - k) (c - k)) w) ∧
    (∀ w (l : List α), RowE E w A l → l.length = n → RowE E w B (l.drop k)) ∧ (B = none → c - k = 0) := by
  obtain ⟨i0, hi, hz0, hz1, hz2⟩ := info_parts E.info
  have hel : Try.prog.elem E.s = E.e := by simp [Program.elem, E.und]
  have hu : Try.prog.underlying E.s = some (.slice (Try.prog.elem E.s)) := by rw [hel]; exact E.und
  have run : ∀ w, (Instr.slice E.s (.slice A n c) (some (.int .i64 (k : Int))) none none).run Try.prog w = .ok (sliced A k n c E.sz) w := fun w => by
    rw [run_slice_l w E.s A n c hu .i64 (k : Int) (by omega) (by omega)]
    simp [sizeOf, typeInfo, hel, hi, hz1, Result.andThen]
  cases A with
  | none => 
    have := hc rfl
    obtain rfl : c = 0 := this
    obtain rfl : n = 0 := by omega
    obtain rfl : k = 0 := by omega
    exact ⟨none, fun w => by rw [run w]; simp [sliced], fun w l h hl => by rw [List.drop_zero]; exact h, fun _ => rfl⟩
  | some a =>
    by_cases hck : c = k
    · obtain rfl : n = k := by omega
      subst hck
      exact ⟨some a, fun w => by rw [run w]; simp [sliced], fun w l h hl => by rw [List.drop_of_length_le (by omega)]; exact RowE.nil _ _, fun h => by cases h⟩
    · refine ⟨some (a.add (k * E.sz)), fun w => by rw [run w]; simp [sliced, hck], fun w l h hl => ?_, fun h => by cases h⟩
      rcases l with _ | ⟨x, l⟩
      · rw [List.drop_nil]; exact RowE.nil _ _
      · obtain ⟨g, off, he, _⟩ := h 0 x (by simp)
        obtain rfl : a = ⟨g, off, none⟩ := Option.some.inj he
        rw [Go.WideShapes.add_plain]
        exact h.drop k
end

end Go.Proofs.Ytmhddpgeiijhgaa

/-
  A version, or a row, stored into a block of the call's own, and read behind a call.
-/
namespace Go.Proofs.Ytmhddpgeiijhgaa
open Go.RowKit

/-- Seven cells of one block, stored one behind the other. -/
theorem seven_store {w : World} {b : Nat} {u0 u1 u2 u3 u4 u5 u6 : Value} (x0 x1 x2 x3 x4 x5 x6 : Value) (h0 : w.cell? ⟨b, 0, none⟩ = some u0) (h1 : w.cell? ⟨b, 1, none⟩ = some u1) (h2 : w.cell? ⟨b, 2, none⟩ = some u2) (h3 : w.cell? ⟨b, 3, none⟩ = some u3) (h4 : w.cell? ⟨b, 4, none⟩ = some u4) (h5 : w.cell? ⟨b, 5, none⟩ = some u5) (h6 : w.cell? ⟨b, 6, none⟩ = some u6) :
    (((((((w.setCell ⟨b, 0, none⟩ x0).setCell ⟨b, 1, none⟩ x1).setCell ⟨b, 2, none⟩ x2).setCell ⟨b, 3, none⟩ x3).setCell ⟨b, 4, none⟩ x4).setCell ⟨b, 5, none⟩ x5).setCell ⟨b, 6, none⟩ x6).cell? ⟨b, 0, none⟩ = some x0 ∧ (((((((w.setCell ⟨b, 0, none⟩ x0).setCell ⟨b, 1, none⟩ x1).setCell ⟨b, 2, none⟩ x2).setCell ⟨b, 3, none⟩ x3).setCell ⟨b, 4, none⟩ x4).setCell ⟨b, 5, none⟩ x5).setCell ⟨b, 6, none⟩ x6).cell? ⟨b, 1, none⟩ = some x1 ∧ (((((((w.setCell ⟨b, 0, none⟩ x0).setCell ⟨b, 1, none⟩ x1).setCell ⟨b, 2, none⟩ x2).setCell ⟨b, 3, none⟩ x3).setCell ⟨b, 4, none⟩ x4).setCell ⟨b, 5, none⟩ x5).setCell ⟨b, 6, none⟩ x6).cell? ⟨b, 2, none⟩ = some x2 ∧ (((((((w.setCell ⟨b, 0, none⟩ x0).setCell ⟨b, 1, none⟩ x1).setCell ⟨b, 2, none⟩ x2).setCell ⟨b, 3, none⟩ x3).setCell ⟨b, 4, none⟩ x4).setCell ⟨b, 5, none⟩ x5).setCell ⟨b, 6, none⟩ x6).cell? ⟨b, 3, none⟩ = some x3 ∧ (((((((w.setCell ⟨b, 0, none⟩ x0).setCell ⟨b, 1, none⟩ x1).setCell ⟨b, 2, none⟩ x2).setCell ⟨b, 3, none⟩ x3).setCell ⟨b, 4, none⟩ x4).setCell ⟨b, 5, none⟩ x5).setCell ⟨b, 6, none⟩ x6).cell? ⟨b, 4, none⟩ = some x4 ∧ (((((((w.setCell ⟨b, 0, none⟩ x0).setCell ⟨b, 1, none⟩ x1).setCell ⟨b, 2, none⟩ x2).setCell ⟨b, 3, none⟩ x3).setCell ⟨b, 4, none⟩ x4).setCell ⟨b, 5, none⟩ x5).setCell ⟨b, 6, none⟩ x6).cell? ⟨b, 5, none⟩ = some x5 ∧ (((((((w.setCell ⟨b, 0, none⟩ x0).setCell ⟨b, 1, none⟩ x1).setCell ⟨b, 2, none⟩ x2).setCell ⟨b, 3, none⟩ x3).setCell ⟨b, 4, none⟩ x4).setCell ⟨b, 5, none⟩ x5).setCell ⟨b, 6, none⟩ x6).cell? ⟨b, 6, none⟩ = some x6 := by
  have O := fun (W : World) (i j : Nat) (x : Value) (h : i ≠ j) => World.cell?_setCell_other W ⟨b, i, none⟩ ⟨b, j, none⟩ x (fun e => h (by injection e))
  have a0 : w.cell? ⟨b, 0, none⟩ = some u0 := h0
  have a1 : (w.setCell ⟨b, 0, none⟩ x0).cell? ⟨b, 1, none⟩ = some u1 := ((O _ 0 1 _ (by decide)).trans h1)
  have a2 : ((w.setCell ⟨b, 0, none⟩ x0).setCell ⟨b, 1, none⟩ x1).cell? ⟨b, 2, none⟩ = some u2 := ((O _ 1 2 _ (by decide)).trans ((O _ 0 2 _ (by decide)).trans h2))
  have a3 : (((w.setCell ⟨b, 0, none⟩ x0).setCell ⟨b, 1, none⟩ x1).setCell ⟨b, 2, none⟩ x2).cell? ⟨b, 3, none⟩ = some u3 := ((O _ 2 3 _ (by decide)).trans ((O _ 1 3 _ (by decide)).trans ((O _ 0 3 _ (by decide)).trans h3)))
  have a4 : ((((w.setCell ⟨b, 0, none⟩ x0).setCell ⟨b, 1, none⟩ x1).setCell ⟨b, 2, none⟩ x2).setCell ⟨b, 3, none⟩ x3).cell? ⟨b, 4, none⟩ = some u4 := ((O _ 3 4 _ (by decide)).trans ((O _ 2 4 _ (by decide)).trans ((O _ 1 4 _ (by decide)).trans ((O _ 0 4 _ (by decide)).trans h4))))
  have a5 : (((((w.setCell ⟨b, 0, none⟩ x0).setCell ⟨b, 1, none⟩ x1).setCell ⟨b, 2, none⟩ x2).setCell ⟨b, 3, none⟩ x3).setCell ⟨b, 4, none⟩ x4).cell? ⟨b, 5, none⟩ = some u5 := ((O _ 4 5 _ (by decide)).trans ((O _ 3 5 _ (by decide)).trans ((O _ 2 5 _ (by decide)).trans ((O _ 1 5 _ (by decide)).trans ((O _ 0 5 _ (by decide)).trans h5)))))
  have a6 : ((((((w.setCell ⟨b, 0, none⟩ x0).setCell ⟨b, 1, none⟩ x1).setCell ⟨b, 2, none⟩ x2).setCell ⟨b, 3, none⟩ x3).setCell ⟨b, 4, none⟩ x4).setCell ⟨b, 5, none⟩ x5).cell? ⟨b, 6, none⟩ = some u6 := ((O _ 5 6 _ (by decide)).trans ((O _ 4 6 _ (by decide)).trans ((O _ 3 6 _ (by decide)).trans ((O _ 2 6 _ (by decide)).trans ((O _ 1 6 _ (by decide)).trans ((O _ 0 6 _ (by decide)).trans h6))))))
  refine ⟨?_, ?_, ?_, ?_, ?_, ?_, ?_⟩
  · exact ((O _ 6 0 _ (by decide)).trans ((O _ 5 0 _ (by decide)).trans ((O _ 4 0 _ (by decide)).trans ((O _ 3 0 _ (by decide)).trans ((O _ 2 0 _ (by decide)).trans ((O _ 1 0 _ (by decide)).trans (World.cell?_setCell_same _ _ _ a0)))))))
  · exact ((O _ 6 1 _ (by decide)).trans ((O _ 5 1 _ (by decide)).trans ((O _ 4 1 _ (by decide)).trans ((O _ 3 1 _ (by decide)).trans ((O _ 2 1 _ (by decide)).trans (World.cell?_setCell_same _ _ _ a1))))))
  · exact ((O _ 6 2 _ (by decide)).trans ((O _ 5 2 _ (by decide)).trans ((O _ 4 2 _ (by decide)).trans ((O _ 3 2 _ (by decide)).trans (World.cell?_setCell_same _ _ _ a2)))))
  · exact ((O _ 6 3 _ (by decide)).trans ((O _ 5 3 _ (by decide)).trans ((O _ 4 3 _ (by decide)).trans (World.cell?_setCell_same _ _ _ a3))))
  · exact ((O _ 6 4 _ (by decide)).trans ((O _ 5 4 _ (by decide)).trans (World.cell?_setCell_same _ _ _ a4)))
  · exact ((O _ 6 5 _ (by decide)).trans (World.cell?_setCell_same _ _ _ a5))
  · exact (World.cell?_setCell_same _ _ _ a6)

/-- Eight cells of one block, stored one behind the other. -/
theorem eight_store {w : World} {b : Nat} {u0 u1 u2 u3 u4 u5 u6 u7 : Value} (x0 x1 x2 x3 x4 x5 x6 x7 : Value) (h0 : w.cell? ⟨b, 0, none⟩ = some u0) (h1 : w.cell? ⟨b, 1, none⟩ = some u1) (h2 : w.cell? ⟨b, 2, none⟩ = some u2) (h3 : w.cell? ⟨b, 3, none⟩ = some u3) (h4 : w.cell? ⟨b, 4, none⟩ = some u4) (h5 : w.cell? ⟨b, 5, none⟩ = some u5) (h6 : w.cell? ⟨b, 6, none⟩ = some u6) (h7 : w.cell? ⟨b, 7, none⟩ = some u7) :
    ((((((((w.setCell ⟨b, 0, none⟩ x0).setCell ⟨b, 1, none⟩ x1).setCell ⟨b, 2, none⟩ x2).setCell ⟨b, 3, none⟩ x3).setCell ⟨b, 4, none⟩ x4).setCell ⟨b, 5, none⟩ x5).setCell ⟨b, 6, none⟩ x6).setCell ⟨b, 7, none⟩ x7).cell? ⟨b, 0, none⟩ = some x0 ∧ ((((((((w.setCell ⟨b, 0, none⟩ x0).setCell ⟨b, 1, none⟩ x1).setCell ⟨b, 2, none⟩ x2).setCell ⟨b, 3, none⟩ x3).setCell ⟨b, 4, none⟩ x4).setCell ⟨b, 5, none⟩ x5).setCell ⟨b, 6, none⟩ x6).setCell ⟨b, 7, none⟩ x7).cell? ⟨b, 1, none⟩ = some x1 ∧ ((((((((w.setCell ⟨b, 0, none⟩ x0).setCell ⟨b, 1, none⟩ x1).setCell ⟨b, 2, none⟩ x2).setCell ⟨b, 3, none⟩ x3).setCell ⟨b, 4, none⟩ x4).setCell ⟨b, 5, none⟩ x5).setCell ⟨b, 6, none⟩ x6).setCell ⟨b, 7, none⟩ x7).cell? ⟨b, 2, none⟩ = some x2 ∧ ((((((((w.setCell ⟨b, 0, none⟩ x0).setCell ⟨b, 1, none⟩ x1).setCell ⟨b, 2, none⟩ x2).setCell ⟨b, 3, none⟩ x3).setCell ⟨b, 4, none⟩ x4).setCell ⟨b, 5, none⟩ x5).setCell ⟨b, 6, none⟩ x6).setCell ⟨b, 7, none⟩ x7).cell? ⟨b, 3, none⟩ = some x3 ∧ ((((((((w.setCell ⟨b, 0, none⟩ x0).setCell ⟨b, 1, none⟩ x1).setCell ⟨b, 2, none⟩ x2).setCell ⟨b, 3, none⟩ x3).setCell ⟨b, 4, none⟩ x4).setCell ⟨b, 5, none⟩ x5).setCell ⟨b, 6, none⟩ x6).setCell ⟨b, 7, none⟩ x7).cell? ⟨b, 4, none⟩ = some x4 ∧ ((((((((w.setCell ⟨b, 0, none⟩ x0).setCell ⟨b, 1, none⟩ x1).setCell ⟨b, 2, none⟩ x2).setCell ⟨b, 3, none⟩ x3).setCell ⟨b, 4, none⟩ x4).setCell ⟨b, 5, none⟩ x5).setCell ⟨b, 6, none⟩ x6).setCell ⟨b, 7, none⟩ x7).cell? ⟨b, 5, none⟩ = some x5 ∧ ((((((((w.setCell ⟨b, 0, none⟩ x0).setCell ⟨b, 1, none⟩ x1).setCell ⟨b, 2, none⟩ x2).setCell ⟨b, 3, none⟩ x3).setCell ⟨b, 4, none⟩ x4).setCell ⟨b, 5, none⟩ x5).setCell ⟨b, 6, none⟩ x6).setCell ⟨b, 7, none⟩ x7).cell? ⟨b, 6, none⟩ = some x6 ∧ ((((((((w.setCell ⟨b, 0, none⟩ x0).setCell ⟨b, 1, none⟩ x1).setCell ⟨b, 2, none⟩ x2).setCell ⟨b, 3, none⟩ x3).setCell ⟨b, 4, none⟩ x4).setCell ⟨b, 5, none⟩ x5).setCell ⟨b, 6, none⟩ x6).setCell ⟨b, 7, none⟩ x7).cell? ⟨b, 7, none⟩ = some x7 := by
  have O := fun (W : World) (i j : Nat) (x : Value) (h : i ≠ j) => World.cell?_setCell_other W ⟨b, i, none⟩ ⟨b, j, none⟩ x (fun e => h (by injection e))
  have a0 : w.cell? ⟨b, 0, none⟩ = some u0 := h0
  have a1 : (w.setCell ⟨b, 0, none⟩ x0).cell? ⟨b, 1, none⟩ = some u1 := ((O _ 0 1 _ (by decide)).trans h1)
  have a2 : ((w.setCell ⟨b, 0, none⟩ x0).setCell ⟨b, 1, none⟩ x1).cell? ⟨b, 2, none⟩ = some u2 := ((O _ 1 2 _ (by decide)).trans ((O _ 0 2 _ (by decide)).trans h2))
  have a3 : (((w.setCell ⟨b, 0, none⟩ x0).setCell ⟨b, 1, none⟩ x1).setCell ⟨b, 2, none⟩ x2).cell? ⟨b, 3, none⟩ = some u3 := ((O _ 2 3 _ (by decide)).trans ((O _ 1 3 _ (by decide)).trans ((O _ 0 3 _ (by decide)).trans h3)))
  have a4 : ((((w.setCell ⟨b, 0, none⟩ x0).setCell ⟨b, 1, none⟩ x1).setCell ⟨b, 2, none⟩ x2).setCell ⟨b, 3, none⟩ x3).cell? ⟨b, 4, none⟩ = some u4 := ((O _ 3 4 _ (by decide)).trans ((O _ 2 4 _ (by decide)).trans ((O _ 1 4 _ (by decide)).trans ((O _ 0 4 _ (by decide)).trans h4))))
  have a5 : (((((w.setCell ⟨b, 0, none⟩ x0).setCell ⟨b, 1, none⟩ x1).setCell ⟨b, 2, none⟩ x2).setCell ⟨b, 3, none⟩ x3).setCell ⟨b, 4, none⟩ x4).cell? ⟨b, 5, none⟩ = some u5 := ((O _ 4 5 _ (by decide)).trans ((O _ 3 5 _ (by decide)).trans ((O _ 2 5 _ (by decide)).trans ((O _ 1 5 _ (by decide)).trans ((O _ 0 5 _ (by decide)).trans h5)))))
  have a6 : ((((((w.setCell ⟨b, 0, none⟩ x0).setCell ⟨b, 1, none⟩ x1).setCell ⟨b, 2, none⟩ x2).setCell ⟨b, 3, none⟩ x3).setCell ⟨b, 4, none⟩ x4).setCell ⟨b, 5, none⟩ x5).cell? ⟨b, 6, none⟩ = some u6 := ((O _ 5 6 _ (by decide)).trans ((O _ 4 6 _ (by decide)).trans ((O _ 3 6 _ (by decide)).trans ((O _ 2 6 _ (by decide)).trans ((O _ 1 6 _ (by decide)).trans ((O _ 0 6 _ (by decide)).trans h6))))))
  have a7 : (((((((w.setCell ⟨b, 0, none⟩ x0).setCell ⟨b, 1, none⟩ x1).setCell ⟨b, 2, none⟩ x2).setCell ⟨b, 3, none⟩ x3).setCell ⟨b, 4, none⟩ x4).setCell ⟨b, 5, none⟩ x5).setCell ⟨b, 6, none⟩ x6).cell? ⟨b, 7, none⟩ = some u7 := ((O _ 6 7 _ (by decide)).trans ((O _ 5 7 _ (by decide)).trans ((O _ 4 7 _ (by decide)).trans ((O _ 3 7 _ (by decide)).trans ((O _ 2 7 _ (by decide)).trans ((O _ 1 7 _ (by decide)).trans ((O _ 0 7 _ (by decide)).trans h7)))))))
  refine ⟨?_, ?_, ?_, ?_, ?_, ?_, ?_, ?_⟩
  · exact ((O _ 7 0 _ (by decide)).trans ((O _ 6 0 _ (by decide)).trans ((O _ 5 0 _ (by decide)).trans ((O _ 4 0 _ (by decide)).trans ((O _ 3 0 _ (by decide)).trans ((O _ 2 0 _ (by decide)).trans ((O _ 1 0 _ (by decide)).trans (World.cell?_setCell_same _ _ _ a0))))))))
  · exact ((O _ 7 1 _ (by decide)).trans ((O _ 6 1 _ (by decide)).trans ((O _ 5 1 _ (by decide)).trans ((O _ 4 1 _ (by decide)).trans ((O _ 3 1 _ (by decide)).trans ((O _ 2 1 _ (by decide)).trans (World.cell?_setCell_same _ _ _ a1)))))))
  · exact ((O _ 7 2 _ (by decide)).trans ((O _ 6 2 _ (by decide)).trans ((O _ 5 2 _ (by decide)).trans ((O _ 4 2 _ (by decide)).trans ((O _ 3 2 _ (by decide)).trans (World.cell?_setCell_same _ _ _ a2))))))
  · exact ((O _ 7 3 _ (by decide)).trans ((O _ 6 3 _ (by decide)).trans ((O _ 5 3 _ (by decide)).trans ((O _ 4 3 _ (by decide)).trans (World.cell?_setCell_same _ _ _ a3)))))
  · exact ((O _ 7 4 _ (by decide)).trans ((O _ 6 4 _ (by decide)).trans ((O _ 5 4 _ (by decide)).trans (World.cell?_setCell_same _ _ _ a4))))
  · exact ((O _ 7 5 _ (by decide)).trans ((O _ 6 5 _ (by decide)).trans (World.cell?_setCell_same _ _ _ a5)))
  · exact ((O _ 7 6 _ (by decide)).trans (World.cell?_setCell_same _ _ _ a6))
  · exact (World.cell?_setCell_same _ _ _ a7)

theorem seven_below {w0 w : World} {base b : Nat} {x0 x1 x2 x3 x4 x5 x6 : Value} (h : Below base w0 w) (hg : base ≤ b) : Below base w0 (((((((w.setCell ⟨b, 0, none⟩ x0).setCell ⟨b, 1, none⟩ x1).setCell ⟨b, 2, none⟩ x2).setCell ⟨b, 3, none⟩ x3).setCell ⟨b, 4, none⟩ x4).setCell ⟨b, 5, none⟩ x5).setCell ⟨b, 6, none⟩ x6) := (((((((h.setCell hg _).setCell hg _).setCell hg _).setCell hg _).setCell hg _).setCell hg _).setCell hg _)
theorem eight_below {w0 w : World} {base b : Nat} {x0 x1 x2 x3 x4 x5 x6 x7 : Value} (h : Below base w0 w) (hg : base ≤ b) : Below base w0 ((((((((w.setCell ⟨b, 0, none⟩ x0).setCell ⟨b, 1, none⟩ x1).setCell ⟨b, 2, none⟩ x2).setCell ⟨b, 3, none⟩ x3).setCell ⟨b, 4, none⟩ x4).setCell ⟨b, 5, none⟩ x5).setCell ⟨b, 6, none⟩ x6).setCell ⟨b, 7, none⟩ x7) := ((((((((h.setCell hg _).setCell hg _).setCell hg _).setCell hg _).setCell hg _).setCell hg _).setCell hg _).setCell hg _)

/-- The cells of a version in a block of its own, and that they may be stored into. -/
structure HoldV (w : World) (g : Nat) (v : Vr) : Prop where
  c : Cells7 w g 0 v
  f : w.frozen? ⟨g, 0, none⟩ = false ∧ w.frozen? ⟨g, 1, none⟩ = false ∧ w.frozen? ⟨g, 2, none⟩ = false ∧ w.frozen? ⟨g, 3, none⟩ = false ∧ w.frozen? ⟨g, 4, none⟩ = false ∧ w.frozen? ⟨g, 5, none⟩ = false ∧ w.frozen? ⟨g, 6, none⟩ = false
theorem holdV_new (w : World) (v : Vr) : HoldV (w.alloc (ocV v)) w.heap.size v :=
  ⟨⟨by simp [go_sem], by simp [go_sem], by simp [go_sem], by simp [go_sem], by simp [go_sem], by simp [go_sem], by simp [go_sem]⟩, ⟨by simp [go_sem], by simp [go_sem], by simp [go_sem], by simp [go_sem], by simp [go_sem], by simp [go_sem], by simp [go_sem]⟩⟩
theorem HoldV.below {w w' : World} {g : Nat} {v : Vr} (h : HoldV w g v) (hb : Below w.heap.size w w') : HoldV w' g v := by
  have hg := lt_of_cell h.c.1
  obtain ⟨f0, f1, f2, f3, f4, f5, f6⟩ := h.f
  exact ⟨h.c.below hb, keepf hb hg f0, keepf hb hg f1, keepf hb hg f2, keepf hb hg f3, keepf hb hg f4, keepf hb hg f5, keepf hb hg f6⟩

end Go.Proofs.Ytmhddpgeiijhgaa

/-
  What a call may turn: some cells, and nothing else; a version that is read into a block, cell by cell.
-/
namespace Go.Proofs.Ytmhddpgeiijhgaa
open Go.RowKit

/-- Whatever lay, lies, but for the cells M. -/
structure But (M : Nat → Nat → Prop) (w w' : World) : Prop where
  os : w'.os = w.os
  tape : w'.tape = w.tape
  output : w'.output = w.output
  size : w.heap.size ≤ w'.heap.size
  block : ∀ c, c < w.heap.size → (∀ o, ¬ M c o) → w'.heap[c]? = w.heap[c]?
  cell : ∀ c o, c < w.heap.size → ¬ M c o → w'.cell? ⟨c, o, none⟩ = w.cell? ⟨c, o, none⟩
  frz : ∀ c o, c < w.heap.size → w'.frozen? ⟨c, o, none⟩ = w.frozen? ⟨c, o, none⟩
theorem But.refl (M : Nat → Nat → Prop) (w : World) : But M w w := ⟨rfl, rfl, rfl, Nat.le_refl _, fun _ _ _ => rfl, fun _ _ _ _ => rfl, fun _ _ _ => rfl⟩
theorem But.trans {M : Nat → Nat → Prop} {a b c : World} (h : But M a b) (k : But M b c) : But M a c :=
  ⟨k.os.trans h.os, k.tape.trans h.tape, k.output.trans h.output, Nat.le_trans h.size k.size,
   fun i hi hm => (k.block i (Nat.lt_of_lt_of_le hi h.size) hm).trans (h.block i hi hm),
   fun i o hi hm => (k.cell i o (Nat.lt_of_lt_of_le hi h.size) hm).trans (h.cell i o hi hm),
   fun i o hi => (k.frz i o (Nat.lt_of_lt_of_le hi h.size)).trans (h.frz i o hi)⟩
theorem But.of_below {M : Nat → Nat → Prop} {w w' : World} (h : Below w.heap.size w w') : But M w w' :=
  ⟨h.os, h.tape, h.output, h.size, fun c hc _ => h.block c hc, fun c o hc _ => h.cell (p := ⟨c, o, none⟩) hc, fun c o hc => h.frozen (p := ⟨c, o, none⟩) hc⟩
theorem But.set {M : Nat → Nat → Prop} {a w : World} (h : But M a w) {b o : Nat} (hm : M b o) (u : Value) : But M a (w.setCell ⟨b, o, none⟩ u) :=
  ⟨h.os, h.tape, h.output, by have := h.size; simpa [World.setCell] using this,
   fun c hc hn => (Below.heap_setCell w ⟨b, o, none⟩ u c (fun e => hn o (by simp at e; rw [e]; exact hm))).trans (h.block c hc hn),
   fun c i hc hn => (World.cell?_setCell_other w ⟨b, o, none⟩ ⟨c, i, none⟩ u (fun e => hn (by injection e with e1 e2; subst e1 e2; exact hm))).trans (h.cell c i hc hn),
   fun c i hc => (World.frozen?_setCell _ _ _ _).trans (h.frz c i hc)⟩
theorem But.below {M : Nat → Nat → Prop} {w w' : World} (h : But M w w') {n : Nat} (hn : n ≤ w.heap.size) (hM : ∀ c o, M c o → n ≤ c) : Below n w w' :=
  ⟨h.os, h.tape, h.output, h.size, fun c hc => h.block c (by omega) (fun o hm => by have := hM c o hm; omega)⟩
theorem But.mono {M M' : Nat → Nat → Prop} {w w' : World} (h : But M w w') (hM : ∀ c o, c < w.heap.size → M c o → M' c o) : But M' w w' :=
  ⟨h.os, h.tape, h.output, h.size, fun c hc hn => h.block c hc (fun o hm => hn o (hM c o hc hm)), fun c o hc hn => h.cell c o hc (fun hm => hn (hM c o hc hm)), h.frz⟩
theorem But.keep {M : Nat → Nat → Prop} {w w' : World} (h : But M w w') {c o : Nat} {v : Value} (hc : w.cell? ⟨c, o, none⟩ = some v) (hm : ¬ M c o) : w'.cell? ⟨c, o, none⟩ = some v :=
  (h.cell c o (lt_of_cell hc) hm).trans hc
/-- From an earlier world on. -/
theorem But.ahead {M : Nat → Nat → Prop} {a w w' : World} (hb : Below a.heap.size a w) (h : But M w w') : But M a w' := (But.of_below hb).trans h
/-- The cells of a version in block b. -/
abbrev MV (b : Nat) : Nat → Nat → Prop := fun c o => c = b ∧ o < 7

/-- The fields of a version lie where it says, and from block n on. -/
def FarF (n : Nat) (w : World) (v : Vr) : Prop := VF w v ∧ ∀ a, v.fa = some a → n ≤ a.block
theorem FarF.but {M : Nat → Nat → Prop} {n : Nat} {w w' : World} {v : Vr} (h : FarF n w v) (hb : But M w w') (hM : ∀ c o, M c o → c < n) : FarF n w' v :=
  ⟨⟨fun i f hf => by
    obtain ⟨g, off, he, c0, c1⟩ := h.1.1 i f hf
    have hg : n ≤ g := h.2 _ he
    exact ⟨g, off, he, hb.keep c0 (fun hm => by have := hM _ _ hm; omega), hb.keep c1 (fun hm => by have := hM _ _ hm; omega)⟩, h.1.2⟩, h.2⟩
theorem FarF.below {n : Nat} {w w' : World} {v : Vr} (h : FarF n w v) (hb : Below w.heap.size w w') : FarF n w' v := ⟨h.1.below hb, h.2⟩
theorem FarF.nil {n : Nat} (w : World) (v : Vr) (h : v.fs = []) (h2 : v.fa = none) (h3 : v.fc = 0) : FarF n w v :=
  ⟨⟨by rw [h]; exact Fields.nil _ _, by rw [h]; exact Nat.zero_le _, fun _ => h3⟩, fun a ha => by rw [h2] at ha; cases ha⟩
theorem FarF.same {n : Nat} {w : World} {v v' : Vr} (h : FarF n w v) (h1 : v'.fa = v.fa) (h2 : v'.fc = v.fc) (h3 : v'.fs = v.fs) : FarF n w v' := by
  unfold FarF VF at h ⊢
  rw [h1, h2, h3]; exact h
theorem OF.far {W w : World} {l : List Fd} {u : Value} (h : OF W l u w) : ∃ A c, u = .slice A l.length c ∧ ∀ v : Vr, v.fa = A → v.fc = c → v.fs = l → FarF W.heap.size w v := by
  obtain ⟨A, c, rfl, hF, hc, hn⟩ := h.list
  refine ⟨A, c, rfl, fun v h1 h2 h3 => ?_⟩
  subst h1 h2 h3
  exact ⟨⟨hF, hc, hn⟩, fun a ha => (h.own.lt a.block (by rw [ha]; rfl)).1⟩

theorem HoldV.set0 {w : World} {b : Nat} {v : Vr} (h : HoldV w b v) (n : Int) : HoldV (w.setCell ⟨b, 0, none⟩ (.int .i64 n)) b {v with id := n} :=
  ⟨⟨World.cell?_setCell_same _ ⟨b, 0, none⟩ _ (h.c.1), (World.cell?_setCell_other _ ⟨b, 0, none⟩ ⟨b, 1, none⟩ _ (by simp)).trans (h.c.2.1), (World.cell?_setCell_other _ ⟨b, 0, none⟩ ⟨b, 2, none⟩ _ (by simp)).trans (h.c.2.2.1), (World.cell?_setCell_other _ ⟨b, 0, none⟩ ⟨b, 3, none⟩ _ (by simp)).trans (h.c.2.2.2.1), (World.cell?_setCell_other _ ⟨b, 0, none⟩ ⟨b, 4, none⟩ _ (by simp)).trans (h.c.2.2.2.2.1), (World.cell?_setCell_other _ ⟨b, 0, none⟩ ⟨b, 5, none⟩ _ (by simp)).trans (h.c.2.2.2.2.2.1), (World.cell?_setCell_other _ ⟨b, 0, none⟩ ⟨b, 6, none⟩ _ (by simp)).trans (h.c.2.2.2.2.2.2)⟩, (World.frozen?_setCell _ _ _ _).trans (h.f.1), (World.frozen?_setCell _ _ _ _).trans (h.f.2.1), (World.frozen?_setCell _ _ _ _).trans (h.f.2.2.1), (World.frozen?_setCell _ _ _ _).trans (h.f.2.2.2.1), (World.frozen?_setCell _ _ _ _).trans (h.f.2.2.2.2.1), (World.frozen?_setCell _ _ _ _).trans (h.f.2.2.2.2.2.1), (World.frozen?_setCell _ _ _ _).trans (h.f.2.2.2.2.2.2)⟩
theorem HoldV.set1 {w : World} {b : Nat} {v : Vr} (h : HoldV w b v) (n : Int) : HoldV (w.setCell ⟨b, 1, none⟩ (.int .i64 n)) b {v with st := n} :=
  ⟨⟨(World.cell?_setCell_other _ ⟨b, 1, none⟩ ⟨b, 0, none⟩ _ (by simp)).trans (h.c.1), World.cell?_setCell_same _ ⟨b, 1, none⟩ _ (h.c.2.1), (World.cell?_setCell_other _ ⟨b, 1, none⟩ ⟨b, 2, none⟩ _ (by simp)).trans (h.c.2.2.1), (World.cell?_setCell_other _ ⟨b, 1, none⟩ ⟨b, 3, none⟩ _ (by simp)).trans (h.c.2.2.2.1), (World.cell?_setCell_other _ ⟨b, 1, none⟩ ⟨b, 4, none⟩ _ (by simp)).trans (h.c.2.2.2.2.1), (World.cell?_setCell_other _ ⟨b, 1, none⟩ ⟨b, 5, none⟩ _ (by simp)).trans (h.c.2.2.2.2.2.1), (World.cell?_setCell_other _ ⟨b, 1, none⟩ ⟨b, 6, none⟩ _ (by simp)).trans (h.c.2.2.2.2.2.2)⟩, (World.frozen?_setCell _ _ _ _).trans (h.f.1), (World.frozen?_setCell _ _ _ _).trans (h.f.2.1), (World.frozen?_setCell _ _ _ _).trans (h.f.2.2.1), (World.frozen?_setCell _ _ _ _).trans (h.f.2.2.2.1), (World.frozen?_setCell _ _ _ _).trans (h.f.2.2.2.2.1), (World.frozen?_setCell _ _ _ _).trans (h.f.2.2.2.2.2.1), (World.frozen?_setCell _ _ _ _).trans (h.f.2.2.2.2.2.2)⟩
theorem HoldV.set2 {w : World} {b : Nat} {v : Vr} (h : HoldV w b v) (n : ByteArray) : HoldV (w.setCell ⟨b, 2, none⟩ (.string n)) b {v with ent := n} :=
  ⟨⟨(World.cell?_setCell_other _ ⟨b, 2, none⟩ ⟨b, 0, none⟩ _ (by simp)).trans (h.c.1), (World.cell?_setCell_other _ ⟨b, 2, none⟩ ⟨b, 1, none⟩ _ (by simp)).trans (h.c.2.1), World.cell?_setCell_same _ ⟨b, 2, none⟩ _ (h.c.2.2.1), (World.cell?_setCell_other _ ⟨b, 2, none⟩ ⟨b, 3, none⟩ _ (by simp)).trans (h.c.2.2.2.1), (World.cell?_setCell_other _ ⟨b, 2, none⟩ ⟨b, 4, none⟩ _ (by simp)).trans (h.c.2.2.2.2.1), (World.cell?_setCell_other _ ⟨b, 2, none⟩ ⟨b, 5, none⟩ _ (by simp)).trans (h.c.2.2.2.2.2.1), (World.cell?_setCell_other _ ⟨b, 2, none⟩ ⟨b, 6, none⟩ _ (by simp)).trans (h.c.2.2.2.2.2.2)⟩, (World.frozen?_setCell _ _ _ _).trans (h.f.1), (World.frozen?_setCell _ _ _ _).trans (h.f.2.1), (World.frozen?_setCell _ _ _ _).trans (h.f.2.2.1), (World.frozen?_setCell _ _ _ _).trans (h.f.2.2.2.1), (World.frozen?_setCell _ _ _ _).trans (h.f.2.2.2.2.1), (World.frozen?_setCell _ _ _ _).trans (h.f.2.2.2.2.2.1), (World.frozen?_setCell _ _ _ _).trans (h.f.2.2.2.2.2.2)⟩
theorem HoldV.set3 {w : World} {b : Nat} {v : Vr} (h : HoldV w b v) (n : Int) : HoldV (w.setCell ⟨b, 3, none⟩ (.int .i64 n)) b {v with sf := n} :=
  ⟨⟨(World.cell?_setCell_other _ ⟨b, 3, none⟩ ⟨b, 0, none⟩ _ (by simp)).trans (h.c.1), (World.cell?_setCell_other _ ⟨b, 3, none⟩ ⟨b, 1, none⟩ _ (by simp)).trans (h.c.2.1), (World.cell?_setCell_other _ ⟨b, 3, none⟩ ⟨b, 2, none⟩ _ (by simp)).trans (h.c.2.2.1), World.cell?_setCell_same _ ⟨b, 3, none⟩ _ (h.c.2.2.2.1), (World.cell?_setCell_other _ ⟨b, 3, none⟩ ⟨b, 4, none⟩ _ (by simp)).trans (h.c.2.2.2.2.1), (World.cell?_setCell_other _ ⟨b, 3, none⟩ ⟨b, 5, none⟩ _ (by simp)).trans (h.c.2.2.2.2.2.1), (World.cell?_setCell_other _ ⟨b, 3, none⟩ ⟨b, 6, none⟩ _ (by simp)).trans (h.c.2.2.2.2.2.2)⟩, (World.frozen?_setCell _ _ _ _).trans (h.f.1), (World.frozen?_setCell _ _ _ _).trans (h.f.2.1), (World.frozen?_setCell _ _ _ _).trans (h.f.2.2.1), (World.frozen?_setCell _ _ _ _).trans (h.f.2.2.2.1), (World.frozen?_setCell _ _ _ _).trans (h.f.2.2.2.2.1), (World.frozen?_setCell _ _ _ _).trans (h.f.2.2.2.2.2.1), (World.frozen?_setCell _ _ _ _).trans (h.f.2.2.2.2.2.2)⟩
theorem HoldV.set4 {w : World} {b : Nat} {v : Vr} (h : HoldV w b v) (n : Int) : HoldV (w.setCell ⟨b, 4, none⟩ (.int .i64 n)) b {v with se := n} :=
  ⟨⟨(World.cell?_setCell_other _ ⟨b, 4, none⟩ ⟨b, 0, none⟩ _ (by simp)).trans (h.c.1), (World.cell?_setCell_other _ ⟨b, 4, none⟩ ⟨b, 1, none⟩ _ (by simp)).trans (h.c.2.1), (World.cell?_setCell_other _ ⟨b, 4, none⟩ ⟨b, 2, none⟩ _ (by simp)).trans (h.c.2.2.1), (World.cell?_setCell_other _ ⟨b, 4, none⟩ ⟨b, 3, none⟩ _ (by simp)).trans (h.c.2.2.2.1), World.cell?_setCell_same _ ⟨b, 4, none⟩ _ (h.c.2.2.2.2.1), (World.cell?_setCell_other _ ⟨b, 4, none⟩ ⟨b, 5, none⟩ _ (by simp)).trans (h.c.2.2.2.2.2.1), (World.cell?_setCell_other _ ⟨b, 4, none⟩ ⟨b, 6, none⟩ _ (by simp)).trans (h.c.2.2.2.2.2.2)⟩, (World.frozen?_setCell _ _ _ _).trans (h.f.1), (World.frozen?_setCell _ _ _ _).trans (h.f.2.1), (World.frozen?_setCell _ _ _ _).trans (h.f.2.2.1), (World.frozen?_setCell _ _ _ _).trans (h.f.2.2.2.1), (World.frozen?_setCell _ _ _ _).trans (h.f.2.2.2.2.1), (World.frozen?_setCell _ _ _ _).trans (h.f.2.2.2.2.2.1), (World.frozen?_setCell _ _ _ _).trans (h.f.2.2.2.2.2.2)⟩
theorem HoldV.set6 {w : World} {b : Nat} {v : Vr} (h : HoldV w b v) (n : Bool) : HoldV (w.setCell ⟨b, 6, none⟩ (.bool n)) b {v with gone := n} :=
  ⟨⟨(World.cell?_setCell_other _ ⟨b, 6, none⟩ ⟨b, 0, none⟩ _ (by simp)).trans (h.c.1), (World.cell?_setCell_other _ ⟨b, 6, none⟩ ⟨b, 1, none⟩ _ (by simp)).trans (h.c.2.1), (World.cell?_setCell_other _ ⟨b, 6, none⟩ ⟨b, 2, none⟩ _ (by simp)).trans (h.c.2.2.1), (World.cell?_setCell_other _ ⟨b, 6, none⟩ ⟨b, 3, none⟩ _ (by simp)).trans (h.c.2.2.2.1), (World.cell?_setCell_other _ ⟨b, 6, none⟩ ⟨b, 4, none⟩ _ (by simp)).trans (h.c.2.2.2.2.1), (World.cell?_setCell_other _ ⟨b, 6, none⟩ ⟨b, 5, none⟩ _ (by simp)).trans (h.c.2.2.2.2.2.1), World.cell?_setCell_same _ ⟨b, 6, none⟩ _ (h.c.2.2.2.2.2.2)⟩, (World.frozen?_setCell _ _ _ _).trans (h.f.1), (World.frozen?_setCell _ _ _ _).trans (h.f.2.1), (World.frozen?_setCell _ _ _ _).trans (h.f.2.2.1), (World.frozen?_setCell _ _ _ _).trans (h.f.2.2.2.1), (World.frozen?_setCell _ _ _ _).trans (h.f.2.2.2.2.1), (World.frozen?_setCell _ _ _ _).trans (h.f.2.2.2.2.2.1), (World.frozen?_setCell _ _ _ _).trans (h.f.2.2.2.2.2.2)⟩
theorem HoldV.set5 {w : World} {b : Nat} {v : Vr} (h : HoldV w b v) (A : Option Addr) (c : Nat) (l : List Fd) : HoldV (w.setCell ⟨b, 5, none⟩ (.slice A l.length c)) b {v with fa := A, fc := c, fs := l} :=
  ⟨⟨(World.cell?_setCell_other _ ⟨b, 5, none⟩ ⟨b, 0, none⟩ _ (by simp)).trans (h.c.1), (World.cell?_setCell_other _ ⟨b, 5, none⟩ ⟨b, 1, none⟩ _ (by simp)).trans (h.c.2.1), (World.cell?_setCell_other _ ⟨b, 5, none⟩ ⟨b, 2, none⟩ _ (by simp)).trans (h.c.2.2.1), (World.cell?_setCell_other _ ⟨b, 5, none⟩ ⟨b, 3, none⟩ _ (by simp)).trans (h.c.2.2.2.1), (World.cell?_setCell_other _ ⟨b, 5, none⟩ ⟨b, 4, none⟩ _ (by simp)).trans (h.c.2.2.2.2.1), World.cell?_setCell_same _ ⟨b, 5, none⟩ _ (h.c.2.2.2.2.2.1), (World.cell?_setCell_other _ ⟨b, 5, none⟩ ⟨b, 6, none⟩ _ (by simp)).trans (h.c.2.2.2.2.2.2)⟩, (World.frozen?_setCell _ _ _ _).trans (h.f.1), (World.frozen?_setCell _ _ _ _).trans (h.f.2.1), (World.frozen?_setCell _ _ _ _).trans (h.f.2.2.1), (World.frozen?_setCell _ _ _ _).trans (h.f.2.2.2.1), (World.frozen?_setCell _ _ _ _).trans (h.f.2.2.2.2.1), (World.frozen?_setCell _ _ _ _).trans (h.f.2.2.2.2.2.1), (World.frozen?_setCell _ _ _ _).trans (h.f.2.2.2.2.2.2)⟩
theorem HoldV.other {w : World} {b : Nat} {v : Vr} (h : HoldV w b v) {c o : Nat} (hne : b ≠ c) (u : Value) : HoldV (w.setCell ⟨c, o, none⟩ u) b v :=
  ⟨⟨(World.cell?_setCell_other _ ⟨c, o, none⟩ ⟨b, 0, none⟩ _ (fun e => hne (by injection e with e1 e2; exact e1.symm))).trans (h.c.1), (World.cell?_setCell_other _ ⟨c, o, none⟩ ⟨b, 1, none⟩ _ (fun e => hne (by injection e with e1 e2; exact e1.symm))).trans (h.c.2.1), (World.cell?_setCell_other _ ⟨c, o, none⟩ ⟨b, 2, none⟩ _ (fun e => hne (by injection e with e1 e2; exact e1.symm))).trans (h.c.2.2.1), (World.cell?_setCell_other _ ⟨c, o, none⟩ ⟨b, 3, none⟩ _ (fun e => hne (by injection e with e1 e2; exact e1.symm))).trans (h.c.2.2.2.1), (World.cell?_setCell_other _ ⟨c, o, none⟩ ⟨b, 4, none⟩ _ (fun e => hne (by injection e with e1 e2; exact e1.symm))).trans (h.c.2.2.2.2.1), (World.cell?_setCell_other _ ⟨c, o, none⟩ ⟨b, 5, none⟩ _ (fun e => hne (by injection e with e1 e2; exact e1.symm))).trans (h.c.2.2.2.2.2.1), (World.cell?_setCell_other _ ⟨c, o, none⟩ ⟨b, 6, none⟩ _ (fun e => hne (by injection e with e1 e2; exact e1.symm))).trans (h.c.2.2.2.2.2.2)⟩, (World.frozen?_setCell _ _ _ _).trans (h.f.1), (World.frozen?_setCell _ _ _ _).trans (h.f.2.1), (World.frozen?_setCell _ _ _ _).trans (h.f.2.2.1), (World.frozen?_setCell _ _ _ _).trans (h.f.2.2.2.1), (World.frozen?_setCell _ _ _ _).trans (h.f.2.2.2.2.1), (World.frozen?_setCell _ _ _ _).trans (h.f.2.2.2.2.2.1), (World.frozen?_setCell _ _ _ _).trans (h.f.2.2.2.2.2.2)⟩

end Go.Proofs.Ytmhddpgeiijhgaa

/-
  Plain facts on lists of spans: which times a list has, what a cover is, that a set of times has one cover, how covers grow at their end.
-/
namespace Go.Proofs.Ytmhddpgeiijhgaa.Co

/-- May the span be? -/
def rightB (f t : Int) : Bool := decide (-1099511627776 ≤ f ∧ f < t ∧ t ≤ 1099511627776)
/-- Has it the time? -/
def hasB (f t x : Int) : Bool := decide (f ≤ x ∧ x < t)
theorem right_yes {f t : Int} (h : rightB f t = true) : -1099511627776 ≤ f ∧ f < t ∧ t ≤ 1099511627776 := by simpa [rightB] using h
theorem right_no {f t : Int} (h : rightB f t = false) : ¬ (-1099511627776 ≤ f ∧ f < t ∧ t ≤ 1099511627776) := by simpa [rightB] using h

abbrev Sp := Int × Int
/-- Has one of the list's right spans the time? -/
def Mem (l : List Sp) (x : Int) : Prop := ∃ p ∈ l, rightB p.1 p.2 = true ∧ p.1 ≤ x ∧ x < p.2
def memB (l : List Sp) (x : Int) : Bool := l.any fun p => rightB p.1 p.2 && hasB p.1 p.2 x
theorem memB_iff (l : List Sp) (x : Int) : memB l x = true ↔ Mem l x := by simp [memB, Mem, hasB]
theorem memB_eq {l m : List Sp} {x : Int} (h : Mem l x ↔ Mem m x) : memB l x = memB m x := by
  rw [Bool.eq_iff_iff, memB_iff, memB_iff]; exact h
instance (l : List Sp) (x : Int) : Decidable (Mem l x) := decidable_of_iff _ (memB_iff l x)

theorem mem_nil (x : Int) : ¬ Mem [] x := by simp [Mem]
theorem mem_cons (p : Sp) (l : List Sp) (x : Int) : Mem (p :: l) x ↔ (rightB p.1 p.2 = true ∧ p.1 ≤ x ∧ x < p.2) ∨ Mem l x := by simp [Mem]
theorem mem_append (l m : List Sp) (x : Int) : Mem (l ++ m) x ↔ Mem l x ∨ Mem m x := by
  simp only [Mem, List.mem_append]
  constructor
  · rintro ⟨p, h | h, r⟩
    · exact .inl ⟨p, h, r⟩
    · exact .inr ⟨p, h, r⟩
  · rintro (⟨p, h, r⟩ | ⟨p, h, r⟩)
    · exact ⟨p, .inl h, r⟩
    · exact ⟨p, .inr h, r⟩
theorem mem_one (p : Sp) (x : Int) : Mem [p] x ↔ (rightB p.1 p.2 = true ∧ p.1 ≤ x ∧ x < p.2) := by simp [Mem]
theorem mem_perm {l m : List Sp} (h : l.Perm m) (x : Int) : Mem l x ↔ Mem m x := by
  constructor
  · rintro ⟨p, hp, r⟩; exact ⟨p, h.mem_iff.1 hp, r⟩
  · rintro ⟨p, hp, r⟩; exact ⟨p, h.mem_iff.2 hp, r⟩
theorem mem_filter (l : List Sp) (x : Int) : Mem (l.filter fun p => rightB p.1 p.2) x ↔ Mem l x := by
  simp only [Mem, List.mem_filter]
  constructor
  · rintro ⟨p, ⟨hp, _⟩, r⟩; exact ⟨p, hp, r⟩
  · rintro ⟨p, hp, r⟩; exact ⟨p, ⟨hp, r.1⟩, r⟩
theorem mem_bounds {l : List Sp} {x : Int} (h : Mem l x) : -1099511627776 ≤ x ∧ x < 1099511627776 := by
  obtain ⟨p, _, hr, h1, h2⟩ := h
  have := right_yes hr
  omega

/-- A cover: right spans, each of which ends ahead of the next one. -/
def Cov (l : List Sp) : Prop := (∀ p ∈ l, rightB p.1 p.2 = true) ∧ l.Pairwise fun p q => p.2 < q.1
instance (l : List Sp) : Decidable (Cov l) := inferInstanceAs (Decidable (_ ∧ _))
theorem Cov.nil : Cov [] := ⟨by simp, List.Pairwise.nil⟩
theorem Cov.tail {p : Sp} {l : List Sp} (h : Cov (p :: l)) : Cov l := ⟨fun q hq => h.1 q (List.mem_cons_of_mem _ hq), (List.pairwise_cons.1 h.2).2⟩
theorem Cov.head {p : Sp} {l : List Sp} (h : Cov (p :: l)) : ∀ q ∈ l, p.2 < q.1 := (List.pairwise_cons.1 h.2).1
theorem Cov.snoc {l : List Sp} {p : Sp} (h : Cov l) (hp : rightB p.1 p.2 = true) (hl : ∀ q ∈ l, q.2 < p.1) : Cov (l ++ [p]) := by
  refine ⟨fun q hq => ?_, ?_⟩
  · rcases List.mem_append.1 hq with h1 | h1
    · exact h.1 q h1
    · obtain rfl := List.mem_singleton.1 h1; exact hp
  · refine List.pairwise_append.2 ⟨h.2, List.pairwise_singleton _ _, fun a ha b hb => ?_⟩
    obtain rfl := List.mem_singleton.1 hb
    exact hl a ha
theorem Cov.left {l m : List Sp} (h : Cov (l ++ m)) : Cov l := ⟨fun p hp => h.1 p (List.mem_append_left _ hp), (List.pairwise_append.1 h.2).1⟩
theorem Cov.last {l : List Sp} {p : Sp} (h : Cov (l ++ [p])) : rightB p.1 p.2 = true ∧ ∀ q ∈ l, q.2 < p.1 :=
  ⟨h.1 p (by simp), fun q hq => (List.pairwise_append.1 h.2).2.2 q hq p (by simp)⟩
/-- All that stand ahead end ahead, if the last one does. -/
theorem Cov.ends {l : List Sp} {q : Sp} (h : Cov (l ++ [q])) {x : Int} (hx : q.2 < x) : ∀ p ∈ l ++ [q], p.2 < x := fun p hp => by
  rcases List.mem_append.1 hp with h1 | h1
  · have := h.last.2 p h1
    have := right_yes h.last.1
    omega
  · obtain rfl := List.mem_singleton.1 h1; exact hx

theorem cov_first {p : Sp} {l : List Sp} (h : Cov (p :: l)) {x : Int} (hx : Mem (p :: l) x) : p.1 ≤ x := by
  obtain ⟨q, hq, hr, h1, h2⟩ := hx
  rcases List.mem_cons.1 hq with rfl | hq
  · exact h1
  · have := h.head q hq
    have := right_yes (h.1 p (by simp))
    omega
theorem cov_first_mem {p : Sp} {l : List Sp} (h : Cov (p :: l)) : Mem (p :: l) p.1 := by
  have := right_yes (h.1 p (by simp))
  exact ⟨p, by simp, h.1 p (by simp), by omega, by omega⟩
theorem cov_end {p : Sp} {l : List Sp} (h : Cov (p :: l)) : ¬ Mem (p :: l) p.2 := by
  rintro ⟨q, hq, hr, h1, h2⟩
  rcases List.mem_cons.1 hq with rfl | hq
  · omega
  · have := h.head q hq
    omega
theorem cov_tail {p : Sp} {l : List Sp} (h : Cov (p :: l)) (x : Int) : Mem l x ↔ Mem (p :: l) x ∧ p.2 ≤ x := by
  constructor
  · intro hm
    obtain ⟨q, hq, hr, h1, h2⟩ := hm
    have := h.head q hq
    exact ⟨⟨q, List.mem_cons_of_mem _ hq, hr, h1, h2⟩, by omega⟩
  · rintro ⟨⟨q, hq, hr, h1, h2⟩, h3⟩
    rcases List.mem_cons.1 hq with rfl | hq
    · omega
    · exact ⟨q, hq, hr, h1, h2⟩

/-- A set of times has one cover. -/
theorem cov_ext : ∀ l m : List Sp, Cov l → Cov m → (∀ x, Mem l x ↔ Mem m x) → l = m
  | [], [], _, _, _ => rfl
  | [], q :: m, _, hm, h => absurd ((h q.1).2 (cov_first_mem hm)) (mem_nil _)
  | p :: l, [], hl, _, h => absurd ((h p.1).1 (cov_first_mem hl)) (mem_nil _)
  | p :: l, q :: m, hl, hm, h => by
    have h1 := cov_first hm ((h p.1).1 (cov_first_mem hl))
    have h2 := cov_first hl ((h q.1).2 (cov_first_mem hm))
    have rp := right_yes (hl.1 p (by simp))
    have rq := right_yes (hm.1 q (by simp))
    have e1 : p.1 = q.1 := by omega
    have e2 : p.2 = q.2 := by
      rcases Int.lt_trichotomy p.2 q.2 with hlt | heq | hgt
      · exact absurd ((h p.2).2 ⟨q, by simp, hm.1 q (by simp), by omega, hlt⟩) (cov_end hl)
      · exact heq
      · exact absurd ((h q.2).1 ⟨p, by simp, hl.1 p (by simp), by omega, hgt⟩) (cov_end hm)
    have e : p = q := Prod.ext e1 e2
    subst e
    rw [cov_ext l m hl.tail hm.tail fun x => by rw [cov_tail hl, cov_tail hm, h x]]

/-- The cover of a set of times. -/
def CovOf (l : List Sp) (S : Int → Prop) : Prop := Cov l ∧ ∀ x, Mem l x ↔ S x
theorem CovOf.eq {l m : List Sp} {S T : Int → Prop} (hl : CovOf l S) (hm : CovOf m T) (h : ∀ x, S x ↔ T x) : l = m :=
  cov_ext l m hl.1 hm.1 fun x => ((hl.2 x).trans (h x)).trans (hm.2 x).symm
theorem CovOf.same {l m : List Sp} {S T : Int → Prop} (hl : CovOf l S) (hm : CovOf m T) (h : ∀ x, S x ↔ T x) : decide (l = m) = true := by
  simpa using hl.eq hm h

/- Is a list a cover, as far as k? -/
theorem cov_take_succ {l : List Sp} {k : Nat} {p : Sp} (hp : l[k]? = some p) (h : Cov (l.take k)) (hr : rightB p.1 p.2 = true) (hq : ∀ q, k ≠ 0 → l[k - 1]? = some q → q.2 < p.1) : Cov (l.take (k + 1)) := by
  rw [List.take_add_one, hp]
  simp only [Option.toList_some]
  rcases Nat.eq_zero_or_pos k with rfl | hk
  · simpa using Cov.snoc (l := []) Cov.nil hr (by simp)
  · obtain ⟨q, hq'⟩ : ∃ q, l[k - 1]? = some q := by
      have : k < l.length := by rcases Nat.lt_or_ge k l.length with h | h; exact h; simp [List.getElem?_eq_none h] at hp
      exact ⟨_, List.getElem?_eq_getElem (by omega)⟩
    have e : l.take k = l.take (k - 1) ++ [q] := by
      have e1 : l.take (k - 1 + 1) = l.take (k - 1) ++ [q] := by rw [List.take_add_one, hq']; rfl
      rwa [show k - 1 + 1 = k from by omega] at e1
    have h' := h
    rw [e] at h'
    refine Cov.snoc h hr ?_
    rw [e]
    exact h'.ends (hq q (by omega) hq')
theorem cov_not_right {l : List Sp} {k : Nat} {p : Sp} (hp : l[k]? = some p) (hr : rightB p.1 p.2 = false) : ¬ Cov l := fun h => by
  have := h.1 p (List.mem_of_getElem? hp)
  rw [hr] at this
  cases this
theorem cov_not_apart {l : List Sp} {k : Nat} {p q : Sp} (hq : l[k]? = some q) (hp : l[k + 1]? = some p) (h : p.1 ≤ q.2) : ¬ Cov l := fun hc => by
  have h1 := List.pairwise_iff_getElem.1 hc.2 k (k + 1)
  obtain ⟨l1, e1⟩ := List.getElem?_eq_some_iff.1 hq
  obtain ⟨l2, e2⟩ := List.getElem?_eq_some_iff.1 hp
  have := h1 l1 l2 (by omega)
  rw [e1, e2] at this
  omega

/- Making a cover of spans that rise. -/
/-- What has been made of the spans so far. -/
structure Made (m d : List Sp) : Prop where
  cov : Cov m
  mem : ∀ x, Mem m x ↔ Mem d x
  len : m.length ≤ d.length
  from_ : ∀ q ∈ m, ∃ p ∈ d, p.1 = q.1
theorem Made.nil : Made [] [] := ⟨Cov.nil, fun _ => Iff.rfl, Nat.le_refl _, by simp⟩
theorem Made.joins {m d : List Sp} {q a : Sp} (h : Made (m ++ [q]) d) (hr : rightB a.1 a.2 = true) (hs : ∀ p ∈ d, p.1 ≤ a.1) (hle : a.1 ≤ q.2) : Made (m ++ [(q.1, max q.2 a.2)]) (d ++ [a]) := by
  have hq := right_yes h.cov.last.1
  have ha := right_yes hr
  obtain ⟨p, hp, he⟩ := h.from_ q (by simp)
  have h1 := hs p hp
  have hr' : rightB q.1 (max q.2 a.2) = true := by simp [rightB]; omega
  refine ⟨Cov.snoc h.cov.left hr' h.cov.last.2, fun x => ?_, by have := h.len; simp at this ⊢; omega, ?_⟩
  · rw [mem_append, mem_append, ← h.mem x, mem_append, mem_one, mem_one, mem_one]
    simp only [hr', hr, h.cov.last.1, true_and]
    constructor
    · rintro (h2 | h2)
      · exact .inl (.inl h2)
      · rcases Int.lt_or_le x q.2 with h3 | h3
        · exact .inl (.inr ⟨h2.1, h3⟩)
        · exact .inr ⟨by omega, by omega⟩
    · rintro ((h2 | h2) | h2)
      · exact .inl h2
      · exact .inr ⟨h2.1, by omega⟩
      · exact .inr ⟨by omega, by omega⟩
  · intro r hr2
    rcases List.mem_append.1 hr2 with h2 | h2
    · obtain ⟨p', hp', e⟩ := h.from_ r (List.mem_append_left _ h2)
      exact ⟨p', List.mem_append_left _ hp', e⟩
    · obtain rfl := List.mem_singleton.1 h2
      exact ⟨p, List.mem_append_left _ hp, he⟩
theorem Made.adds {m d : List Sp} {a : Sp} (h : Made m d) (hr : rightB a.1 a.2 = true) (hl : ∀ q ∈ m, q.2 < a.1) : Made (m ++ [a]) (d ++ [a]) := by
  refine ⟨Cov.snoc h.cov hr hl, fun x => ?_, by have := h.len; simp; omega, ?_⟩
  · rw [mem_append, mem_append, h.mem x]
  · intro r hr2
    rcases List.mem_append.1 hr2 with h2 | h2
    · obtain ⟨p', hp', e⟩ := h.from_ r h2
      exact ⟨p', List.mem_append_left _ hp', e⟩
    · obtain rfl := List.mem_singleton.1 h2
      exact ⟨_, by simp, rfl⟩

/- The document's way: piece by piece between the ends. -/
/-- A piece behind a cover: it is joined to the last one where it touches it. -/
theorem put_joins {m : List Sp} {q : Sp} {t : Int} (h : Cov (m ++ [q])) (hq : q.2 < t) (ht : t ≤ 1099511627776) : Cov (m ++ [(q.1, t)]) ∧ ∀ x, Mem (m ++ [(q.1, t)]) x ↔ Mem (m ++ [q]) x ∨ (q.2 ≤ x ∧ x < t) := by
  have hr := right_yes h.last.1
  have hr' : rightB q.1 t = true := by simp [rightB]; omega
  refine ⟨Cov.snoc h.left hr' h.last.2, fun x => ?_⟩
  rw [mem_append, mem_append, mem_one, mem_one]
  simp only [hr', h.last.1, true_and]
  constructor
  · rintro (h2 | h2)
    · exact .inl (.inl h2)
    · rcases Int.lt_or_le x q.2 with h3 | h3
      · exact .inl (.inr ⟨h2.1, h3⟩)
      · exact .inr ⟨h3, h2.2⟩
  · rintro ((h2 | h2) | h2)
    · exact .inl h2
    · exact .inr ⟨h2.1, by omega⟩
    · exact .inr ⟨by omega, h2.2⟩
theorem put_adds {m : List Sp} {f t : Int} (h : Cov m) (hl : ∀ q ∈ m, q.2 < f) (hr : rightB f t = true) : Cov (m ++ [(f, t)]) ∧ ∀ x, Mem (m ++ [(f, t)]) x ↔ Mem m x ∨ (f ≤ x ∧ x < t) := by
  refine ⟨Cov.snoc h hr hl, fun x => ?_⟩
  rw [mem_append, mem_one]
  simp [hr]

/-- The ends of the right spans of a list. -/
def endsOf (l : List Sp) : List Int := (l.filter fun p => rightB p.1 p.2).flatMap fun p => [p.1, p.2]
theorem mem_ends {l : List Sp} {p : Sp} (hp : p ∈ l) (hr : rightB p.1 p.2 = true) : p.1 ∈ endsOf l ∧ p.2 ∈ endsOf l := by
  unfold endsOf
  simp only [List.mem_flatMap, List.mem_filter]
  exact ⟨⟨p, ⟨hp, hr⟩, by simp⟩, ⟨p, ⟨hp, hr⟩, by simp⟩⟩
theorem ends_bounds {l : List Sp} {x : Int} (h : x ∈ endsOf l) : -1099511627776 ≤ x ∧ x ≤ 1099511627776 := by
  unfold endsOf at h
  simp only [List.mem_flatMap, List.mem_filter] at h
  obtain ⟨p, ⟨_, hr⟩, hx⟩ := h
  have := right_yes hr
  simp at hx
  omega
theorem ends_append (l m : List Sp) : endsOf (l ++ m) = endsOf l ++ endsOf m := by simp [endsOf]
theorem ends_length (l : List Sp) : (endsOf l).length ≤ 2 * l.length := by
  have h : ∀ l : List Sp, (l.flatMap fun p => [p.1, p.2]).length = 2 * l.length := fun l => by
    induction l with
    | nil => rfl
    | cons p l ih => simp only [List.flatMap_cons, List.length_append, ih, List.length_cons, List.length_nil]; omega
  rw [endsOf, h]
  have := List.length_filter_le (fun p : Sp => rightB p.1 p.2) l
  omega
/-- Between two ends that follow on each other all times are alike. -/
theorem mem_between {l : List Sp} {ts : List Int} (hts : ∀ y ∈ endsOf l, y ∈ ts) (hp : ts.Pairwise (· < ·)) {i : Nat} {a b x : Int} (ha : ts[i]? = some a) (hb : ts[i + 1]? = some b) (h1 : a ≤ x) (h2 : x < b) : Mem l x ↔ Mem l a := by
  have key : ∀ y ∈ ts, y < b → y ≤ a := fun y hy hlt => by
    obtain ⟨j, hj⟩ := List.getElem?_of_mem hy
    obtain ⟨lj, ej⟩ := List.getElem?_eq_some_iff.1 hj
    obtain ⟨li, ei⟩ := List.getElem?_eq_some_iff.1 ha
    obtain ⟨lb, eb⟩ := List.getElem?_eq_some_iff.1 hb
    have H := List.pairwise_iff_getElem.1 hp
    rcases Nat.lt_trichotomy j i with h | rfl | h
    · have := H j i lj li h
      omega
    · omega
    · rcases Nat.lt_or_ge (i + 1) j with h3 | h3
      · have := H (i + 1) j lb lj h3
        omega
      · obtain rfl : j = i + 1 := by omega
        omega
  constructor
  · rintro ⟨p, hp', hr, h3, h4⟩
    obtain ⟨e1, e2⟩ := mem_ends hp' hr
    have := key p.1 (hts _ e1) (by omega)
    exact ⟨p, hp', hr, this, by omega⟩
  · rintro ⟨p, hp', hr, h3, h4⟩
    obtain ⟨e1, e2⟩ := mem_ends hp' hr
    refine ⟨p, hp', hr, by omega, ?_⟩
    rcases Int.lt_or_le p.2 b with h5 | h5
    · have := key p.2 (hts _ e2) h5
      omega
    · omega
theorem mem_ahead {l : List Sp} {ts : List Int} (hts : ∀ y ∈ endsOf l, y ∈ ts) (hp : ts.Pairwise (· < ·)) {x : Int} (h : ∀ q, ts[0]? = some q → x < q) : ¬ Mem l x := by
  rintro ⟨p, hp', hr, h3, h4⟩
  obtain ⟨j, hj⟩ := List.getElem?_of_mem (hts _ (mem_ends hp' hr).1)
  obtain ⟨lj, ej⟩ := List.getElem?_eq_some_iff.1 hj
  have h0 := h ts[0] (List.getElem?_eq_getElem (by omega))
  rcases Nat.eq_zero_or_pos j with rfl | h1
  · omega
  · have := List.pairwise_iff_getElem.1 hp 0 j (by omega) lj h1
    omega
theorem mem_behind {l : List Sp} {ts : List Int} (hts : ∀ y ∈ endsOf l, y ∈ ts) (hp : ts.Pairwise (· < ·)) {i : Nat} {a x : Int} (ha : ts[i]? = some a) (hi : ts.length ≤ i + 1) (h : a ≤ x) : ¬ Mem l x := by
  rintro ⟨p, hp', hr, h3, h4⟩
  obtain ⟨j, hj⟩ := List.getElem?_of_mem (hts _ (mem_ends hp' hr).2)
  obtain ⟨lj, ej⟩ := List.getElem?_eq_some_iff.1 hj
  obtain ⟨li, ei⟩ := List.getElem?_eq_some_iff.1 ha
  rcases Nat.lt_or_ge j i with h1 | h1
  · have := List.pairwise_iff_getElem.1 hp j i lj li h1
    omega
  · obtain rfl : j = i := by omega
    omega

/-- Which times of two lists count. -/
def kindB (kind : Int) (x y : Bool) : Bool := (kind == 0 && (x || y)) || (kind == 1 && x && y) || (kind == 2 && x && !y)
def KindP (kind : Int) (a b : List Sp) (x : Int) : Prop := kindB kind (memB a x) (memB b x) = true
/-- What is out when the pieces ahead of place i are through. -/
structure OutTo (a b : List Sp) (kind : Int) (ts : List Int) (i : Nat) (o : List Sp) : Prop where
  cov : Cov o
  mem : ∀ x, (∀ q, ts[i]? = some q → x < q) → i < ts.length → (Mem o x ↔ KindP kind a b x)
  ends : ∀ p ∈ o, ∀ q, ts[i]? = some q → p.2 ≤ q
  len : o.length ≤ i
theorem kind_none {kind : Int} : kindB kind false false = false := by simp [kindB]
theorem OutTo.start {a b : List Sp} {kind : Int} {ts : List Int} (ha : ∀ y ∈ endsOf a, y ∈ ts) (hb : ∀ y ∈ endsOf b, y ∈ ts) (hp : ts.Pairwise (· < ·)) : OutTo a b kind ts 0 [] := by
  refine ⟨Cov.nil, fun x hx _ => ?_, by simp, Nat.le_refl _⟩
  have h1 : memB a x = false := by have := mem_ahead ha hp hx; rw [← memB_iff] at this; simpa using this
  have h2 : memB b x = false := by have := mem_ahead hb hp hx; rw [← memB_iff] at this; simpa using this
  simp [KindP, h1, h2, kind_none, mem_nil]
theorem kind_between {a b : List Sp} {kind : Int} {ts : List Int} (ha : ∀ y ∈ endsOf a, y ∈ ts) (hb : ∀ y ∈ endsOf b, y ∈ ts) (hp : ts.Pairwise (· < ·)) {i : Nat} {f t x : Int} (hf : ts[i]? = some f) (ht : ts[i + 1]? = some t) (h1 : f ≤ x) (h2 : x < t) : KindP kind a b x ↔ KindP kind a b f := by
  unfold KindP
  rw [memB_eq (l := a) (m := a) (x := x), memB_eq (l := b) (m := b) (x := x)]
  · rw [show memB a x = memB a f from by rw [Bool.eq_iff_iff, memB_iff, memB_iff]; exact mem_between ha hp hf ht h1 h2, show memB b x = memB b f from by rw [Bool.eq_iff_iff, memB_iff, memB_iff]; exact mem_between hb hp hf ht h1 h2]
  · exact Iff.rfl
  · exact Iff.rfl
/-- A piece that doesn't count. -/
theorem OutTo.skip {a b : List Sp} {kind : Int} {ts : List Int} {i : Nat} {o : List Sp} (h : OutTo a b kind ts i o) (ha : ∀ y ∈ endsOf a, y ∈ ts) (hb : ∀ y ∈ endsOf b, y ∈ ts) (hp : ts.Pairwise (· < ·)) {f t : Int} (hf : ts[i]? = some f) (ht : ts[i + 1]? = some t) (hn : kindB kind (memB a f) (memB b f) = false) : OutTo a b kind ts (i + 1) o := by
  obtain ⟨li, ei⟩ := List.getElem?_eq_some_iff.1 hf
  obtain ⟨lj, ej⟩ := List.getElem?_eq_some_iff.1 ht
  have hft := List.pairwise_iff_getElem.1 hp i (i + 1) li lj (by omega)
  rw [ei, ej] at hft
  refine ⟨h.cov, fun x hx _ => ?_, fun p hp' q hq => ?_, by have := h.len; omega⟩
  · rcases Int.lt_or_le x f with h1 | h1
    · exact h.mem x (fun q hq => by rw [hf] at hq; injection hq with hq; omega) li
    · rw [kind_between ha hb hp hf ht h1 (hx t ht)]
      constructor
      · rintro ⟨p, hp', hr, h3, h4⟩
        have := h.ends p hp' f hf
        omega
      · intro hk
        rw [KindP, hn] at hk
        cases hk
  · have := h.ends p hp' f hf
    rw [ht] at hq
    injection hq with hq
    omega
theorem OutTo.next {a b : List Sp} {kind : Int} {ts : List Int} {i : Nat} {o o' : List Sp} (h : OutTo a b kind ts i o) (ha : ∀ y ∈ endsOf a, y ∈ ts) (hb : ∀ y ∈ endsOf b, y ∈ ts) (hp : ts.Pairwise (· < ·)) {f t : Int} (hf : ts[i]? = some f) (ht : ts[i + 1]? = some t) (hn : kindB kind (memB a f) (memB b f) = true)
    (hc : Cov o') (hm : ∀ x, Mem o' x ↔ Mem o x ∨ (f ≤ x ∧ x < t)) (he : ∀ p ∈ o', p ∈ o ∨ p.2 = t) (hl : o'.length ≤ o.length + 1) : OutTo a b kind ts (i + 1) o' := by
  obtain ⟨li, ei⟩ := List.getElem?_eq_some_iff.1 hf
  obtain ⟨lj, ej⟩ := List.getElem?_eq_some_iff.1 ht
  have hft := List.pairwise_iff_getElem.1 hp i (i + 1) li lj (by omega)
  rw [ei, ej] at hft
  refine ⟨hc, fun x hx _ => ?_, fun p hp' q hq => ?_, by have := h.len; omega⟩
  · rw [hm x]
    rcases Int.lt_or_le x f with h1 | h1
    · rw [h.mem x (fun q hq => by rw [hf] at hq; injection hq with hq; omega) li]
      constructor
      · rintro (h2 | h2)
        · exact h2
        · omega
      · exact .inl
    · rw [kind_between ha hb hp hf ht h1 (hx t ht)]
      exact ⟨fun _ => hn, fun _ => .inr ⟨h1, hx t ht⟩⟩
  · rw [ht] at hq
    injection hq with hq
    rcases he p hp' with h1 | h1
    · have := h.ends p h1 f hf
      omega
    · omega
theorem OutTo.stop {a b : List Sp} {kind : Int} {ts : List Int} {i : Nat} {o : List Sp} (h : OutTo a b kind ts i o) (ha : ∀ y ∈ endsOf a, y ∈ ts) (hb : ∀ y ∈ endsOf b, y ∈ ts) (hp : ts.Pairwise (· < ·)) (hi : ts.length ≤ i + 1) (hi2 : i = 0 ∨ i < ts.length) : CovOf o (KindP kind a b) := by
  refine ⟨h.cov, fun x => ?_⟩
  rcases Nat.lt_or_ge i ts.length with hl | hl
  · rcases Int.lt_or_le x ts[i] with h1 | h1
    · exact h.mem x (fun q hq => by rw [List.getElem?_eq_getElem hl] at hq; injection hq with hq; omega) hl
    · have e1 : memB a x = false := by have := mem_behind ha hp (List.getElem?_eq_getElem hl) hi h1; rw [← memB_iff] at this; simpa using this
      have e2 : memB b x = false := by have := mem_behind hb hp (List.getElem?_eq_getElem hl) hi h1; rw [← memB_iff] at this; simpa using this
      constructor
      · rintro ⟨p, hp', hr, h3, h4⟩
        have := h.ends p hp' _ (List.getElem?_eq_getElem hl)
        omega
      · intro hk
        rw [KindP, e1, e2, kind_none] at hk
        cases hk
  · obtain rfl : i = 0 := by omega
    have ht : ts = [] := List.eq_nil_of_length_eq_zero (by omega)
    have e0 : o = [] := List.eq_nil_of_length_eq_zero (by have := h.len; omega)
    have e1 : memB a x = false := by have := mem_ahead ha hp (x := x) (by simp [ht]); rw [← memB_iff] at this; simpa using this
    have e2 : memB b x = false := by have := mem_ahead hb hp (x := x) (by simp [ht]); rw [← memB_iff] at this; simpa using this
    rw [e0]
    simp [KindP, e1, e2, kind_none, mem_nil]

end Go.Proofs.Ytmhddpgeiijhgaa.Co
