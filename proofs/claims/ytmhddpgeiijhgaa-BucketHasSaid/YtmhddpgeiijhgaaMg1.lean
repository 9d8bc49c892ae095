/-
  Texts joined into one: what the program's and the document's calls give back, piece by piece.
-/
import Derived.Shelf.Small.Bits
import Derived.Shelf.Small.Strs
import Derived.Shelf.Strconv.Itoa0
import Derived.Ground.SlgcProg
import Derived.Shelf.SlicesG.Cmp
import Derived.Test.YtmhddpgeiijhgaaProg
import Derived.Shelf.SlGeneric
import Derived.Shelf.SlSortCmp.NoneTotal
import Derived.Ground.SlsfProg
import Derived.Test.YtmhddpgeiijhgaaRows
import Derived.BigQuiet
import Derived.ChangeAlike
import Derived.ChangeKeysEq
import Derived.Deep.AppendLies
import Derived.Deep.CutBlock
import Derived.Deep.CutRange
import Derived.Deep.Light
import Derived.Deep.QuietTactic
import Derived.Deep.RegionHeld3
import Derived.Handy
import Derived.Laws.BytesArg
import Derived.Laws.OwnMore
import Derived.Laws.Strings
import Derived.Lib.Hide
import Derived.Maps.AppendAt
import Derived.OneCell
import Derived.OwnWalk
import Derived.RegionTactic
import Derived.StillTailTactics
import Derived.WalkArith
import Derived.WalkKit
import Derived.WalkLawsBesides
import Derived.WalkSpells
import Derived.Deep.RegionLaw
import Derived.Laws.StructEq
import Derived.Test.YtmhddpgeiijhgaaChecked
import Derived.ChangeMaps5
import Derived.Deep.SlicePairs
import Derived.Lib.SmallJoins
import Derived.OpenShut
import Derived.ProofKit
import Derived.SizedLaws

/-
  What library functions do, as contracts of this program: each is one application of the shelf's contract.
-/
namespace Go.Proofs
open Go.Shelf
def Try.lays128_ren : Go.Shelf.Ren := ⟨fun | 128 => 55 | n => n, fun | 51 => 95 | 3 => 3 | 4 => 4 | 46 => 86 | 5 => 5 | 9 => 9 | n => n, fun | n => n⟩
theorem Try.lays128 : Go.Proofs.Lays.n128 Try.prog Try.lays128_ren := {
  mixed := by kernel_rfl
  f128 := Try.func55.trans (congrArg some (by kernel_rfl))
  t3 := Try.underlying3
  a3 := Try.isAgg3
  z3 := Try.sizeOf3
  v3 := Try.zeroValue3
  t4 := Try.underlying4
  a4 := Try.isAgg4
  z4 := Try.sizeOf4
  v4 := Try.zeroValue4
  t5 := Try.underlying5
  a5 := Try.isAgg5
  z5 := Try.sizeOf5
  v5 := Try.zeroValue5
  t9 := Try.underlying9
  a9 := Try.isAgg9
  z9 := Try.sizeOf9
  v9 := Try.zeroValue9
  t46 := Try.underlying86
  a46 := Try.isAgg86
  z46 := Try.sizeOf86
  v46 := Try.zeroValue86
  t51 := Try.underlying95
  a51 := Try.isAgg95
  z51 := Try.sizeOf95
  v51 := Try.zeroValue95 }
/-- bits.Len32: "Len32 returns the minimum number of bits required to represent x; the result is 0 for x == 0.": IT RETURNS 'Lib.bitLen x'; the world is as it was. ('h0', 'h1': x is a uint32.) (LAID: no walk: one application.) -/
theorem Try.bits_Len32 (x : Int) (w : World) (h0 : 0 ≤ x) (h1 : x ≤ 4294967295) :
    Calls Try.prog 55 #[.int .u32 x] w fun e w' => e = .returned (.int .i64 (Lib.bitLen x.toNat)) ∧ w' = w := Any.bits_Len32 Try.lays128 x w h0 h1
def Try.lays125_ren : Go.Shelf.Ren := ⟨fun | 125 => 44 | 128 => 55 | 129 => 56 | n => n, fun | 46 => 86 | 3 => 3 | 51 => 95 | 53 => 97 | 4 => 4 | 5 => 5 | 9 => 9 | n => n, fun | n => n⟩
theorem Try.lays125 : Go.Proofs.Lays.n125 Try.prog Try.lays125_ren := {
  mixed := by kernel_rfl
  f125 := Try.func44.trans (congrArg some (by kernel_rfl))
  f128 := Try.func55.trans (congrArg some (by kernel_rfl))
  f129 := Try.func56.trans (congrArg some (by kernel_rfl))
  t3 := Try.underlying3
  a3 := Try.isAgg3
  z3 := Try.sizeOf3
  v3 := Try.zeroValue3
  t4 := Try.underlying4
  a4 := Try.isAgg4
  z4 := Try.sizeOf4
  v4 := Try.zeroValue4
  t5 := Try.underlying5
  a5 := Try.isAgg5
  z5 := Try.sizeOf5
  v5 := Try.zeroValue5
  t9 := Try.underlying9
  a9 := Try.isAgg9
  z9 := Try.sizeOf9
  v9 := Try.zeroValue9
  t46 := Try.underlying86
  a46 := Try.isAgg86
  z46 := Try.sizeOf86
  v46 := Try.zeroValue86
  t51 := Try.underlying95
  a51 := Try.isAgg95
  z51 := Try.sizeOf95
  v51 := Try.zeroValue95
  t53 := Try.underlying97
  a53 := Try.isAgg97
  z53 := Try.sizeOf97
  v53 := Try.zeroValue97 }
/-- bits.Len: "Len returns the minimum number of bits required to represent x; the result is 0 for x == 0.": IT RETURNS 'Lib.bitLen x'; the world is as it was. (A uint has 64 bits in the model.) ITS CALLEE bits.Len64 IS MET BY ITS OWN CONTRACT OFF THE SHELF (lay that first). (LAID: no walk: one application.) -/
theorem Try.bits_Len (x : Int) (w : World) (h0 : 0 ≤ x) (h1 : x ≤ 18446744073709551615) :
    Calls Try.prog 44 #[.int .u64 x] w fun e w' => e = .returned (.int .i64 (Lib.bitLen x.toNat)) ∧ w' = w := Any.bits_Len Try.lays125 x w h0 h1
def Try.lays213_ren : Go.Shelf.Ren := ⟨fun | 213 => 45 | 265 => 57 | n => n, fun | 9 => 9 | 3 => 3 | n => n, fun | n => n⟩
theorem Try.lays213 : Go.Proofs.Lays.n213 Try.prog Try.lays213_ren := {
  mixed := by kernel_rfl
  f213 := Try.func45.trans (congrArg some (by kernel_rfl))
  f265 := Try.func57.trans (congrArg some (by kernel_rfl))
  t3 := Try.underlying3
  a3 := Try.isAgg3
  z3 := Try.sizeOf3
  v3 := Try.zeroValue3
  t9 := Try.underlying9
  a9 := Try.isAgg9
  z9 := Try.sizeOf9
  v9 := Try.zeroValue9 }
open Go.RowKit in
/-- internal/bytealg.CompareString (what strings.Compare calls): IT RETURNS 'Lib.compareBytes a b'; the world is as it was. (LAID: no walk: one application.) -/
theorem Try.bytealg_CompareString (a b : ByteArray) (w : World) :
    Calls Try.prog 45 #[.string a, .string b] w fun e w' => e = .returned (.int .i64 (Lib.compareBytes a.data.toList b.data.toList)) ∧ w' = w := Any.bytealg_CompareString Try.lays213 a b w
def Try.lays106_ren : Go.Shelf.Ren := ⟨fun | 106 => 40 | 213 => 45 | 265 => 57 | n => n, fun | 9 => 9 | 3 => 3 | n => n, fun | n => n⟩
theorem Try.lays106 : Go.Proofs.Lays.n106 Try.prog Try.lays106_ren := {
  mixed := by kernel_rfl
  f106 := Try.func40.trans (congrArg some (by kernel_rfl))
  f213 := Try.func45.trans (congrArg some (by kernel_rfl))
  f265 := Try.func57.trans (congrArg some (by kernel_rfl))
  t3 := Try.underlying3
  a3 := Try.isAgg3
  z3 := Try.sizeOf3
  v3 := Try.zeroValue3
  t9 := Try.underlying9
  a9 := Try.isAgg9
  z9 := Try.sizeOf9
  v9 := Try.zeroValue9 }
open Go.RowKit in
/-- strings.Compare: "Compare returns an integer comparing two strings lexicographically. The result will be 0 if a == b, -1 if a < b, and +1 if a > b.": IT RETURNS 'Lib.compareBytes a b'; the world is as it was. (LAID: no walk: one application.) -/
theorem Try.strings_Compare (a b : ByteArray) (w : World) :
    Calls Try.prog 40 #[.string a, .string b] w fun e w' => e = .returned (.int .i64 (Lib.compareBytes a.data.toList b.data.toList)) ∧ w' = w := Any.strings_Compare Try.lays106 a b w
def Try.lays129_ren : Go.Shelf.Ren := ⟨fun | 129 => 56 | n => n, fun | 53 => 97 | 3 => 3 | 4 => 4 | 46 => 86 | 5 => 5 | 9 => 9 | n => n, fun | n => n⟩
theorem Try.lays129 : Go.Proofs.Lays.n129 Try.prog Try.lays129_ren := {
  mixed := by kernel_rfl
  f129 := Try.func56.trans (congrArg some (by kernel_rfl))
  t3 := Try.underlying3
  a3 := Try.isAgg3
  z3 := Try.sizeOf3
  v3 := Try.zeroValue3
  t4 := Try.underlying4
  a4 := Try.isAgg4
  z4 := Try.sizeOf4
  v4 := Try.zeroValue4
  t5 := Try.underlying5
  a5 := Try.isAgg5
  z5 := Try.sizeOf5
  v5 := Try.zeroValue5
  t9 := Try.underlying9
  a9 := Try.isAgg9
  z9 := Try.sizeOf9
  v9 := Try.zeroValue9
  t46 := Try.underlying86
  a46 := Try.isAgg86
  z46 := Try.sizeOf86
  v46 := Try.zeroValue86
  t53 := Try.underlying97
  a53 := Try.isAgg97
  z53 := Try.sizeOf97
  v53 := Try.zeroValue97 }
/-- bits.Len64: "Len64 returns the minimum number of bits required to represent x; the result is 0 for x == 0.": IT RETURNS 'Lib.bitLen x'; the world is as it was. ('h0', 'h1': x is a uint64.) (LAID: no walk: one application.) -/
theorem Try.bits_Len64 (x : Int) (w : World) (h0 : 0 ≤ x) (h1 : x ≤ 18446744073709551615) :
    Calls Try.prog 56 #[.int .u64 x] w fun e w' => e = .returned (.int .i64 (Lib.bitLen x.toNat)) ∧ w' = w := Any.bits_Len64 Try.lays129 x w h0 h1
def Try.laysSlC27_f46_ren : Go.Shelf.Ren := ⟨fun | 7 => 46 | n => n, fun | 22 => 3 | 4 => 4 | n => n, fun | n => n⟩
theorem Try.laysSlC27_f46 : Go.Proofs.SlLaysC2.n7 Try.prog Try.laysSlC27_f46_ren := {
  mixed := by kernel_rfl
  f7 := ⟨Try.f46.name, by decide, Try.func46.trans (congrArg some (by kernel_rfl))⟩
  t4 := Try.underlying4
  a4 := Try.isAgg4
  z4 := Try.sizeOf4
  v4 := Try.zeroValue4
  t22 := Try.underlying3
  a22 := Try.isAgg3
  z22 := Try.sizeOf3
  v22 := Try.zeroValue3 }
open Go.Lib in
/-- cmp.isNaN at an int under a name: 'x != x': false. (LAID AT THE INSTANCE 'cmp.isNaN[int]': no walk: one application.) -/
theorem Try.cmp_isNaN_int (x : Int) (w : World) :
    Calls Try.prog 46 #[.int .i64 x] w fun e w' => e = .returned (.bool false) ∧ w' = w := AnyG.cmp_isNaN_int Try.laysSlC27_f46 x w
def Try.laysSlC25_f41_ren : Go.Shelf.Ren := ⟨fun | 5 => 41 | 7 => 46 | n => n, fun | 22 => 3 | 3 => 3 | 4 => 4 | n => n, fun | n => n⟩
theorem Try.laysSlC25_f41 : Go.Proofs.SlLaysC2.n5 Try.prog Try.laysSlC25_f41_ren := {
  mixed := by kernel_rfl
  f5 := ⟨Try.f41.name, by decide, Try.func41.trans (congrArg some (by kernel_rfl))⟩
  f7 := ⟨Try.f46.name, by decide, Try.func46.trans (congrArg some (by kernel_rfl))⟩
  t3 := Try.underlying3
  a3 := Try.isAgg3
  z3 := Try.sizeOf3
  v3 := Try.zeroValue3
  t4 := Try.underlying4
  a4 := Try.isAgg4
  z4 := Try.sizeOf4
  v4 := Try.zeroValue4
  t22 := Try.underlying3
  a22 := Try.isAgg3
  z22 := Try.sizeOf3
  v22 := Try.zeroValue3 }
open Go.Lib in
/-- cmp.Compare at an int under a name: "Compare returns -1 if x is less than y, 0 if x equals y, +1 if x is greater than y.": IT RETURNS 'Lib.compareInt x y'; the world is as it was. (LAID AT THE INSTANCE 'cmp.Compare[int]': no walk: one application.) -/
theorem Try.cmp_Compare_int (x y : Int) (w : World) :
    Calls Try.prog 41 #[.int .i64 x, .int .i64 y] w fun e w' => e = .returned (.int .i64 (Lib.compareInt x y)) ∧ w' = w := AnyG.cmp_Compare_int Try.laysSlC25_f41 x y w
end Go.Proofs

/-
  What library functions do, as structures of this program.
-/
namespace Go.Proofs
open Go.Shelf
def Try.sortTot_ren : Go.Shelf.Ren := ⟨fun | 6 => 37 | 15 => 44 | 14 => 43 | 28 => 55 | 29 => 56 | 20 => 47 | 21 => 48 | 22 => 49 | 23 => 50 | 24 => 51 | 25 => 52 | 26 => 53 | 27 => 54 | 46 => 58 | 47 => 59 | 48 => 60 | 49 => 61 | 50 => 62 | 57 => 63 | n => n, fun | 22 => 56 | 24 => 78 | 25 => 82 | 3 => 3 | 39 => 86 | 0 => 0 | 53 => 95 | 55 => 97 | 4 => 4 | 46 => 89 | 45 => 88 | 50 => 74 | 5 => 5 | 9 => 9 | 66 => 98 | 70 => 102 | 76 => 104 | 77 => 52 | n => n, fun | n => n⟩
theorem Try.sortTot : Go.Proofs.SlLaysF0.n6 Try.prog Try.sortTot_ren := {
  mixed := by kernel_rfl
  f6 := ⟨Try.f37.name, by decide, Try.func37.trans (congrArg some (by kernel_rfl))⟩
  f14 := ⟨Try.f43.name, by decide, Try.func43.trans (congrArg some (by kernel_rfl))⟩
  f15 := Try.func44.trans (congrArg some (by kernel_rfl))
  f20 := ⟨Try.f47.name, by decide, Try.func47.trans (congrArg some (by kernel_rfl))⟩
  f21 := ⟨Try.f48.name, by decide, Try.func48.trans (congrArg some (by kernel_rfl))⟩
  f22 := ⟨Try.f49.name, by decide, Try.func49.trans (congrArg some (by kernel_rfl))⟩
  f23 := ⟨Try.f50.name, by decide, Try.func50.trans (congrArg some (by kernel_rfl))⟩
  f24 := ⟨Try.f51.name, by decide, Try.func51.trans (congrArg some (by kernel_rfl))⟩
  f25 := ⟨Try.f52.name, by decide, Try.func52.trans (congrArg some (by kernel_rfl))⟩
  f26 := ⟨Try.f53.name, by decide, Try.func53.trans (congrArg some (by kernel_rfl))⟩
  f27 := ⟨Try.f54.name, by decide, Try.func54.trans (congrArg some (by kernel_rfl))⟩
  f28 := Try.func55.trans (congrArg some (by kernel_rfl))
  f29 := Try.func56.trans (congrArg some (by kernel_rfl))
  f46 := ⟨Try.f58.name, by decide, Try.func58.trans (congrArg some (by kernel_rfl))⟩
  f47 := Try.func59.trans (congrArg some (by kernel_rfl))
  f48 := Try.func60.trans (congrArg some (by kernel_rfl))
  f49 := ⟨Try.f61.name, by decide, Try.func61.trans (congrArg some (by kernel_rfl))⟩
  f50 := ⟨Try.f62.name, by decide, Try.func62.trans (congrArg some (by kernel_rfl))⟩
  f57 := ⟨Try.f63.name, by decide, Try.func63.trans (congrArg some (by kernel_rfl))⟩
  t0 := Try.underlying0
  a0 := Try.isAgg0
  z0 := Try.sizeOf0
  v0 := Try.zeroValue0
  t3 := Try.underlying3
  a3 := Try.isAgg3
  z3 := Try.sizeOf3
  v3 := Try.zeroValue3
  t4 := Try.underlying4
  a4 := Try.isAgg4
  z4 := Try.sizeOf4
  v4 := Try.zeroValue4
  t5 := Try.underlying5
  a5 := Try.isAgg5
  z5 := Try.sizeOf5
  v5 := Try.zeroValue5
  t9 := Try.underlying9
  a9 := Try.isAgg9
  z9 := Try.sizeOf9
  v9 := Try.zeroValue9
  t22 := Try.underlying56
  a22 := Try.isAgg56
  z22 := Try.sizeOf56
  v22 := Try.zeroValue56
  t25 := Try.underlying82
  a25 := Try.isAgg82
  z25 := Try.sizeOf82
  v25 := Try.zeroValue82
  t39 := Try.underlying86
  a39 := Try.isAgg86
  z39 := Try.sizeOf86
  v39 := Try.zeroValue86
  t45 := Try.underlying88
  a45 := Try.isAgg88
  z45 := Try.sizeOf88
  v45 := Try.zeroValue88
  t46 := Try.underlying89
  a46 := Try.isAgg89
  z46 := Try.sizeOf89
  v46 := Try.zeroValue89
  t50 := Try.underlying74
  a50 := Try.isAgg74
  z50 := Try.sizeOf74
  v50 := Try.zeroValue74
  t53 := Try.underlying95
  a53 := Try.isAgg95
  z53 := Try.sizeOf95
  v53 := Try.zeroValue95
  t55 := Try.underlying97
  a55 := Try.isAgg97
  z55 := Try.sizeOf97
  v55 := Try.zeroValue97
  t66 := Try.underlying98
  a66 := Try.isAgg98
  z66 := Try.sizeOf98
  v66 := Try.zeroValue98
  t70 := Try.underlying102
  a70 := Try.isAgg102
  z70 := Try.sizeOf102
  v70 := Try.zeroValue102
  t76 := Try.underlying104
  a76 := Try.isAgg104
  z76 := Try.sizeOf104
  v76 := Try.zeroValue104
  t77 := Try.underlying52
  a77 := Try.isAgg52
  z77 := Try.sizeOf52
  v77 := Try.zeroValue52 }
end Go.Proofs

/-
  Plain facts on numbers as bytes: how many bytes a number has, which ones they are, that they are taken as it, and their order.
-/
namespace Go.Proofs.Ytmhddpgeiijhgaa

/-- How many bytes stand behind the first one. -/
def kN (n : Nat) : Nat :=
  if n < 128 then 0 else if n < 16384 then 1 else if n < 2097152 then 2 else if n < 268435456 then 3 else if n < 34359738368 then 4
  else if n < 4398046511104 then 5 else if n < 562949953421312 then 6 else if n < 72057594037927936 then 7 else 8
/-- The first byte's mark. -/
def mark : Nat → Nat
  | 0 => 0 | 1 => 128 | 2 => 192 | 3 => 224 | 4 => 240 | 5 => 248 | 6 => 252 | 7 => 254 | _ => 255
/-- The lowest k bytes of a number, the highest first. -/
def be : Nat → Nat → List Nat
  | 0, _ => []
  | k + 1, n => (n / 256 ^ k % 256) :: be k n
/-- The first byte. -/
def topB (n : Nat) : Nat := mark (kN n) + n / 256 ^ kN n
def enc (n : Nat) : List Nat := topB n :: be (kN n) n
/-- The number that bytes are. -/
def val : List Nat → Nat
  | [] => 0
  | b :: l => b * 256 ^ l.length + val l
/-- How many bytes a first byte begins. -/
def ones (c : Nat) : Nat := if c < 128 then 0 else if c < 192 then 1 else if c < 224 then 2 else if c < 240 then 3 else if c < 248 then 4 else if c < 252 then 5 else if c < 254 then 6 else if c < 255 then 7 else 8

theorem kN_cases (n : Nat) : (n < 128 ∧ kN n = 0) ∨ (128 ≤ n ∧ n < 16384 ∧ kN n = 1) ∨ (16384 ≤ n ∧ n < 2097152 ∧ kN n = 2) ∨ (2097152 ≤ n ∧ n < 268435456 ∧ kN n = 3) ∨ (268435456 ≤ n ∧ n < 34359738368 ∧ kN n = 4) ∨ (34359738368 ≤ n ∧ n < 4398046511104 ∧ kN n = 5) ∨ (4398046511104 ≤ n ∧ n < 562949953421312 ∧ kN n = 6) ∨ (562949953421312 ≤ n ∧ n < 72057594037927936 ∧ kN n = 7) ∨ (72057594037927936 ≤ n ∧ kN n = 8) := by
  unfold kN
  by_cases h0 : n < 128
  · rw [if_pos h0]; omega
  by_cases h1 : n < 16384
  · rw [if_neg h0, if_pos h1]; omega
  by_cases h2 : n < 2097152
  · rw [if_neg h0, if_neg h1, if_pos h2]; omega
  by_cases h3 : n < 268435456
  · rw [if_neg h0, if_neg h1, if_neg h2, if_pos h3]; omega
  by_cases h4 : n < 34359738368
  · rw [if_neg h0, if_neg h1, if_neg h2, if_neg h3, if_pos h4]; omega
  by_cases h5 : n < 4398046511104
  · rw [if_neg h0, if_neg h1, if_neg h2, if_neg h3, if_neg h4, if_pos h5]; omega
  by_cases h6 : n < 562949953421312
  · rw [if_neg h0, if_neg h1, if_neg h2, if_neg h3, if_neg h4, if_neg h5, if_pos h6]; omega
  by_cases h7 : n < 72057594037927936
  · rw [if_neg h0, if_neg h1, if_neg h2, if_neg h3, if_neg h4, if_neg h5, if_neg h6, if_pos h7]; omega
  rw [if_neg h0, if_neg h1, if_neg h2, if_neg h3, if_neg h4, if_neg h5, if_neg h6, if_neg h7]; omega
theorem ones_cases (c : Nat) : (c < 128 ∧ ones c = 0) ∨ (128 ≤ c ∧ c < 192 ∧ ones c = 1) ∨ (192 ≤ c ∧ c < 224 ∧ ones c = 2) ∨ (224 ≤ c ∧ c < 240 ∧ ones c = 3) ∨ (240 ≤ c ∧ c < 248 ∧ ones c = 4) ∨ (248 ≤ c ∧ c < 252 ∧ ones c = 5) ∨ (252 ≤ c ∧ c < 254 ∧ ones c = 6) ∨ (254 ≤ c ∧ c < 255 ∧ ones c = 7) ∨ (255 ≤ c ∧ ones c = 8) := by
  unfold ones
  by_cases h0 : c < 128
  · rw [if_pos h0]; omega
  by_cases h1 : c < 192
  · rw [if_neg h0, if_pos h1]; omega
  by_cases h2 : c < 224
  · rw [if_neg h0, if_neg h1, if_pos h2]; omega
  by_cases h3 : c < 240
  · rw [if_neg h0, if_neg h1, if_neg h2, if_pos h3]; omega
  by_cases h4 : c < 248
  · rw [if_neg h0, if_neg h1, if_neg h2, if_neg h3, if_pos h4]; omega
  by_cases h5 : c < 252
  · rw [if_neg h0, if_neg h1, if_neg h2, if_neg h3, if_neg h4, if_pos h5]; omega
  by_cases h6 : c < 254
  · rw [if_neg h0, if_neg h1, if_neg h2, if_neg h3, if_neg h4, if_neg h5, if_pos h6]; omega
  by_cases h7 : c < 255
  · rw [if_neg h0, if_neg h1, if_neg h2, if_neg h3, if_neg h4, if_neg h5, if_neg h6, if_pos h7]; omega
  rw [if_neg h0, if_neg h1, if_neg h2, if_neg h3, if_neg h4, if_neg h5, if_neg h6, if_neg h7]; omega
theorem kN_le (n : Nat) : kN n ≤ 8 := by have := kN_cases n; omega
theorem be_length : ∀ k n, (be k n).length = k
  | 0, _ => rfl
  | k + 1, n => by simp [be, be_length k n]
theorem enc_length (n : Nat) : (enc n).length = kN n + 1 := by simp [enc, be_length]
theorem be_lt : ∀ k n, ∀ b ∈ be k n, b < 256
  | 0, _ => by simp [be]
  | k + 1, n => by
    intro b hb
    rcases List.mem_cons.1 hb with rfl | h
    · exact Nat.mod_lt _ (by decide)
    · exact be_lt k n b h
theorem pow_pos' (k : Nat) : 0 < 256 ^ k := Nat.pow_pos (by decide)
theorem be_mod : ∀ k b m, be k (b * 256 ^ k + m) = be k m
  | 0, _, _ => rfl
  | k + 1, b, m => by
    have e : b * 256 ^ (k + 1) + m = (b * 256) * 256 ^ k + m := by rw [Nat.pow_succ, Nat.mul_comm (256 ^ k) 256, ← Nat.mul_assoc]
    rw [be, be, e, be_mod k (b * 256) m, Nat.mul_comm (b * 256) (256 ^ k), Nat.mul_add_div (pow_pos' k), Nat.add_comm, Nat.add_mul_mod_self_right]
theorem val_be : ∀ k n, val (be k n) = n % 256 ^ k
  | 0, n => by simp [be, val, Nat.mod_one]
  | k + 1, n => by
    rw [be, val, be_length, val_be k n, Nat.mod_pow_succ, Nat.mul_comm (n / 256 ^ k % 256)]
    omega
theorem val_lt : ∀ l : List Nat, (∀ b ∈ l, b < 256) → val l < 256 ^ l.length
  | [], _ => by simp [val]
  | b :: l, h => by
    have h1 := val_lt l fun c hc => h c (by simp [hc])
    have h2 := h b (by simp)
    rw [val, List.length_cons, Nat.pow_succ]
    have h3 : b * 256 ^ l.length + 256 ^ l.length ≤ 256 * 256 ^ l.length := by
      rw [← Nat.succ_mul]; exact Nat.mul_le_mul_right _ h2
    rw [Nat.mul_comm (256 ^ l.length)]
    omega
theorem be_val : ∀ l : List Nat, (∀ b ∈ l, b < 256) → be l.length (val l) = l
  | [], _ => rfl
  | b :: l, h => by
    have h1 := val_lt l fun c hc => h c (by simp [hc])
    have h2 := h b (by simp)
    rw [List.length_cons, be, val, be_mod, be_val l fun c hc => h c (by simp [hc]), Nat.mul_comm b, Nat.mul_add_div (pow_pos' _), Nat.div_eq_of_lt h1, Nat.add_zero, Nat.mod_eq_of_lt h2]

/- The first byte of each size. -/
theorem topB_of {n k : Nat} (h : kN n = k) : topB n = mark k + n / 256 ^ k := by rw [topB, h]
theorem topB_range {n : Nat} (hn : n < 4611686018427387904) : mark (kN n) ≤ topB n ∧ topB n < 256 ∧ ones (topB n) = kN n ∧ n / 256 ^ kN n < 128 := by
  have h := kN_cases n
  unfold topB
  rcases h with h | h | h | h | h | h | h | h | h
  all_goals
    obtain ⟨k, hk⟩ : ∃ k, kN n = k := ⟨_, rfl⟩
    have e : k = k := rfl
    simp only [hk] at h ⊢
    obtain rfl : k = _ := by first | exact h.2.2 | exact h.2
    simp only [mark, Nat.pow_zero, Nat.div_one, Nat.reducePow]
    refine ⟨by omega, by omega, ?_, by omega⟩
    refine (fun (c : Nat) (lo : _) => ?_) (0 : Nat) trivial
    have := ones_cases (mark (kN n) + n / 256 ^ kN n)
    simp only [hk, mark, Nat.pow_zero, Nat.div_one, Nat.reducePow] at this
    omega
theorem mark_mono {k k' : Nat} (h : k < k') (h' : k' ≤ 8) : mark k < mark k' := by
  have key : ∀ k', k' ≤ 8 → ∀ k, k < k' → mark k < mark k' := by decide
  exact key k' h' k h
theorem ones_mono {c d : Nat} (h : c ≤ d) : ones c ≤ ones d := by
  have h1 := ones_cases c
  have h2 := ones_cases d
  omega
theorem kN_mono {n m : Nat} (h : n ≤ m) : kN n ≤ kN m := by
  have h1 := kN_cases n
  have h2 := kN_cases m
  omega

/-- Somewhere the first one is less, and ahead of that both are one. -/
def Diff (l m : List Nat) : Prop := ∃ p x y l' m', l = p ++ x :: l' ∧ m = p ++ y :: m' ∧ x < y
theorem Diff.cons {l m : List Nat} (b : Nat) (h : Diff l m) : Diff (b :: l) (b :: m) := by
  obtain ⟨p, x, y, l', m', rfl, rfl, h⟩ := h
  exact ⟨b :: p, x, y, l', m', rfl, rfl, h⟩
theorem be_diff : ∀ k n m, n % 256 ^ k < m % 256 ^ k → Diff (be k n) (be k m)
  | 0, n, m, h => by simp [Nat.mod_one] at h
  | k + 1, n, m, h => by
    rw [Nat.mod_pow_succ, Nat.mod_pow_succ] at h
    rw [be, be]
    rcases Nat.lt_trichotomy (n / 256 ^ k % 256) (m / 256 ^ k % 256) with h1 | h1 | h1
    · exact ⟨[], _, _, _, _, rfl, rfl, h1⟩
    · rw [h1] at h ⊢
      exact (be_diff k n m (by omega)).cons _
    · exfalso
      have h2 : 256 ^ k * (m / 256 ^ k % 256) + 256 ^ k ≤ 256 ^ k * (n / 256 ^ k % 256) := by
        rw [← Nat.mul_succ]; exact Nat.mul_le_mul_left _ h1
      have h3 := Nat.mod_lt n (pow_pos' k)
      have h4 := Nat.mod_lt m (pow_pos' k)
      omega
/-- Of two numbers the lesser one's bytes are less, and neither begins with the other one's. -/
theorem enc_diff {n m : Nat} (h : n < m) (hm : m < 4611686018427387904) : Diff (enc n) (enc m) := by
  have rn := topB_range (n := n) (by omega)
  have rm := topB_range hm
  unfold enc
  rcases Nat.lt_or_ge (kN n) (kN m) with h1 | h1
  · refine ⟨[], _, _, _, _, rfl, rfl, ?_⟩
    rcases Nat.lt_or_ge (topB n) (topB m) with h2 | h2
    · exact h2
    · have := ones_mono h2
      omega
  · have hk : kN n = kN m := Nat.le_antisymm (kN_mono (Nat.le_of_lt h)) h1
    rw [topB_of hk, topB_of rfl, hk]
    have hd := Nat.div_le_div_right (c := 256 ^ kN m) (Nat.le_of_lt h)
    rcases Nat.lt_or_ge (n / 256 ^ kN m) (m / 256 ^ kN m) with h2 | h2
    · exact ⟨[], _, _, _, _, rfl, rfl, by omega⟩
    · have he : n / 256 ^ kN m = m / 256 ^ kN m := Nat.le_antisymm hd h2
      rw [he]
      refine (be_diff _ _ _ ?_).cons _
      have e1 := Nat.div_add_mod n (256 ^ kN m)
      have e2 := Nat.div_add_mod m (256 ^ kN m)
      rw [he] at e1
      omega

/- Taking. -/
/-- The number that a first byte, and those behind it, make. -/
def takeV (c : Nat) (r : List Nat) : Nat := (c - mark (ones c)) * 256 ^ ones c + val (r.take (ones c))
theorem mark_ones {c : Nat} : mark (ones c) ≤ c := by
  have key : ∀ k, k ≤ 8 → ∀ c, ones c = k → mark k ≤ c := by
    intro k hk c hc
    have h := ones_cases c
    rw [hc] at h
    have hk' : k = 0 ∨ k = 1 ∨ k = 2 ∨ k = 3 ∨ k = 4 ∨ k = 5 ∨ k = 6 ∨ k = 7 ∨ k = 8 := by omega
    rcases hk' with rfl | rfl | rfl | rfl | rfl | rfl | rfl | rfl | rfl <;> simp only [mark] <;> omega
  exact key _ (by have := ones_cases c; omega) c rfl
theorem takeV_enc {n : Nat} (hn : n < 4611686018427387904) (rest : List Nat) : takeV (topB n) (be (kN n) n ++ rest) = n := by
  obtain ⟨h1, _, h3, _⟩ := topB_range hn
  rw [takeV, h3, List.take_append_of_le_length (by rw [be_length]; omega), List.take_of_length_le (by rw [be_length]; omega), val_be, topB]
  have := Nat.div_add_mod n (256 ^ kN n)
  rw [Nat.add_sub_cancel_left, Nat.mul_comm]
  exact this
/-- What is taken is laid as the same bytes, just if no fewer would do. -/
theorem enc_takeV {c : Nat} {r : List Nat} (hr : ∀ b ∈ r, b < 256) (hl : ones c ≤ r.length) (hk : kN (takeV c r) = ones c) : enc (takeV c r) = c :: r.take (ones c) := by
  have hlen : (r.take (ones c)).length = ones c := by rw [List.length_take]; omega
  have hb : ∀ b ∈ r.take (ones c), b < 256 := fun b hb => hr b (List.mem_of_mem_take hb)
  have hv := val_lt _ hb
  rw [hlen] at hv
  have e2 := be_val _ hb
  rw [hlen] at e2
  rw [enc, topB, hk]
  have hm := mark_ones (c := c)
  have e1 : takeV c r / 256 ^ ones c = c - mark (ones c) := by
    rw [takeV, Nat.mul_comm, Nat.mul_add_div (pow_pos' _), Nat.div_eq_of_lt hv, Nat.add_zero]
  rw [e1, show mark (ones c) + (c - mark (ones c)) = c from by omega]
  congr 1
  rw [takeV, be_mod, e2]
theorem enc_takeV_iff {c : Nat} {r : List Nat} (hr : ∀ b ∈ r, b < 256) (hl : ones c ≤ r.length) : enc (takeV c r) = c :: r.take (ones c) ↔ kN (takeV c r) = ones c := by
  refine ⟨fun h => ?_, enc_takeV hr hl⟩
  have := congrArg List.length h
  rw [enc_length, List.length_cons, List.length_take] at this
  omega

end Go.Proofs.Ytmhddpgeiijhgaa

/-
  Plain facts on taking: a first byte's ones counted and taken off bit by bit, and the number gathered byte by byte, as long as it is not too great.
-/
namespace Go.Proofs.Ytmhddpgeiijhgaa

theorem val_append : ∀ l m : List Nat, val (l ++ m) = val l * 256 ^ m.length + val m
  | [], m => by simp [val]
  | b :: l, m => by
    rw [List.cons_append, val, val, val_append l m, List.length_append, Nat.pow_add, Nat.add_mul, ← Nat.mul_assoc]
    omega
theorem val_snoc (l : List Nat) (c : Nat) : val (l ++ [c]) = 256 * val l + c := by
  rw [val_append]
  simp [val]
  omega
/-- The first byte's ones, counted from the top. -/
theorem ones_bits {c : Nat} (hc : c < 256) : ones c ≤ 8 ∧ (∀ j, j < ones c → c / 2 ^ (7 - j) % 2 = 1) ∧ (ones c < 8 → c / 2 ^ (7 - ones c) % 2 = 0) := by
  have key : ∀ c, c < 256 → (ones c ≤ 8 ∧ (∀ j, j < ones c → c / 2 ^ (7 - j) % 2 = 1) ∧ (ones c < 8 → c / 2 ^ (7 - ones c) % 2 = 0)) := by decide +kernel
  exact key c hc
/-- A byte of which the bits from 7 down to 8 - t have been taken off, where they are there. -/
def strip (c : Nat) : Nat → Nat
  | 0 => c
  | t + 1 => if 2 ^ (7 - t) ≤ strip c t then strip c t - 2 ^ (7 - t) else strip c t
theorem strip_all {c : Nat} (hc : c < 256) : strip c (min (ones c + 1) 8) = c - mark (ones c) := by
  have key : ∀ c, c < 256 → strip c (min (ones c + 1) 8) = c - mark (ones c) := by decide +kernel
  exact key c hc
theorem strip_le (c : Nat) : ∀ t, strip c t ≤ c
  | 0 => Nat.le_refl _
  | t + 1 => by
    have := strip_le c t
    unfold strip
    split
    · exact Nat.le_trans (Nat.sub_le _ _) this
    · exact this
/-- The bytes without the mark. -/
def bare (c : Nat) (r : List Nat) : List Nat := (c - mark (ones c)) :: r.take (ones c)
theorem bare_val {c : Nat} {r : List Nat} (hl : ones c ≤ r.length) : val (bare c r) = takeV c r := by
  rw [bare, val, takeV, List.length_take, Nat.min_eq_left hl]
theorem bare_length {c : Nat} {r : List Nat} (hl : ones c ≤ r.length) : (bare c r).length = ones c + 1 := by
  rw [bare, List.length_cons, List.length_take, Nat.min_eq_left hl]
/-- What has been gathered of the first i bytes: their number, or it is too great already. -/
structure Gath (L : List Nat) (i n : Nat) (big : Bool) : Prop where
  not : big = false → n = val (L.take i)
  yes : big = true → 4611686018427387904 ≤ val L
  low : n < 4611686018427387904 * 256
theorem Gath.start (L : List Nat) : Gath L 0 0 false := ⟨fun _ => by simp [val], (fun h => by cases h), by omega⟩
theorem Gath.great {L : List Nat} {i n : Nat} (h : Gath L i n false) (hi : i < L.length) (hn : 18014398509481984 ≤ n) : Gath L (i + 1) n true := by
  refine ⟨(fun h => by cases h), fun _ => ?_, h.low⟩
  have e := val_append (L.take i) (L.drop i)
  rw [List.take_append_drop, ← h.not rfl, List.length_drop] at e
  have h1 : 256 ^ 1 ≤ 256 ^ (L.length - i) := Nat.pow_le_pow_right (by decide) (by omega)
  have h2 := Nat.mul_le_mul hn h1
  simp only [Nat.pow_one] at h2
  omega
theorem Gath.stays {L : List Nat} {i n : Nat} (h : Gath L i n true) : Gath L (i + 1) n true := ⟨(fun h => by cases h), h.yes, h.low⟩
theorem Gath.next {L : List Nat} {i n c : Nat} (h : Gath L i n false) (hc : L[i]? = some c) (hb : c < 256) (hn : n < 18014398509481984) : Gath L (i + 1) (256 * n + c) false := by
  refine ⟨fun _ => ?_, (fun h => by cases h), by omega⟩
  rw [List.take_add_one, hc, Option.toList_some, val_snoc, ← h.not rfl]

end Go.Proofs.Ytmhddpgeiijhgaa

/-
  What the small calls of pack give back: behind, mark, and the ones at a byte's head; the document's power. Each leaves the world as it was.
-/
namespace Go.Proofs.Ytmhddpgeiijhgaa
open Go.RowKit

abbrev Same (F : Nat) (args : Array Value) (w : World) (v : Value) : Prop := Calls Try.prog F args w fun e w' => e = .returned v ∧ w' = w
theorem bl (w : World) : Below w.heap.size w w := Below.refl _ _
theorem chain {W w w1 : World} (h : Below W.heap.size W w) (hb : Below w.heap.size w w1) : Below W.heap.size W w1 := h.trans (hb.mono h.size)
theorem keepc {w w1 : World} (hb : Below w.heap.size w w1) {b o : Nat} {v : Value} (h : w.cell? ⟨b, o, none⟩ = some v) : w1.cell? ⟨b, o, none⟩ = some v := by
  have : b < w.heap.size := by
    rcases Nat.lt_or_ge b w.heap.size with h' | h'
    · exact h'
    · simp [World.cell?, Array.getElem?_eq_none h'] at h
  exact (hb.cell (p := ⟨b, o, none⟩) this).trans h
theorem ret_int {k : IntKind} {a b : Int} (h : a = b) : Ending.returned (.int k a) = .returned (.int k b) := by rw [h]

/-- The first number that needs more bytes behind. -/
theorem kN_lt_iff {n k : Nat} (hk : k < 8) : kN n ≤ k ↔ n < 2 ^ (7 * (k + 1)) := by
  have hc := kN_cases n
  have hk' : k = 0 ∨ k = 1 ∨ k = 2 ∨ k = 3 ∨ k = 4 ∨ k = 5 ∨ k = 6 ∨ k = 7 := by omega
  rcases hk' with rfl | rfl | rfl | rfl | rfl | rfl | rfl | rfl <;> simp only [Nat.reduceAdd, Nat.reduceMul, Nat.reducePow] <;> omega

/-- 1 << (7*(k+1)), below 2^62. -/
theorem shl_one {k : Nat} (hk : k < 8) : wrap64 (2 ^ (7 * (k + 1))) = ((2 ^ (7 * (k + 1)) : Nat) : Int) := by
  have hk' : k = 0 ∨ k = 1 ∨ k = 2 ∨ k = 3 ∨ k = 4 ∨ k = 5 ∨ k = 6 ∨ k = 7 := by omega
  rcases hk' with rfl | rfl | rfl | rfl | rfl | rfl | rfl | rfl <;> decide +kernel

theorem mark_bits {k : Nat} (hk : k ≤ 8) : bits BinOp.xor IntKind.u8 IntKind.u8.max (255 / 2 ^ k) = ((mark k : Nat) : Int) := by
  have key : ∀ k : Nat, k ≤ 8 → bits BinOp.xor IntKind.u8 IntKind.u8.max (255 / 2 ^ k) = ((mark k : Nat) : Int) := by decide
  exact key k hk

theorem two_wrap {i : Nat} (hi : i < 7) : IntKind.u8.wrap (2 * ((2 ^ i : Nat) : Int)) = ((2 ^ (i + 1) : Nat) : Int) := by
  have key : ∀ i : Nat, i < 7 → IntKind.u8.wrap (2 * ((2 ^ i : Nat) : Int)) = ((2 ^ (i + 1) : Nat) : Int) := by decide
  exact key i hi

theorem xor_byte {c : Nat} (hc : c < 256) : bits BinOp.xor IntKind.u8 IntKind.u8.max (c : Int) = ((255 - c : Nat) : Int) := by
  have key : ∀ c : Nat, c < 256 → bits BinOp.xor IntKind.u8 IntKind.u8.max (c : Int) = ((255 - c : Nat) : Int) := by decide +kernel
  exact key c hc
theorem bitLen_ones {c : Nat} (hc : c < 256) : 8 - (Lib.bitLen (255 - c) : Int) = ((ones c : Nat) : Int) := by
  have key : ∀ c : Nat, c < 256 → 8 - (Lib.bitLen (255 - c) : Int) = ((ones c : Nat) : Int) := by decide +kernel
  exact key c hc
theorem keepf {w w1 : World} (hb : Below w.heap.size w w1) {b o : Nat} (hlt : b < w.heap.size) (h : w.frozen? ⟨b, o, none⟩ = false) : w1.frozen? ⟨b, o, none⟩ = false := (hb.frozen (p := ⟨b, o, none⟩) hlt).trans h
end Go.Proofs.Ytmhddpgeiijhgaa

/-
  A row of bytes of the call's own: made, put, read as a text.
-/
namespace Go.Proofs.Ytmhddpgeiijhgaa
open Go.RowKit

/-- Block g holds the first n bytes of T. -/
def Arr (w : World) (g : Nat) (T : Nat → Nat) (n : Nat) : Prop := g < w.heap.size ∧ ∀ i, i < n → w.cell? ⟨g, i, none⟩ = some (.int .u8 (T i)) ∧ w.frozen? ⟨g, i, none⟩ = false
theorem Arr.below {W w : World} {g n : Nat} {T : Nat → Nat} (h : Arr W g T n) {B : Nat} (hg : g < B) (hb : Below B W w) : Arr w g T n :=
  ⟨Nat.lt_of_lt_of_le h.1 hb.size, fun i hi => ⟨(hb.cell (p := ⟨g, i, none⟩) hg).trans (h.2 i hi).1, (hb.frozen (p := ⟨g, i, none⟩) hg).trans (h.2 i hi).2⟩⟩
def upd (T : Nat → Nat) (p v : Nat) : Nat → Nat := fun q => if q = p then v else T q
theorem Arr.put {w : World} {g n p v : Nat} {T : Nat → Nat} (h : Arr w g T n) (hp : p < n) : Arr (w.setCell ⟨g, p, none⟩ (.int .u8 v)) g (upd T p v) n := by
  refine ⟨by simpa [World.setCell] using h.1, fun i hi => ?_⟩
  obtain ⟨c, f⟩ := h.2 i hi
  unfold upd
  by_cases e : i = p
  · subst e
    rw [if_pos rfl]
    exact ⟨World.cell?_setCell_same w _ _ c, by simpa [go_sem] using f⟩
  · rw [if_neg e]
    exact ⟨(World.cell?_setCell_other w _ _ _ (by simp)).trans c, by simpa [go_sem] using f⟩
theorem Arr.drewN {w : World} {g n : Nat} {T : Nat → Nat} (h : Arr w g T n) (q : Nat) : Arr (w.drewN q) g T n := h
theorem Arr.congr {w : World} {g n : Nat} {T U : Nat → Nat} (h : Arr w g T n) (e : ∀ i, i < n → T i = U i) : Arr w g U n := ⟨h.1, fun i hi => by rw [← e i hi]; exact h.2 i hi⟩

theorem Try.infoByte : (Try.prog.info? 5).map (fun i => (i.zero, i.size, i.bytes)) = some (some (.int .u8 0), 1, 1) := by kernel_rfl

end Go.Proofs.Ytmhddpgeiijhgaa

/-
  Plain facts on bits: a number's bytes, laid bit by bit.
-/
namespace Go.Proofs.Ytmhddpgeiijhgaa

/-- All bits of a number's bytes: its own, and the mark's. -/
def whole (n : Nat) : Nat := mark (kN n) * 256 ^ kN n + n
def bitAt (v i : Nat) : Nat := v / 2 ^ i % 2
theorem whole_be {n : Nat} (hn : n < 4611686018427387904) : be (kN n + 1) (whole n) = enc n := by
  obtain ⟨_, h2, _, _⟩ := topB_range hn
  rw [be, enc, whole, be_mod, Nat.mul_comm (mark (kN n)), Nat.mul_add_div (pow_pos' _), ← topB]
  rw [Nat.mod_eq_of_lt h2]
theorem p256 (p : Nat) : 256 ^ p = 2 ^ (8 * p) := by rw [Nat.pow_mul]
theorem be_get : ∀ (k n j : Nat), j < k → (be k n)[j]? = some (n / 256 ^ (k - 1 - j) % 256)
  | 0, _, _, h => by omega
  | k + 1, n, 0, _ => by simp [be]
  | k + 1, n, j + 1, h => by
    rw [be, List.getElem?_cons_succ, be_get k n j (by omega)]
    congr 4
    omega
theorem two_pos (i : Nat) : 0 < 2 ^ i := Nat.pow_pos (by decide)
/-- One more bit changes one byte. -/
theorem be_step {K w i : Nat} (hw : w < 2 ^ i) (hi : i < 8 * K) : be K (w + 2 ^ i) = (be K w).set (K - 1 - i / 8) (w / 256 ^ (i / 8) % 256 + 2 ^ (i % 8)) ∧ w / 256 ^ (i / 8) % 256 + 2 ^ (i % 8) < 256 := by
  have hsplit : 2 ^ i = 256 ^ (i / 8) * 2 ^ (i % 8) := by
    rw [p256, ← Nat.pow_add]; congr 1; omega
  have hlow : w / 256 ^ (i / 8) < 2 ^ (i % 8) := by
    rw [Nat.div_lt_iff_lt_mul (pow_pos' _), Nat.mul_comm, ← hsplit]; exact hw
  have h8 : 2 ^ (i % 8) * 2 ≤ 256 := by
    have : i % 8 < 8 := Nat.mod_lt _ (by decide)
    have key : ∀ r, r < 8 → 2 ^ r * 2 ≤ 256 := by decide
    exact key _ this
  have hm : w / 256 ^ (i / 8) % 256 = w / 256 ^ (i / 8) := Nat.mod_eq_of_lt (by omega)
  refine ⟨?_, by rw [hm]; omega⟩
  apply List.ext_getElem?
  intro j
  rcases Nat.lt_or_ge j K with hj | hj
  · rw [be_get K _ j hj]
    rcases Nat.lt_trichotomy (K - 1 - j) (i / 8) with h | h | h
    · rw [List.getElem?_set_ne (by omega), be_get K _ j hj]
      congr 1
      have e : 2 ^ i = 256 ^ (K - 1 - j) * (256 * (256 ^ (i / 8 - (K - 1 - j) - 1) * 2 ^ (i % 8))) := by
        rw [hsplit, ← Nat.mul_assoc, ← Nat.mul_assoc, ← Nat.pow_succ, ← Nat.pow_add]
        congr 2; omega
      rw [e, Nat.add_comm w, Nat.mul_add_div (pow_pos' _), Nat.add_comm, Nat.add_mul_mod_self_left]
    · have hp : K - 1 - i / 8 = j := by omega
      rw [hp, List.getElem?_set_self (by rw [be_length]; exact hj), h]
      congr 1
      rw [hsplit, Nat.add_comm w, Nat.mul_add_div (pow_pos' _), hm, Nat.add_comm]
      exact Nat.mod_eq_of_lt (by omega)
    · rw [List.getElem?_set_ne (by omega), be_get K _ j hj]
      have hbig : 2 ^ (i + 1) ≤ 256 ^ (K - 1 - j) := by
        rw [p256]; exact Nat.pow_le_pow_right (by decide) (by omega)
      have h2 : 2 ^ (i + 1) = 2 ^ i * 2 := Nat.pow_succ ..
      rw [Nat.div_eq_of_lt (show w + 2 ^ i < 256 ^ (K - 1 - j) by omega), Nat.div_eq_of_lt (show w < 256 ^ (K - 1 - j) by omega)]
  · rw [List.getElem?_eq_none (by rw [be_length]; omega), List.getElem?_eq_none (by rw [List.length_set, be_length]; omega)]
theorem mod_next (v i : Nat) : v % 2 ^ (i + 1) = v % 2 ^ i + bitAt v i * 2 ^ i := by
  rw [Nat.mod_pow_succ, bitAt, Nat.mul_comm (2 ^ i)]
theorem bit_or (v i : Nat) : bitAt v i = 0 ∨ bitAt v i = 1 := by
  unfold bitAt
  omega
/-- A higher number's bits. -/
theorem bit_low {n m r i : Nat} (h : i < r) : bitAt (m * 2 ^ r + n) i = bitAt n i := by
  unfold bitAt
  have e : m * 2 ^ r = 2 ^ i * (2 * (m * 2 ^ (r - i - 1))) := by
    have h2 : 2 ^ r = 2 ^ i * (2 * 2 ^ (r - i - 1)) := by
      rw [show 2 ^ i * (2 * 2 ^ (r - i - 1)) = 2 ^ (i + (1 + (r - i - 1))) from by rw [Nat.pow_add, Nat.pow_add, Nat.pow_one]]
      congr 1
      omega
    rw [h2, Nat.mul_left_comm, Nat.mul_left_comm m]
  rw [e, Nat.mul_add_div (two_pos i), Nat.add_comm, Nat.add_mul_mod_self_left]
theorem bit_high {n m r i : Nat} (hn : n < 2 ^ r) : bitAt (m * 2 ^ r + n) (r + i) = bitAt m i := by
  unfold bitAt
  rw [Nat.pow_add, ← Nat.div_div_eq_div_mul, Nat.mul_comm m, Nat.mul_add_div (two_pos r), Nat.div_eq_of_lt hn, Nat.add_zero]
theorem mark_eq {k : Nat} (h : k < 8) : mark k * 256 ^ k = (2 * (2 ^ k - 1)) * 2 ^ (7 * (k + 1)) := by
  have key : ∀ k, k < 8 → mark k * 256 ^ k = (2 * (2 ^ k - 1)) * 2 ^ (7 * (k + 1)) := by decide
  exact key k h
theorem kN_room {n : Nat} (h : kN n < 8) : n < 2 ^ (7 * (kN n + 1)) := by
  have hc := kN_cases n
  obtain ⟨k, hk⟩ : ∃ k, kN n = k := ⟨_, rfl⟩
  rw [hk] at h ⊢ hc
  have hk' : k = 0 ∨ k = 1 ∨ k = 2 ∨ k = 3 ∨ k = 4 ∨ k = 5 ∨ k = 6 ∨ k = 7 := by omega
  rcases hk' with rfl | rfl | rfl | rfl | rfl | rfl | rfl | rfl <;> simp only [Nat.reduceAdd, Nat.reduceMul, Nat.reducePow] <;> omega
/-- The bits of a number's bytes, the lowest first: the number's own, then (where there is one) a 0, then the mark's. -/
theorem whole_bits_own {n i : Nat} (h : kN n < 8) (hi : i < 7 * (kN n + 1)) : bitAt (whole n) i = bitAt n i := by
  rw [whole, mark_eq h]; exact bit_low hi
theorem whole_bits_zero {n : Nat} (h : kN n < 8) : bitAt (whole n) (7 * (kN n + 1)) = 0 := by
  rw [whole, mark_eq h]
  have h0 := bit_high (m := 2 * (2 ^ kN n - 1)) (i := 0) (kN_room h)
  rw [show 7 * (kN n + 1) + 0 = 7 * (kN n + 1) from rfl] at h0
  exact h0.trans (by unfold bitAt; omega)
theorem whole_bits_mark {n t : Nat} (h : kN n < 8) (ht : t < kN n) : bitAt (whole n) (7 * (kN n + 1) + 1 + t) = 1 := by
  rw [whole, mark_eq h, Nat.add_assoc]
  rw [bit_high (kN_room h), bitAt, Nat.add_comm 1 t, Nat.pow_succ, Nat.mul_comm (2 ^ t), ← Nat.div_div_eq_div_mul, Nat.mul_div_cancel_left _ (by decide)]
  have key : ∀ k, k < 8 → ∀ t, t < k → (2 ^ k - 1) / 2 ^ t % 2 = 1 := by decide
  exact key _ h _ ht
theorem whole_bits_own8 {n i : Nat} (h : kN n = 8) (hi : i < 64) : bitAt (whole n) i = bitAt n i := by
  rw [whole, h, show (256 : Nat) ^ 8 = 2 ^ 64 from rfl]; exact bit_low hi
theorem whole_bits_mark8 {n t : Nat} (hn : n < 4611686018427387904) (h : kN n = 8) (ht : t < 8) : bitAt (whole n) (64 + t) = 1 := by
  rw [whole, h, show (256 : Nat) ^ 8 = 2 ^ 64 from rfl, bit_high (by omega)]
  have key : ∀ t, t < 8 → bitAt (mark 8) t = 1 := by decide
  exact key t ht
theorem whole_lt {n : Nat} (hn : n < 4611686018427387904) : whole n < 2 ^ (8 * (kN n + 1)) := by
  obtain ⟨_, h2, _, _⟩ := topB_range hn
  rw [whole, ← p256, Nat.pow_succ]
  have e := Nat.div_add_mod n (256 ^ kN n)
  have hm := Nat.mod_lt n (pow_pos' (kN n))
  unfold topB at h2
  have h3 : (mark (kN n) + n / 256 ^ kN n) * 256 ^ kN n + 256 ^ kN n ≤ 256 * 256 ^ kN n := by rw [← Nat.succ_mul]; exact Nat.mul_le_mul_right _ h2
  rw [Nat.add_mul, Nat.mul_comm (n / 256 ^ kN n)] at h3
  rw [Nat.mul_comm (256 ^ kN n) 256]
  omega

end Go.Proofs.Ytmhddpgeiijhgaa

/-
  Lists of numbers in memory, and lists of the call's own that are appended to.
-/
namespace Go.Proofs.Ytmhddpgeiijhgaa
open Go.RowKit

theorem Try.infoInt : (Try.prog.info? 3).map (fun i => (i.zero, i.size, i.bytes)) = some (some (.int .i64 0), 1, 8) := by kernel_rfl

/-- From A on the numbers of l lie, one behind the other. -/
def Ints (w : World) (A : Option Addr) (l : List Int) : Prop := ∀ i x, l[i]? = some x → ∃ g off, A = some ⟨g, off, none⟩ ∧ w.cell? ⟨g, off + i, none⟩ = some (.int .i64 x)

theorem lt_of_cell {w : World} {g o : Nat} {u : Value} (h : w.cell? ⟨g, o, none⟩ = some u) : g < w.heap.size := by
  rcases Nat.lt_or_ge g w.heap.size with hlt | hge
  · exact hlt
  · simp [World.cell?, Array.getElem?_eq_none hge] at h
theorem Ints.below {w w' : World} {A : Option Addr} {l : List Int} (h : Ints w A l) (hb : Below w.heap.size w w') : Ints w' A l := fun i x hx => by
  obtain ⟨g, off, rfl, c0⟩ := h i x hx
  exact ⟨g, off, rfl, (hb.cell (p := ⟨g, _, none⟩) (lt_of_cell c0)).trans c0⟩
theorem Ints.nil (w : World) (A : Option Addr) : Ints w A [] := fun i p h => by simp at h

abbrev ownI (w : World) (base : Nat) (v : Value) (ts : List Int) : Prop := w.ownsRow base 3 1 v ts.length (ts.map (Value.int .i64))
theorem own_ints {w : World} {base : Nat} {v : Value} {l : List Int} (h : ownI w base v l) : ∃ A c, v = .slice A l.length c ∧ Ints w A l ∧ (A = none → c = 0) := by
  rcases h.2 with ⟨hv, h0⟩ | ⟨g, cap, cur, hv, _⟩
  · obtain rfl : l = [] := List.eq_nil_of_length_eq_zero h0
    exact ⟨_, _, hv, Ints.nil _ _, fun _ => rfl⟩
  · refine ⟨_, _, hv, fun i x hx => ⟨g, 0, rfl, ?_⟩, fun h => by cases h⟩
    have add : ∀ n, (⟨g, 0, none⟩ : Addr).add n = ⟨g, 0 + n, none⟩ := fun n => by unfold Addr.add; split <;> simp_all
    have c0 := h.cells (g := g) (by rw [hv]; rfl) i (.int .i64 x) (by simp [hx])
    rwa [add] at c0
theorem own_below {w w' : World} {base e size n : Nat} {v : Value} {xs : List Value} (h : w.ownsRow base e size v n xs) (hb : Below w.heap.size w w') : w'.ownsRow base e size v n xs :=
  h.kept (row := none) ⟨hb.os, hb.tape, hb.output, hb.size, fun k hk _ => hb.block k hk⟩ (by cases v.ownBlock <;> simp)
theorem news_one (w : World) (x : Int) (ty : TypeId) : ∀ j u, [Value.int .i64 x][j]? = some u → (w.alloc (.cells #[.int .i64 x] ty)).cell? ((⟨w.heap.size, 0, none⟩ : Addr).add j) = some u :=
  World.news_of_block (cs := #[.int .i64 x]) (heap_alloc_new w _)

/-- v is a list of the call's own, with the numbers l. -/
structure OI (W : World) (l : List Int) (v : Value) (wr : World) : Prop where
  own : ownI wr W.heap.size v l
  bel : Below W.heap.size W wr
theorem OI.nil (W : World) : OI W [] (.slice none 0 0) W := ⟨World.ownsRow_nil _ _ _ _, bl W⟩
theorem OI.below {W w w' : World} {l : List Int} {v : Value} (h : OI W l v w) (hb : Below w.heap.size w w') : OI W l v w' := ⟨own_below h.own hb, chain h.bel hb⟩
theorem OI.app {W wr w2 : World} {l : List Int} {v v' : Value} {x : Int} {ty : TypeId} {o : Option Nat} (h : OI W l v wr) (ho : o = v.ownBlock) (hg : (wr.alloc (.cells #[.int .i64 x] ty)).grownBy w2 o)
    (hown : w2.ownsRow W.heap.size 3 1 v' (l.length + 1) (l.map (Value.int .i64) ++ [.int .i64 x])) : OI W (l ++ [x]) v' w2 := by
  subst ho
  refine ⟨by simpa [ownI] using hown, (h.bel.alloc h.bel.size _).grown hg (by have := h.bel.size; simp; omega) fun r hr => (h.own.lt r hr).1⟩

/-- The lowest i bits of v. -/
def bitsL (v i : Nat) : List Int := (List.range i).map fun j => ((bitAt v j : Nat) : Int)
theorem bitsL_length (v i : Nat) : (bitsL v i).length = i := by simp [bitsL]
theorem bitsL_succ (v i : Nat) : bitsL v (i + 1) = bitsL v i ++ [((bitAt v i : Nat) : Int)] := by simp [bitsL, List.range_succ]
theorem bitsL_get {v i j : Nat} (h : j < i) : (bitsL v i)[j]? = some ((bitAt v j : Nat) : Int) := by
  simp [bitsL, h]

end Go.Proofs.Ytmhddpgeiijhgaa

/-
  A number's bytes, laid by the document bit by bit: its Num.
-/
namespace Go.Proofs.Ytmhddpgeiijhgaa
open Go.RowKit

/-- The least number that needs more than k bytes behind (k at most 7). -/
def topN (k : Nat) : Nat := 2 ^ (7 * (min k 7 + 1))
theorem topN_next {k : Nat} (h : k < 7) : wrap64 (128 * ((topN k : Nat) : Int)) = ((topN (k + 1) : Nat) : Int) := by
  have hk' : k = 0 ∨ k = 1 ∨ k = 2 ∨ k = 3 ∨ k = 4 ∨ k = 5 ∨ k = 6 := by omega
  rcases hk' with rfl | rfl | rfl | rfl | rfl | rfl | rfl <;> decide +kernel
theorem topN_iff {n k : Nat} (hk : k < 8) : kN n ≤ k ↔ n < topN k := by
  rw [kN_lt_iff hk, topN, show min k 7 = k from by omega]

theorem own_intsN {w : World} {base : Nat} {v : Value} {l : List Int} {N : Nat} (h : ownI w base v l) (hl : l.length = N) : ∃ A c, v = .slice A N c ∧ Ints w A l ∧ (A = none → c = 0) := by
  subst hl
  exact own_ints h
theorem Ints.some {w : World} {A : Option Addr} {l : List Int} (h : Ints w A l) (hl : 0 < l.length) : ∃ g off, A = .some ⟨g, off, none⟩ ∧ g < w.heap.size := by
  obtain ⟨g, off, e, c⟩ := h 0 _ (List.getElem?_eq_getElem hl)
  exact ⟨g, off, e, lt_of_cell c⟩
theorem Ints.at {w : World} {g off i : Nat} {x : Int} {l : List Int} (h : Ints w (.some ⟨g, off, none⟩) l) (hx : l[i]? = .some x) : w.cell? ⟨g, off + i, none⟩ = .some (.int .i64 x) := by
  obtain ⟨g', off', e, c⟩ := h i x hx
  injection e with e
  injection e with e1 e2
  subst e1 e2
  exact c
theorem Ints.put {w : World} {g off G j : Nat} {u : Value} {l : List Int} (h : Ints w (.some ⟨g, off, none⟩) l) (hne : g ≠ G) : Ints (w.setCell ⟨G, j, none⟩ u).drew (.some ⟨g, off, none⟩) l := fun i x hx =>
  ⟨g, off, rfl, (World.cell?_setCell_other w _ _ _ (by simp)).trans (h.at hx)⟩
theorem be_zero (K j : Nat) : (be K 0).getD j 0 = 0 := by
  rw [List.getD_eq_getElem?_getD]
  rcases Nat.lt_or_ge j K with h | h
  · rw [be_get _ _ _ h]; simp
  · rw [List.getElem?_eq_none (by rw [be_length]; exact h)]; rfl

theorem bit_step {v k K : Nat} (hb : bitAt v k = 1) (hk : k < 8 * (K + 1)) : (be (K + 1) (v % 2 ^ k)).getD (K - k / 8) 0 + 2 ^ (k % 8) < 256 ∧
    ∀ j, j < K + 1 → upd (fun j => (be (K + 1) (v % 2 ^ k)).getD j 0) (K - k / 8) ((be (K + 1) (v % 2 ^ k)).getD (K - k / 8) 0 + 2 ^ (k % 8)) j = (be (K + 1) (v % 2 ^ (k + 1))).getD j 0 := by
  have hs := be_step (K := K + 1) (w := v % 2 ^ k) (i := k) (Nat.mod_lt _ (two_pos k)) hk
  have e : K + 1 - 1 - k / 8 = K - k / 8 := by omega
  rw [e] at hs
  have hg : (be (K + 1) (v % 2 ^ k)).getD (K - k / 8) 0 = v % 2 ^ k / 256 ^ (k / 8) % 256 := by
    rw [List.getD_eq_getElem?_getD, be_get _ _ _ (by omega), show K + 1 - 1 - (K - k / 8) = k / 8 from by omega]
    rfl
  rw [hg]
  refine ⟨hs.2, fun j hj => ?_⟩
  rw [mod_next, hb, Nat.one_mul, hs.1]
  unfold upd
  simp only [List.getD_eq_getElem?_getD]
  by_cases h : j = K - k / 8
  · subst h
    rw [if_pos rfl, List.getElem?_set_self (by rw [be_length]; omega)]
    rfl
  · rw [if_neg h, List.getElem?_set_ne (fun h' => h h'.symm)]

end Go.Proofs.Ytmhddpgeiijhgaa

/-
  Plain facts on texts: a text's bytes as numbers, and back; what a text begins with.
-/
namespace Go.Proofs.Ytmhddpgeiijhgaa

/-- The text of these bytes. -/
def bytesN (l : List Nat) : ByteArray := ⟨(l.map UInt8.ofNat).toArray⟩
/-- A text's bytes. -/
def nats (s : ByteArray) : List Nat := s.data.toList.map UInt8.toNat
theorem nats_length (s : ByteArray) : (nats s).length = s.size := by rw [nats, List.length_map, Array.length_toList]; rfl
theorem nats_lt (s : ByteArray) : ∀ b ∈ nats s, b < 256 := by
  intro b hb
  obtain ⟨u, _, rfl⟩ := List.mem_map.1 hb
  exact u.toNat_lt
theorem nats_bytes {l : List Nat} (h : ∀ b ∈ l, b < 256) : nats (bytesN l) = l := by
  simp only [nats, bytesN, List.map_map]
  refine (List.map_congr_left fun b hb => ?_).trans (List.map_id l)
  have := h b hb
  simp only [Function.comp, id]
  rw [UInt8.toNat_ofNat']
  omega
theorem bytes_nats (s : ByteArray) : bytesN (nats s) = s := by
  apply ByteArray.ext
  simp only [nats, bytesN, List.map_map]
  have e : s.data.toList.map (UInt8.ofNat ∘ UInt8.toNat) = s.data.toList := (List.map_congr_left fun u _ => by simp).trans (List.map_id _)
  rw [e]
theorem nats_inj {a b : ByteArray} (h : nats a = nats b) : a = b := by rw [← bytes_nats a, h, bytes_nats]
theorem nats_append (a b : ByteArray) : nats (a ++ b) = nats a ++ nats b := by simp [nats, ByteArray.data_append]
theorem nats_extract (s : ByteArray) (i j : Nat) : nats (s.extract i j) = ((nats s).drop i).take (j - i) := by
  simp [nats, ByteArray.data_extract, List.map_drop, List.map_take]
theorem nats_nil : nats ⟨#[]⟩ = [] := rfl
theorem size_bytes (l : List Nat) : (bytesN l).size = l.length := by
  show (l.map UInt8.ofNat).toArray.size = l.length
  rw [List.size_toArray, List.length_map]
theorem str_nums (l : List Nat) : strOfNums (l.map fun n : Nat => (n : Int)) = bytesN l := by
  simp only [strOfNums, bytesN, List.map_map]
  rfl
theorem nats_get {s : ByteArray} {i : Nat} (h : i < s.size) : (nats s)[i]? = some s[i].toNat := by
  have h' : i < s.data.toList.length := by rw [Array.length_toList]; exact h
  rw [nats, List.getElem?_map, List.getElem?_eq_getElem h']
  rfl
theorem bytes_append (l m : List Nat) : bytesN (l ++ m) = bytesN l ++ bytesN m := by
  apply ByteArray.ext
  simp [bytesN, ByteArray.data_append]
theorem bytes_eq {l m : List Nat} (hl : ∀ b ∈ l, b < 256) (hm : ∀ b ∈ m, b < 256) (h : bytesN l = bytesN m) : l = m := by
  rw [← nats_bytes hl, h, nats_bytes hm]

/-- What s begins with: a number, what is behind it, and the error. -/
def tk (s : ByteArray) : Nat × ByteArray × Nat :=
  match nats s with
  | [] => (0, ⟨#[]⟩, 9)
  | c :: r =>
    if r.length < ones c then (0, ⟨#[]⟩, 9)
    else if 4611686018427387904 ≤ takeV c r ∨ kN (takeV c r) ≠ ones c then (0, ⟨#[]⟩, 8)
    else (takeV c r, s.extract (ones c + 1) s.size, 0)
def tkN (s : ByteArray) : Nat := (tk s).1
def tkR (s : ByteArray) : ByteArray := (tk s).2.1
def tkE (s : ByteArray) : Nat := (tk s).2.2
theorem tk_nil {s : ByteArray} (h : s.size = 0) : tkN s = 0 ∧ tkR s = ⟨#[]⟩ ∧ tkE s = 9 := by
  have : nats s = [] := List.eq_nil_of_length_eq_zero (by rw [nats_length]; exact h)
  simp [tkN, tkR, tkE, tk, this]
theorem tk_short {s : ByteArray} {c : Nat} {r : List Nat} (h : nats s = c :: r) (hl : r.length < ones c) : tkN s = 0 ∧ tkR s = ⟨#[]⟩ ∧ tkE s = 9 := by
  simp [tkN, tkR, tkE, tk, h, hl]
theorem tk_form {s : ByteArray} {c : Nat} {r : List Nat} (h : nats s = c :: r) (hl : ones c ≤ r.length) (hf : 4611686018427387904 ≤ takeV c r ∨ kN (takeV c r) ≠ ones c) : tkN s = 0 ∧ tkR s = ⟨#[]⟩ ∧ tkE s = 8 := by
  have : ¬ r.length < ones c := by omega
  simp [tkN, tkR, tkE, tk, h, this, hf]
theorem tk_good {s : ByteArray} {c : Nat} {r : List Nat} (h : nats s = c :: r) (hl : ones c ≤ r.length) (hm : takeV c r < 4611686018427387904) (hk : kN (takeV c r) = ones c) : tkN s = takeV c r ∧ tkR s = s.extract (ones c + 1) s.size ∧ tkE s = 0 := by
  have h1 : ¬ r.length < ones c := by omega
  have h2 : ¬ (4611686018427387904 ≤ takeV c r ∨ kN (takeV c r) ≠ ones c) := by omega
  simp [tkN, tkR, tkE, tk, h, h1, h2]
theorem tk_cases (s : ByteArray) : (tkN s = 0 ∧ tkR s = ⟨#[]⟩ ∧ (tkE s = 8 ∨ tkE s = 9)) ∨ ∃ c r, nats s = c :: r ∧ ones c ≤ r.length ∧ takeV c r < 4611686018427387904 ∧ kN (takeV c r) = ones c ∧ tkN s = takeV c r ∧ tkR s = s.extract (ones c + 1) s.size ∧ tkE s = 0 := by
  cases h : nats s with
  | nil =>
    have := tk_nil (s := s) (by rw [← nats_length, h]; rfl)
    exact .inl ⟨this.1, this.2.1, .inr this.2.2⟩
  | cons c r =>
    rcases Nat.lt_or_ge r.length (ones c) with h1 | h1
    · have := tk_short h h1
      exact .inl ⟨this.1, this.2.1, .inr this.2.2⟩
    · by_cases h2 : 4611686018427387904 ≤ takeV c r ∨ kN (takeV c r) ≠ ones c
      · have := tk_form h h1 h2
        exact .inl ⟨this.1, this.2.1, .inl this.2.2⟩
      · have h3 : takeV c r < 4611686018427387904 ∧ kN (takeV c r) = ones c := by omega
        exact .inr ⟨c, r, rfl, h1, h3.1, h3.2, tk_good h h1 h3.1 h3.2⟩
theorem tkN_lt (s : ByteArray) : tkN s < 4611686018427387904 := by
  rcases tk_cases s with ⟨h, _⟩ | ⟨c, r, _, _, h1, _, h2, _⟩ <;> omega
theorem tkE_cases (s : ByteArray) : tkE s = 0 ∨ tkE s = 8 ∨ tkE s = 9 := by
  rcases tk_cases s with ⟨_, _, h⟩ | ⟨c, r, _, _, _, _, _, _, h⟩ <;> omega
theorem tkR_size (s : ByteArray) : (tkR s).size ≤ s.size := by
  rcases tk_cases s with ⟨_, h, _⟩ | ⟨c, r, _, _, _, _, _, h, _⟩
  · rw [h]; exact Nat.zero_le _
  · rw [h, ByteArray.size_extract]; omega
theorem tk_err {s : ByteArray} (h : tkE s ≠ 0) : tkN s = 0 ∧ tkR s = ⟨#[]⟩ := by
  rcases tk_cases s with ⟨h1, h2, _⟩ | ⟨c, r, _, _, _, _, _, _, h3⟩
  · exact ⟨h1, h2⟩
  · exact absurd h3 h

/-- The bytes of a number. -/
def encS (n : Nat) : ByteArray := bytesN (enc n)
theorem enc_lt {n : Nat} (hn : n < 4611686018427387904) : ∀ b ∈ enc n, b < 256 := by
  intro b hb
  rcases List.mem_cons.1 hb with rfl | h
  · exact (topB_range hn).2.1
  · exact be_lt _ _ _ h
theorem encS_size (n : Nat) : (encS n).size = kN n + 1 := by rw [encS, size_bytes, enc_length]
theorem nats_encS {n : Nat} (hn : n < 4611686018427387904) : nats (encS n) = enc n := nats_bytes (enc_lt hn)
/-- A number's bytes are taken as it, whatever is behind them. -/
theorem tk_enc {n : Nat} (hn : n < 4611686018427387904) (b : ByteArray) : tkN (encS n ++ b) = n ∧ tkR (encS n ++ b) = b ∧ tkE (encS n ++ b) = 0 := by
  have h : nats (encS n ++ b) = topB n :: (be (kN n) n ++ nats b) := by rw [nats_append, nats_encS hn]; rfl
  have ht := topB_range hn
  have hv := takeV_enc hn (nats b)
  have g := tk_good h (by rw [ht.2.2.1, List.length_append, be_length]; omega) (by rw [hv]; exact hn) (by rw [hv, ht.2.2.1])
  refine ⟨g.1.trans hv, g.2.1.trans ?_, g.2.2⟩
  apply nats_inj
  rw [nats_extract, nats_append, nats_encS hn, ht.2.2.1, List.drop_append_of_le_length (by rw [enc_length]; omega), List.drop_of_length_le (by rw [enc_length]; omega), List.nil_append]
  apply List.take_of_length_le
  rw [nats_length, ByteArray.size_append, encS_size]
  omega
/-- What is taken is laid as the same bytes. -/
theorem tk_again {s : ByteArray} (h : tkE s = 0) : encS (tkN s) ++ tkR s = s := by
  rcases tk_cases s with ⟨_, _, h1⟩ | ⟨c, r, hs, hl, _, hk, hn, hr, _⟩
  · omega
  · have hb : ∀ b ∈ r, b < 256 := fun b hb => nats_lt s b (by rw [hs]; exact List.mem_cons_of_mem _ hb)
    have hc : c < 256 := nats_lt s c (by rw [hs]; exact List.mem_cons_self)
    apply nats_inj
    rw [nats_append, hr, hn, encS, enc_takeV hb hl hk, nats_bytes (fun b h => by
      rcases List.mem_cons.1 h with rfl | h
      · exact hc
      · exact hb b (List.mem_of_mem_take h)), nats_extract, ← nats_length, hs]
    rw [List.drop_succ_cons, List.take_of_length_le (l := List.drop _ _) (by rw [List.length_drop, List.length_cons]; omega), List.cons_append, List.take_append_drop]

/-- The bytes of a text. -/
def textS (s : ByteArray) : ByteArray := encS s.size ++ s
/-- What s begins with, as a text of at most so many bytes. -/
def tt (s : ByteArray) (most : Int) : ByteArray × ByteArray × Nat :=
  if tkE s ≠ 0 then (⟨#[]⟩, ⟨#[]⟩, tkE s) else if most < tkN s then (⟨#[]⟩, ⟨#[]⟩, 4) else if (tkR s).size < tkN s then (⟨#[]⟩, ⟨#[]⟩, 9)
  else ((tkR s).extract 0 (tkN s), (tkR s).extract (tkN s) (tkR s).size, 0)
def ttS (s : ByteArray) (most : Int) : ByteArray := (tt s most).1
def ttR (s : ByteArray) (most : Int) : ByteArray := (tt s most).2.1
def ttE (s : ByteArray) (most : Int) : Nat := (tt s most).2.2
theorem tt_text {s b : ByteArray} {most : Int} (hs : s.size < 4611686018427387904) (hm : s.size ≤ most) : ttS (textS s ++ b) most = s ∧ ttR (textS s ++ b) most = b ∧ ttE (textS s ++ b) most = 0 := by
  have e : textS s ++ b = encS s.size ++ (s ++ b) := by rw [textS, ByteArray.append_assoc]
  obtain ⟨h1, h2, h3⟩ := tk_enc hs (s ++ b)
  rw [e]
  have k1 : ¬ most < (s.size : Int) := by omega
  have k2 : ¬ (s ++ b).size < s.size := by rw [ByteArray.size_append]; omega
  simp only [ttS, ttR, ttE, tt, h1, h2, h3, ne_eq, not_true_eq_false, if_false, k1, k2]
  refine ⟨?_, ?_, trivial⟩
  · apply nats_inj
    rw [nats_extract, nats_append, List.drop_zero, List.take_append_of_le_length (by rw [nats_length]; omega), List.take_of_length_le (by rw [nats_length]; omega)]
  · apply nats_inj
    rw [nats_extract, nats_append, List.drop_append_of_le_length (by rw [nats_length]; omega), List.drop_of_length_le (by rw [nats_length]; omega), List.nil_append, List.take_of_length_le (by rw [nats_length, ByteArray.size_append]; omega)]
theorem tt_big {s b : ByteArray} {most : Int} (hs : s.size < 4611686018427387904) (hm : most < s.size) : ttS (textS s ++ b) most = ⟨#[]⟩ ∧ ttR (textS s ++ b) most = ⟨#[]⟩ ∧ ttE (textS s ++ b) most = 4 := by
  have e : textS s ++ b = encS s.size ++ (s ++ b) := by rw [textS, ByteArray.append_assoc]
  obtain ⟨h1, h2, h3⟩ := tk_enc hs (s ++ b)
  rw [e]
  simp [ttS, ttR, ttE, tt, h1, h3, hm]
theorem tt_again {s : ByteArray} {most : Int} (h : ttE s most = 0) : textS (ttS s most) ++ ttR s most = s := by
  unfold ttE tt at h
  by_cases h0 : tkE s ≠ 0
  · rw [if_pos h0] at h; exact absurd h h0
  · by_cases h1 : most < tkN s
    · rw [if_neg h0, if_pos h1] at h; simp at h
    · by_cases h2 : (tkR s).size < tkN s
      · rw [if_neg h0, if_neg h1, if_pos h2] at h; simp at h
      · simp only [ttS, ttR, tt, if_neg h0, if_neg h1, if_neg h2]
        have hz : ((tkR s).extract 0 (tkN s)).size = tkN s := by rw [ByteArray.size_extract]; omega
        have hj : (tkR s).extract 0 (tkN s) ++ (tkR s).extract (tkN s) (tkR s).size = tkR s := by
          apply nats_inj
          rw [nats_append, nats_extract, nats_extract, List.drop_zero, Nat.sub_zero, ← nats_length, List.take_of_length_le (l := List.drop _ _) (by rw [List.length_drop]; omega), List.take_append_drop]
        rw [textS, hz, ByteArray.append_assoc, hj]
        exact tk_again (by omega)

end Go.Proofs.Ytmhddpgeiijhgaa

/-
  Plain facts on keys: a text's key byte by byte, its order, and what is taken of bytes as a text.
-/
namespace Go.Proofs.Ytmhddpgeiijhgaa

/-- Byte by byte the first list is less. -/
def lessN : List Nat → List Nat → Bool
  | _, [] => false
  | [], _ :: _ => true
  | a :: l, b :: m => decide (a < b) || a == b && lessN l m
theorem lessN_nil (l : List Nat) : lessN l [] = false := by cases l <;> rfl
theorem lessN_self : ∀ l : List Nat, lessN l l = false
  | [] => rfl
  | a :: l => by rw [lessN, lessN_self l]; simp
theorem lessN_diff {l m : List Nat} (h : Diff l m) : lessN l m = true ∧ lessN m l = false := by
  obtain ⟨p, x, y, l', m', rfl, rfl, hxy⟩ := h
  induction p with
  | nil =>
    have h2 : ¬ y < x := by omega
    have h3 : ¬ y = x := by omega
    simp [lessN, hxy, h2, h3]
  | cons b p ih => simp [lessN, ih.1, ih.2]
/-- One of two lists is less, or they are the same. -/
theorem lessN_or : ∀ l m : List Nat, lessN l m = true ∨ lessN m l = true ∨ l = m
  | [], [] => .inr (.inr rfl)
  | [], _ :: _ => .inl rfl
  | _ :: _, [] => .inr (.inl rfl)
  | a :: l, b :: m => by
    rcases Nat.lt_trichotomy a b with h | h | h
    · exact .inl (by simp [lessN, h])
    · subst h
      rcases lessN_or l m with h | h | h
      · exact .inl (by simp [lessN, h])
      · exact .inr (.inl (by simp [lessN, h]))
      · exact .inr (.inr (by rw [h]))
    · exact .inr (.inl (by simp [lessN, h]))
theorem lessN_not : ∀ l m : List Nat, lessN l m = true → lessN m l = false
  | _, [], h => by rw [lessN_nil] at h; cases h
  | [], b :: m, _ => rfl
  | a :: l, b :: m, h => by
    simp only [lessN, Bool.or_eq_true, decide_eq_true_eq, Bool.and_eq_true, beq_iff_eq] at h
    rcases h with h | ⟨h, h'⟩
    · have h1 : ¬ b < a := by omega
      have h2 : ¬ b = a := by omega
      simp [lessN, h1, h2]
    · subst h
      simp [lessN, lessN_not l m h']
/-- Texts are compared as their bytes. -/
theorem less_nats (a b : ByteArray) : Op.bytesLess a.toList b.toList = lessN (nats a) (nats b) := by
  rw [ByteArray.toList_eq, ByteArray.toList_eq, nats, nats]
  generalize a.data.toList = l
  generalize b.data.toList = m
  induction l generalizing m with
  | nil => cases m <;> rfl
  | cons x l ih =>
    cases m with
    | nil => rfl
    | cons y m =>
      rw [Op.bytesLess, List.map_cons, List.map_cons, lessN, ih m]
      congr 1
      congr 1
      rw [Bool.eq_iff_iff]
      simp only [beq_iff_eq]
      exact UInt8.toNat_inj.symm

/-- The key of a text. -/
def esc : List Nat → List Nat
  | [] => []
  | 0 :: l => 0 :: 255 :: esc l
  | (c + 1) :: l => (c + 1) :: esc l
def keyT (l : List Nat) : List Nat := esc l ++ [0, 0]
theorem esc_append : ∀ l m : List Nat, esc (l ++ m) = esc l ++ esc m
  | [], _ => rfl
  | 0 :: l, m => by rw [List.cons_append, esc, esc, esc_append l m]; rfl
  | (c + 1) :: l, m => by rw [List.cons_append, esc, esc, esc_append l m]; rfl
theorem esc_lt : ∀ l : List Nat, (∀ b ∈ l, b < 256) → ∀ b ∈ esc l, b < 256
  | [], _ => by simp [esc]
  | 0 :: l, h => by
    intro b hb
    rw [esc] at hb
    rcases List.mem_cons.1 hb with rfl | hb
    · omega
    · rcases List.mem_cons.1 hb with rfl | hb
      · omega
      · exact esc_lt l (fun c hc => h c (List.mem_cons_of_mem _ hc)) b hb
  | (c + 1) :: l, h => by
    intro b hb
    rw [esc] at hb
    rcases List.mem_cons.1 hb with rfl | hb
    · exact h _ List.mem_cons_self
    · exact esc_lt l (fun c hc => h c (List.mem_cons_of_mem _ hc)) b hb
theorem esc_length : ∀ l : List Nat, l.length ≤ (esc l).length ∧ (esc l).length ≤ 2 * l.length
  | [] => by simp [esc]
  | 0 :: l => by have := esc_length l; simp [esc]; omega
  | (c + 1) :: l => by have := esc_length l; simp [esc]; omega
theorem keyT_cons0 (l : List Nat) : keyT (0 :: l) = 0 :: 255 :: keyT l := rfl
theorem keyT_cons (c : Nat) (l : List Nat) : keyT ((c + 1) :: l) = (c + 1) :: keyT l := rfl
theorem keyT_nil : keyT [] = [0, 0] := rfl
/-- Of two texts the lesser one's key is less, and neither begins with the other one's. -/
theorem keyT_diff : ∀ l m : List Nat, lessN l m = true → Diff (keyT l) (keyT m)
  | _, [], h => by rw [lessN_nil] at h; cases h
  | [], 0 :: m, _ => ⟨[0], 0, 255, _, _, rfl, rfl, by decide⟩
  | [], (c + 1) :: m, _ => ⟨[], 0, c + 1, _, _, rfl, rfl, by omega⟩
  | 0 :: l, 0 :: m, h => by
    rw [keyT_cons0, keyT_cons0]
    exact ((keyT_diff l m (by simpa [lessN] using h)).cons _).cons _
  | 0 :: l, (c + 1) :: m, _ => ⟨[], 0, c + 1, _, _, rfl, rfl, by omega⟩
  | (c + 1) :: l, 0 :: m, h => by simp [lessN] at h
  | (c + 1) :: l, (d + 1) :: m, h => by
    rw [keyT_cons, keyT_cons]
    simp only [lessN, Bool.or_eq_true, decide_eq_true_eq, Bool.and_eq_true, beq_iff_eq] at h
    rcases h with h | ⟨h, h'⟩
    · exact ⟨[], _, _, _, _, rfl, rfl, h⟩
    · rw [h]; exact (keyT_diff l m h').cons _
theorem keyT_less (l m : List Nat) : lessN (keyT l) (keyT m) = lessN l m := by
  rcases lessN_or l m with h | h | h
  · rw [h, (lessN_diff (keyT_diff l m h)).1]
  · rw [lessN_not _ _ h, (lessN_diff (keyT_diff m l h)).2]
  · subst h; rw [lessN_self, lessN_self]
theorem Diff.not_prefix {l m : List Nat} (h : Diff l m) : ¬ l <+: m ∧ ¬ m <+: l := by
  obtain ⟨p, x, y, l', m', rfl, rfl, hxy⟩ := h
  constructor <;> intro k <;> rw [List.prefix_append_right_inj, List.cons_prefix_cons] at k <;> omega
/-- A key begins with another one just if it is the same. -/
theorem keyT_prefix (l m : List Nat) : keyT m <+: keyT l ↔ l = m := by
  constructor
  · intro h
    rcases lessN_or l m with h' | h' | h'
    · exact absurd h (keyT_diff l m h').not_prefix.2
    · exact absurd h (keyT_diff m l h').not_prefix.1
    · exact h'
  · rintro rfl; exact List.prefix_refl _

/-- What bytes begin with, as a text: it, what is behind it, the error. -/
def takT : List Nat → List Nat × List Nat × Nat
  | [] => ([], [], 9)
  | [0] => ([], [], 9)
  | 0 :: 0 :: r => ([], r, 0)
  | 0 :: (d + 1) :: r => if d = 254 then (if (takT r).2.2 = 0 then (0 :: (takT r).1, (takT r).2.1, 0) else ([], [], (takT r).2.2)) else ([], [], 8)
  | (c + 1) :: r => if (takT r).2.2 = 0 then ((c + 1) :: (takT r).1, (takT r).2.1, 0) else ([], [], (takT r).2.2)
theorem takT_key : ∀ l b : List Nat, takT (keyT l ++ b) = (l, b, 0)
  | [], b => rfl
  | 0 :: l, b => by
    rw [keyT_cons0, List.cons_append, List.cons_append, takT, if_pos rfl, takT_key l b, if_pos rfl]
  | (c + 1) :: l, b => by
    rw [keyT_cons, List.cons_append, takT, takT_key l b, if_pos rfl]
theorem takT_err : ∀ s : List Nat, (takT s).2.2 = 0 ∨ takT s = ([], [], 8) ∨ takT s = ([], [], 9)
  | [] => .inr (.inr rfl)
  | [0] => .inr (.inr rfl)
  | 0 :: 0 :: r => .inl rfl
  | 0 :: (d + 1) :: r => by
    rw [takT]
    by_cases h : d = 254
    · rw [if_pos h]
      by_cases h2 : (takT r).2.2 = 0
      · rw [if_pos h2]; exact .inl rfl
      · rw [if_neg h2]
        rcases takT_err r with h3 | h3 | h3
        · exact absurd h3 h2
        · rw [h3]; exact .inr (.inl rfl)
        · rw [h3]; exact .inr (.inr rfl)
    · rw [if_neg h]; exact .inr (.inl rfl)
  | (c + 1) :: r => by
    rw [takT]
    by_cases h2 : (takT r).2.2 = 0
    · rw [if_pos h2]; exact .inl rfl
    · rw [if_neg h2]
      rcases takT_err r with h3 | h3 | h3
      · exact absurd h3 h2
      · rw [h3]; exact .inr (.inl rfl)
      · rw [h3]; exact .inr (.inr rfl)

end Go.Proofs.Ytmhddpgeiijhgaa

/-
  Plain facts on fields: names, lists whose names rise, lists laid over lists.
-/
namespace Go.Proofs.Ytmhddpgeiijhgaa

/-- A field: its name, its value. -/
structure Fd where
  n : ByteArray
  v : Int
def letterB (c : Nat) : Bool := decide (97 ≤ c) && decide (c ≤ 122)
def innerB (c : Nat) : Bool := letterB c || c == 45 || (decide (48 ≤ c) && decide (c ≤ 57))
/-- Are these a name's bytes? -/
def nameL : List Nat → Bool
  | [] => false
  | c :: r => letterB c && r.all innerB && decide (r.length ≤ 11)
def nameB (s : ByteArray) : Bool := nameL (nats s)
/-- May this be a value? -/
def valB (v : Int) : Bool := decide (-2305843009213693952 ≤ v) && decide (v ≤ 2305843009213693951)
/-- What is wrong with a field alone. -/
def oneE (f : Fd) : Nat := if nameB f.n then (if valB f.v then 0 else 2) else 8
def aheadB (a b : ByteArray) : Bool := lessN (nats a) (nats b)
/-- What is wrong with the fields behind one that is ahead. -/
def rightG : Option ByteArray → List Fd → Nat
  | _, [] => 0
  | none, f :: l => if oneE f = 0 then rightG (some f.n) l else oneE f
  | some p, f :: l => if oneE f = 0 then (if aheadB p f.n then rightG (some f.n) l else 16) else oneE f
def rightE (l : List Fd) : Nat := if 8 < l.length then 4 else rightG none l
/-- The first field that is wrong alone. -/
def firstE : List Fd → Nat
  | [] => 0
  | f :: l => if oneE f = 0 then firstE l else oneE f
/-- A field more, or in the place of that of its name. -/
def layL : List Fd → Fd → List Fd
  | [], f => [f]
  | g :: l, f => if aheadB g.n f.n then g :: layL l f else if nats g.n = nats f.n then f :: l else f :: g :: l
def overL (l : List Fd) : List Fd := l.foldl layL []
def makeF (l : List Fd) : List Fd × Nat :=
  if 8 < l.length then ([], 4) else if firstE l = 0 then (if (overL l).length = l.length then (overL l, 0) else ([], 7)) else ([], firstE l)
def getL : List Fd → ByteArray → Option Int
  | [], _ => none
  | f :: l, s => if nats f.n = nats s then some f.v else getL l s
/-- The last value of a name. -/
def lastL : List Fd → ByteArray → Option Int
  | [], _ => none
  | f :: l, s => match lastL l s with
    | some v => some v
    | none => if nats f.n = nats s then some f.v else none

theorem lessN_trans : ∀ a b c : List Nat, lessN a b = true → lessN b c = true → lessN a c = true
  | _, _, [], _, h => by rw [lessN_nil] at h; cases h
  | _, [], _ :: _, h, _ => by rw [lessN_nil] at h; cases h
  | [], _ :: _, _ :: _, _, _ => rfl
  | a :: l, b :: m, c :: n, h, h' => by
    simp only [lessN, Bool.or_eq_true, decide_eq_true_eq, Bool.and_eq_true, beq_iff_eq] at h h' ⊢
    rcases h with h | ⟨h, h2⟩
    · rcases h' with h' | ⟨h', h3⟩
      · exact .inl (by omega)
      · exact .inl (by omega)
    · rcases h' with h' | ⟨h', h3⟩
      · exact .inl (by omega)
      · exact .inr ⟨by omega, lessN_trans l m n h2 h3⟩
/-- Names rise. -/
def Rises : List Fd → Prop
  | [] => True
  | f :: l => (∀ g ∈ l, aheadB f.n g.n = true) ∧ Rises l
theorem ahead_ne {a b : ByteArray} (h : aheadB a b = true) : nats a ≠ nats b := by
  intro e
  unfold aheadB at h
  rw [e, lessN_self] at h
  cases h
theorem layL_mem : ∀ (l : List Fd) (f g : Fd), g ∈ layL l f → g = f ∨ g ∈ l
  | [], f, g, h => by simp [layL] at h; exact .inl h
  | x :: l, f, g, h => by
    rw [layL] at h
    split at h
    · rcases List.mem_cons.1 h with h | h
      · exact .inr (by rw [h]; exact List.mem_cons_self)
      · rcases layL_mem l f g h with h | h
        · exact .inl h
        · exact .inr (List.mem_cons_of_mem _ h)
    · split at h
      · rcases List.mem_cons.1 h with h | h
        · exact .inl h
        · exact .inr (List.mem_cons_of_mem _ h)
      · rcases List.mem_cons.1 h with h | h
        · exact .inl h
        · exact .inr h
theorem layL_rises : ∀ (l : List Fd) (f : Fd), Rises l → Rises (layL l f)
  | [], f, _ => ⟨by simp, trivial⟩
  | x :: l, f, h => by
    rw [layL]
    by_cases h1 : aheadB x.n f.n = true
    · rw [if_pos h1]
      refine ⟨fun g hg => ?_, layL_rises l f h.2⟩
      rcases layL_mem l f g hg with rfl | hg
      · exact h1
      · exact h.1 g hg
    · rw [if_neg h1]
      by_cases h2 : nats x.n = nats f.n
      · rw [if_pos h2]
        refine ⟨fun g hg => ?_, h.2⟩
        have := h.1 g hg
        unfold aheadB at this ⊢
        rw [← h2]; exact this
      · rw [if_neg h2]
        have h3 : aheadB f.n x.n = true := by
          unfold aheadB at h1 ⊢
          rcases lessN_or (nats f.n) (nats x.n) with h | h | h
          · exact h
          · exact absurd h h1
          · exact absurd h.symm h2
        refine ⟨fun g hg => ?_, h⟩
        rcases List.mem_cons.1 hg with rfl | hg
        · exact h3
        · exact lessN_trans _ _ _ h3 (h.1 g hg)
theorem getL_none {l : List Fd} {s : ByteArray} (h : ∀ g ∈ l, nats g.n ≠ nats s) : getL l s = none := by
  induction l with
  | nil => rfl
  | cons f l ih =>
    rw [getL, if_neg (h f List.mem_cons_self)]
    exact ih fun g hg => h g (List.mem_cons_of_mem _ hg)
theorem layL_get : ∀ (l : List Fd) (f : Fd) (s : ByteArray), Rises l → getL (layL l f) s = if nats f.n = nats s then some f.v else getL l s
  | [], f, s, _ => rfl
  | x :: l, f, s, h => by
    rw [layL]
    by_cases h1 : aheadB x.n f.n = true
    · rw [if_pos h1, getL, getL, layL_get l f s h.2]
      by_cases h2 : nats x.n = nats s
      · have : nats f.n ≠ nats s := fun e => ahead_ne h1 (h2.trans e.symm)
        rw [if_pos h2, if_neg this, if_pos h2]
      · rw [if_neg h2, if_neg h2]
    · rw [if_neg h1]
      by_cases h2 : nats x.n = nats f.n
      · rw [if_pos h2, getL, getL]
        by_cases h3 : nats f.n = nats s
        · rw [if_pos h3, if_pos h3]
        · rw [if_neg h3, if_neg h3, if_neg (by rw [h2]; exact h3)]
      · rw [if_neg h2, getL]
/-- Two lists whose names rise are one, if they give the same of each name. -/
theorem rises_ext : ∀ a b : List Fd, Rises a → Rises b → (∀ s, getL a s = getL b s) → a = b
  | [], [], _, _, _ => rfl
  | [], y :: b, _, _, h => by have := h y.n; rw [getL, getL, if_pos rfl] at this; cases this
  | x :: a, [], _, _, h => by have := h x.n; rw [getL, getL, if_pos rfl] at this; cases this
  | x :: a, y :: b, ha, hb, h => by
    have hxy : nats x.n = nats y.n := by
      rcases lessN_or (nats x.n) (nats y.n) with h1 | h1 | h1
      · have e := h x.n
        rw [getL, if_pos rfl, getL, if_neg (fun e => ahead_ne h1 e.symm), getL_none fun g hg e => ahead_ne (lessN_trans _ _ _ h1 (hb.1 g hg)) e.symm] at e
        cases e
      · have e := h y.n
        rw [getL, if_neg (fun e => ahead_ne h1 e.symm), getL_none (fun g hg e => ahead_ne (lessN_trans _ _ _ h1 (ha.1 g hg)) e.symm), getL, if_pos rfl] at e
        cases e
      · exact h1
    have hv : x.v = y.v := by
      have e := h x.n
      rw [getL, if_pos rfl, getL, if_pos hxy.symm] at e
      exact Option.some.inj e
    have hr : a = b := by
      apply rises_ext a b ha.2 hb.2
      intro s
      have e := h s
      rw [getL, getL] at e
      by_cases hs : nats x.n = nats s
      · rw [getL_none fun g hg e => ahead_ne (ha.1 g hg) (hs.trans e.symm), getL_none fun g hg e => ahead_ne (hb.1 g hg) ((hxy.symm.trans hs).trans e.symm)]
      · rw [if_neg hs, if_neg (by rw [← hxy]; exact hs)] at e
        exact e
    obtain ⟨xn, xv⟩ := x
    obtain ⟨yn, yv⟩ := y
    obtain rfl : xn = yn := nats_inj hxy
    obtain rfl : xv = yv := hv
    rw [hr]
theorem foldl_rises : ∀ (l a : List Fd), Rises a → Rises (l.foldl layL a)
  | [], _, h => h
  | f :: l, a, h => foldl_rises l _ (layL_rises a f h)
theorem overL_rises (l : List Fd) : Rises (overL l) := foldl_rises l [] trivial
theorem foldl_get : ∀ (l a : List Fd) (s : ByteArray), Rises a → getL (l.foldl layL a) s = match lastL l s with | some v => some v | none => getL a s
  | [], _, _, _ => rfl
  | f :: l, a, s, h => by
    rw [List.foldl_cons, foldl_get l _ s (layL_rises a f h), lastL, layL_get a f s h]
    cases lastL l s with
    | some v => rfl
    | none => by_cases hs : nats f.n = nats s <;> simp [hs]
theorem overL_get (l : List Fd) (s : ByteArray) : getL (overL l) s = lastL l s := by
  rw [overL, foldl_get l [] s trivial]
  cases lastL l s <;> rfl
theorem lastL_append : ∀ (l m : List Fd) (s : ByteArray), lastL (l ++ m) s = match lastL m s with | some v => some v | none => lastL l s
  | [], m, s => by cases h : lastL m s <;> simp [lastL, h]
  | f :: l, m, s => by
    rw [List.cons_append, lastL, lastL_append l m s, lastL]
    cases lastL m s <;> rfl
theorem lastL_rises : ∀ (l : List Fd) (s : ByteArray), Rises l → lastL l s = getL l s
  | [], _, _ => rfl
  | f :: l, s, h => by
    rw [lastL, lastL_rises l s h.2, getL]
    by_cases hs : nats f.n = nats s
    · rw [getL_none fun g hg e => ahead_ne (h.1 g hg) (hs.trans e.symm)]
    · simp [hs]
      cases getL l s <;> rfl
theorem over_last (l : List Fd) (s : ByteArray) : lastL (overL l) s = lastL l s := by
  rw [lastL_rises _ s (overL_rises l), overL_get]
/-- Laid over each other first, or all at once. -/
theorem over_left (a b : List Fd) : overL (overL a ++ b) = overL (a ++ b) := by
  apply rises_ext _ _ (overL_rises _) (overL_rises _)
  intro s
  rw [overL_get, overL_get, lastL_append, lastL_append, over_last]
theorem over_right (a b : List Fd) : overL (a ++ overL b) = overL (a ++ b) := by
  apply rises_ext _ _ (overL_rises _) (overL_rises _)
  intro s
  rw [overL_get, overL_get, lastL_append, lastL_append, over_last]
theorem over_self (a : List Fd) : overL (a ++ a) = overL a := by
  apply rises_ext _ _ (overL_rises _) (overL_rises _)
  intro s
  rw [overL_get, overL_get, lastL_append]
  cases lastL a s <;> rfl

end Go.Proofs.Ytmhddpgeiijhgaa

/-
  A number's bytes, laid by the program: Num.
-/
namespace Go.Proofs.Ytmhddpgeiijhgaa
open Go.RowKit

/-- What Num and the document's Num give back. -/
def numS (n : Int) : ByteArray := if 0 ≤ n ∧ n ≤ 4611686018427387903 then encS n.toNat else ⟨#[]⟩
def numE (n : Int) : Int := if 0 ≤ n ∧ n ≤ 4611686018427387903 then 0 else 2
def NumPost (n : Int) (w : World) (e : Ending) (w' : World) : Prop := e = .returned (.tuple #[.string (numS n), .int .i64 (numE n)]) ∧ Below w.heap.size w w'

theorem ret_se {s t : ByteArray} {a b : Int} (h : s = t) (k : a = b) : Ending.returned (.tuple #[.string s, .int .i64 a]) = .returned (.tuple #[.string t, .int .i64 b]) := by rw [h, k]

/-- The bytes that lie behind the i lowest have been laid. -/
def layT (K n i : Nat) : Nat → Nat := fun j => if K - j < i then n / 256 ^ (K - j) % 256 else 0
theorem layT_put {K n i : Nat} (hi : i < K) : ∀ j, j < K + 1 → upd (layT K n i) (K - i) (n / 256 ^ i % 256) j = layT K n (i + 1) j := by
  intro j hj
  unfold upd layT
  by_cases e : j = K - i
  · rw [if_pos e, if_pos (by omega), show K - j = i from by omega]
  · rw [if_neg e]
    by_cases h : K - j < i
    · rw [if_pos h, if_pos (by omega)]
    · rw [if_neg h, if_neg (by omega)]
theorem layT_all {K n c : Nat} : ∀ j, j < K + 1 → (c :: be K n)[j]? = some (upd (layT K n K) 0 c j) := by
  intro j hj
  rcases j with _ | j
  · rfl
  · rw [List.getElem?_cons_succ, be_get K n j (by omega)]
    unfold upd layT
    rw [if_neg (by omega), if_pos (by omega)]
    congr 4
    omega
theorem top_bits {n : Nat} (hn : n < 4611686018427387904) : bits BinOp.or IntKind.u8 (mark (kN n) : Int) (IntKind.u8.wrap ((n : Int) / 2 ^ (8 * kN n))) = (topB n : Int) := by
  have h := topB_range hn
  have hk := kN_le n
  have h2 := kN_cases n
  have e : (n : Int) / 2 ^ (8 * kN n) = ((n / 256 ^ kN n : Nat) : Int) := by
    rw [p256]; simp
  have hx : n / 256 ^ kN n < 2 ^ (8 - kN n) := by
    have h1 : mark (kN n) + n / 256 ^ kN n < 256 := h.2.1
    have key : ∀ k, k ≤ 8 → 256 ≤ mark k + 2 ^ (8 - k) := by decide
    have := key _ hk
    omega
  have key : ∀ k, k ≤ 8 → ∀ x, x < 2 ^ (8 - k) → bits BinOp.or IntKind.u8 (mark k : Int) (IntKind.u8.wrap ((x : Nat) : Int)) = ((mark k + x : Nat) : Int) := by decide +kernel
  rw [e, key _ hk _ hx]
  rfl
theorem low_byte (n i : Nat) : IntKind.u8.wrap ((n : Int) / 2 ^ (8 * i)) = ((n / 256 ^ i % 256 : Nat) : Int) := by
  have e : (n : Int) / 2 ^ (8 * i) = ((n / 256 ^ i : Nat) : Int) := by
    rw [p256]; simp
  rw [e]
  simp [IntKind.wrap, IntKind.bits, IntKind.signed]

end Go.Proofs.Ytmhddpgeiijhgaa

/-
  Numbers with a sign, texts, and the chapter's examples, by the program and by the document.
-/
namespace Go.Proofs.Ytmhddpgeiijhgaa
open Go.RowKit

theorem num_bad {n : Int} (h : ¬ (0 ≤ n ∧ n ≤ 4611686018427387903)) : numS n = ⟨#[]⟩ ∧ numE n = 2 := by
  unfold numS numE
  rw [if_neg h, if_neg h]
  exact ⟨rfl, rfl⟩
theorem num_ok {n : Nat} (h : n < 4611686018427387904) : numS n = encS n ∧ numE n = 0 := by
  unfold numS numE
  rw [if_pos (by omega), if_pos (by omega), Int.toNat_natCast]
  exact ⟨rfl, rfl⟩

/-- A number with a sign as one without. -/
def zig (n : Int) : Int := if n < 0 then -2 * n - 1 else 2 * n
def intS (n : Int) : ByteArray := if -2305843009213693952 ≤ n ∧ n ≤ 2305843009213693951 then numS (zig n) else ⟨#[]⟩
def intE (n : Int) : Int := if -2305843009213693952 ≤ n ∧ n ≤ 2305843009213693951 then numE (zig n) else 2
def IntPost (n : Int) (w : World) (e : Ending) (w' : World) : Prop := e = .returned (.tuple #[.string (intS n), .int .i64 (intE n)]) ∧ Below w.heap.size w w'
theorem int_bad {n : Int} (h : ¬ (-2305843009213693952 ≤ n ∧ n ≤ 2305843009213693951)) : intS n = ⟨#[]⟩ ∧ intE n = 2 := by
  unfold intS intE
  rw [if_neg h, if_neg h]
  exact ⟨rfl, rfl⟩
theorem int_ok {n z : Int} (h : -2305843009213693952 ≤ n ∧ n ≤ 2305843009213693951) (hz : zig n = z) : intS n = numS z ∧ intE n = numE z := by
  unfold intS intE
  rw [if_pos h, if_pos h, hz]
  exact ⟨rfl, rfl⟩
theorem zig_neg {n : Int} (h : n < 0) : zig n = -2 * n - 1 := by unfold zig; rw [if_pos h]
theorem zig_pos {n : Int} (h : ¬ n < 0) : zig n = 2 * n := by unfold zig; rw [if_neg h]

abbrev Ret (F : Nat) (args : Array Value) (w : World) (v : Value) : Prop := Calls Try.prog F args w fun e w' => e = .returned v ∧ Below w.heap.size w w'
theorem ret_s {s t : ByteArray} (h : s = t) : Ending.returned (.string s) = .returned (.string t) := by rw [h]

end Go.Proofs.Ytmhddpgeiijhgaa

/-
  Fields in memory; the document's one, Right and Get.
-/
namespace Go.Proofs.Ytmhddpgeiijhgaa
open Go.RowKit

/-- A field as a value. -/
abbrev fv (f : Fd) : Value := .agg #[.string f.n, .int .i64 f.v]
/-- From A on the fields of l lie, one behind the other. -/
def Fields (w : World) (A : Option Addr) (l : List Fd) : Prop := ∀ i f, l[i]? = some f → ∃ g off, A = some ⟨g, off, none⟩ ∧ w.cell? ⟨g, off + i * 2, none⟩ = some (.string f.n) ∧ w.cell? ⟨g, off + i * 2 + 1, none⟩ = some (.int .i64 f.v)
theorem Fields.below {w w' : World} {A : Option Addr} {l : List Fd} (h : Fields w A l) (hb : Below w.heap.size w w') : Fields w' A l := fun i f hf => by
  obtain ⟨g, off, rfl, c0, c1⟩ := h i f hf
  exact ⟨g, off, rfl, keepc hb c0, keepc hb c1⟩
theorem Fields.nil (w : World) (A : Option Addr) : Fields w A [] := fun i f h => by simp at h
theorem Fields.at {w : World} {g off k : Nat} {f : Fd} {l : List Fd} (h : Fields w (some ⟨g, off, none⟩) l) (hf : l[k]? = some f) : w.cell? ⟨g, off + k * 2, none⟩ = some (.string f.n) ∧ w.cell? ⟨g, off + k * 2 + 1, none⟩ = some (.int .i64 f.v) := by
  obtain ⟨g', off', e, c0, c1⟩ := h k f hf
  injection e with e
  injection e with e1 e2
  subst e1 e2
  exact ⟨c0, c1⟩
/-- Fields whose names are not too long. -/
def okF (l : List Fd) : Prop := ∀ f ∈ l, f.n.size ≤ 9223372036854775807

theorem intE_val (v : Int) : intE v = if valB v then 0 else 2 := by
  unfold valB
  by_cases h : -2305843009213693952 ≤ v ∧ v ≤ 2305843009213693951
  · rw [(int_ok h rfl).2, if_pos (by simp [h.1, h.2])]
    unfold numE zig
    split <;> rw [if_pos (by omega)]
  · rw [(int_bad h).2, if_neg]
    simp only [Bool.and_eq_true, decide_eq_true_eq]
    exact h

theorem drop_consF {l : List Fd} {k : Nat} {f : Fd} (h : l[k]? = some f) : l.drop k = f :: l.drop (k + 1) := by
  have hk : k < l.length := by
    rcases Nat.lt_or_ge k l.length with h' | h'
    · exact h'
    · rw [List.getElem?_eq_none h'] at h; cases h
  rw [List.drop_eq_getElem_cons hk]
  rw [List.getElem?_eq_getElem hk] at h
  rw [Option.some.inj h]
theorem rightG_none (f : Fd) (l : List Fd) : rightG none (f :: l) = if oneE f = 0 then rightG (some f.n) l else oneE f := rfl
theorem rightG_some (p : ByteArray) (f : Fd) (l : List Fd) : rightG (some p) (f :: l) = if oneE f = 0 then (if aheadB p f.n then rightG (some f.n) l else 16) else oneE f := rfl
theorem rightG_bad (o : Option ByteArray) {f : Fd} (l : List Fd) (h : oneE f ≠ 0) : rightG o (f :: l) = oneE f := by
  cases o
  · rw [rightG_none, if_neg h]
  · rw [rightG_some, if_neg h]

end Go.Proofs.Ytmhddpgeiijhgaa

/-
  append of fields onto a list of the call's own, whatever the source, also as one step of a statement whose order is open.
-/
namespace Go.Proofs.Ytmhddpgeiijhgaa
open Go.RowKit

abbrev FT : TypeId := 69
theorem Try.infoField : (Try.prog.info? FT).map (fun i => (i.zero, i.size, i.bytes)) = some (some (.agg #[.string ⟨#[]⟩, .int .i64 0]), 2, 24) := by kernel_rfl
/-- The cells of fields. -/
def flatF : List Fd → List Value
  | [] => []
  | f :: l => .string f.n :: .int .i64 f.v :: flatF l
theorem flatF_length : ∀ l : List Fd, (flatF l).length = l.length * 2
  | [] => rfl
  | f :: l => by have := flatF_length l; simp [flatF]; omega
theorem flatF_append : ∀ l m : List Fd, flatF (l ++ m) = flatF l ++ flatF m
  | [], _ => rfl
  | f :: l, m => by rw [List.cons_append, flatF, flatF, flatF_append l m]; rfl
theorem flatF_get : ∀ (l : List Fd) (i : Nat) (f : Fd), l[i]? = some f → (flatF l)[i * 2]? = some (.string f.n) ∧ (flatF l)[i * 2 + 1]? = some (.int .i64 f.v)
  | [], _, _, h => by simp at h
  | g :: l, 0, f, h => by
    obtain rfl : g = f := by simpa using h
    exact ⟨rfl, rfl⟩
  | g :: l, i + 1, f, h => by
    have ih := flatF_get l i f (by simpa using h)
    rw [show (i + 1) * 2 = i * 2 + 2 from by omega]
    exact ih
theorem flatF_one : ∀ l : List Fd, ∀ u ∈ flatF l, u.oneCell' = true
  | [], u, h => by simp [flatF] at h
  | f :: l, u, h => by
    rcases List.mem_cons.1 h with rfl | h
    · rfl
    · rcases List.mem_cons.1 h with rfl | h
      · rfl
      · exact flatF_one l u h
abbrev ownF (w : World) (base : Nat) (v : Value) (l : List Fd) : Prop := w.ownsRow base FT 2 v l.length (flatF l)
theorem own_fields {w : World} {base : Nat} {v : Value} {l : List Fd} (h : ownF w base v l) : ∃ A c, v = .slice A l.length c ∧ Fields w A l ∧ (A = none → c = 0) ∧ l.length ≤ c := by
  rcases h.2 with ⟨hv, h0⟩ | ⟨g, cap, cur, hv, _, _, hn, _⟩
  · obtain rfl : l = [] := List.eq_nil_of_length_eq_zero h0
    exact ⟨_, _, hv, Fields.nil _ _, fun _ => rfl, Nat.zero_le _⟩
  · refine ⟨_, _, hv, fun i f hf => ?_, (fun h => by cases h), hn⟩
    have add : ∀ n, (⟨g, 0, none⟩ : Addr).add n = ⟨g, 0 + n, none⟩ := fun n => by unfold Addr.add; split <;> simp_all
    obtain ⟨f0, f1⟩ := flatF_get l i f hf
    have c0 := h.cells (g := g) (by rw [hv]; rfl) _ _ f0
    have c1 := h.cells (g := g) (by rw [hv]; rfl) _ _ f1
    rw [add] at c0 c1
    exact ⟨g, 0, rfl, c0, by rw [Nat.add_assoc]; exact c1⟩
theorem own_belowF {w w' : World} {base e size n : Nat} {v : Value} {xs : List Value} (h : w.ownsRow base e size v n xs) (hb : Below w.heap.size w w') : w'.ownsRow base e size v n xs :=
  h.kept (row := none) ⟨hb.os, hb.tape, hb.output, hb.size, fun k hk _ => hb.block k hk⟩ (by cases v.ownBlock <;> simp)
theorem own_lowerF {w : World} {b b' : Nat} {v : Value} {ts : List Fd} (hb : b ≤ b') (h : ownF w b' v ts) : ownF w b v ts := by
  refine ⟨h.1, ?_⟩
  rcases h.2 with h2 | ⟨g, cap, cur, hv, hg, r⟩
  · exact .inl h2
  · exact .inr ⟨g, cap, cur, hv, by omega, r⟩
theorem flatF_cell {w : World} {g off : Nat} {l : List Fd} (h : Fields w (some ⟨g, off, none⟩) l) {j : Nat} {u : Value} (hu : (flatF l)[j]? = some u) : w.cell? ((⟨g, off, none⟩ : Addr).add j) = some u := by
  have hj : j < l.length * 2 := by
    rcases Nat.lt_or_ge j (flatF l).length with h1 | h1
    · rw [flatF_length] at h1; exact h1
    · rw [List.getElem?_eq_none h1] at hu; cases hu
  obtain ⟨f, hf⟩ : ∃ f, l[j / 2]? = some f := ⟨_, List.getElem?_eq_getElem (by omega)⟩
  obtain ⟨e0, e1⟩ := flatF_get l (j / 2) f hf
  obtain ⟨c0, c1⟩ := h.at hf
  rw [Go.WideShapes.add_plain]
  rcases Nat.mod_two_eq_zero_or_one j with h2 | h2
  · rw [show j / 2 * 2 = j from by omega] at e0 c0
    rw [e0] at hu
    injection hu with hu
    rw [← hu]; exact c0
  · rw [show j / 2 * 2 + 1 = j from by omega] at e1
    rw [Nat.add_assoc, show j / 2 * 2 + 1 = j from by omega] at c1
    rw [e1] at hu
    injection hu with hu
    rw [← hu]; exact c1

theorem run_appF (w : World) {base : Nat} {v : Value} {ts : List Fd} (hown : ownF w base v ts) (B : Option Addr) (c : Nat) (xs : List Fd) (hx : Fields w B xs) (hc : B = none → c = 0)
    (hl : ts.length + xs.length ≤ 1000000) (hbase : base ≤ w.heap.size) (ty : TypeId) :
    ∃ v' w', (Builtin.append_ #[49, 49] ty #[v, .slice B xs.length c]).run Try.prog w = .ok v' w' ∧ ownF w' base v' (ts ++ xs) ∧ w.grownBy w' v.ownBlock ∧ (v'.ownBlock = v.ownBlock ∨ v'.ownBlock = some w.heap.size) := by
  obtain ⟨i0, hi, hz0, hz1, hz2⟩ := info_parts Try.infoField
  rcases B with _ | ad
  · obtain rfl : xs = [] := by
      rcases xs with _ | ⟨x, xs⟩
      · rfl
      · obtain ⟨_, _, h, _⟩ := hx 0 x (by simp)
        cases h
    obtain rfl := hc rfl
    exact ⟨v, w, run_append_owned_none (P := Try.prog) w base 49 ty FT i0 2 Try.underlying49 hi v _ _ hown, by simpa [ownF] using hown, World.grownBy.refl _ _, .inl rfl⟩
  · have hcell : ∀ j u, (flatF xs)[j]? = some u → w.cell? (ad.add j) = some u := fun j u hu => by
      rcases xs with _ | ⟨p, xs⟩
      · simp [flatF] at hu
      · obtain ⟨g, off, he, _⟩ := hx 0 p (by simp)
        obtain rfl : ad = ⟨g, off, none⟩ := Option.some.inj he
        exact flatF_cell hx hu
    obtain ⟨v', w', hrun, h2, h3, _, h5⟩ := run_append_own_at (P := Try.prog) w base 49 ty FT i0 (.agg #[.string ⟨#[]⟩, .int .i64 0]) 2 24 Try.underlying49 hi hz0 hz1 hz2 rfl (by decide) v _ _ hown ad xs.length c (flatF xs) (flatF_length xs) hcell
      (flatF_one xs) (by unfold maxLen; omega) (by omega) hbase
    exact ⟨v', w', hrun, by unfold ownF; rw [flatF_append, List.length_append]; exact h2, h3, h5⟩

theorem step_appF {ops : Array Oper} {o : Oper} {a : Act} {w : World} {K : Act → World → Prop} {Q : Exit → Act → World → Prop} {E : Prop} (hgd : o.guard = none) (s x : Operand)
    (ho : o.op = .call { callee := .builtin .append, args := #[s, x], argTypes := #[49, 49] })
    {base : Nat} {v : Value} {ts : List Fd} (hs : a.eval s = v) (hown : ownF w base v ts) {B : Option Addr} {c m : Nat} {xs : List Fd} (hv : a.eval x = .slice B m c) (hm : m = xs.length) (hx : Fields w B xs) (hc : B = none → c = 0)
    (hl : ts.length + xs.length ≤ 1000000) (hbase : base ≤ w.heap.size)
    (h : ∀ v' w', ownF w' base v' (ts ++ xs) → w.grownBy w' v.ownBlock → (v'.ownBlock = v.ownBlock ∨ v'.ownBlock = some w.heap.size) → K (a.put o.dst v') w') :
    if Region.wanted o (yielded ops a.tmps) = true then Oper.wp Try.prog o a w K Q else E := by
  subst hm
  have hw : Region.wanted o (yielded ops a.tmps) = true := by simp [Region.wanted, hgd]
  rw [if_pos hw]
  obtain ⟨v', w', hrun, h2, h3, h4⟩ := run_appF w hown B c xs hx hc hl hbase o.type
  unfold Oper.wp execOp
  simp only [ho, resolve, invoke, builtin, Sem.run_bind, Sem.run_pure, Result.andThen_ok, List.map_toArray, List.map_cons, List.map_nil, hs, hv, hrun]
  exact h v' w' h2 h3 h4

theorem below_grownF {a w w1 : World} {row : Option Nat} (h : Below a.heap.size a w) (hg : w.grownBy w1 row) (hr : ∀ r, row = some r → a.heap.size ≤ r) : Below a.heap.size a w1 := h.grown hg h.size hr
theorem own_emptyF {w : World} {b base : Nat} (h : w.heap[b]? = some (.cells #[] FT (0, 0))) (hb : base ≤ b) : ownF w base (.slice (some ⟨b, 0, none⟩) 0 0) [] :=
  ⟨rfl, .inr ⟨b, 0, #[], rfl, hb, h, by simp, by simp [maxLen], (by simp; try rfl), (by simp; try rfl)⟩⟩
/-- The block of one field. -/
abbrev oc (f : Fd) : Obj := .cells #[.string f.n, .int .i64 f.v] FT
theorem own_f1 (W : World) : ownF (W.alloc (.cells #[] FT)).drew W.heap.size (.slice (some ⟨W.heap.size, 0, none⟩) 0 0) [] := own_emptyF (heap_alloc_new W _) (Nat.le_refl _)
theorem own_f2 (W : World) (x : Fd) : ownF ((W.alloc (.cells #[] FT)).alloc (oc x)).drew W.heap.size (.slice (some ⟨W.heap.size, 0, none⟩) 0 0) [] :=
  own_emptyF ((Below.heap_alloc (W.alloc (.cells #[] FT)) _ W.heap.size (by simp)).trans (heap_alloc_new W _)) (Nat.le_refl _)
theorem own_f3 (W : World) (x : Fd) : ownF ((W.alloc (oc x)).alloc (.cells #[] FT)).drew W.heap.size (.slice (some ⟨W.heap.size + 1, 0, none⟩) 0 0) [] :=
  own_emptyF (w := ((W.alloc (oc x)).alloc (.cells #[] FT))) (by have := heap_alloc_new (W.alloc (oc x)) (.cells #[] FT); simpa using this) (by omega)
theorem field_cell {w : World} {b : Nat} {x : Fd} (h : w.cell? ⟨b, 0, none⟩ = some (.string x.n)) (h1 : w.cell? ⟨b, 1, none⟩ = some (.int .i64 x.v)) : Fields w (some ⟨b, 0, none⟩) [x] := fun i y hy => by
  rcases i with _ | i
  · obtain rfl : x = y := by simpa using hy
    exact ⟨_, _, rfl, by simpa using h, by simpa using h1⟩
  · simp at hy
theorem field_one (w : World) (x : Fd) (t : TypeId) : Fields (w.alloc (.cells #[.string x.n, .int .i64 x.v] t)) (some ⟨w.heap.size, 0, none⟩) [x] := field_cell (by simp [go_sem]) (by simp [go_sem])
theorem x_f2 {W w1 : World} {x : Fd} (hg : ((W.alloc (.cells #[] FT)).alloc (oc x)).drew.grownBy w1 (Value.slice (some ⟨W.heap.size, 0, none⟩) 0 0).ownBlock) : Fields w1 (some ⟨W.heap.size + 1, 0, none⟩) [x] :=
  field_cell (hg.cell (by simp [go_sem]) (by simp [Value.ownBlock])) (hg.cell (by simp [go_sem]) (by simp [Value.ownBlock]))
theorem x_f3 {W w1 : World} {x : Fd} (hg : ((W.alloc (oc x)).alloc (.cells #[] FT)).drew.grownBy w1 (Value.slice (some ⟨W.heap.size + 1, 0, none⟩) 0 0).ownBlock) : Fields w1 (some ⟨W.heap.size, 0, none⟩) [x] :=
  field_cell (hg.cell (by simp [go_sem]) (by simp [Value.ownBlock])) (hg.cell (by simp [go_sem]) (by simp [Value.ownBlock]))
theorem Fields.take {w : World} {A : Option Addr} {l : List Fd} (h : Fields w A l) (k : Nat) : Fields w A (l.take k) := fun i x hx => by
  rcases Nat.lt_or_ge i k with hi | hi
  · rw [List.getElem?_take_of_lt hi] at hx
    exact h i x hx
  · rw [List.getElem?_take_eq_none hi] at hx
    cases hx
theorem Fields.drop {w : World} {g off : Nat} {l : List Fd} (h : Fields w (some ⟨g, off, none⟩) l) (k : Nat) : Fields w (some ⟨g, off + k * 2, none⟩) (l.drop k) := fun i x hx => by
  rw [List.getElem?_drop] at hx
  obtain ⟨c0, c1⟩ := h.at hx
  exact ⟨g, off + k * 2, rfl, by rw [Nat.add_assoc, ← Nat.add_mul]; exact c0, by rw [Nat.add_assoc off, ← Nat.add_mul]; exact c1⟩

end Go.Proofs.Ytmhddpgeiijhgaa

/-
  A list of fields as a value, a list of such lists.
-/
namespace Go.Proofs.Ytmhddpgeiijhgaa
open Go.RowKit

/-- A list of fields as a value. -/
def ListF (W : World) (v : Value) (l : List Fd) : Prop := ∃ A c, v = .slice A l.length c ∧ Fields W A l ∧ l.length ≤ c ∧ (A = none → c = 0)
/-- A list of lists. -/
def RowsF (W : World) (A : Option Addr) (L : List (List Fd)) : Prop := ∀ i l, L[i]? = some l → ∃ g off v, A = some ⟨g, off, none⟩ ∧ W.cell? ⟨g, off + i, none⟩ = some v ∧ ListF W v l

theorem ListF.below {w w' : World} {v : Value} {l : List Fd} (h : ListF w v l) (hb : Below w.heap.size w w') : ListF w' v l := by
  obtain ⟨A, c, e, h1, h2, h3⟩ := h
  exact ⟨A, c, e, h1.below hb, h2, h3⟩
theorem RowsF.below {w w' : World} {A : Option Addr} {L : List (List Fd)} (h : RowsF w A L) (hb : Below w.heap.size w w') : RowsF w' A L := fun i l hl => by
  obtain ⟨g, off, v, e, hc, hv⟩ := h i l hl
  exact ⟨g, off, v, e, keepc hb hc, hv.below hb⟩
theorem ListF.nil (w : World) : ListF w (.slice none 0 0) [] := ⟨none, 0, rfl, Fields.nil _ _, Nat.le_refl _, fun _ => rfl⟩
theorem ListF.own {w : World} {base : Nat} {v : Value} {l : List Fd} (h : ownF w base v l) : ListF w v l := by
  obtain ⟨A, c, e, h1, h2, h3⟩ := own_fields h
  exact ⟨A, c, e, h1, h3, h2⟩
theorem wpList_appF {ops : Array Oper} {rest : List Oper} {o : Oper} {a : Act} {w : World} {Q : Exit → Act → World → Prop} (hgd : o.guard = none) (s x : Operand)
    (ho : o.op = .call { callee := .builtin .append, args := #[s, x], argTypes := #[49, 49] })
    {base : Nat} {v : Value} {ts : List Fd} (hs : a.eval s = v) (hown : ownF w base v ts) {B : Option Addr} {c m : Nat} {xs : List Fd} (hv : a.eval x = .slice B m c) (hm : m = xs.length) (hx : Fields w B xs) (hc : B = none → c = 0)
    (hl : ts.length + xs.length ≤ 1000000) (hbase : base ≤ w.heap.size)
    (h : ∀ v' w', ownF w' base v' (ts ++ xs) → w.grownBy w' v.ownBlock → wpList Try.prog ops Q rest (a.put o.dst v') w') : wpList Try.prog ops Q (o :: rest) a w := by
  subst hm
  obtain ⟨v', w', hrun, h2, h3, h4⟩ := run_appF w hown B c xs hx hc hl hbase o.type
  refine wpList_plain hgd fun _ hK => ?_
  unfold Oper.wp execOp
  simp only [ho, resolve, invoke, builtin, Sem.run_bind, Sem.run_pure, Result.andThen_ok, List.map_toArray, List.map_cons, List.map_nil, hs, hv, hrun]
  exact hK _ _ (h v' w' h2 h3)
/-- A list of the call's own, whose blocks lie from that world on. -/
structure OF (W : World) (l : List Fd) (v : Value) (w : World) : Prop where
  own : ownF w W.heap.size v l
  bel : Below W.heap.size W w
theorem OF.nil (W : World) : OF W [] (.slice none 0 0) W := ⟨World.ownsRow_nil _ _ _ _, bl W⟩
theorem OF.below {W w w' : World} {l : List Fd} {v : Value} (h : OF W l v w) (hb : Below w.heap.size w w') : OF W l v w' := ⟨own_belowF h.own hb, chain h.bel hb⟩
theorem OF.grown {W w w' : World} {l m : List Fd} {v v' : Value} (h : OF W l v w) (hg : w.grownBy w' v.ownBlock) (hown : ownF w' W.heap.size v' m) : OF W m v' w' :=
  ⟨hown, below_grownF h.bel hg (fun r hr => (h.own.lt r hr).1)⟩
theorem OF.list {W w : World} {l : List Fd} {v : Value} (h : OF W l v w) : ListF w v l := ListF.own h.own
theorem OF.set {W w : World} {l : List Fd} {v : Value} (h : OF W l v w) {b o : Nat} (u : Value) (hne : v.ownBlock ≠ some b) (hb : W.heap.size ≤ b) : OF W l v (w.setCell ⟨b, o, none⟩ u) :=
  ⟨h.own.kept (row := some b) ⟨rfl, rfl, rfl, by simp [World.setCell], fun k _ hk => Below.heap_setCell _ _ _ _ (fun e => hk (by simp [e]))⟩ (Or.inr hne), h.bel.setCell (p := ⟨b, o, none⟩) hb u⟩
theorem OF.ne {W w : World} {l : List Fd} {v : Value} (h : OF W l v w) : v.ownBlock ≠ some w.heap.size := fun e => by
  have := (h.own.lt _ e).2
  omega
/-- A list of the call's own, and a field of its own in block b. -/
structure FW (W0 : World) (acc : List Fd) (o : Value) (b : Nat) (x : Fd) (W : World) : Prop where
  of : OF W0 acc o W
  ne : o.ownBlock ≠ some b
  le : W0.heap.size ≤ b
  lt : b < W.heap.size
  c0 : W.cell? ⟨b, 0, none⟩ = some (.string x.n)
  c1 : W.cell? ⟨b, 1, none⟩ = some (.int .i64 x.v)
  f0 : W.frozen? ⟨b, 0, none⟩ = false
  f1 : W.frozen? ⟨b, 1, none⟩ = false
theorem FW.set0 {W0 W : World} {acc : List Fd} {o : Value} {b : Nat} {x : Fd} (h : FW W0 acc o b x W) (s : ByteArray) : FW W0 acc o b ⟨s, x.v⟩ (W.setCell ⟨b, 0, none⟩ (.string s)) :=
  ⟨h.of.set _ h.ne h.le, h.ne, h.le, by simpa [World.setCell] using h.lt, World.cell?_setCell_same _ _ _ h.c0, (World.cell?_setCell_other _ _ _ _ (by simp)).trans h.c1, by simpa [go_sem] using h.f0, by simpa [go_sem] using h.f1⟩
theorem FW.set1 {W0 W : World} {acc : List Fd} {o : Value} {b : Nat} {x : Fd} (h : FW W0 acc o b x W) (v : Int) : FW W0 acc o b ⟨x.n, v⟩ (W.setCell ⟨b, 1, none⟩ (.int .i64 v)) :=
  ⟨h.of.set _ h.ne h.le, h.ne, h.le, by simpa [World.setCell] using h.lt, (World.cell?_setCell_other _ _ _ _ (by simp)).trans h.c0, World.cell?_setCell_same _ _ _ h.c1, by simpa [go_sem] using h.f0, by simpa [go_sem] using h.f1⟩
theorem FW.below {W0 W w' : World} {acc : List Fd} {o : Value} {b : Nat} {x : Fd} (h : FW W0 acc o b x W) (hb : Below W.heap.size W w') : FW W0 acc o b x w' :=
  ⟨h.of.below hb, h.ne, h.le, Nat.lt_of_lt_of_le h.lt hb.size, keepc hb h.c0, keepc hb h.c1, (hb.frozen (p := ⟨b, 0, none⟩) h.lt).trans h.f0, (hb.frozen (p := ⟨b, 1, none⟩) h.lt).trans h.f1⟩
theorem FW.drewN {W0 W : World} {acc : List Fd} {o : Value} {b : Nat} {x : Fd} (h : FW W0 acc o b x W) (q : Nat) : FW W0 acc o b x (W.drewN q) := h.below ⟨rfl, rfl, rfl, Nat.le_refl _, fun _ _ => rfl⟩
/-- The field in the block is laid behind the list. -/
theorem FW.start {W0 w w2 : World} {acc : List Fd} {o : Value} {T : TypeId} {x : Fd} (h : OF W0 acc o w) (hb2 : Below (w.alloc (.cells #[.string x.n, .int .i64 x.v] T)).heap.size (w.alloc (.cells #[.string x.n, .int .i64 x.v] T)) w2) : FW W0 acc o w.heap.size x w2 :=
  FW.below (W := w.alloc (.cells #[.string x.n, .int .i64 x.v] T)) ⟨h.below ((bl w).alloc (Nat.le_refl _) _), h.ne, h.bel.size, by simp, by simp [go_sem], by simp [go_sem], by simp [go_sem], by simp [go_sem]⟩ hb2
theorem drop_consL {α : Type} {l : List α} {k : Nat} {f : α} (h : l[k]? = some f) : l.drop k = f :: l.drop (k + 1) := by
  have hk : k < l.length := by
    rcases Nat.lt_or_ge k l.length with h' | h'
    · exact h'
    · rw [List.getElem?_eq_none h'] at h; cases h
  rw [List.drop_eq_getElem_cons hk]
  rw [List.getElem?_eq_getElem hk] at h
  rw [Option.some.inj h]
theorem flat_split {L : List (List Fd)} {k : Nat} {row : List Fd} (h : L[k]? = some row) : L.flatten = (L.take k).flatten ++ (row ++ (L.drop (k + 1)).flatten) := by
  have e := List.take_append_drop k L
  rw [drop_consL h] at e
  have := congrArg List.flatten e
  rw [List.flatten_append, List.flatten_cons] at this
  exact this.symm
theorem flat_next {L : List (List Fd)} {k : Nat} {row : List Fd} (h : L[k]? = some row) : (L.take (k + 1)).flatten = (L.take k).flatten ++ row := by
  rw [List.take_add_one, h, Option.toList_some, List.flatten_append, List.flatten_cons, List.flatten_nil, List.append_nil]
theorem flat_pre {L : List (List Fd)} {k : Nat} {row : List Fd} (h : L[k]? = some row) (t : Nat) : ((L.take k).flatten ++ row.take t).length ≤ L.flatten.length := by
  rw [flat_split h, List.length_append, List.length_append, List.length_append, List.length_take]
  omega

/-- Fields that are laid in a new block. -/
theorem fields_new (w : World) (l : List Fd) (T : TypeId) : Fields (w.alloc (.cells (flatF l).toArray T)) (some ⟨w.heap.size, 0, none⟩) l := fun i f hf => by
  obtain ⟨h0, h1⟩ := flatF_get l i f hf
  refine ⟨w.heap.size, 0, rfl, ?_, ?_⟩
  · rw [cell_of_row _ _ _ _ T (0, 0) (heap_alloc_new w _), Nat.zero_add]
    simpa using h0
  · rw [cell_of_row _ _ _ _ T (0, 0) (heap_alloc_new w _), Nat.zero_add]
    simpa using h1
theorem list_new (w : World) (l : List Fd) (T : TypeId) : ListF (w.alloc (.cells (flatF l).toArray T)) (.slice (some ⟨w.heap.size, 0, none⟩) l.length l.length) l := ⟨_, _, rfl, fields_new w l T, Nat.le_refl _, fun h => by cases h⟩
/-- Lists that are laid in a new block. -/
theorem rows_new (w : World) (T : TypeId) (vs : List Value) (L : List (List Fd)) (h : ∀ (i : Nat) (l : List Fd), L[i]? = some l → ∃ v, vs[i]? = some v ∧ ListF w v l) : RowsF (w.alloc (.cells vs.toArray T)) (some ⟨w.heap.size, 0, none⟩) L := fun i l hl => by
  obtain ⟨v, hv, hL⟩ := h i l hl
  refine ⟨w.heap.size, 0, v, rfl, ?_, hL.below ((bl w).alloc (Nat.le_refl _) _)⟩
  rw [cell_of_row _ _ _ _ T (0, 0) (heap_alloc_new w _), Nat.zero_add]
  simpa using hv
theorem rows_two {w : World} {T : TypeId} {u v : Value} {a b : List Fd} (ha : ListF w u a) (hb : ListF w v b) : RowsF (w.alloc (.cells #[u, v] T)) (some ⟨w.heap.size, 0, none⟩) [a, b] :=
  rows_new w T [u, v] [a, b] fun i l hl => by
    match i, hl with
    | 0, hl => obtain rfl : a = l := by simpa using hl
               exact ⟨u, rfl, ha⟩
    | 1, hl => obtain rfl : b = l := by simpa using hl
               exact ⟨v, rfl, hb⟩
theorem rows_three {w : World} {T : TypeId} {u v x : Value} {a b c : List Fd} (ha : ListF w u a) (hb : ListF w v b) (hc : ListF w x c) : RowsF (w.alloc (.cells #[u, v, x] T)) (some ⟨w.heap.size, 0, none⟩) [a, b, c] :=
  rows_new w T [u, v, x] [a, b, c] fun i l hl => by
    match i, hl with
    | 0, hl => obtain rfl : a = l := by simpa using hl
               exact ⟨u, rfl, ha⟩
    | 1, hl => obtain rfl : b = l := by simpa using hl
               exact ⟨v, rfl, hb⟩
    | 2, hl => obtain rfl : c = l := by simpa using hl
               exact ⟨x, rfl, hc⟩

end Go.Proofs.Ytmhddpgeiijhgaa

/-
  An argument that is a list of fields, or a list of lists of fields.
-/
namespace Go.Proofs.Ytmhddpgeiijhgaa
open Go.ChangeShapes Go.WideShapes Go.ChangeAt Go.RowKit Go.Joins Go.ChangeMaps Go.Deep

theorem Try.own : ownKnob Try.prog.godebug = none := by kernel_rfl
theorem Try.laidOut : laidOutB Try.prog = true := by kernel_rfl
theorem Try.cellsField : Try.prog.cellsOf 69 = 2 := by kernel_rfl
theorem Try.cells3i : Try.prog.cellsOf 3 = 1 := by kernel_rfl
theorem Try.cells3s : Try.prog.cellsOf 9 = 1 := by kernel_rfl
theorem Try.cells3l : Try.prog.cellsOf 49 = 1 := by kernel_rfl

instance : Inhabited Fd := ⟨⟨⟨#[]⟩, 0⟩⟩
theorem plain_of_cell {w : World} {a : Addr} {v : Value} (h : w.cell? (a.add 0) = some v) : a = ⟨a.block, a.off, none⟩ := by
  obtain ⟨b, off, spot⟩ := a
  have hs : spot = none := by simpa [Addr.add] using World.cell?_spot h
  subst hs
  rfl
/-- Fields that may be. -/
def wellF (l : List Fd) : Prop := ∀ f ∈ l, (-9223372036854775808 ≤ f.v ∧ f.v ≤ 9223372036854775807) ∧ f.n.size ≤ 9223372036854775807
theorem int_of_wf {n : Int} (h : (Lit.int .i64 n).wf = true) : -9223372036854775808 ≤ n ∧ n ≤ 9223372036854775807 := by
  have h1 : IntKind.i64.min = -9223372036854775808 := rfl
  have h2 : IntKind.i64.max = 9223372036854775807 := rfl
  simp only [Lit.wf, Bool.and_eq_true, decide_eq_true_eq] at h
  omega
section
variable {H : Type} {enc : TypeId × Value → H} {W : World} {r : Reach} {base : Nat}

set_option maxRecDepth 100000 in
theorem fields_of {fuel : Nat} {v : Value} {x : DataW H × List MemPlace} (hf : DataW.trod enc Try.prog W 0 (fun _ => true) true fuel 49 [v] = some x) :
    ∃ l, ListF W v l ∧ wellF l ∧ l.length ≤ 9223372036854775807 := by
  rcases open_slice Try.underlying49 hf with ⟨hcs, _⟩ | ⟨a, len', cap', m, n, D, Pl, hcs, _, hl, hmx, hm, _, hx⟩
  · obtain rfl : v = .slice none 0 0 := by simpa using hcs
    exact ⟨[], ⟨none, 0, rfl, Fields.nil _ _, Nat.le_refl _, fun _ => rfl⟩, fun f hf => by simp at hf, by simp⟩
  · obtain rfl : v = .slice (some a) len' cap' := by simpa using hcs
    simp only [if_true] at hm
    subst hm
    have each : ∀ i, i < len' → ∃ q : Fd, W.cell? (a.add (i * 2)) = some (.string q.n) ∧ W.cell? (a.add (i * 2 + 1)) = some (.int .i64 q.v) ∧ (-9223372036854775808 ≤ q.v ∧ q.v ≤ 9223372036854775807) ∧ q.n.size ≤ 9223372036854775807 := by
      intro i hi
      obtain ⟨cs', h1, h2⟩ := hx i (by omega)
      rw [Try.cellsField] at h1
      obtain ⟨_, hlen, hcell⟩ := World.cells?_some h1
      obtain ⟨xs, k, hk, hxy, _, hxl, hf⟩ := DataW.trod_struct Try.underlying69 h2
      match xs, hxl, cs', hlen with
      | [y0, y1], _, [v0, v1], _ =>
        have g0 := hf 0 _ rfl
        have g1 := hf 1 _ rfl
        simp [Try.cells3i, Try.cells3s] at g0 g1
        obtain ⟨s, e0, _, hz⟩ := DataW.trod_string Try.underlying9 g0
        obtain ⟨x, e1, _, hw⟩ := DataW.trod_int Try.underlying3 g1
        simp at e0 e1
        subst e0 e1
        have f0 := hcell 0 (by omega)
        have f1 := hcell 1 (by omega)
        rw [add_add] at f0 f1
        exact ⟨⟨s, x⟩, by simpa using f0, by simpa using f1, int_of_wf hw, by unfold maxLen at hz; omega⟩
    obtain ⟨q, hq⟩ := choose_lt each
    refine ⟨(List.range len').map q, ⟨some a, m, by simp, fun i x hxx => ?_, by simpa using hl, by simp⟩, fun x hxx => ?_, by simp; unfold maxLen at hmx; omega⟩
    · have hi : i < len' := by
        rcases Nat.lt_or_ge i len' with hlt | hge
        · exact hlt
        · rw [List.getElem?_eq_none (by simpa using hge)] at hxx
          cases hxx
      obtain rfl : q i = x := by
        rw [List.getElem?_map, List.getElem?_range hi] at hxx
        simpa using hxx
      obtain ⟨z0, _⟩ := hq 0 (by omega)
      have ha := plain_of_cell (by simpa using z0)
      obtain ⟨c0, c1, _⟩ := hq i hi
      rw [ha, Go.WideShapes.add_plain] at c0 c1
      exact ⟨a.block, a.off, by rw [← ha], c0, by rw [Nat.add_assoc]; exact c1⟩
    · obtain ⟨i, hi, rfl⟩ := List.mem_map.1 hxx
      exact (hq i (List.mem_range.1 hi)).2.2

set_option maxRecDepth 100000 in
theorem arg_fields {v : Value} {d : DataW H} {p : List MemPlace} (hv : Value.okWide Try.prog W r base 49 v) (h : DataW.Trod enc Try.prog W 0 (fun _ => true) true 49 v d p) :
    ∃ l, ListF W v l ∧ wellF l ∧ l.length ≤ 9223372036854775807 := by
  obtain ⟨A, len, cap, rfl⟩ := okWide_slice Try.underlying49 hv
  obtain ⟨fuel, hf⟩ := h
  exact fields_of (by simpa [Value.cells] using hf)

end

end Go.Proofs.Ytmhddpgeiijhgaa

/-
  What a text begins with, by the program: TakeNum.
-/
namespace Go.Proofs.Ytmhddpgeiijhgaa
open Go.RowKit
set_option maxRecDepth 100000

/-- What TakeNum, and the document's, give back. -/
def TakePost (s : ByteArray) (w : World) (e : Ending) (w' : World) : Prop := e = .returned (.tuple #[.int .i64 (tkN s : Int), .string (tkR s), .int .i64 (tkE s : Int)]) ∧ Below w.heap.size w w'
theorem ret_ise {a b c d : Int} {s t : ByteArray} (h : a = b) (k : s = t) (l : c = d) : Ending.returned (.tuple #[.int .i64 a, .string s, .int .i64 c]) = .returned (.tuple #[.int .i64 b, .string t, .int .i64 d]) := by rw [h, k, l]
theorem index_run {s : ByteArray} {i c : Nat} (h : (nats s)[i]? = some c) (w : World) : (Instr.index 9 (.string s) (.int .i64 (i : Int))).run Try.prog w = .ok (.int .u8 (c : Int)) w := by
  have hi : i < s.size := by
    rw [← nats_length]
    rcases Nat.lt_or_ge i (nats s).length with h' | h'
    · exact h'
    · rw [List.getElem?_eq_none h'] at h; cases h
  rw [nats_get hi] at h
  injection h with h
  rw [run_index_string w 9 s .i64 i Try.underlying9, dif_pos (by omega)]
  simp only [Int.toNat_natCast, h]

theorem and_not_mark {c : Nat} (hc : c < 256) : bits BinOp.andNot IntKind.u8 (c : Int) (mark (ones c) : Int) = ((c - mark (ones c) : Nat) : Int) := by
  have key : ∀ c : Nat, c < 256 → bits BinOp.andNot IntKind.u8 (c : Int) (mark (ones c) : Int) = ((c - mark (ones c) : Nat) : Int) := by decide +kernel
  exact key c hc
theorem bare_lt {c : Nat} (hc : c < 256) : ones c = 8 ∧ c - mark (ones c) = 0 ∨ ones c ≤ 7 ∧ c - mark (ones c) < 128 := by
  have key : ∀ c : Nat, c < 256 → (ones c = 8 ∧ c - mark (ones c) = 0 ∨ ones c ≤ 7 ∧ c - mark (ones c) < 128) := by decide +kernel
  exact key c hc
theorem bare_take (c : Nat) {r : List Nat} {k : Nat} (hk : k ≤ ones c) : (bare c r).take (k + 1) = (c - mark (ones c)) :: r.take k := by
  rw [bare, List.take_succ_cons, List.take_take, Nat.min_eq_left hk]
theorem gather_start (c : Nat) (r : List Nat) : val ((bare c r).take (0 + 1)) = c - mark (ones c) := by
  rw [bare_take c (Nat.zero_le _)]; simp [val]
theorem gather_all {c : Nat} {r : List Nat} (hl : ones c ≤ r.length) : val ((bare c r).take (ones c + 1)) = takeV c r := by
  rw [List.take_of_length_le (by rw [bare_length hl]; omega), bare_val hl]
theorem gather_lt {c : Nat} {r : List Nat} (hc : c < 256) (hl : ones c ≤ r.length) (hr : ∀ b ∈ r, b < 256) : ∀ k, k < ones c → val ((bare c r).take (k + 1)) < 72057594037927936 := by
  intro k hk
  have hb := val_lt (r.take k) (fun b hb => hr b (List.mem_of_mem_take hb))
  have hlen : (r.take k).length = k := by rw [List.length_take]; omega
  rw [bare_take c (Nat.le_of_lt hk), val, hlen]
  rw [hlen] at hb
  rcases bare_lt hc with ⟨h1, h2⟩ | ⟨h1, h2⟩
  · have h3 : 256 ^ k ≤ 256 ^ 7 := Nat.pow_le_pow_right (by decide) (by omega)
    rw [h2]; omega
  · have h3 : 256 ^ k ≤ 256 ^ 6 := Nat.pow_le_pow_right (by decide) (by omega)
    have h4 : (c - mark (ones c)) * 256 ^ k ≤ 127 * 256 ^ 6 := Nat.mul_le_mul (by omega) h3
    omega
theorem gather_next {c : Nat} {r : List Nat} (hl : ones c ≤ r.length) (hr : ∀ b ∈ r, b < 256) : ∀ k, k < ones c → ∃ b, r[k]? = some b ∧ b < 256 ∧ val ((bare c r).take (k + 1 + 1)) = 256 * val ((bare c r).take (k + 1)) + b := by
  intro k hk
  have hkr : k < r.length := by omega
  refine ⟨r[k], List.getElem?_eq_getElem hkr, hr _ (List.getElem_mem hkr), ?_⟩
  rw [bare_take c (Nat.le_of_lt hk), bare_take c hk, List.take_add_one, List.getElem?_eq_getElem hkr, Option.toList_some, ← List.cons_append, val_snoc]

theorem wraps_u64' (n : Int) (h0 : 0 ≤ n) (h1 : n < 2 ^ 64) : IntKind.u64.wrap n = n := by
  rw [IntKind.wrap_u64]
  omega
theorem shl_or {n b : Nat} (hn : n < 72057594037927936) (hb : b < 256) : bits BinOp.or IntKind.u64 ((n : Int) * 256) (b : Int) = ((256 * n + b : Nat) : Int) := by
  rw [bits_join .u64 64 (by decide) wraps_u64' 8 _ _ (by omega) (by omega) (by omega) (by omega) (by omega) (by omega)]
  omega

theorem belowN {n : Nat} {W w : World} (h : Below n W w) (q : Nat) : Below n W (w.drewN q) := h.trans ⟨rfl, rfl, rfl, Nat.le_refl _, fun _ _ => rfl⟩

/-- A number without a sign as one with. -/
def unzig (n : Nat) : Int := if n % 2 = 1 then -((n : Int) / 2) - 1 else (n : Int) / 2
theorem unzig_odd {n : Nat} (h : n % 2 = 1) : unzig n = -((n : Int) / 2) - 1 := by unfold unzig; rw [if_pos h]
theorem unzig_even {n : Nat} (h : ¬ n % 2 = 1) : unzig n = (n : Int) / 2 := by unfold unzig; rw [if_neg h]
def TakeIntPost (s : ByteArray) (w : World) (e : Ending) (w' : World) : Prop := e = .returned (.tuple #[.int .i64 (unzig (tkN s)), .string (tkR s), .int .i64 (tkE s : Int)]) ∧ Below w.heap.size w w'

end Go.Proofs.Ytmhddpgeiijhgaa

/-
  Buckets of time: plain facts.
-/
namespace Go.Proofs.Ytmhddpgeiijhgaa

abbrev widthB (w : Int) : Bool := decide (1 ≤ w) && decide (w ≤ 1099511627776)
abbrev timeB (t : Int) : Bool := decide (-1099511627776 ≤ t) && decide (t < 1099511627776)
theorem widthB_iff (w : Int) : widthB w = true ↔ 1 ≤ w ∧ w ≤ 1099511627776 := by simp [widthB]
theorem timeB_iff (t : Int) : timeB t = true ↔ -1099511627776 ≤ t ∧ t < 1099511627776 := by simp [timeB]
/-- Which bucket has a time, if it is one and the width, too. -/
def floorE (t w : Int) : Nat := if (widthB w && timeB t) = true then 0 else 2
def floorV (t w : Int) : Int := if (widthB w && timeB t) = true then t / w else 0
theorem ediv_bounds {t w : Int} (hw : 1 ≤ w) : t / w * w ≤ t ∧ t < t / w * w + w := by
  have h1 := Int.emod_nonneg t (show w ≠ 0 by omega)
  have h2 := Int.emod_lt_of_pos t (show 0 < w by omega)
  have h3 := Int.mul_ediv_add_emod t w
  have h4 : w * (t / w) = t / w * w := Int.mul_comm _ _
  omega
theorem ediv_unique {t w k : Int} (hw : 1 ≤ w) (h1 : k * w ≤ t) (h2 : t < k * w + w) : t / w = k := by
  obtain ⟨b1, b2⟩ := ediv_bounds (t := t) hw
  rcases Int.lt_trichotomy (t / w) k with h | h | h
  · have := Int.mul_le_mul_of_nonneg_right (show t / w + 1 ≤ k by omega) (show (0 : Int) ≤ w by omega)
    rw [Int.add_mul, Int.one_mul] at this
    omega
  · exact h
  · have := Int.mul_le_mul_of_nonneg_right (show k + 1 ≤ t / w by omega) (show (0 : Int) ≤ w by omega)
    rw [Int.add_mul, Int.one_mul] at this
    omega
/-- The quotient that the machine reckons, and the bucket. -/
theorem tdiv_floor {t w : Int} (hw : 1 ≤ w) : (t < t.tdiv w * w → t / w = t.tdiv w - 1) ∧ (¬ t < t.tdiv w * w → t / w = t.tdiv w) := by
  have h1 := Int.mul_tdiv_add_tmod t w
  have h4 : w * t.tdiv w = t.tdiv w * w := Int.mul_comm _ _
  have h5 : t.tmod w < w := Int.tmod_lt_of_pos t (by omega)
  have h6 : -w < t.tmod w := by
    have := Int.lt_tmod_of_pos t (show 0 < w by omega)
    omega
  constructor
  · intro h
    refine ediv_unique hw ?_ ?_
    · rw [Int.sub_mul, Int.one_mul]; omega
    · rw [Int.sub_mul, Int.one_mul]; omega
  · intro h
    exact ediv_unique hw (by omega) (by omega)
theorem tdiv_small {t w : Int} (_hw : 1 ≤ w) (h1 : -1099511627776 ≤ t) (h2 : t ≤ 1099511627776) : -1099511627776 ≤ t.tdiv w ∧ t.tdiv w ≤ 1099511627776 ∧ -2199023255552 ≤ t.tdiv w * w ∧ t.tdiv w * w ≤ 2199023255552 := by
  have h0 := Int.mul_tdiv_add_tmod t w
  have h4 : w * t.tdiv w = t.tdiv w * w := Int.mul_comm _ _
  have ha : (t.tdiv w).natAbs ≤ t.natAbs := Int.natAbs_tdiv_le_natAbs t w
  have hm : (t.tmod w).natAbs ≤ t.natAbs := by
    rw [Int.natAbs_tmod]; exact Nat.mod_le _ _
  omega

/-- A bucket's times. -/
def spanB (k w : Int) : Bool := widthB w && decide (max (k * w) (-1099511627776) < min (k * w + w) 1099511627776)
def spanV (k w : Int) : Int × Int := if spanB k w = true then (max (k * w) (-1099511627776), min (k * w + w) 1099511627776) else (0, 0)
theorem spanB_far {k w : Int} (hw : 1 ≤ w) (h : k > 1099511627776 / w ∨ k < 0 - 1099511627776 / w - 1) : spanB k w = false := by
  obtain ⟨b1, b2⟩ := ediv_bounds (t := 1099511627776) hw
  unfold spanB
  rw [Bool.and_eq_false_iff]
  right
  rw [decide_eq_false_iff_not]
  rcases h with h | h
  · have := Int.mul_le_mul_of_nonneg_right (show 1099511627776 / w + 1 ≤ k by omega) (show (0 : Int) ≤ w by omega)
    rw [Int.add_mul, Int.one_mul] at this
    omega
  · have := Int.mul_le_mul_of_nonneg_right (show k + 1 ≤ -(1099511627776 / w) - 1 by omega) (show (0 : Int) ≤ w by omega)
    rw [Int.add_mul, Int.one_mul, Int.sub_mul, Int.neg_mul, Int.one_mul] at this
    omega
theorem spanB_wide {k w : Int} (h : widthB w = false) : spanB k w = false := by unfold spanB; rw [h, Bool.false_and]
theorem max_ediv {w : Int} (hw : 1 ≤ w) : 0 ≤ 1099511627776 / w ∧ 1099511627776 / w ≤ 1099511627776 := by
  obtain ⟨b1, b2⟩ := ediv_bounds (t := 1099511627776) hw
  constructor
  · exact Int.ediv_nonneg (by decide) (by omega)
  · exact Int.ediv_le_self _ (by decide)
theorem spanB_out {k w : Int} (hw : 1 ≤ w) (h : k < -1099511627776 ∨ 1099511627776 < k) (hw2 : w ≤ 1099511627776) : spanB k w = false := by
  obtain ⟨b1, b2⟩ := ediv_bounds (t := 1099511627776) hw
  obtain ⟨m1, m2⟩ := max_ediv hw
  rcases h with h | h
  · by_cases h2 : k < 0 - 1099511627776 / w - 1
    · exact spanB_far hw (.inr h2)
    · -- the least bucket of the width 1 alone begins so far below
      have e : 1099511627776 / w = 1099511627776 := by omega
      have hw1 : w = 1 := by
        by_cases h1 : w = 1
        · exact h1
        · have := Int.mul_le_mul_of_nonneg_left (show 2 ≤ w by omega) (show (0 : Int) ≤ 1099511627776 by decide)
          rw [e] at b1
          omega
      subst hw1
      unfold spanB
      rw [Bool.and_eq_false_iff]
      right
      rw [decide_eq_false_iff_not]
      omega
  · exact spanB_far hw (.inl (by omega))
theorem near_small {k w : Int} (hw : 1 ≤ w) (hw2 : w ≤ 1099511627776) (h1 : ¬ k > 1099511627776 / w) (h2 : ¬ k < 0 - 1099511627776 / w - 1) : -2199023255552 ≤ k * w ∧ k * w ≤ 1099511627776 := by
  obtain ⟨b1, b2⟩ := ediv_bounds (t := 1099511627776) hw
  have p1 := Int.mul_le_mul_of_nonneg_right (show k ≤ 1099511627776 / w by omega) (show (0 : Int) ≤ w by omega)
  have p2 := Int.mul_le_mul_of_nonneg_right (show -(1099511627776 / w) - 1 ≤ k by omega) (show (0 : Int) ≤ w by omega)
  rw [Int.sub_mul, Int.neg_mul, Int.one_mul] at p2
  omega
/-- A time lies in its own bucket, and in no other one. -/
theorem bucket_has {t k w : Int} (hw : widthB w = true) (ht : timeB t = true) : (spanB k w = true ∧ (spanV k w).1 ≤ t ∧ t < (spanV k w).2) ↔ k = t / w := by
  rw [widthB_iff] at hw
  rw [timeB_iff] at ht
  obtain ⟨b1, b2⟩ := ediv_bounds (t := t) hw.1
  constructor
  · rintro ⟨h1, h2, h3⟩
    unfold spanV at h2 h3
    rw [if_pos h1] at h2 h3
    exact (ediv_unique hw.1 (by have h2 : max (k * w) (-1099511627776) ≤ t := h2; omega) (by have h3 : t < min (k * w + w) 1099511627776 := h3; omega)).symm
  · rintro rfl
    have h1 : spanB (t / w) w = true := by
      unfold spanB
      rw [Bool.and_eq_true, widthB_iff, decide_eq_true_eq]
      exact ⟨hw, by omega⟩
    refine ⟨h1, ?_, ?_⟩
    · unfold spanV; rw [if_pos h1]; show max _ _ ≤ t; omega
    · unfold spanV; rw [if_pos h1]; show t < min _ _; omega

/-- The buckets that have a time of a span. -/
abbrev rightBk (f t : Int) : Bool := decide (-1099511627776 ≤ f) && decide (t ≤ 1099511627776) && decide (f < t)
def overE (f t w m : Int) : Nat := if rightBk f t = false then 3 else if widthB w = false then 2 else if m < (t - 1) / w - f / w + 1 then 4 else 0
def risingI (x : Int) (n : Nat) : List Int := (List.range n).map (fun i : Nat => x + (i : Int))
theorem risingI_len (x : Int) (n : Nat) : (risingI x n).length = n := by unfold risingI; simp
theorem risingI_next (x : Int) (n : Nat) : risingI x (n + 1) = risingI x n ++ [x + (n : Int)] := by unfold risingI; rw [List.range_succ, List.map_append]; rfl
def overBk (f t w m : Int) : List Int := if overE f t w m = 0 then risingI (f / w) ((t - 1) / w - f / w + 1).toNat else []
theorem ediv_mono {a b w : Int} (hw : 1 ≤ w) (h : a ≤ b) : a / w ≤ b / w := Int.ediv_le_ediv (by omega) h
theorem ediv_small {t w : Int} (hw : 1 ≤ w) (h1 : -1099511627776 ≤ t) (h2 : t ≤ 1099511627776) : -1099511627776 ≤ t / w ∧ t / w ≤ 1099511627776 := by
  obtain ⟨b1, b2⟩ := ediv_bounds (t := t) hw
  constructor
  · by_cases h : -1099511627776 ≤ t / w
    · exact h
    · exfalso
      have p1 := Int.mul_le_mul_of_nonneg_right (show t / w ≤ -1099511627776 - 1 by omega) (show (0 : Int) ≤ w by omega)
      omega
  · have e := ediv_mono (w := w) hw h2
    have := (max_ediv hw).2
    omega

end Go.Proofs.Ytmhddpgeiijhgaa

/-
  Lists of elements of one type in memory, whatever the type: read, owned, appended to.
-/
namespace Go.Proofs.Ytmhddpgeiijhgaa
open Go.RowKit

/-- An element's type: its cells, its zero value. -/
structure El (α : Type) where
  s : TypeId
  e : TypeId
  sz : Nat
  bys : Nat
  z : Value
  cells : α → List Value
  pos : 0 < sz
  few : bys ≤ 1000
  len : ∀ x, (cells x).length = sz
  one : ∀ x, ∀ u ∈ cells x, u.oneCell' = true
  und : Try.prog.underlying s = some (.slice e)
  info : (Try.prog.info? e).map (fun i => (i.zero, i.size, i.bytes)) = some (some z, sz, bys)
  zs : z.cells.size = sz

section
variable {α : Type} (E : El α)
/-- From A on the elements of l lie, one behind the other. -/
def RowE (w : World) (A : Option Addr) (l : List α) : Prop := ∀ i x, l[i]? = some x → ∃ g off, A = some ⟨g, off, none⟩ ∧ ∀ j u, (E.cells x)[j]? = some u → w.cell? ⟨g, off + i * E.sz + j, none⟩ = some u
/-- A list as a value. -/
def ListE (w : World) (v : Value) (l : List α) : Prop := ∃ A c, v = .slice A l.length c ∧ RowE E w A l ∧ l.length ≤ c ∧ (A = none → c = 0)
def flatE (l : List α) : List Value := l.flatMap E.cells
abbrev ownE (w : World) (base : Nat) (v : Value) (l : List α) : Prop := w.ownsRow base E.e E.sz v l.length (flatE E l)
variable {E}
theorem RowE.below {w w' : World} {A : Option Addr} {l : List α} (h : RowE E w A l) (hb : Below w.heap.size w w') : RowE E w' A l := fun i x hx => by
  obtain ⟨g, off, rfl, hc⟩ := h i x hx
  exact ⟨g, off, rfl, fun j u hu => keepc hb (hc j u hu)⟩
theorem RowE.nil (w : World) (A : Option Addr) : RowE E w A [] := fun i x h => by simp at h
theorem RowE.at {w : World} {g off k : Nat} {x : α} {l : List α} (h : RowE E w (some ⟨g, off, none⟩) l) (hx : l[k]? = some x) {j : Nat} {u : Value} (hu : (E.cells x)[j]? = some u) : w.cell? ⟨g, off + k * E.sz + j, none⟩ = some u := by
  obtain ⟨g', off', e, hc⟩ := h k x hx
  injection e with e
  injection e with e1 e2
  subst e1 e2
  exact hc j u hu
theorem RowE.take {w : World} {A : Option Addr} {l : List α} (h : RowE E w A l) (k : Nat) : RowE E w A (l.take k) := fun i x hx => by
  rcases Nat.lt_or_ge i k with hi | hi
  · rw [List.getElem?_take_of_lt hi] at hx
    exact h i x hx
  · rw [List.getElem?_take_eq_none hi] at hx
    cases hx
theorem RowE.drop {w : World} {g off : Nat} {l : List α} (h : RowE E w (some ⟨g, off, none⟩) l) (k : Nat) : RowE E w (some ⟨g, off + k * E.sz, none⟩) (l.drop k) := fun i x hx => by
  rw [List.getElem?_drop] at hx
  refine ⟨g, off + k * E.sz, rfl, fun j u hu => ?_⟩
  have := h.at hx hu
  rwa [Nat.add_mul, ← Nat.add_assoc off] at this
theorem ListE.below {w w' : World} {v : Value} {l : List α} (h : ListE E w v l) (hb : Below w.heap.size w w') : ListE E w' v l := by
  obtain ⟨A, c, e, h1, h2, h3⟩ := h
  exact ⟨A, c, e, h1.below hb, h2, h3⟩
theorem ListE.nil (w : World) : ListE E w (.slice none 0 0) ([] : List α) := ⟨none, 0, rfl, RowE.nil _ _, Nat.le_refl _, fun _ => rfl⟩
theorem ListE.form {w : World} {v : Value} {l : List α} (h : ListE E w v l) : ∃ A c, v = .slice A l.length c ∧ ListE E w (.slice A l.length c) l := by
  obtain ⟨A, c, rfl, h1⟩ := h
  exact ⟨A, c, rfl, A, c, rfl, h1⟩
theorem flatE_cons (x : α) (l : List α) : flatE E (x :: l) = E.cells x ++ flatE E l := by simp [flatE]
theorem flatE_append (l m : List α) : flatE E (l ++ m) = flatE E l ++ flatE E m := by simp [flatE]
theorem flatE_length : ∀ l : List α, (flatE E l).length = l.length * E.sz
  | [] => by simp [flatE]
  | x :: l => by rw [flatE_cons, List.length_append, E.len, flatE_length l, List.length_cons, Nat.add_mul, Nat.one_mul, Nat.add_comm]
theorem flatE_get : ∀ (l : List α) (i : Nat) (x : α), l[i]? = some x → ∀ j u, (E.cells x)[j]? = some u → (flatE E l)[i * E.sz + j]? = some u
  | [], _, _, h, _, _, _ => by simp at h
  | y :: l, 0, x, h, j, u, hu => by
    obtain rfl : y = x := by simpa using h
    have hj : j < (E.cells y).length := by
      rcases Nat.lt_or_ge j (E.cells y).length with h' | h'
      · exact h'
      · rw [List.getElem?_eq_none h'] at hu; cases hu
    rw [Nat.zero_mul, Nat.zero_add, flatE_cons, List.getElem?_append_left hj]
    exact hu
  | y :: l, i + 1, x, h, j, u, hu => by
    have ih := flatE_get l i x (by simpa using h) j u hu
    rw [flatE_cons, List.getElem?_append_right (by rw [E.len, Nat.add_mul]; omega), E.len, show (i + 1) * E.sz + j - E.sz = i * E.sz + j by rw [Nat.add_mul]; omega]
    exact ih
theorem flatE_one (l : List α) : ∀ u ∈ flatE E l, u.oneCell' = true := fun u hu => by
  obtain ⟨x, _, hx⟩ := List.mem_flatMap.1 hu
  exact E.one x u hx
theorem flatE_cell {w : World} {g off : Nat} {l : List α} (h : RowE E w (some ⟨g, off, none⟩) l) {j : Nat} {u : Value} (hu : (flatE E l)[j]? = some u) : w.cell? ((⟨g, off, none⟩ : Addr).add j) = some u := by
  have hj : j < l.length * E.sz := by
    rcases Nat.lt_or_ge j (flatE E l).length with h1 | h1
    · rw [flatE_length] at h1; exact h1
    · rw [List.getElem?_eq_none h1] at hu; cases hu
  have hq : j / E.sz < l.length := (Nat.div_lt_iff_lt_mul E.pos).2 hj
  obtain ⟨x, hx⟩ : ∃ x, l[j / E.sz]? = some x := ⟨_, List.getElem?_eq_getElem hq⟩
  have hr : j % E.sz < (E.cells x).length := by rw [E.len]; exact Nat.mod_lt _ E.pos
  obtain ⟨u', hu'⟩ : ∃ u', (E.cells x)[j % E.sz]? = some u' := ⟨_, List.getElem?_eq_getElem hr⟩
  have e1 := flatE_get l _ x hx _ u' hu'
  have ej : j / E.sz * E.sz + j % E.sz = j := by rw [Nat.mul_comm]; exact Nat.div_add_mod j E.sz
  rw [ej] at e1
  rw [hu] at e1
  injection e1 with e1
  have c := h.at hx hu'
  rw [Nat.add_assoc, ej] at c
  rw [Go.WideShapes.add_plain, e1]
  exact c
theorem ownE_list {w : World} {base : Nat} {v : Value} {l : List α} (h : ownE E w base v l) : ListE E w v l := by
  rcases h.2 with ⟨hv, h0⟩ | ⟨g, cap, cur, hv, _, _, hn, _⟩
  · obtain rfl : l = [] := List.eq_nil_of_length_eq_zero h0
    exact ⟨none, 0, hv, RowE.nil _ _, Nat.zero_le _, fun _ => rfl⟩
  · refine ⟨_, _, hv, fun i x hx => ⟨g, 0, rfl, fun j u hu => ?_⟩, hn, (fun h => by cases h)⟩
    have c0 := h.cells (g := g) (by rw [hv]; rfl) _ _ (flatE_get l i x hx j u hu)
    rw [Go.WideShapes.add_plain] at c0
    rw [Nat.add_assoc]
    exact c0
theorem ownE_below {w w' : World} {base : Nat} {v : Value} {l : List α} (h : ownE E w base v l) (hb : Below w.heap.size w w') : ownE E w' base v l :=
  h.kept (row := none) ⟨hb.os, hb.tape, hb.output, hb.size, fun k hk _ => hb.block k hk⟩ (by cases v.ownBlock <;> simp)
theorem ownE_lower {w : World} {b b' : Nat} {v : Value} {l : List α} (hb : b ≤ b') (h : ownE E w b' v l) : ownE E w b v l := by
  refine ⟨h.1, ?_⟩
  rcases h.2 with h2 | ⟨g, cap, cur, hv, hg, r⟩
  · exact .inl h2
  · exact .inr ⟨g, cap, cur, hv, by omega, r⟩
theorem ownE_nil (w : World) (base : Nat) : ownE E w base (.slice none 0 0) ([] : List α) := World.ownsRow_nil _ _ _ _
theorem ownE_empty {w : World} {b base : Nat} (h : w.heap[b]? = some (.cells #[] E.e (0, 0))) (hb : base ≤ b) : ownE E w base (.slice (some ⟨b, 0, none⟩) 0 0) ([] : List α) :=
  ⟨by simp [flatE], .inr ⟨b, 0, #[], rfl, hb, h, by simp, by simp [maxLen], by simp, by simp [flatE]⟩⟩

theorem run_appE (w : World) {base : Nat} {v : Value} {ts : List α} (hown : ownE E w base v ts) (B : Option Addr) (c : Nat) (xs : List α) (hx : RowE E w B xs) (hc : B = none → c = 0)
    (hl : ts.length + xs.length ≤ 1000000) (hbase : base ≤ w.heap.size) (ty : TypeId) :
    ∃ v' w', (Builtin.append_ #[E.s, E.s] ty #[v, .slice B xs.length c]).run Try.prog w = .ok v' w' ∧ ownE E w' base v' (ts ++ xs) ∧ w.grownBy w' v.ownBlock ∧ (v'.ownBlock = v.ownBlock ∨ v'.ownBlock = some w.heap.size) := by
  obtain ⟨i0, hi, hz0, hz1, hz2⟩ := info_parts E.info
  rcases B with _ | ad
  · obtain rfl : xs = [] := by
      rcases xs with _ | ⟨x, xs⟩
      · rfl
      · obtain ⟨_, _, h, _⟩ := hx 0 x (by simp)
        cases h
    obtain rfl := hc rfl
    exact ⟨v, w, run_append_owned_none (P := Try.prog) w base E.s ty E.e i0 E.sz E.und hi v _ _ hown, by simpa [ownE] using hown, World.grownBy.refl _ _, .inl rfl⟩
  · have hcell : ∀ j u, (flatE E xs)[j]? = some u → w.cell? (ad.add j) = some u := fun j u hu => by
      rcases xs with _ | ⟨p, xs⟩
      · simp [flatE] at hu
      · obtain ⟨g, off, he, _⟩ := hx 0 p (by simp)
        obtain rfl : ad = ⟨g, off, none⟩ := Option.some.inj he
        exact flatE_cell hx hu
    have hby : (ts.length + xs.length) * E.bys ≤ 1000000 * 1000 := Nat.mul_le_mul hl E.few
    obtain ⟨v', w', hrun, h2, h3, _, h5⟩ := run_append_own_at (P := Try.prog) w base E.s ty E.e i0 E.z E.sz E.bys E.und hi hz0 hz1 hz2 E.zs E.pos v _ _ hown ad xs.length c (flatE E xs) (flatE_length xs) hcell
      (flatE_one xs) (by unfold maxLen; omega) (by omega) hbase
    exact ⟨v', w', hrun, by unfold ownE; rw [flatE_append, List.length_append]; exact h2, h3, h5⟩

theorem step_appE {ops : Array Oper} {o : Oper} {a : Act} {w : World} {K : Act → World → Prop} {Q : Exit → Act → World → Prop} {F : Prop} (hgd : o.guard = none) (s x : Operand) {t : TypeId} (ht : t = E.s)
    (ho : o.op = .call { callee := .builtin .append, args := #[s, x], argTypes := #[t, t] })
    {base : Nat} {v : Value} {ts : List α} (hs : a.eval s = v) (hown : ownE E w base v ts) {B : Option Addr} {c m : Nat} {xs : List α} (hv : a.eval x = .slice B m c) (hm : m = xs.length) (hx : RowE E w B xs) (hc : B = none → c = 0)
    (hl : ts.length + xs.length ≤ 1000000) (hbase : base ≤ w.heap.size)
    (h : ∀ v' w', ownE E w' base v' (ts ++ xs) → w.grownBy w' v.ownBlock → (v'.ownBlock = v.ownBlock ∨ v'.ownBlock = some w.heap.size) → K (a.put o.dst v') w') :
    if Region.wanted o (yielded ops a.tmps) = true then Oper.wp Try.prog o a w K Q else F := by
  subst hm ht
  have hw : Region.wanted o (yielded ops a.tmps) = true := by simp [Region.wanted, hgd]
  rw [if_pos hw]
  obtain ⟨v', w', hrun, h2, h3, h4⟩ := run_appE w hown B c xs hx hc hl hbase o.type
  unfold Oper.wp execOp
  simp only [ho, resolve, invoke, builtin, Sem.run_bind, Sem.run_pure, Result.andThen_ok, List.map_toArray, List.map_cons, List.map_nil, hs, hv, hrun]
  exact h v' w' h2 h3 h4
theorem wpList_appE {ops : Array Oper} {rest : List Oper} {o : Oper} {a : Act} {w : World} {Q : Exit → Act → World → Prop} (hgd : o.guard = none) (s x : Operand) {t : TypeId} (ht : t = E.s)
    (ho : o.op = .call { callee := .builtin .append, args := #[s, x], argTypes := #[t, t] })
    {base : Nat} {v : Value} {ts : List α} (hs : a.eval s = v) (hown : ownE E w base v ts) {B : Option Addr} {c m : Nat} {xs : List α} (hv : a.eval x = .slice B m c) (hm : m = xs.length) (hx : RowE E w B xs) (hc : B = none → c = 0)
    (hl : ts.length + xs.length ≤ 1000000) (hbase : base ≤ w.heap.size)
    (h : ∀ v' w', ownE E w' base v' (ts ++ xs) → w.grownBy w' v.ownBlock → wpList Try.prog ops Q rest (a.put o.dst v') w') : wpList Try.prog ops Q (o :: rest) a w := by
  subst hm ht
  obtain ⟨v', w', hrun, h2, h3, h4⟩ := run_appE w hown B c xs hx hc hl hbase o.type
  refine wpList_plain hgd fun _ hK => ?_
  unfold Oper.wp execOp
  simp only [ho, resolve, invoke, builtin, Sem.run_bind, Sem.run_pure, Result.andThen_ok, List.map_toArray, List.map_cons, List.map_nil, hs, hv, hrun]
  exact hK _ _ (h v' w' h2 h3)

theorem below_grownE {a w w1 : World} {row : Option Nat} (h : Below a.heap.size a w) (hg : w.grownBy w1 row) (hr : ∀ r, row = some r → a.heap.size ≤ r) : Below a.heap.size a w1 := h.grown hg h.size hr
variable (E)
/-- A list of the call's own, whose blocks lie from that world on. -/
structure OE (W : World) (l : List α) (v : Value) (w : World) : Prop where
  own : ownE E w W.heap.size v l
  bel : Below W.heap.size W w
variable {E}
theorem OE.nil (W : World) : OE E W ([] : List α) (.slice none 0 0) W := ⟨ownE_nil _ _, bl W⟩
theorem OE.below {W w w' : World} {l : List α} {v : Value} (h : OE E W l v w) (hb : Below w.heap.size w w') : OE E W l v w' := ⟨ownE_below h.own hb, chain h.bel hb⟩
theorem OE.grown {W w w' : World} {l m : List α} {v v' : Value} (h : OE E W l v w) (hg : w.grownBy w' v.ownBlock) (hown : ownE E w' W.heap.size v' m) : OE E W m v' w' :=
  ⟨hown, below_grownE h.bel hg (fun r hr => (h.own.lt r hr).1)⟩
theorem OE.list {W w : World} {l : List α} {v : Value} (h : OE E W l v w) : ListE E w v l := ownE_list h.own
theorem OE.set {W w : World} {l : List α} {v : Value} (h : OE E W l v w) {b o : Nat} (u : Value) (hne : v.ownBlock ≠ some b) (hb : W.heap.size ≤ b) : OE E W l v (w.setCell ⟨b, o, none⟩ u) :=
  ⟨h.own.kept (row := some b) ⟨rfl, rfl, rfl, by simp [World.setCell], fun k _ hk => Below.heap_setCell _ _ _ _ (fun e => hk (by simp [e]))⟩ (Or.inr hne), h.bel.setCell (p := ⟨b, o, none⟩) hb u⟩
theorem OE.ne {W w : World} {l : List α} {v : Value} (h : OE E W l v w) : v.ownBlock ≠ some w.heap.size := fun e => by
  have := (h.own.lt _ e).2
  omega
/-- Elements that are laid in a new block. -/
theorem rowE_new (w : World) (l : List α) (T : TypeId) : RowE E (w.alloc (.cells (flatE E l).toArray T)) (some ⟨w.heap.size, 0, none⟩) l := fun i x hx => ⟨w.heap.size, 0, rfl, fun j u hu => by
  rw [cell_of_row _ _ _ _ T (0, 0) (heap_alloc_new w _), Nat.zero_add]
  have := flatE_get l i x hx j u hu
  simpa using this⟩
theorem listE_new (w : World) (l : List α) (T : TypeId) : ListE E (w.alloc (.cells (flatE E l).toArray T)) (.slice (some ⟨w.heap.size, 0, none⟩) l.length l.length) l := ⟨_, _, rfl, rowE_new w l T, Nat.le_refl _, fun h => by cases h⟩
theorem rowE_one (w : World) (x : α) (cs : Array Value) (hcs : cs.toList = E.cells x) (T : TypeId) : RowE E (w.alloc (.cells cs T)) (some ⟨w.heap.size, 0, none⟩) [x] := by
  have h := rowE_new (E := E) w [x] T
  rwa [show (flatE E [x]).toArray = cs from by rw [show flatE E [x] = E.cells x by simp [flatE], ← hcs]] at h
end

end Go.Proofs.Ytmhddpgeiijhgaa

/-
  The document's Get and Same.
-/
namespace Go.Proofs.Ytmhddpgeiijhgaa
open Go.RowKit

theorem bytes_is {s t : ByteArray} : s.toList = t.toList ↔ nats s = nats t := by
  constructor
  · intro h
    rw [ByteArray.toList_eq, ByteArray.toList_eq] at h
    unfold nats; rw [h]
  · intro h; rw [nats_inj h]
theorem ret_ib {a b : Int} {c d : Bool} (h : a = b) (k : c = d) : Ending.returned (.tuple #[.int .i64 a, .bool c]) = .returned (.tuple #[.int .i64 b, .bool d]) := by rw [h, k]

/-- Are two lists the same, field by field? -/
def sameF : List Fd → List Fd → Bool
  | [], [] => true
  | f :: a, g :: b => decide (f.n.toList = g.n.toList ∧ f.v = g.v) && sameF a b
  | _, _ => false
theorem sameF_self : ∀ l : List Fd, sameF l l = true
  | [] => rfl
  | f :: l => by rw [sameF, sameF_self l]; simp
theorem sameF_eq : ∀ a b : List Fd, sameF a b = true → a = b
  | [], [], _ => rfl
  | [], _ :: _, h => by simp [sameF] at h
  | _ :: _, [], h => by simp [sameF] at h
  | f :: a, g :: b, h => by
    rw [sameF, Bool.and_eq_true, decide_eq_true_eq] at h
    obtain ⟨fn, fv⟩ := f
    obtain ⟨gn, gv⟩ := g
    obtain ⟨⟨h1, h2⟩, h3⟩ := h
    obtain rfl : fn = gn := nats_inj (bytes_is.1 h1)
    obtain rfl : fv = gv := h2
    rw [sameF_eq a b h3]
theorem sameF_len : ∀ a b : List Fd, a.length ≠ b.length → sameF a b = false
  | [], [], h => absurd rfl h
  | [], _ :: _, _ => rfl
  | _ :: _, [], _ => rfl
  | f :: a, g :: b, h => by rw [sameF, sameF_len a b (fun e => h (by rw [List.length_cons, List.length_cons, e])), Bool.and_false]
theorem Try.noGuardField : Try.prog.eqGuardType Try.prog.depth 69 = false := by kernel_rfl
set_option maxRecDepth 100000 in
theorem run_neq_field (f g : Fd) (w : World) : (binOp .neq 69 (fv f) (fv g)).run Try.prog w = .ok (.bool (!decide (f.n.toList = g.n.toList ∧ f.v = g.v))) w := by
  rw [run_neq_struct, run_equalIn_struct w 9999 69 _ _ Try.underlying69 (by kernel_rfl)]
  have h3 := Try.underlying3
  have h9 := Try.underlying9
  have a3 : ∀ w, (isAgg 3).run Try.prog w = .ok false w := Try.isAgg3
  have a9 : ∀ w, (isAgg 9).run Try.prog w = .ok false w := Try.isAgg9
  have c9 : Try.prog.cellsOf 9 = 1 := by kernel_rfl
  simp [Op.eqFields, Program.fieldsOf, Try.underlying69, part, a3, a9, run_equalIn_int w 9998 _ .i64 .i64 _ _ h3, run_equalIn_string w 9998 _ _ _ h9]
  by_cases h1 : f.n.toList = g.n.toList
  · by_cases h2 : f.v = g.v <;> simp [h1, h2]
  · simp [h1]

end Go.Proofs.Ytmhddpgeiijhgaa

/-
  Plain facts on versions: their order by stamps, what they make of the fields.
-/
namespace Go.Proofs.Ytmhddpgeiijhgaa

/-- A version; where its fields lie (fa, fc) is no part of what it says. -/
structure Vr where
  id : Int
  st : Int
  ent : ByteArray
  sf : Int
  se : Int
  fa : Option Addr
  fc : Nat
  fs : List Fd
  gone : Bool
/-- A version behind those whose stamps are not greater. -/
def insV : List Vr → Vr → List Vr
  | [], x => [x]
  | y :: l, x => if y.st ≤ x.st then y :: insV l x else x :: y :: l
def ordL (l : List Vr) : List Vr := l.foldl insV []
def SortedV (l : List Vr) : Prop := l.Pairwise fun a b => a.st ≤ b.st
theorem insV_perm : ∀ (l : List Vr) (x : Vr), (insV l x).Perm (x :: l)
  | [], x => .refl _
  | y :: l, x => by
    rw [insV]
    split
    · exact ((insV_perm l x).cons y).trans (List.Perm.swap x y l)
    · exact .refl _
theorem insV_sorted : ∀ (l : List Vr) (x : Vr), SortedV l → SortedV (insV l x)
  | [], x, _ => by simp [insV, SortedV]
  | y :: l, x, h => by
    have h' := List.pairwise_cons.1 h
    rw [insV]
    split
    · refine List.pairwise_cons.2 ⟨fun z hz => ?_, insV_sorted l x h'.2⟩
      rcases List.mem_cons.1 ((insV_perm l x).mem_iff.1 hz) with rfl | hz
      · assumption
      · exact h'.1 z hz
    · refine List.pairwise_cons.2 ⟨fun z hz => ?_, h⟩
      rcases List.mem_cons.1 hz with rfl | hz
      · omega
      · have := h'.1 z hz; omega
theorem foldl_perm : ∀ (l a : List Vr), (l.foldl insV a).Perm (a ++ l)
  | [], a => by rw [List.append_nil]; exact .refl _
  | x :: l, a => by
    refine (foldl_perm l (insV a x)).trans ?_
    refine ((insV_perm a x).append_right l).trans ?_
    rw [List.cons_append]
    exact (List.perm_middle (a := x) (l₁ := a) (l₂ := l)).symm
theorem foldl_sorted : ∀ (l a : List Vr), SortedV a → SortedV (l.foldl insV a)
  | [], _, h => h
  | x :: l, a, h => foldl_sorted l _ (insV_sorted a x h)
theorem ordL_perm (l : List Vr) : (ordL l).Perm l := foldl_perm l []
theorem ordL_sorted (l : List Vr) : SortedV (ordL l) := foldl_sorted l [] List.Pairwise.nil
theorem ordL_length (l : List Vr) : (ordL l).length = l.length := (ordL_perm l).length_eq
theorem ordL_snoc (l : List Vr) (x : Vr) : ordL (l ++ [x]) = insV (ordL l) x := by unfold ordL; rw [List.foldl_append]; rfl
/-- The place of a version among those that are in order. -/
theorem insV_at : ∀ (l : List Vr) (x : Vr) (k : Nat), k ≤ l.length → (∀ j y, j < k → l[j]? = some y → y.st ≤ x.st) → (∀ y, l[k]? = some y → x.st < y.st) → insV l x = l.take k ++ x :: l.drop k
  | [], x, k, hk, _, _ => by
    obtain rfl : k = 0 := by simpa using hk
    rfl
  | y :: l, x, 0, _, _, h => by
    have := h y rfl
    rw [insV, if_neg (by omega)]; rfl
  | y :: l, x, k + 1, hk, h1, h2 => by
    have := h1 0 y (by omega) rfl
    rw [insV, if_pos this, insV_at l x k (by simpa using hk) (fun j z hj hz => h1 (j + 1) z (by omega) (by simpa using hz)) (fun z hz => h2 z (by simpa using hz))]
    rfl
theorem sorted_le {l : List Vr} (h : SortedV l) {i j : Nat} {a b : Vr} (ha : l[i]? = some a) (hb : l[j]? = some b) (hij : i ≤ j) : a.st ≤ b.st := by
  rcases Nat.lt_or_ge i j with hlt | hge
  · have hi : i < l.length := (List.getElem?_eq_some_iff.1 ha).1
    have hj : j < l.length := (List.getElem?_eq_some_iff.1 hb).1
    have := List.pairwise_iff_getElem.1 h i j hi hj hlt
    rw [List.getElem?_eq_getElem hi] at ha
    rw [List.getElem?_eq_getElem hj] at hb
    rw [← Option.some.inj ha, ← Option.some.inj hb]
    exact this
  · obtain rfl : i = j := by omega
    rw [ha] at hb
    rw [Option.some.inj hb]
    exact Int.le_refl _
/-- Seen from the end: all from place k on are greater, the one ahead of it is not. -/
theorem insV_from {l : List Vr} (hs : SortedV l) (x : Vr) (k : Nat) (hk : k ≤ l.length) (h1 : ∀ j y, k ≤ j → l[j]? = some y → x.st < y.st) (h2 : k = 0 ∨ ∃ j y, k = j + 1 ∧ l[j]? = some y ∧ y.st ≤ x.st) : insV l x = l.take k ++ x :: l.drop k := by
  refine insV_at l x k hk (fun j y hj hy => ?_) (fun y hy => h1 k y (Nat.le_refl _) hy)
  rcases h2 with rfl | ⟨j', z, rfl, hz, hle⟩
  · omega
  · have := sorted_le hs hy hz (by omega)
    omega

/-- What versions make of the fields. -/
def countsV (l : List Vr) : List (List Fd) := ((ordL l).filter fun v => !v.gone).map Vr.fs
def ofL (l : List Vr) : List Fd := overL (countsV l).flatten
def coversB (v : Vr) (t : Int) : Bool := !v.gone && (decide (-1099511627776 ≤ v.sf) && decide (v.se ≤ 1099511627776) && decide (v.sf < v.se)) && (decide (v.sf ≤ t) && decide (t < v.se))
def atL (t : Int) (l : List Vr) : List Fd := ofL (l.filter fun v => coversB v t)
/-- The stamp of the last one that has a field of that name. -/
def setsB (v : Vr) (s : ByteArray) : Bool := (getL v.fs s).isSome && !v.gone
def lastS : List Vr → ByteArray → Option Int
  | [], _ => none
  | v :: l, s => match lastS l s with
    | some n => some n
    | none => if setsB v s then some v.st else none
def setL (s : ByteArray) (l : List Vr) : Option Int := lastS (ordL l) s
theorem lastS_snoc : ∀ (l : List Vr) (v : Vr) (s : ByteArray), lastS (l ++ [v]) s = if setsB v s then some v.st else lastS l s
  | [], v, s => by simp [lastS]
  | x :: l, v, s => by
    rw [List.cons_append, lastS, lastS_snoc l v s, lastS]
    by_cases h : setsB v s = true
    · rw [if_pos h, if_pos h]
    · rw [if_neg h, if_neg h]
/-- The names of which two lists do not say the same. -/
def differB (a b : List Fd) (s : ByteArray) : Bool := decide ((getL a s).getD 0 ≠ (getL b s).getD 0) || ((getL a s).isSome != (getL b s).isSome)
def chgL (a b : List Fd) : List ByteArray := ((overL (a ++ b)).map Fd.n).filter fun s => differB a b s
/-- Do two versions say the same? -/
def sameV (a b : Vr) : Bool := decide (a.id = b.id) && decide (a.st = b.st) && decide (a.ent.toList = b.ent.toList) && (decide (a.sf = b.sf) && decide (a.se = b.se)) && (a.gone == b.gone) && sameF a.fs b.fs
def sameVs : List Vr → List Vr → Bool
  | [], [] => true
  | a :: l, b :: m => sameV a b && sameVs l m
  | _, _ => false
theorem sameV_self (a : Vr) : sameV a a = true := by simp [sameV, sameF_self]
theorem sameVs_self : ∀ l : List Vr, sameVs l l = true
  | [] => rfl
  | a :: l => by rw [sameVs, sameV_self, sameVs_self l]; rfl
theorem sameVs_len : ∀ a b : List Vr, a.length ≠ b.length → sameVs a b = false
  | [], [], h => absurd rfl h
  | [], _ :: _, _ => rfl
  | _ :: _, [], _ => rfl
  | f :: a, g :: b, h => by rw [sameVs, sameVs_len a b (fun e => h (by rw [List.length_cons, List.length_cons, e])), Bool.and_false]

end Go.Proofs.Ytmhddpgeiijhgaa

/-
  Versions in memory: lists of versions, of lists of fields, of texts.
-/
namespace Go.Proofs.Ytmhddpgeiijhgaa
open Go.RowKit

abbrev cellsV (v : Vr) : List Value := [.int .i64 v.id, .int .i64 v.st, .string v.ent, .int .i64 v.sf, .int .i64 v.se, .slice v.fa v.fs.length v.fc, .bool v.gone]
/-- A version as a value. -/
abbrev vv (v : Vr) : Value := .agg #[.int .i64 v.id, .int .i64 v.st, .string v.ent, .int .i64 v.sf, .int .i64 v.se, .slice v.fa v.fs.length v.fc, .bool v.gone]
def EV : El Vr where
  s := 43
  e := 51
  sz := 7
  bys := 80
  z := .agg #[.int .i64 0, .int .i64 0, .string ⟨#[]⟩, .int .i64 0, .int .i64 0, .slice none 0 0, .bool false]
  cells := cellsV
  pos := by decide
  few := by decide
  len := fun _ => rfl
  one := fun x u hu => by
    simp only [cellsV, List.mem_cons, List.not_mem_nil, or_false] at hu
    rcases hu with rfl | rfl | rfl | rfl | rfl | rfl | rfl <;> rfl
  und := Try.underlying43
  info := by kernel_rfl
  zs := rfl
/-- A list of fields as its value's parts. -/
structure Sl where
  a : Option Addr
  n : Nat
  c : Nat
/-- A version in a block of its own. -/
abbrev ocV (v : Vr) : Obj := .cells #[.int .i64 v.id, .int .i64 v.st, .string v.ent, .int .i64 v.sf, .int .i64 v.se, .slice v.fa v.fs.length v.fc, .bool v.gone] 51
/-- The fields of a version lie where it says. -/
def VF (w : World) (v : Vr) : Prop := Fields w v.fa v.fs ∧ v.fs.length ≤ v.fc ∧ (v.fa = none → v.fc = 0)
theorem VF.below {w w' : World} {v : Vr} (h : VF w v) (hb : Below w.heap.size w w') : VF w' v := ⟨h.1.below hb, h.2⟩
theorem VF.list {w : World} {v : Vr} (h : VF w v) : ListF w (.slice v.fa v.fs.length v.fc) v.fs := ⟨v.fa, v.fc, rfl, h.1, h.2.1, h.2.2⟩
/-- A list of versions as a value. -/
def VersL (w : World) (u : Value) (l : List Vr) : Prop := ListE EV w u l ∧ ∀ v ∈ l, VF w v
theorem VersL.below {w w' : World} {u : Value} {l : List Vr} (h : VersL w u l) (hb : Below w.heap.size w w') : VersL w' u l := ⟨h.1.below hb, fun v hv => (h.2 v hv).below hb⟩
/-- The cells of a version. -/
abbrev Cells7 (w : World) (g o : Nat) (v : Vr) : Prop := w.cell? ⟨g, o, none⟩ = some (.int .i64 v.id) ∧ w.cell? ⟨g, o + 1, none⟩ = some (.int .i64 v.st) ∧ w.cell? ⟨g, o + 2, none⟩ = some (.string v.ent) ∧ w.cell? ⟨g, o + 3, none⟩ = some (.int .i64 v.sf) ∧
  w.cell? ⟨g, o + 4, none⟩ = some (.int .i64 v.se) ∧ w.cell? ⟨g, o + 5, none⟩ = some (.slice v.fa v.fs.length v.fc) ∧ w.cell? ⟨g, o + 6, none⟩ = some (.bool v.gone)
theorem RowE.cells7 {w : World} {A : Option Addr} {l : List Vr} (h : RowE EV w A l) {k : Nat} {v : Vr} (hv : l[k]? = some v) : ∃ g off, A = some ⟨g, off, none⟩ ∧ Cells7 w g (off + k * 7) v := by
  obtain ⟨g, off, rfl, hc⟩ := h k v hv
  exact ⟨g, off, rfl, hc 0 _ rfl, hc 1 _ rfl, hc 2 _ rfl, hc 3 _ rfl, hc 4 _ rfl, hc 5 _ rfl, hc 6 _ rfl⟩
theorem Cells7.below {w w' : World} {g o : Nat} {v : Vr} (h : Cells7 w g o v) (hb : Below w.heap.size w w') : Cells7 w' g o v :=
  ⟨keepc hb h.1, keepc hb h.2.1, keepc hb h.2.2.1, keepc hb h.2.2.2.1, keepc hb h.2.2.2.2.1, keepc hb h.2.2.2.2.2.1, keepc hb h.2.2.2.2.2.2⟩

theorem add_zero_addr (a : Addr) : a.add 0 = a := by
  obtain ⟨b, o, s⟩ := a
  cases s <;> simp [Addr.add]

section
variable {α : Type} {E : El α}
/-- A list is cut at a place: ahead of it, and from it on. -/
theorem slice_ahead {A : Option Addr} {n c k : Nat} (hk : k ≤ n) (hn : n ≤ c) (w : World) : (Instr.slice E.s (.slice A n c) none (some (.int .i64 (k : Int))) none).run Try.prog w = .ok (.slice A k c) w := by
  obtain ⟨i0, hi, hz0, hz1, hz2⟩ := info_parts E.info
  have hel : Try.prog.elem E.s = E.e := by simp [Program.elem, E.und]
  have hu : Try.prog.underlying E.s = some (.slice (Try.prog.elem E.s)) := by rw [hel]; exact E.und
  rw [run_slice_h w E.s A n c hu .i64 (k : Int) (by omega) (by omega)]
  simp [sizeOf, typeInfo, hel, hi, sliced, Result.andThen]
  cases A with
  | none => simp
  | some a => simp [add_zero_addr]
theorem slice_from {A : Option Addr} {n c k : Nat} (hk : k ≤ n) (hn : n ≤ c) (hc : A = none → c = 0) : ∃ B, (∀ w, (Instr.slice E.s (.slice A n c) (some (.int .i64 (k : Int))) none none).run Try.prog w = .ok (.slice B (n - k) (c - k)) w) ∧
    (∀ w (l : List α), RowE E w A l → l.length = n → RowE E w B (l.drop k)) ∧ (B = none → c - k = 0) := by
  obtain ⟨i0, hi, hz0, hz1, hz2⟩ := info_parts E.info
  have hel : Try.prog.elem E.s = E.e := by simp [Program.elem, E.und]
  have hu : Try.prog.underlying E.s = some (.slice (Try.prog.elem E.s)) := by rw [hel]; exact E.und
  have run : ∀ w, (Instr.slice E.s (.slice A n c) (some (.int .i64 (k : Int))) none none).run Try.prog w = .ok (sliced A k n c E.sz) w := fun w => by
    rw [run_slice_l w E.s A n c hu .i64 (k : Int) (by omega) (by omega)]
    simp [sizeOf, typeInfo, hel, hi, hz1, Result.andThen]
  cases A with
  | none => 
    have := hc rfl
    obtain rfl : c = 0 := this
    obtain rfl : n = 0 := by omega
    obtain rfl : k = 0 := by omega
    exact ⟨none, fun w => by rw [run w]; simp [sliced], fun w l h hl => by rw [List.drop_zero]; exact h, fun _ => rfl⟩
  | some a =>
    by_cases hck : c = k
    · obtain rfl : n = k := by omega
      subst hck
      exact ⟨some a, fun w => by rw [run w]; simp [sliced], fun w l h hl => by rw [List.drop_of_length_le (by omega)]; exact RowE.nil _ _, fun h => by cases h⟩
    · refine ⟨some (a.add (k * E.sz)), fun w => by rw [run w]; simp [sliced, hck], fun w l h hl => ?_, fun h => by cases h⟩
      rcases l with _ | ⟨x, l⟩
      · rw [List.drop_nil]; exact RowE.nil _ _
      · obtain ⟨g, off, he, _⟩ := h 0 x (by simp)
        obtain rfl : a = ⟨g, off, none⟩ := Option.some.inj he
        rw [Go.WideShapes.add_plain]
        exact h.drop k
end

end Go.Proofs.Ytmhddpgeiijhgaa

/-
  Totals: plain facts; the document's list of them.
-/
namespace Go.Proofs.Ytmhddpgeiijhgaa
open Go.RowKit

/-- What there is of a name in a bucket. -/
structure Tt where
  n : ByteArray
  k : Int
  c : Int
  s : Int
def sameN (a b : ByteArray) : Bool := a.toList == b.toList
/-- Does a total stand ahead of a name and a bucket? -/
def ltT (t : Tt) (n : ByteArray) (k : Int) : Bool := aheadB t.n n || (sameN t.n n && decide (t.k < k))
def isAt (t : Tt) (n : ByteArray) (k : Int) : Bool := sameN t.n n && (t.k == k)
def posT : List Tt → ByteArray → Int → Nat
  | [], _, _ => 0
  | t :: l, n, k => if ltT t n k = true then posT l n k + 1 else 0
def isT (l : List Tt) (n : ByteArray) (k : Int) : Bool := match l[posT l n k]? with
  | some t => isAt t n k
  | none => false
def getT (l : List Tt) (n : ByteArray) (k : Int) : Int × Int := if isT l n k = true then match l[posT l n k]? with
  | some t => (t.c, t.s)
  | none => (0, 0) else (0, 0)
def newT (n : ByteArray) (k c s : Int) : List Tt := if (c == 0 && s == 0) = true then [] else [⟨n, k, c, s⟩]
def addT (l : List Tt) (n : ByteArray) (k c s : Int) : List Tt :=
  l.take (posT l n k) ++ newT n k (wrap64 (c + (getT l n k).1)) (wrap64 (s + (getT l n k).2)) ++ l.drop (if isT l n k = true then posT l n k + 1 else posT l n k)
theorem posT_le : ∀ (l : List Tt) (n : ByteArray) (k : Int), posT l n k ≤ l.length
  | [], _, _ => Nat.le_refl _
  | t :: l, n, k => by
    rw [posT, List.length_cons]
    split
    · have := posT_le l n k; omega
    · omega
theorem posT_at : ∀ (l : List Tt) (n : ByteArray) (k : Int) (j : Nat) (t : Tt), j ≤ posT l n k → l[j]? = some t → (j < posT l n k ↔ ltT t n k = true)
  | [], _, _, j, t, _, h => by simp at h
  | x :: l, n, k, j, t, hj, h => by
    rw [posT] at hj ⊢
    cases j with
    | zero =>
      obtain rfl : x = t := by simpa using h
      split
      · rename_i hx; simp [hx]
      · rename_i hx; simp [hx]
    | succ j =>
      rw [List.getElem?_cons_succ] at h
      split at hj
      · rename_i hx
        rw [if_pos hx]
        have := posT_at l n k j t (by omega) h
        rw [← this]; omega
      · omega
theorem isT_at {l : List Tt} {n : ByteArray} {k : Int} {t : Tt} (h : l[posT l n k]? = some t) : isT l n k = isAt t n k := by
  unfold isT; rw [h]
theorem isT_end {l : List Tt} {n : ByteArray} {k : Int} (h : posT l n k = l.length) : isT l n k = false := by
  unfold isT; rw [h, List.getElem?_eq_none (Nat.le_refl _)]
theorem getT_at {l : List Tt} {n : ByteArray} {k : Int} {t : Tt} (h : l[posT l n k]? = some t) (h2 : isT l n k = true) : getT l n k = (t.c, t.s) := by
  unfold getT; rw [if_pos h2, h]
theorem getT_none {l : List Tt} {n : ByteArray} {k : Int} (h2 : isT l n k = false) : getT l n k = (0, 0) := by
  unfold getT; rw [if_neg (by rw [h2]; simp)]
theorem isT_some {l : List Tt} {n : ByteArray} {k : Int} (h : isT l n k = true) : ∃ t, l[posT l n k]? = some t := by
  unfold isT at h
  split at h
  · rename_i t ht; exact ⟨t, ht⟩
  · cases h

abbrev cellsTt (t : Tt) : List Value := [.string t.n, .int .i64 t.k, .int .i64 t.c, .int .i64 t.s]
/-- The document's totals. -/
def ETr : El Tt where
  s := 42
  e := 77
  sz := 4
  bys := 40
  z := .agg #[.string ⟨#[]⟩, .int .i64 0, .int .i64 0, .int .i64 0]
  cells := cellsTt
  pos := by decide
  few := by decide
  len := fun _ => rfl
  one := fun x u hu => by
    simp only [cellsTt, List.mem_cons, List.not_mem_nil, or_false] at hu
    rcases hu with rfl | rfl | rfl | rfl <;> rfl
  und := Try.underlying42
  info := by kernel_rfl
  zs := rfl
theorem RowE.cellsT {w : World} {A : Option Addr} {l : List Tt} (h : RowE ETr w A l) {j : Nat} {t : Tt} (hv : l[j]? = some t) : ∃ g off, A = some ⟨g, off, none⟩ ∧
    w.cell? ⟨g, off + j * 4, none⟩ = some (.string t.n) ∧ w.cell? ⟨g, off + j * 4 + 1, none⟩ = some (.int .i64 t.k) ∧ w.cell? ⟨g, off + j * 4 + 2, none⟩ = some (.int .i64 t.c) ∧ w.cell? ⟨g, off + j * 4 + 3, none⟩ = some (.int .i64 t.s) := by
  obtain ⟨g, off, rfl, hc⟩ := h j t hv
  exact ⟨g, off, rfl, hc 0 _ rfl, hc 1 _ rfl, hc 2 _ rfl, hc 3 _ rfl⟩

set_option maxHeartbeats 4000000 in
theorem dplace13_any (w : World) (A : Option Addr) (c : Nat) (l : List Tt) (n : ByteArray) (k : Int) (hl : RowE ETr w A l) (hn : l.length ≤ 1000000) :
    Ret 36 #[.slice A l.length c, .string n, .int .i64 k] w (.tuple #[.int .i64 ((posT l n k : Nat) : Int), .bool (isT l n k)]) := by
  have HL := Lib.hid hl
  obtain ⟨m, hm⟩ : ∃ m, l.length = m := ⟨_, rfl⟩
  obtain ⟨p, hp⟩ : ∃ p, posT l n k = p := ⟨_, rfl⟩
  obtain ⟨b, hb⟩ : ∃ b, isT l n k = b := ⟨_, rfl⟩
  have HPL := Lib.hid (show p ≤ m by rw [← hp, ← hm]; exact posT_le l n k)
  have HAT := Lib.hid (show ∀ j t, j ≤ p → l[j]? = some t → (j < p ↔ ltT t n k = true) from fun j t => by rw [← hp]; exact posT_at l n k j t)
  have HIS := Lib.hid (show ∀ t, l[p]? = some t → b = isAt t n k from fun t => by rw [← hp, ← hb]; exact isT_at)
  have HIE := Lib.hid (show p = m → b = false by rw [← hp, ← hb, ← hm]; exact isT_end)
  rw [hm] at hn ⊢
  rw [hp, hb]
  have HM := Lib.hid hm
  clear hl hm hp hb
  go_enter Try.func36, Try.ntmps36
  go_wp2_with fail
  go_loopw [8] (fun i wr => ∃ j : Nat, j ≤ p ∧ i = .int .i64 j ∧ wr = w) (fun i _ => m - (intOf i).toNat)
  case atStart => exact ⟨0, Nat.zero_le _, rfl, rfl⟩
  case round =>
    obtain ⟨j, hj, rfl, hwr⟩ := hrel
    obtain rfl := hwr.symm
    by_cases hlt : j < m
    · have hlt' : decide ((j : Int) < (m : Int)) = true := by rw [decide_eq_true_eq]; omega
      have hlt2 : (j : Int) < (m : Int) := by omega
      obtain ⟨t, ht⟩ : ∃ t, l[j]? = some t := ⟨_, List.getElem?_eq_getElem (by have := HM.out; omega)⟩
      obtain ⟨g, off, rfl, c0, c1, _, _⟩ := HL.out.cellsT ht
      have hiff := HAT.out j t hj ht
      have e1 := less_nats t.n n
      unfold ltT at hiff
      have hend : ¬ j < p → b = isAt t n k := fun h => HIS.out t (by rw [show p = j by omega]; exact ht)
      unfold isAt at hend
      cases ha : aheadB t.n n with
      | true =>
        have HN := Lib.hid (show j + 1 ≤ p from hiff.2 (by rw [ha]; rfl))
        rw [show lessN (nats t.n) (nats n) = true from ha] at e1
        clear hiff hend ha ht
        go_wp2_with fail
        exact ⟨⟨j + 1, HN.out, by go_num, trivial⟩, by have := HPL.out; have := HN.out; simp [intOf] <;> omega⟩
      | false =>
        rw [show lessN (nats t.n) (nats n) = false from ha] at e1
        cases hs : sameN t.n n with
        | true =>
          have e2 : (t.n.toList == n.toList) = true := hs
          by_cases hk : t.k < k
          · have HN := Lib.hid (show j + 1 ≤ p from hiff.2 (by rw [ha, hs, decide_eq_true hk]; rfl))
            have e3 : decide (t.k < k) = true := decide_eq_true hk
            clear hiff hend ha ht hs hk
            go_wp2_with fail
            exact ⟨⟨j + 1, HN.out, by go_num, trivial⟩, by have := HPL.out; have := HN.out; simp [intOf] <;> omega⟩
          · have hnp : ¬ j < p := by rw [hiff, ha, hs, decide_eq_false hk]; simp
            have e3 : decide (t.k < k) = false := decide_eq_false hk
            have HB := Lib.hid (show b = (t.k == k) by rw [hend hnp, hs, Bool.true_and])
            obtain rfl : j = p := by omega
            clear hiff hend ha ht hs hk hnp
            go_wp2_with fail
            go_quiet (fail)
            go_wp2_with fail
            go_ret2
            exact ⟨ret_ib rfl HB.out.symm, belowN (bl w) _⟩
        | false =>
          have e2 : (t.n.toList == n.toList) = false := hs
          have hnp : ¬ j < p := by rw [hiff, ha, hs]; simp
          have HB := Lib.hid (show b = false by rw [hend hnp, hs, Bool.false_and])
          obtain rfl : j = p := by omega
          clear hiff hend ha ht hs hnp
          go_wp2_with fail
          go_quiet (fail)
          go_wp2_with fail
          go_ret2
          exact ⟨ret_ib rfl HB.out.symm, belowN (bl w) _⟩
    · obtain rfl : j = m := by have := HPL.out; omega
      have hlt' : decide ((j : Int) < (j : Int)) = false := by rw [decide_eq_false_iff_not]; omega
      have hlt2 : ¬ (j : Int) < (j : Int) := by omega
      have HB := Lib.hid (HIE.out (by have := HPL.out; omega))
      have HP2 := Lib.hid (show p = j by have := HPL.out; omega)
      go_wp2_with fail
      go_quiet (fail)
      go_wp2_with fail
      go_ret2
      exact ⟨ret_ib (by rw [HP2.out]) HB.out.symm, belowN (bl w) _⟩
end Go.Proofs.Ytmhddpgeiijhgaa

/-
  The document's Name and one: is a text a name, what is wrong with a field alone. Fields in memory.
-/
namespace Go.Proofs.Ytmhddpgeiijhgaa
open Go.RowKit

/-- What a name's first bytes may be. -/
def preOk : List Nat → Bool
  | [] => true
  | c :: r => letterB c && r.all innerB
theorem preOk_snoc (l : List Nat) (c : Nat) : preOk (l ++ [c]) = (preOk l && if l = [] then letterB c else innerB c) := by
  cases l with
  | nil => simp [preOk]
  | cons d r => simp [preOk, Bool.and_assoc]
theorem preOk_more : ∀ (l : List Nat) (k : Nat), preOk (l.take k) = false → preOk l = false
  | [], _, h => by simp [preOk] at h
  | c :: r, 0, h => by simp [preOk] at h
  | c :: r, k + 1, h => by
    rw [List.take_succ_cons, preOk] at h
    rw [preOk]
    cases hc : letterB c with
    | false => rfl
    | true =>
      rw [hc, Bool.true_and] at h
      rw [Bool.true_and]
      rw [List.all_eq_false] at h ⊢
      obtain ⟨x, hx, h2⟩ := h
      exact ⟨x, List.mem_of_mem_take hx, h2⟩
theorem nameL_pre (l : List Nat) : nameL l = (preOk l && (!l.isEmpty && decide (l.length ≤ 12))) := by
  cases l with
  | nil => rfl
  | cons c r =>
    rw [nameL, preOk, List.isEmpty_cons, List.length_cons]
    simp
theorem name_bad {s : ByteArray} {k c : Nat} (hc : (nats s)[k]? = some c) (hp : preOk ((nats s).take k) = true) (h : (if k = 0 then letterB c else innerB c) = false) : nameB s = false := by
  unfold nameB
  rw [nameL_pre, preOk_more (nats s) (k + 1), Bool.false_and]
  rw [List.take_add_one, hc, Option.toList_some, preOk_snoc, hp, Bool.true_and]
  have hk : k < (nats s).length := by
    rcases Nat.lt_or_ge k (nats s).length with h' | h'
    · exact h'
    · rw [List.getElem?_eq_none h'] at hc; cases hc
  have e : ((nats s).take k = []) ↔ k = 0 := by
    rw [← List.length_eq_zero_iff, List.length_take, Nat.min_eq_left (by omega)]
  by_cases h0 : k = 0
  · rw [if_pos (e.2 h0)]; rw [if_pos h0] at h; exact h
  · rw [if_neg (fun h' => h0 (e.1 h'))]; rw [if_neg h0] at h; exact h
theorem name_next {s : ByteArray} {k c : Nat} (hc : (nats s)[k]? = some c) (hp : preOk ((nats s).take k) = true) (h : (if k = 0 then letterB c else innerB c) = true) : preOk ((nats s).take (k + 1)) = true := by
  rw [List.take_add_one, hc, Option.toList_some, preOk_snoc, hp, Bool.true_and]
  have hk : k < (nats s).length := by
    rcases Nat.lt_or_ge k (nats s).length with h' | h'
    · exact h'
    · rw [List.getElem?_eq_none h'] at hc; cases hc
  have e : ((nats s).take k = []) ↔ k = 0 := by
    rw [← List.length_eq_zero_iff, List.length_take, Nat.min_eq_left (by omega)]
  by_cases h0 : k = 0
  · rw [if_pos (e.2 h0)]; rw [if_pos h0] at h; exact h
  · rw [if_neg (fun h' => h0 (e.1 h'))]; rw [if_neg h0] at h; exact h
theorem letter_inner {c k : Nat} (h : letterB c = true) : (if k = 0 then letterB c else innerB c) = true := by
  split
  · exact h
  · unfold innerB; rw [h]; rfl
theorem byte0 {s : ByteArray} {c : Nat} (h : (nats s)[0]? = some c) (h0 : 0 < s.size) : (s[0]'h0).toNat = c := by
  have := nats_get (s := s) (i := 0) h0
  rw [this] at h
  exact Option.some.inj h
theorem ret_bool {a b : Bool} (h : a = b) : Ending.returned (.bool a) = .returned (.bool b) := by rw [h]

end Go.Proofs.Ytmhddpgeiijhgaa

/-
  Plain facts on the bytes of fields: what is put is taken, and what is taken is put as the same bytes.
-/
namespace Go.Proofs.Ytmhddpgeiijhgaa

theorem zig_range {v : Int} (h : valB v = true) : 0 ≤ zig v ∧ zig v ≤ 4611686018427387903 := by
  unfold valB at h
  simp only [Bool.and_eq_true, decide_eq_true_eq] at h
  unfold zig
  split <;> omega
theorem intS_enc {v : Int} (h : valB v = true) : intS v = encS (zig v).toNat := by
  have h2 := zig_range h
  unfold valB at h
  simp only [Bool.and_eq_true, decide_eq_true_eq] at h
  rw [(int_ok h rfl).1]
  obtain ⟨m, hm⟩ : ∃ m : Nat, zig v = (m : Int) := ⟨(zig v).toNat, by omega⟩
  rw [hm, (num_ok (n := m) (by omega)).1, Int.toNat_natCast]
theorem unzig_zig {v : Int} : unzig (zig v).toNat = v := by
  unfold zig unzig
  by_cases h : v < 0
  · rw [if_pos h, if_pos (by omega)]; omega
  · rw [if_neg h, if_neg (by omega)]; omega
theorem zig_unzig (n : Nat) : zig (unzig n) = (n : Int) := by
  unfold zig unzig
  by_cases h : n % 2 = 1
  · rw [if_pos h, if_pos (by omega)]; omega
  · rw [if_neg h, if_neg (by omega)]; omega
theorem valB_unzig {n : Nat} (h : n < 4611686018427387904) : valB (unzig n) = true := by
  unfold valB unzig
  simp only [Bool.and_eq_true, decide_eq_true_eq]
  split <;> omega
theorem int_takenF {v : Int} (h : valB v = true) (b : ByteArray) : unzig (tkN (intS v ++ b)) = v ∧ tkR (intS v ++ b) = b ∧ tkE (intS v ++ b) = 0 := by
  have h2 := zig_range h
  rw [intS_enc h]
  obtain ⟨k1, k2, k3⟩ := tk_enc (n := (zig v).toNat) (by omega) b
  exact ⟨by rw [k1, unzig_zig], k2, k3⟩
theorem int_againF {s : ByteArray} (h : tkE s = 0) : intS (unzig (tkN s)) ++ tkR s = s := by
  rw [intS_enc (valB_unzig (tkN_lt s)), zig_unzig, Int.toNat_natCast]
  exact tk_again h

/-- The bytes of a field, of fields. -/
def oneS (f : Fd) : ByteArray := textS f.n ++ intS f.v
def manyS : List Fd → ByteArray
  | [] => ⟨#[]⟩
  | f :: l => oneS f ++ manyS l
theorem empty_append (s : ByteArray) : (⟨#[]⟩ : ByteArray) ++ s = s := by
  apply nats_inj
  rw [nats_append]; rfl
theorem append_empty (s : ByteArray) : s ++ (⟨#[]⟩ : ByteArray) = s := by
  apply nats_inj
  rw [nats_append, nats_nil, List.append_nil]
theorem manyS_append : ∀ l m : List Fd, manyS (l ++ m) = manyS l ++ manyS m
  | [], m => by rw [List.nil_append, manyS, empty_append]
  | f :: l, m => by rw [List.cons_append, manyS, manyS, manyS_append l m, ByteArray.append_assoc]
/-- What Put answers. -/
def putS (l : List Fd) : ByteArray := if rightE l = 0 then encS l.length ++ manyS l else ⟨#[]⟩
/-- Is a name one, and behind the one ahead? -/
def behindB : Option ByteArray → ByteArray → Bool
  | none, s => nameB s
  | some p, s => nameB s && aheadB p s
/-- The fields that s begins with, behind a name. -/
def takeG : Nat → Option ByteArray → ByteArray → List Fd × ByteArray × Nat
  | 0, _, s => ([], s, 0)
  | n + 1, o, s =>
    if ttE s 12 ≠ 0 then ([], ⟨#[]⟩, ttE s 12)
    else if behindB o (ttS s 12) = false then ([], ⟨#[]⟩, 8)
    else if tkE (ttR s 12) ≠ 0 then ([], ⟨#[]⟩, tkE (ttR s 12))
    else if (takeG n (some (ttS s 12)) (tkR (ttR s 12))).2.2 ≠ 0 then ([], ⟨#[]⟩, (takeG n (some (ttS s 12)) (tkR (ttR s 12))).2.2)
    else (⟨ttS s 12, unzig (tkN (ttR s 12))⟩ :: (takeG n (some (ttS s 12)) (tkR (ttR s 12))).1, (takeG n (some (ttS s 12)) (tkR (ttR s 12))).2.1, 0)
def takeF (s : ByteArray) : List Fd × ByteArray × Nat :=
  if tkE s ≠ 0 then ([], ⟨#[]⟩, tkE s) else if 8 < tkN s then ([], ⟨#[]⟩, 4) else takeG (tkN s) none (tkR s)
/-- What is behind fields that have been taken. -/
def goOn (acc : List Fd) (t : List Fd × ByteArray × Nat) : List Fd × ByteArray × Nat := if t.2.2 ≠ 0 then ([], ⟨#[]⟩, t.2.2) else (acc ++ t.1, t.2.1, 0)
theorem takeG_err {n : Nat} {o : Option ByteArray} {s : ByteArray} (h : (takeG n o s).2.2 ≠ 0) : takeG n o s = ([], ⟨#[]⟩, (takeG n o s).2.2) := by
  cases n with
  | zero => exact absurd rfl h
  | succ n =>
    rw [takeG] at h ⊢
    by_cases h1 : ttE s 12 ≠ 0
    · rw [if_pos h1]
    · rw [if_neg h1] at h ⊢
      by_cases h2 : behindB o (ttS s 12) = false
      · rw [if_pos h2]
      · rw [if_neg h2] at h ⊢
        by_cases h3 : tkE (ttR s 12) ≠ 0
        · rw [if_pos h3]
        · rw [if_neg h3] at h ⊢
          by_cases h4 : (takeG n (some (ttS s 12)) (tkR (ttR s 12))).2.2 ≠ 0
          · rw [if_pos h4]
          · rw [if_neg h4] at h
            exact absurd rfl h
theorem goOn_start (t : List Fd × ByteArray × Nat) (h : t.2.2 ≠ 0 → t = ([], ⟨#[]⟩, t.2.2)) : goOn [] t = t := by
  unfold goOn
  by_cases h1 : t.2.2 ≠ 0
  · rw [if_pos h1]; exact (h h1).symm
  · rw [if_neg h1]
    have : t.2.2 = 0 := by omega
    rw [List.nil_append]
    obtain ⟨a, b, c⟩ := t
    obtain rfl : c = 0 := this
    rfl
theorem goOn_text {acc : List Fd} {n : Nat} {o : Option ByteArray} {s : ByteArray} (h : ttE s 12 ≠ 0) : goOn acc (takeG (n + 1) o s) = ([], ⟨#[]⟩, ttE s 12) := by
  rw [takeG, if_pos h, goOn, if_pos h]
theorem goOn_form {acc : List Fd} {n : Nat} {o : Option ByteArray} {s : ByteArray} (h : ttE s 12 = 0) (h2 : behindB o (ttS s 12) = false) : goOn acc (takeG (n + 1) o s) = ([], ⟨#[]⟩, 8) := by
  rw [takeG, if_neg (by omega), if_pos h2, goOn, if_pos (by decide)]
theorem goOn_int {acc : List Fd} {n : Nat} {o : Option ByteArray} {s : ByteArray} (h : ttE s 12 = 0) (h2 : behindB o (ttS s 12) = true) (h3 : tkE (ttR s 12) ≠ 0) : goOn acc (takeG (n + 1) o s) = ([], ⟨#[]⟩, tkE (ttR s 12)) := by
  rw [takeG, if_neg (by omega), if_neg (by rw [h2]; simp), if_pos h3, goOn, if_pos h3]
theorem goOn_next {acc : List Fd} {n : Nat} {o : Option ByteArray} {s : ByteArray} (h : ttE s 12 = 0) (h2 : behindB o (ttS s 12) = true) (h3 : tkE (ttR s 12) = 0) :
    goOn acc (takeG (n + 1) o s) = goOn (acc ++ [⟨ttS s 12, unzig (tkN (ttR s 12))⟩]) (takeG n (some (ttS s 12)) (tkR (ttR s 12))) := by
  rw [takeG, if_neg (by omega), if_neg (by rw [h2]; simp), if_neg (by omega)]
  by_cases h4 : (takeG n (some (ttS s 12)) (tkR (ttR s 12))).2.2 ≠ 0
  · rw [if_pos h4, goOn, if_pos h4, goOn, if_pos h4]
  · rw [if_neg h4, goOn, if_neg (by simp), goOn, if_neg h4, List.append_assoc]
    rfl
theorem goOn_end (acc : List Fd) (o : Option ByteArray) (s : ByteArray) : goOn acc (takeG 0 o s) = (acc, s, 0) := by
  rw [takeG, goOn, if_neg (by simp), List.append_nil]

theorem behind_right {o : Option ByteArray} {f : Fd} {l : List Fd} : rightG o (f :: l) = 0 ↔ behindB o f.n = true ∧ valB f.v = true ∧ rightG (some f.n) l = 0 := by
  have e1 : oneE f = 0 ↔ nameB f.n = true ∧ valB f.v = true := by
    unfold oneE
    cases nameB f.n <;> cases valB f.v <;> simp
  cases o with
  | none =>
    rw [rightG_none, behindB]
    by_cases h : oneE f = 0
    · rw [if_pos h]
      have := e1.1 h
      simp [this]
    · rw [if_neg h]
      constructor
      · intro h2; exact absurd h2 h
      · intro h2; exact absurd (e1.2 ⟨h2.1, h2.2.1⟩) h
  | some p =>
    rw [rightG_some, behindB]
    by_cases h : oneE f = 0
    · rw [if_pos h]
      have := e1.1 h
      cases ha : aheadB p f.n <;> simp [this]
    · rw [if_neg h]
      constructor
      · intro h2; exact absurd h2 h
      · intro h2
        rw [Bool.and_eq_true] at h2
        exact absurd (e1.2 ⟨h2.1.1, h2.2.1⟩) h
theorem behind_name {o : Option ByteArray} {s : ByteArray} (h : behindB o s = true) : nameB s = true := by
  cases o with
  | none => exact h
  | some p => rw [behindB, Bool.and_eq_true] at h; exact h.1
theorem name_size {s : ByteArray} (h : nameB s = true) : s.size ≤ 12 := by
  unfold nameB at h
  rw [nameL_pre] at h
  simp only [Bool.and_eq_true, decide_eq_true_eq] at h
  rw [← nats_length]
  exact h.2.2
/-- What is put is taken. -/
theorem take_put : ∀ (l : List Fd) (o : Option ByteArray) (b : ByteArray), rightG o l = 0 → takeG l.length o (manyS l ++ b) = (l, b, 0)
  | [], _, b, _ => by rw [manyS, empty_append]; rfl
  | f :: l, o, b, h => by
    obtain ⟨h1, h2, h3⟩ := behind_right.1 h
    have hz := name_size (behind_name h1)
    have e : manyS (f :: l) ++ b = textS f.n ++ (intS f.v ++ (manyS l ++ b)) := by rw [manyS, oneS, ByteArray.append_assoc, ByteArray.append_assoc]
    obtain ⟨t1, t2, t3⟩ := tt_text (s := f.n) (b := intS f.v ++ (manyS l ++ b)) (most := 12) (by omega) (by omega)
    obtain ⟨i1, i2, i3⟩ := int_takenF h2 (manyS l ++ b)
    have ih := take_put l (some f.n) b h3
    rw [List.length_cons, e, takeG, t1, t2, t3, i1, i2, i3, ih]
    simp [h1]
/-- What is taken is put as the same bytes. -/
theorem put_take : ∀ (n : Nat) (o : Option ByteArray) (s : ByteArray), (takeG n o s).2.2 = 0 → (takeG n o s).1.length = n ∧ rightG o (takeG n o s).1 = 0 ∧ manyS (takeG n o s).1 ++ (takeG n o s).2.1 = s
  | 0, o, s, _ => by
    refine ⟨rfl, ?_, ?_⟩
    · cases o <;> rfl
    · show manyS [] ++ s = s
      rw [manyS, empty_append]
  | n + 1, o, s, h => by
    rw [takeG] at h ⊢
    by_cases h1 : ttE s 12 ≠ 0
    · rw [if_pos h1] at h; exact absurd h h1
    · rw [if_neg h1] at h ⊢
      by_cases h2 : behindB o (ttS s 12) = false
      · rw [if_pos h2] at h; cases h
      · rw [if_neg h2] at h ⊢
        by_cases h3 : tkE (ttR s 12) ≠ 0
        · rw [if_pos h3] at h; exact absurd h h3
        · rw [if_neg h3] at h ⊢
          by_cases h4 : (takeG n (some (ttS s 12)) (tkR (ttR s 12))).2.2 ≠ 0
          · rw [if_pos h4] at h; exact absurd h h4
          · rw [if_neg h4]
            obtain ⟨k1, k2, k3⟩ := put_take n (some (ttS s 12)) (tkR (ttR s 12)) (by omega)
            have hb : behindB o (ttS s 12) = true := by
              cases hh : behindB o (ttS s 12)
              · exact absurd hh h2
              · rfl
            refine ⟨by rw [List.length_cons, k1], behind_right.2 ⟨hb, valB_unzig (tkN_lt _), k2⟩, ?_⟩
            rw [manyS, oneS, ByteArray.append_assoc, ByteArray.append_assoc, k3, int_againF (by omega), tt_again (by omega)]
theorem takeF_put {l : List Fd} (h : rightE l = 0) (b : ByteArray) : takeF (putS l ++ b) = (l, b, 0) := by
  have hr : rightG none l = 0 ∧ l.length ≤ 8 := by
    unfold rightE at h
    by_cases h8 : 8 < l.length
    · rw [if_pos h8] at h; cases h
    · rw [if_neg h8] at h; exact ⟨h, by omega⟩
  unfold putS
  rw [if_pos h, ByteArray.append_assoc]
  obtain ⟨k1, k2, k3⟩ := tk_enc (n := l.length) (by omega) (manyS l ++ b)
  unfold takeF
  rw [k1, k2, k3, if_neg (by simp), if_neg (by omega), take_put l none b hr.1]
theorem putF_take {s : ByteArray} (h : (takeF s).2.2 = 0) : rightE (takeF s).1 = 0 ∧ putS (takeF s).1 ++ (takeF s).2.1 = s := by
  unfold takeF at h ⊢
  by_cases h1 : tkE s ≠ 0
  · rw [if_pos h1] at h; exact absurd h h1
  · rw [if_neg h1] at h ⊢
    by_cases h2 : 8 < tkN s
    · rw [if_pos h2] at h; cases h
    · rw [if_neg h2] at h ⊢
      obtain ⟨k1, k2, k3⟩ := put_take _ _ _ h
      have hr : rightE (takeG (tkN s) none (tkR s)).1 = 0 := by
        unfold rightE
        rw [k1, if_neg h2, k2]
      refine ⟨hr, ?_⟩
      unfold putS
      rw [if_pos hr, k1, ByteArray.append_assoc, k3]
      exact tk_again (by omega)

end Go.Proofs.Ytmhddpgeiijhgaa

/-
  Plain facts for the laws of fields: what is made may be; the chapter's examples.
-/
namespace Go.Proofs.Ytmhddpgeiijhgaa

theorem layL_length : ∀ (l : List Fd) (f : Fd), (layL l f).length ≤ l.length + 1
  | [], _ => Nat.le_refl _
  | g :: l, f => by
    rw [layL]
    split
    · rw [List.length_cons, List.length_cons]; have := layL_length l f; omega
    · split
      · rw [List.length_cons, List.length_cons]; omega
      · rw [List.length_cons, List.length_cons]; omega
theorem foldl_length : ∀ (l a : List Fd), (l.foldl layL a).length ≤ a.length + l.length
  | [], _ => Nat.le_refl _
  | f :: l, a => by
    rw [List.foldl_cons, List.length_cons]
    have h1 := foldl_length l (layL a f)
    have h2 := layL_length a f
    omega
theorem overL_length (l : List Fd) : (overL l).length ≤ l.length := by have := foldl_length l []; rw [List.length_nil] at this; unfold overL; omega
theorem overL_snoc (l : List Fd) (f : Fd) : overL (l ++ [f]) = layL (overL l) f := by unfold overL; rw [List.foldl_append]; rfl
theorem foldl_mem : ∀ (l a : List Fd) (g : Fd), g ∈ l.foldl layL a → g ∈ a ∨ g ∈ l
  | [], _, _, h => .inl h
  | f :: l, a, g, h => by
    rcases foldl_mem l (layL a f) g h with h | h
    · rcases layL_mem a f g h with rfl | h
      · exact .inr List.mem_cons_self
      · exact .inl h
    · exact .inr (List.mem_cons_of_mem _ h)
theorem overL_mem {l : List Fd} {g : Fd} (h : g ∈ overL l) : g ∈ l := by
  rcases foldl_mem l [] g h with h | h
  · simp at h
  · exact h
theorem firstE_all : ∀ l : List Fd, firstE l = 0 → ∀ f ∈ l, oneE f = 0
  | [], _, f, hf => by simp at hf
  | g :: l, h, f, hf => by
    rw [firstE] at h
    by_cases h1 : oneE g = 0
    · rw [if_pos h1] at h
      rcases List.mem_cons.1 hf with rfl | hf
      · exact h1
      · exact firstE_all l h f hf
    · rw [if_neg h1] at h; exact absurd h h1
theorem rises_right : ∀ (l : List Fd) (o : Option ByteArray), Rises l → (∀ f ∈ l, oneE f = 0) → (∀ p, o = some p → ∀ f ∈ l, aheadB p f.n = true) → rightG o l = 0
  | [], o, _, _, _ => by cases o <;> rfl
  | f :: l, o, h, h1, h2 => by
    have h0 := h1 f List.mem_cons_self
    have ih := rises_right l (some f.n) h.2 (fun g hg => h1 g (List.mem_cons_of_mem _ hg)) (fun p hp g hg => by cases hp; exact h.1 g hg)
    cases o with
    | none => rw [rightG_none, if_pos h0, ih]
    | some p => rw [rightG_some, if_pos h0, if_pos (h2 p rfl f List.mem_cons_self), ih]
theorem make_big {l : List Fd} (h : 8 < l.length) : makeF l = ([], 4) := by unfold makeF; rw [if_pos h]
theorem make_bad {l : List Fd} (h : ¬ 8 < l.length) (h2 : firstE l ≠ 0) : makeF l = ([], firstE l) := by unfold makeF; rw [if_neg h, if_neg h2]
theorem make_twice {l : List Fd} (h : ¬ 8 < l.length) (h2 : firstE l = 0) (h3 : (overL l).length ≠ l.length) : makeF l = ([], 7) := by unfold makeF; rw [if_neg h, if_pos h2, if_neg h3]
theorem make_good {l : List Fd} (h : ¬ 8 < l.length) (h2 : firstE l = 0) (h3 : (overL l).length = l.length) : makeF l = (overL l, 0) := by unfold makeF; rw [if_neg h, if_pos h2, if_pos h3]
/-- What is made may be. -/
theorem make_right {l : List Fd} (h : (makeF l).2 = 0) : rightE (makeF l).1 = 0 := by
  by_cases h8 : 8 < l.length
  · rw [make_big h8] at h; cases h
  · by_cases h2 : firstE l = 0
    · by_cases h3 : (overL l).length = l.length
      · rw [make_good h8 h2 h3]
        unfold rightE
        rw [if_neg (by show ¬ 8 < (overL l).length; omega)]
        exact rises_right _ none (overL_rises l) (fun f hf => firstE_all l h2 f (overL_mem hf)) (fun p hp => by cases hp)
      · rw [make_twice h8 h2 h3] at h; cases h
    · rw [make_bad h8 h2] at h; exact absurd h h2
theorem make_length (l : List Fd) : (makeF l).1.length ≤ 8 := by
  by_cases h8 : 8 < l.length
  · rw [make_big h8]; decide
  · by_cases h2 : firstE l = 0
    · by_cases h3 : (overL l).length = l.length
      · rw [make_good h8 h2 h3]; show (overL l).length ≤ 8; omega
      · rw [make_twice h8 h2 h3]; decide
    · rw [make_bad h8 h2]; exact Nat.zero_le _
theorem right_length {l : List Fd} (h : rightE l = 0) : l.length ≤ 8 := by
  unfold rightE at h
  by_cases h8 : 8 < l.length
  · rw [if_pos h8] at h; cases h
  · omega
theorem take_length (s : ByteArray) : (takeF s).1.length ≤ 8 := by
  by_cases h : (takeF s).2.2 = 0
  · exact right_length (putF_take h).1
  · have e : (takeF s).1 = [] := by
      unfold takeF at h ⊢
      by_cases h1 : tkE s ≠ 0
      · rw [if_pos h1]
      · rw [if_neg h1] at h ⊢
        by_cases h2 : 8 < tkN s
        · rw [if_pos h2]
        · rw [if_neg h2] at h ⊢
          rw [takeG_err h]
    rw [e]; decide

/-- The chapter's examples. -/
def nA : ByteArray := ⟨#[97]⟩
def nB : ByteArray := ⟨#[98]⟩
def nC : ByteArray := ⟨#[99]⟩
theorem example_over : overL ([[⟨nA, 1⟩, ⟨nB, 2⟩], [⟨nB, 3⟩, ⟨nC, 4⟩]] : List (List Fd)).flatten = [⟨nA, 1⟩, ⟨nB, 3⟩, ⟨nC, 4⟩] := by
  have h1 : aheadB nA nB = true := by decide +kernel
  have h2 : aheadB nB nB = false := by decide +kernel
  have h3 : aheadB nB nC = true := by decide +kernel
  have h4 : aheadB nA nC = true := by decide +kernel
  have h5 : aheadB nB nA = false := by decide +kernel
  simp [overL, layL, h1, h2, h3, h4]
theorem example_put : rightE [⟨nA, 1⟩] = 0 ∧ putS [⟨nA, 1⟩] = ⟨#[1, 1, 97, 2]⟩ := by
  have h : rightE [⟨nA, 1⟩] = 0 := by decide +kernel
  refine ⟨h, ?_⟩
  unfold putS
  rw [if_pos h]
  decide +kernel

end Go.Proofs.Ytmhddpgeiijhgaa

/-
  The document's Of, Covers and At of versions.
-/
namespace Go.Proofs.Ytmhddpgeiijhgaa
open Go.RowKit

/-- Few enough versions, of few enough fields. -/
def fewV (l : List Vr) : Prop := l.length ≤ 200 ∧ ∀ v ∈ l, v.fs.length ≤ 100
theorem flat_leV {L : List (List Fd)} {m : Nat} (h : ∀ l ∈ L, l.length ≤ m) : L.flatten.length ≤ L.length * m := by
  induction L with
  | nil => simp
  | cons a L ih =>
    rw [List.flatten_cons, List.length_append, List.length_cons, Nat.add_mul, Nat.one_mul]
    have h1 := h a List.mem_cons_self
    have h2 := ih fun l hl => h l (List.mem_cons_of_mem _ hl)
    omega
theorem counts_mem {l : List Vr} {fs : List Fd} (h : fs ∈ countsV l) : ∃ v ∈ l, v.fs = fs := by
  unfold countsV at h
  obtain ⟨v, hv, rfl⟩ := List.mem_map.1 h
  exact ⟨v, (ordL_perm l).mem_iff.1 (List.mem_filter.1 hv).1, rfl⟩
theorem counts_few {l : List Vr} (h : fewV l) : (countsV l).length ≤ 200 ∧ (countsV l).flatten.length ≤ 20000 ∧ ∀ fs ∈ countsV l, fs.length ≤ 100 := by
  have h1 : (countsV l).length ≤ 200 := by
    unfold countsV
    rw [List.length_map]
    have := List.length_filter_le (fun v : Vr => !v.gone) (ordL l)
    rw [ordL_length] at this
    have := h.1
    omega
  have h2 : ∀ fs ∈ countsV l, fs.length ≤ 100 := fun fs hf => by
    obtain ⟨v, hv, rfl⟩ := counts_mem hf
    exact h.2 v hv
  have h3 := flat_leV h2
  have : (countsV l).length * 100 ≤ 200 * 100 := Nat.mul_le_mul_right 100 h1
  exact ⟨h1, by omega, h2⟩
/-- Lists of fields as their values' parts. -/
def slOf (v : Vr) : Sl := ⟨v.fa, v.fs.length, v.fc⟩
end Go.Proofs.Ytmhddpgeiijhgaa
