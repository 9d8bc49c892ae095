/-
  No cell of these rows narrows 'for every input' (looked for: loops, veiled, ifaces, maps, wideKeys, modest, calm, conditions, laid).
  DERIVED. THE GIVEN ROWS OF THIS SEAT. 5 by the template 'for every input the law returns true; each argument reads behind the call as it read before'; 0 by the template 'total and deterministic' (their statements: YtmhddpgeiijhgaaTotals.lean).
  GIVEN WITH THE SEED: the statements are not yours to turn. If you find one false, say at which input.
  Laid BY PROGRAM, IN A SANDBOX (cutbox-rows.mjs): the forced cells as the released guide's own fill.sh prints them over the translation 88560a86a544c2bd… (all of the seat's roots in one cut). By AI agents, Wed Nov 11 2026. No macro, syntax, notation, axiom, sorry.
-/
import Derived.Test.YtmhddpgeiijhgaaChecked
import GoSem.Claim
import GoSem.ClaimJoined
import GoSem.ClaimMapViews
import Derived.JoinedTies
import Derived.KernelRfl
namespace Go.Proofs.Ytmhddpgeiijhgaa
/- THE CELL 'sum', in the pinned program and in every row, IS THE sha256 OF THE DUMP (.gsa) THAT YtmhddpgeiijhgaaProg.lean LOADS. Nothing in Lean hashes anything: it is a label: what it is worth is what the hold of that sum in a sandbox is worth. -/
noncomputable def Try.pinned : Pinned := { name := "ytmhddpgeiijhgaa", sum := "88560a86a544c2bd48916327a34ee3f206a9e71c5388cc1ca38e1f9538e1e69b", checked := Try.checked }
namespace Rows
def none {H : Type} : Left H := { results := [], args := [] }

/-- 'erratumlaw13.BucketFloors': WHATEVER THE INPUT: true; the input reads as it did. -/
def bucketFloorsSpec : ChangeSpec := { name := "bucketFloors", fn := fun _ => fun
  | [d1, d2, d3] => { results := [.lit (.bool true)], args := [d1, d2, d3] }
  | _ => none }
def bucketFloorsRow : OpenClaim := { program := "ytmhddpgeiijhgaa", sum := "88560a86a544c2bd48916327a34ee3f206a9e71c5388cc1ca38e1f9538e1e69b", func := "erratum/erratumlaw13.BucketFloors", spec := "bucketFloors", plainKeys := false, apart := false }
def BucketFloorsSaid : Prop := bucketFloorsRow.holds Try.pinned (OpenSpec.ofChange bucketFloorsSpec)

/-- ITS FALSE NEIGHBOUR: 'it returns false'. Refute it at one input. -/
def bucketFloorsWrong : ChangeSpec := { name := "bucketFloors", fn := fun _ => fun
  | [d1, d2, d3] => { results := [.lit (.bool false)], args := [d1, d2, d3] }
  | _ => none }
def BucketFloorsWrongFalsely : Prop := bucketFloorsRow.holds Try.pinned (OpenSpec.ofChange bucketFloorsWrong)

/-- 'erratumlaw13.BucketHas': WHATEVER THE INPUT: true; the input reads as it did. -/
def bucketHasSpec : ChangeSpec := { name := "bucketHas", fn := fun _ => fun
  | [d1, d2, d3] => { results := [.lit (.bool true)], args := [d1, d2, d3] }
  | _ => none }
def bucketHasRow : OpenClaim := { program := "ytmhddpgeiijhgaa", sum := "88560a86a544c2bd48916327a34ee3f206a9e71c5388cc1ca38e1f9538e1e69b", func := "erratum/erratumlaw13.BucketHas", spec := "bucketHas", plainKeys := false, apart := false }
def BucketHasSaid : Prop := bucketHasRow.holds Try.pinned (OpenSpec.ofChange bucketHasSpec)

/-- ITS FALSE NEIGHBOUR: 'it returns false'. Refute it at one input. -/
def bucketHasWrong : ChangeSpec := { name := "bucketHas", fn := fun _ => fun
  | [d1, d2, d3] => { results := [.lit (.bool false)], args := [d1, d2, d3] }
  | _ => none }
def BucketHasWrongFalsely : Prop := bucketHasRow.holds Try.pinned (OpenSpec.ofChange bucketHasWrong)

/-- 'erratumlaw13.BucketOvers': WHATEVER THE INPUT: true; the input reads as it did. -/
def bucketOversSpec : ChangeSpec := { name := "bucketOvers", fn := fun _ => fun
  | [d1, d2, d3] => { results := [.lit (.bool true)], args := [d1, d2, d3] }
  | _ => none }
def bucketOversRow : OpenClaim := { program := "ytmhddpgeiijhgaa", sum := "88560a86a544c2bd48916327a34ee3f206a9e71c5388cc1ca38e1f9538e1e69b", func := "erratum/erratumlaw13.BucketOvers", spec := "bucketOvers", plainKeys := false, apart := false }
def BucketOversSaid : Prop := bucketOversRow.holds Try.pinned (OpenSpec.ofChange bucketOversSpec)

/-- ITS FALSE NEIGHBOUR: 'it returns false'. Refute it at one input. -/
def bucketOversWrong : ChangeSpec := { name := "bucketOvers", fn := fun _ => fun
  | [d1, d2, d3] => { results := [.lit (.bool false)], args := [d1, d2, d3] }
  | _ => none }
def BucketOversWrongFalsely : Prop := bucketOversRow.holds Try.pinned (OpenSpec.ofChange bucketOversWrong)

/-- 'erratumlaw13.BucketPlays': WHATEVER THE INPUT: true; the input reads as it did. -/
def bucketPlaysSpec : ChangeSpec := { name := "bucketPlays", fn := fun _ => fun
  | [d1, d2] => { results := [.lit (.bool true)], args := [d1, d2] }
  | _ => none }
def bucketPlaysRow : OpenClaim := { program := "ytmhddpgeiijhgaa", sum := "88560a86a544c2bd48916327a34ee3f206a9e71c5388cc1ca38e1f9538e1e69b", func := "erratum/erratumlaw13.BucketPlays", spec := "bucketPlays", inPlace := ["internal/bytealg.abigen_runtime_cmpstring"], unfollowed := true, recurses := true, plainKeys := false, apart := false }
def BucketPlaysSaid : Prop := bucketPlaysRow.holds Try.pinned (OpenSpec.ofChange bucketPlaysSpec)

/-- ITS FALSE NEIGHBOUR: 'it returns false'. Refute it at one input. -/
def bucketPlaysWrong : ChangeSpec := { name := "bucketPlays", fn := fun _ => fun
  | [d1, d2] => { results := [.lit (.bool false)], args := [d1, d2] }
  | _ => none }
def BucketPlaysWrongFalsely : Prop := bucketPlaysRow.holds Try.pinned (OpenSpec.ofChange bucketPlaysWrong)

/-- 'erratumlaw13.BucketBack': WHATEVER THE INPUT: true; the input reads as it did. -/
def bucketBackSpec : ChangeSpec := { name := "bucketBack", fn := fun _ => fun
  | [d1, d2, d3] => { results := [.lit (.bool true)], args := [d1, d2, d3] }
  | _ => none }
def bucketBackRow : OpenClaim := { program := "ytmhddpgeiijhgaa", sum := "88560a86a544c2bd48916327a34ee3f206a9e71c5388cc1ca38e1f9538e1e69b", func := "erratum/erratumlaw13.BucketBack", spec := "bucketBack", inPlace := ["internal/bytealg.abigen_runtime_cmpstring"], unfollowed := true, recurses := true, plainKeys := false, apart := false }
def BucketBackSaid : Prop := bucketBackRow.holds Try.pinned (OpenSpec.ofChange bucketBackSpec)

/-- ITS FALSE NEIGHBOUR: 'it returns false'. Refute it at one input. -/
def bucketBackWrong : ChangeSpec := { name := "bucketBack", fn := fun _ => fun
  | [d1, d2, d3] => { results := [.lit (.bool false)], args := [d1, d2, d3] }
  | _ => none }
def BucketBackWrongFalsely : Prop := bucketBackRow.holds Try.pinned (OpenSpec.ofChange bucketBackWrong)

/- THE SECOND FORM. 'bulk': how many values and letters a reading holds, each counted each time it is reached (what is shared counts as often as it is met; a slice's spare places count too). A statement '..UptoSaid' is the law's where the arguments, and the package variables that the reading takes, are together of bulk at most 1048576: NARROWER than '..Said'. Prove '..Said' where nothing that the law and all that it calls make is longer than what came in: it says more and counts as full. Else prove '..UptoSaid'. A law counts once. -/
mutual
def uptoBulk {H : Type} : DataW H → Nat
  | .lit (.string bytes) => bytes.length + 1
  | .lit _ => 1
  | .nil => 1
  | .ptr d => uptoBulk d + 1
  | .slice elems spare => uptoBulkAll elems + uptoBulkAll spare + 1
  | .agg parts => uptoBulkAll parts + 1
  | .iface _ d => uptoBulk d + 1
  | .map entries => uptoBulkEntries entries + 1
  | .held _ => 1
def uptoBulkAll {H : Type} : List (DataW H) → Nat
  | [] => 0
  | d :: r => uptoBulk d + uptoBulkAll r
def uptoBulkEntries {H : Type} : List (Lit × DataW H) → Nat
  | [] => 0
  | x :: r => uptoBulkEntry x + uptoBulkEntries r
def uptoBulkEntry {H : Type} : Lit × DataW H → Nat
  | (.string bytes, d) => bytes.length + uptoBulk d + 1
  | (_, d) => uptoBulk d + 1
 end
def uptoSmall : (H : Type) → List (DataW H) → Bool := fun _ ds => decide (uptoBulkAll ds ≤ 1048576)
def OpenSpec.upto (s : _root_.Go.ChangeSpec) : _root_.Go.OpenSpec := { _root_.Go.OpenSpec.ofChange s with cond := some uptoSmall }

/-- 'erratumlaw13.BucketFloors', WHERE WHAT IT READS IS OF BULK AT MOST 1048576: true; the input reads as it did. -/
def bucketFloorsUptoRow : OpenClaim := { program := "ytmhddpgeiijhgaa", sum := "88560a86a544c2bd48916327a34ee3f206a9e71c5388cc1ca38e1f9538e1e69b", func := "erratum/erratumlaw13.BucketFloors", spec := "bucketFloors", plainKeys := false, apart := false, narrowed := true }
def BucketFloorsUptoSaid : Prop := bucketFloorsUptoRow.holds Try.pinned (OpenSpec.upto bucketFloorsSpec)

/-- 'erratumlaw13.BucketHas', WHERE WHAT IT READS IS OF BULK AT MOST 1048576: true; the input reads as it did. -/
def bucketHasUptoRow : OpenClaim := { program := "ytmhddpgeiijhgaa", sum := "88560a86a544c2bd48916327a34ee3f206a9e71c5388cc1ca38e1f9538e1e69b", func := "erratum/erratumlaw13.BucketHas", spec := "bucketHas", plainKeys := false, apart := false, narrowed := true }
def BucketHasUptoSaid : Prop := bucketHasUptoRow.holds Try.pinned (OpenSpec.upto bucketHasSpec)

/-- 'erratumlaw13.BucketOvers', WHERE WHAT IT READS IS OF BULK AT MOST 1048576: true; the input reads as it did. -/
def bucketOversUptoRow : OpenClaim := { program := "ytmhddpgeiijhgaa", sum := "88560a86a544c2bd48916327a34ee3f206a9e71c5388cc1ca38e1f9538e1e69b", func := "erratum/erratumlaw13.BucketOvers", spec := "bucketOvers", plainKeys := false, apart := false, narrowed := true }
def BucketOversUptoSaid : Prop := bucketOversUptoRow.holds Try.pinned (OpenSpec.upto bucketOversSpec)

/-- 'erratumlaw13.BucketPlays', WHERE WHAT IT READS IS OF BULK AT MOST 1048576: true; the input reads as it did. -/
def bucketPlaysUptoRow : OpenClaim := { program := "ytmhddpgeiijhgaa", sum := "88560a86a544c2bd48916327a34ee3f206a9e71c5388cc1ca38e1f9538e1e69b", func := "erratum/erratumlaw13.BucketPlays", spec := "bucketPlays", inPlace := ["internal/bytealg.abigen_runtime_cmpstring"], unfollowed := true, recurses := true, plainKeys := false, apart := false, narrowed := true }
def BucketPlaysUptoSaid : Prop := bucketPlaysUptoRow.holds Try.pinned (OpenSpec.upto bucketPlaysSpec)

/-- 'erratumlaw13.BucketBack', WHERE WHAT IT READS IS OF BULK AT MOST 1048576: true; the input reads as it did. -/
def bucketBackUptoRow : OpenClaim := { program := "ytmhddpgeiijhgaa", sum := "88560a86a544c2bd48916327a34ee3f206a9e71c5388cc1ca38e1f9538e1e69b", func := "erratum/erratumlaw13.BucketBack", spec := "bucketBack", inPlace := ["internal/bytealg.abigen_runtime_cmpstring"], unfollowed := true, recurses := true, plainKeys := false, apart := false, narrowed := true }
def BucketBackUptoSaid : Prop := bucketBackUptoRow.holds Try.pinned (OpenSpec.upto bucketBackSpec)

end Rows
end Go.Proofs.Ytmhddpgeiijhgaa
