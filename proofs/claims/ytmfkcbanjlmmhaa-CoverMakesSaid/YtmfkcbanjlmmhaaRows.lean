/-
  No cell of these rows narrows 'for every input' (looked for: loops, veiled, ifaces, maps, wideKeys, modest, calm, conditions, laid).
  DERIVED. THE GIVEN ROWS OF THIS SEAT. 6 by the template 'for every input the law returns true; each argument reads behind the call as it read before'; 0 by the template 'total and deterministic' (their statements: YtmfkcbanjlmmhaaTotals.lean).
  GIVEN WITH THE SEED: the statements are not yours to turn. If you find one false, say at which input.
  Laid BY PROGRAM, IN A SANDBOX (cutbox-rows.mjs): the forced cells as the released guide's own fill.sh prints them over the translation e3826cc29ed691cf… (all of the seat's roots in one cut). By AI agents, Wed Nov 11 2026. No macro, syntax, notation, axiom, sorry.
-/
import Derived.Test.YtmfkcbanjlmmhaaChecked
import GoSem.Claim
import GoSem.ClaimJoined
import GoSem.ClaimMapViews
import Derived.JoinedTies
import Derived.KernelRfl
namespace Go.Proofs.Ytmfkcbanjlmmhaa
/- THE CELL 'sum', in the pinned program and in every row, IS THE sha256 OF THE DUMP (.gsa) THAT YtmfkcbanjlmmhaaProg.lean LOADS. Nothing in Lean hashes anything: it is a label: what it is worth is what the hold of that sum in a sandbox is worth. -/
noncomputable def Try.pinned : Pinned := { name := "ytmfkcbanjlmmhaa", sum := "e3826cc29ed691cf17027ba0dbab3530ff68a3187b956b9b7d326246d4f27a92", checked := Try.checked }
namespace Rows
def none {H : Type} : Left H := { results := [], args := [] }

/-- 'erratumlaw03.CoverMakes': WHATEVER THE INPUT: true; the input reads as it did. -/
def coverMakesSpec : ChangeSpec := { name := "coverMakes", fn := fun _ => fun
  | [d] => { results := [.lit (.bool true)], args := [d] }
  | _ => none }
def coverMakesRow : OpenClaim := { program := "ytmfkcbanjlmmhaa", sum := "e3826cc29ed691cf17027ba0dbab3530ff68a3187b956b9b7d326246d4f27a92", func := "erratum/erratumlaw03.CoverMakes", spec := "coverMakes", unfollowed := true, recurses := true, apart := false }
def CoverMakesSaid : Prop := coverMakesRow.holds Try.pinned (OpenSpec.ofChange coverMakesSpec)

/-- ITS FALSE NEIGHBOUR: 'it returns false'. Refute it at one input. -/
def coverMakesWrong : ChangeSpec := { name := "coverMakes", fn := fun _ => fun
  | [d] => { results := [.lit (.bool false)], args := [d] }
  | _ => none }
def CoverMakesWrongFalsely : Prop := coverMakesRow.holds Try.pinned (OpenSpec.ofChange coverMakesWrong)

/-- 'erratumlaw03.CoverJoins': WHATEVER THE INPUT: true; the input reads as it did. -/
def coverJoinsSpec : ChangeSpec := { name := "coverJoins", fn := fun _ => fun
  | [d1, d2] => { results := [.lit (.bool true)], args := [d1, d2] }
  | _ => none }
def coverJoinsRow : OpenClaim := { program := "ytmfkcbanjlmmhaa", sum := "e3826cc29ed691cf17027ba0dbab3530ff68a3187b956b9b7d326246d4f27a92", func := "erratum/erratumlaw03.CoverJoins", spec := "coverJoins", unfollowed := true, recurses := true, apart := false }
def CoverJoinsSaid : Prop := coverJoinsRow.holds Try.pinned (OpenSpec.ofChange coverJoinsSpec)

/-- ITS FALSE NEIGHBOUR: 'it returns false'. Refute it at one input. -/
def coverJoinsWrong : ChangeSpec := { name := "coverJoins", fn := fun _ => fun
  | [d1, d2] => { results := [.lit (.bool false)], args := [d1, d2] }
  | _ => none }
def CoverJoinsWrongFalsely : Prop := coverJoinsRow.holds Try.pinned (OpenSpec.ofChange coverJoinsWrong)

/-- 'erratumlaw03.CoverTells': WHATEVER THE INPUT: true; the input reads as it did. -/
def coverTellsSpec : ChangeSpec := { name := "coverTells", fn := fun _ => fun
  | [d1, d2] => { results := [.lit (.bool true)], args := [d1, d2] }
  | _ => none }
def coverTellsRow : OpenClaim := { program := "ytmfkcbanjlmmhaa", sum := "e3826cc29ed691cf17027ba0dbab3530ff68a3187b956b9b7d326246d4f27a92", func := "erratum/erratumlaw03.CoverTells", spec := "coverTells", unfollowed := true, recurses := true, apart := false }
def CoverTellsSaid : Prop := coverTellsRow.holds Try.pinned (OpenSpec.ofChange coverTellsSpec)

/-- ITS FALSE NEIGHBOUR: 'it returns false'. Refute it at one input. -/
def coverTellsWrong : ChangeSpec := { name := "coverTells", fn := fun _ => fun
  | [d1, d2] => { results := [.lit (.bool false)], args := [d1, d2] }
  | _ => none }
def CoverTellsWrongFalsely : Prop := coverTellsRow.holds Try.pinned (OpenSpec.ofChange coverTellsWrong)

/-- 'erratumlaw03.CoverSets': WHATEVER THE INPUT: true; the input reads as it did. -/
def coverSetsSpec : ChangeSpec := { name := "coverSets", fn := fun _ => fun
  | [d1, d2, d3] => { results := [.lit (.bool true)], args := [d1, d2, d3] }
  | _ => none }
def coverSetsRow : OpenClaim := { program := "ytmfkcbanjlmmhaa", sum := "e3826cc29ed691cf17027ba0dbab3530ff68a3187b956b9b7d326246d4f27a92", func := "erratum/erratumlaw03.CoverSets", spec := "coverSets", unfollowed := true, recurses := true, apart := false }
def CoverSetsSaid : Prop := coverSetsRow.holds Try.pinned (OpenSpec.ofChange coverSetsSpec)

/-- ITS FALSE NEIGHBOUR: 'it returns false'. Refute it at one input. -/
def coverSetsWrong : ChangeSpec := { name := "coverSets", fn := fun _ => fun
  | [d1, d2, d3] => { results := [.lit (.bool false)], args := [d1, d2, d3] }
  | _ => none }
def CoverSetsWrongFalsely : Prop := coverSetsRow.holds Try.pinned (OpenSpec.ofChange coverSetsWrong)

/-- 'erratumlaw03.CoverGaps': WHATEVER THE INPUT: true; the input reads as it did. -/
def coverGapsSpec : ChangeSpec := { name := "coverGaps", fn := fun _ => fun
  | [d1, d2] => { results := [.lit (.bool true)], args := [d1, d2] }
  | _ => none }
def coverGapsRow : OpenClaim := { program := "ytmfkcbanjlmmhaa", sum := "e3826cc29ed691cf17027ba0dbab3530ff68a3187b956b9b7d326246d4f27a92", func := "erratum/erratumlaw03.CoverGaps", spec := "coverGaps", unfollowed := true, recurses := true, apart := false }
def CoverGapsSaid : Prop := coverGapsRow.holds Try.pinned (OpenSpec.ofChange coverGapsSpec)

/-- ITS FALSE NEIGHBOUR: 'it returns false'. Refute it at one input. -/
def coverGapsWrong : ChangeSpec := { name := "coverGaps", fn := fun _ => fun
  | [d1, d2] => { results := [.lit (.bool false)], args := [d1, d2] }
  | _ => none }
def CoverGapsWrongFalsely : Prop := coverGapsRow.holds Try.pinned (OpenSpec.ofChange coverGapsWrong)

/-- 'erratumlaw03.CoverBorders': WHATEVER THE INPUT: true; the input reads as it did. -/
def coverBordersSpec : ChangeSpec := { name := "coverBorders", fn := fun _ => fun
  | [d1, d2] => { results := [.lit (.bool true)], args := [d1, d2] }
  | _ => none }
def coverBordersRow : OpenClaim := { program := "ytmfkcbanjlmmhaa", sum := "e3826cc29ed691cf17027ba0dbab3530ff68a3187b956b9b7d326246d4f27a92", func := "erratum/erratumlaw03.CoverBorders", spec := "coverBorders", unfollowed := true, recurses := true, apart := false }
def CoverBordersSaid : Prop := coverBordersRow.holds Try.pinned (OpenSpec.ofChange coverBordersSpec)

/-- ITS FALSE NEIGHBOUR: 'it returns false'. Refute it at one input. -/
def coverBordersWrong : ChangeSpec := { name := "coverBorders", fn := fun _ => fun
  | [d1, d2] => { results := [.lit (.bool false)], args := [d1, d2] }
  | _ => none }
def CoverBordersWrongFalsely : Prop := coverBordersRow.holds Try.pinned (OpenSpec.ofChange coverBordersWrong)

/- THE SECOND FORM. 'bulk': how many values and letters a reading holds, each counted each time it is reached (what is shared counts as often as it is met; a slice's spare places count too). A statement '..UptoSaid' is the law's where the arguments, and the package variables that the reading takes, are together of bulk at most 1048576: NARROWER than '..Said'. Prove '..Said' where nothing that the law and all that it calls make is longer than what came in: it says more and counts as full. Else prove '..UptoSaid'. A law counts once. -/
mutual
def uptoBulk {H : Type} : DataW H → Nat
  | .lit (.string bytes) => bytes.length + 1
  | .lit _ => 1
  | .nil => 1
  | .ptr d => uptoBulk d + 1
  | .slice elems spare => uptoBulkAll elems + uptoBulkAll spare + 1
  | .agg parts => uptoBulkAll parts + 1
  | .iface _ d => uptoBulk d + 1
  | .map entries => uptoBulkEntries entries + 1
  | .held _ => 1
def uptoBulkAll {H : Type} : List (DataW H) → Nat
  | [] => 0
  | d :: r => uptoBulk d + uptoBulkAll r
def uptoBulkEntries {H : Type} : List (Lit × DataW H) → Nat
  | [] => 0
  | x :: r => uptoBulkEntry x + uptoBulkEntries r
def uptoBulkEntry {H : Type} : Lit × DataW H → Nat
  | (.string bytes, d) => bytes.length + uptoBulk d + 1
  | (_, d) => uptoBulk d + 1
 end
def uptoSmall : (H : Type) → List (DataW H) → Bool := fun _ ds => decide (uptoBulkAll ds ≤ 1048576)
def OpenSpec.upto (s : _root_.Go.ChangeSpec) : _root_.Go.OpenSpec := { _root_.Go.OpenSpec.ofChange s with cond := some uptoSmall }

/-- 'erratumlaw03.CoverMakes', WHERE WHAT IT READS IS OF BULK AT MOST 1048576: true; the input reads as it did. -/
def coverMakesUptoRow : OpenClaim := { program := "ytmfkcbanjlmmhaa", sum := "e3826cc29ed691cf17027ba0dbab3530ff68a3187b956b9b7d326246d4f27a92", func := "erratum/erratumlaw03.CoverMakes", spec := "coverMakes", unfollowed := true, recurses := true, apart := false, narrowed := true }
def CoverMakesUptoSaid : Prop := coverMakesUptoRow.holds Try.pinned (OpenSpec.upto coverMakesSpec)

/-- 'erratumlaw03.CoverJoins', WHERE WHAT IT READS IS OF BULK AT MOST 1048576: true; the input reads as it did. -/
def coverJoinsUptoRow : OpenClaim := { program := "ytmfkcbanjlmmhaa", sum := "e3826cc29ed691cf17027ba0dbab3530ff68a3187b956b9b7d326246d4f27a92", func := "erratum/erratumlaw03.CoverJoins", spec := "coverJoins", unfollowed := true, recurses := true, apart := false, narrowed := true }
def CoverJoinsUptoSaid : Prop := coverJoinsUptoRow.holds Try.pinned (OpenSpec.upto coverJoinsSpec)

/-- 'erratumlaw03.CoverTells', WHERE WHAT IT READS IS OF BULK AT MOST 1048576: true; the input reads as it did. -/
def coverTellsUptoRow : OpenClaim := { program := "ytmfkcbanjlmmhaa", sum := "e3826cc29ed691cf17027ba0dbab3530ff68a3187b956b9b7d326246d4f27a92", func := "erratum/erratumlaw03.CoverTells", spec := "coverTells", unfollowed := true, recurses := true, apart := false, narrowed := true }
def CoverTellsUptoSaid : Prop := coverTellsUptoRow.holds Try.pinned (OpenSpec.upto coverTellsSpec)

/-- 'erratumlaw03.CoverSets', WHERE WHAT IT READS IS OF BULK AT MOST 1048576: true; the input reads as it did. -/
def coverSetsUptoRow : OpenClaim := { program := "ytmfkcbanjlmmhaa", sum := "e3826cc29ed691cf17027ba0dbab3530ff68a3187b956b9b7d326246d4f27a92", func := "erratum/erratumlaw03.CoverSets", spec := "coverSets", unfollowed := true, recurses := true, apart := false, narrowed := true }
def CoverSetsUptoSaid : Prop := coverSetsUptoRow.holds Try.pinned (OpenSpec.upto coverSetsSpec)

/-- 'erratumlaw03.CoverGaps', WHERE WHAT IT READS IS OF BULK AT MOST 1048576: true; the input reads as it did. -/
def coverGapsUptoRow : OpenClaim := { program := "ytmfkcbanjlmmhaa", sum := "e3826cc29ed691cf17027ba0dbab3530ff68a3187b956b9b7d326246d4f27a92", func := "erratum/erratumlaw03.CoverGaps", spec := "coverGaps", unfollowed := true, recurses := true, apart := false, narrowed := true }
def CoverGapsUptoSaid : Prop := coverGapsUptoRow.holds Try.pinned (OpenSpec.upto coverGapsSpec)

/-- 'erratumlaw03.CoverBorders', WHERE WHAT IT READS IS OF BULK AT MOST 1048576: true; the input reads as it did. -/
def coverBordersUptoRow : OpenClaim := { program := "ytmfkcbanjlmmhaa", sum := "e3826cc29ed691cf17027ba0dbab3530ff68a3187b956b9b7d326246d4f27a92", func := "erratum/erratumlaw03.CoverBorders", spec := "coverBorders", unfollowed := true, recurses := true, apart := false, narrowed := true }
def CoverBordersUptoSaid : Prop := coverBordersUptoRow.holds Try.pinned (OpenSpec.upto coverBordersSpec)

end Rows
end Go.Proofs.Ytmfkcbanjlmmhaa
