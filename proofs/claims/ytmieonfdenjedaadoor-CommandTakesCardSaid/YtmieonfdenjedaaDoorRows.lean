/-
  NARROWER THAN 'FOR EVERY INPUT', by the rows' own cells (each row's printed sentence says how): CommandRights: laid · CommandMakes: laid · CommandBytes: laid · CommandTakes: laid · CommandBatches: laid.
  DERIVED. THE GIVEN ROWS OF THIS SEAT. 5 by the template 'for every input the law returns true; each argument reads behind the call as it read before'; 0 by the template 'total and deterministic' (their statements: YtmieonfdenjedaaDoorTotals.lean).
  GIVEN WITH THE SEED: the statements are not yours to turn. If you find one false, say at which input.
  Laid BY PROGRAM, IN A SANDBOX (cutbox-rows.mjs): the forced cells as the released guide's own fill.sh prints them over the translation 71a40ea17439e6d2… (all of the seat's roots in one cut). By AI agents, Wed Nov 11 2026. No macro, syntax, notation, axiom, sorry.
-/
import Derived.Test.YtmieonfdenjedaaDoorChecked
import GoSem.Claim
import GoSem.ClaimJoined
import GoSem.ClaimMapViews
import Derived.JoinedTies
import Derived.KernelRfl
namespace Go.Proofs.YtmieonfdenjedaaDoor
/- THE CELL 'sum', in the pinned program and in every row, IS THE sha256 OF THE DUMP (.gsa) THAT YtmieonfdenjedaaDoorProg.lean LOADS. Nothing in Lean hashes anything: it is a label: what it is worth is what the hold of that sum in a sandbox is worth. -/
noncomputable def Tryd.pinned : Pinned := { name := "ytmieonfdenjedaadoor", sum := "71a40ea17439e6d2ffc7c7b2d6893db528b87f436afc4b18b47cab493438c2d0", checked := Tryd.checked }
namespace Rows
def none {H : Type} : Left H := { results := [], args := [] }

/- WHAT THE LISTED PACKAGE-LEVEL VARIABLES READ AS WHEN THE CALL BEGINS. Each datum BY PROGRAM (the guide's laid-datum.mjs) off the statement by which the dump's own 'gosem.cut.vars' lays the variable. In a bare row this is a premise. The card (YtmieonfdenjedaaDoorCards.lean) ties it to the program's text. -/
def laid_erratum_command_kinds {H : Type} : DataW H := .agg [.agg [.lit (.bool false), .lit (.bool false), .lit (.bool false)], .agg [.lit (.bool true), .lit (.bool false), .lit (.bool true)], .agg [.lit (.bool false), .lit (.bool true), .lit (.bool true)], .agg [.lit (.bool false), .lit (.bool true), .lit (.bool false)]]

/-- 'erratumlaw14.CommandRights': WHATEVER THE INPUT: true; the input reads as it did. -/
def commandRightsSpec : ChangeSpec := { name := "commandRights", fn := fun _ => fun
  | [d] => { results := [.lit (.bool true)], args := [d] }
  | _ => none }
def commandRightsRow : OpenClaim := { program := "ytmieonfdenjedaadoor", sum := "71a40ea17439e6d2ffc7c7b2d6893db528b87f436afc4b18b47cab493438c2d0", func := "erratum/erratumlaw14.CommandRights", spec := "commandRights", inPlace := ["internal/abi.NoEscape"], named := ["erratum/command.kinds"], apart := false, laid := [("erratum/command.kinds", laid_erratum_command_kinds)] }
def CommandRightsSaid : Prop := commandRightsRow.holds Tryd.pinned (OpenSpec.ofChange commandRightsSpec)

/-- ITS FALSE NEIGHBOUR: 'it returns false'. Refute it at one input. -/
def commandRightsWrong : ChangeSpec := { name := "commandRights", fn := fun _ => fun
  | [d] => { results := [.lit (.bool false)], args := [d] }
  | _ => none }
def CommandRightsWrongFalsely : Prop := commandRightsRow.holds Tryd.pinned (OpenSpec.ofChange commandRightsWrong)

/-- 'erratumlaw14.CommandMakes': WHATEVER THE INPUT: true; the input reads as it did. -/
def commandMakesSpec : ChangeSpec := { name := "commandMakes", fn := fun _ => fun
  | [d1, d2, d3] => { results := [.lit (.bool true)], args := [d1, d2, d3] }
  | _ => none }
def commandMakesRow : OpenClaim := { program := "ytmieonfdenjedaadoor", sum := "71a40ea17439e6d2ffc7c7b2d6893db528b87f436afc4b18b47cab493438c2d0", func := "erratum/erratumlaw14.CommandMakes", spec := "commandMakes", inPlace := ["internal/abi.NoEscape"], named := ["erratum/command.kinds"], apart := false, laid := [("erratum/command.kinds", laid_erratum_command_kinds)] }
def CommandMakesSaid : Prop := commandMakesRow.holds Tryd.pinned (OpenSpec.ofChange commandMakesSpec)

/-- ITS FALSE NEIGHBOUR: 'it returns false'. Refute it at one input. -/
def commandMakesWrong : ChangeSpec := { name := "commandMakes", fn := fun _ => fun
  | [d1, d2, d3] => { results := [.lit (.bool false)], args := [d1, d2, d3] }
  | _ => none }
def CommandMakesWrongFalsely : Prop := commandMakesRow.holds Tryd.pinned (OpenSpec.ofChange commandMakesWrong)

/-- 'erratumlaw14.CommandBytes': WHATEVER THE INPUT: true; the input reads as it did. -/
def commandBytesSpec : ChangeSpec := { name := "commandBytes", fn := fun _ => fun
  | [d1, d2] => { results := [.lit (.bool true)], args := [d1, d2] }
  | _ => none }
def commandBytesRow : OpenClaim := { program := "ytmieonfdenjedaadoor", sum := "71a40ea17439e6d2ffc7c7b2d6893db528b87f436afc4b18b47cab493438c2d0", func := "erratum/erratumlaw14.CommandBytes", spec := "commandBytes", inPlace := ["internal/abi.NoEscape"], unfollowed := true, recurses := true, named := ["erratum/command.kinds"], apart := false, laid := [("erratum/command.kinds", laid_erratum_command_kinds)] }
def CommandBytesSaid : Prop := commandBytesRow.holds Tryd.pinned (OpenSpec.ofChange commandBytesSpec)

/-- ITS FALSE NEIGHBOUR: 'it returns false'. Refute it at one input. -/
def commandBytesWrong : ChangeSpec := { name := "commandBytes", fn := fun _ => fun
  | [d1, d2] => { results := [.lit (.bool false)], args := [d1, d2] }
  | _ => none }
def CommandBytesWrongFalsely : Prop := commandBytesRow.holds Tryd.pinned (OpenSpec.ofChange commandBytesWrong)

/-- 'erratumlaw14.CommandTakes': WHATEVER THE INPUT: true; the input reads as it did. -/
def commandTakesSpec : ChangeSpec := { name := "commandTakes", fn := fun _ => fun
  | [d] => { results := [.lit (.bool true)], args := [d] }
  | _ => none }
def commandTakesRow : OpenClaim := { program := "ytmieonfdenjedaadoor", sum := "71a40ea17439e6d2ffc7c7b2d6893db528b87f436afc4b18b47cab493438c2d0", func := "erratum/erratumlaw14.CommandTakes", spec := "commandTakes", inPlace := ["internal/abi.NoEscape"], unfollowed := true, recurses := true, named := ["erratum/command.kinds"], apart := false, laid := [("erratum/command.kinds", laid_erratum_command_kinds)] }
def CommandTakesSaid : Prop := commandTakesRow.holds Tryd.pinned (OpenSpec.ofChange commandTakesSpec)

/-- ITS FALSE NEIGHBOUR: 'it returns false'. Refute it at one input. -/
def commandTakesWrong : ChangeSpec := { name := "commandTakes", fn := fun _ => fun
  | [d] => { results := [.lit (.bool false)], args := [d] }
  | _ => none }
def CommandTakesWrongFalsely : Prop := commandTakesRow.holds Tryd.pinned (OpenSpec.ofChange commandTakesWrong)

/-- 'erratumlaw14.CommandBatches': WHATEVER THE INPUT: true; the input reads as it did. -/
def commandBatchesSpec : ChangeSpec := { name := "commandBatches", fn := fun _ => fun
  | [d] => { results := [.lit (.bool true)], args := [d] }
  | _ => none }
def commandBatchesRow : OpenClaim := { program := "ytmieonfdenjedaadoor", sum := "71a40ea17439e6d2ffc7c7b2d6893db528b87f436afc4b18b47cab493438c2d0", func := "erratum/erratumlaw14.CommandBatches", spec := "commandBatches", inPlace := ["internal/abi.NoEscape"], unfollowed := true, recurses := true, named := ["erratum/command.kinds"], apart := false, laid := [("erratum/command.kinds", laid_erratum_command_kinds)] }
def CommandBatchesSaid : Prop := commandBatchesRow.holds Tryd.pinned (OpenSpec.ofChange commandBatchesSpec)

/-- ITS FALSE NEIGHBOUR: 'it returns false'. Refute it at one input. -/
def commandBatchesWrong : ChangeSpec := { name := "commandBatches", fn := fun _ => fun
  | [d] => { results := [.lit (.bool false)], args := [d] }
  | _ => none }
def CommandBatchesWrongFalsely : Prop := commandBatchesRow.holds Tryd.pinned (OpenSpec.ofChange commandBatchesWrong)

/- THE SECOND FORM. 'bulk': how many values and letters a reading holds, each counted each time it is reached (what is shared counts as often as it is met; a slice's spare places count too). A statement '..UptoSaid' is the law's where the arguments, and the package variables that the reading takes, are together of bulk at most 1048576: NARROWER than '..Said'. Prove '..Said' where nothing that the law and all that it calls make is longer than what came in: it says more and counts as full. Else prove '..UptoSaid'. A law counts once. -/
mutual
def uptoBulk {H : Type} : DataW H → Nat
  | .lit (.string bytes) => bytes.length + 1
  | .lit _ => 1
  | .nil => 1
  | .ptr d => uptoBulk d + 1
  | .slice elems spare => uptoBulkAll elems + uptoBulkAll spare + 1
  | .agg parts => uptoBulkAll parts + 1
  | .iface _ d => uptoBulk d + 1
  | .map entries => uptoBulkEntries entries + 1
  | .held _ => 1
def uptoBulkAll {H : Type} : List (DataW H) → Nat
  | [] => 0
  | d :: r => uptoBulk d + uptoBulkAll r
def uptoBulkEntries {H : Type} : List (Lit × DataW H) → Nat
  | [] => 0
  | x :: r => uptoBulkEntry x + uptoBulkEntries r
def uptoBulkEntry {H : Type} : Lit × DataW H → Nat
  | (.string bytes, d) => bytes.length + uptoBulk d + 1
  | (_, d) => uptoBulk d + 1
 end
def uptoSmall : (H : Type) → List (DataW H) → Bool := fun _ ds => decide (uptoBulkAll ds ≤ 1048576)
def OpenSpec.upto (s : _root_.Go.ChangeSpec) : _root_.Go.OpenSpec := { _root_.Go.OpenSpec.ofChange s with cond := some uptoSmall }

/-- 'erratumlaw14.CommandRights', WHERE WHAT IT READS IS OF BULK AT MOST 1048576: true; the input reads as it did. -/
def commandRightsUptoRow : OpenClaim := { program := "ytmieonfdenjedaadoor", sum := "71a40ea17439e6d2ffc7c7b2d6893db528b87f436afc4b18b47cab493438c2d0", func := "erratum/erratumlaw14.CommandRights", spec := "commandRights", inPlace := ["internal/abi.NoEscape"], named := ["erratum/command.kinds"], apart := false, laid := [("erratum/command.kinds", laid_erratum_command_kinds)], narrowed := true }
def CommandRightsUptoSaid : Prop := commandRightsUptoRow.holds Tryd.pinned (OpenSpec.upto commandRightsSpec)

/-- 'erratumlaw14.CommandMakes', WHERE WHAT IT READS IS OF BULK AT MOST 1048576: true; the input reads as it did. -/
def commandMakesUptoRow : OpenClaim := { program := "ytmieonfdenjedaadoor", sum := "71a40ea17439e6d2ffc7c7b2d6893db528b87f436afc4b18b47cab493438c2d0", func := "erratum/erratumlaw14.CommandMakes", spec := "commandMakes", inPlace := ["internal/abi.NoEscape"], named := ["erratum/command.kinds"], apart := false, laid := [("erratum/command.kinds", laid_erratum_command_kinds)], narrowed := true }
def CommandMakesUptoSaid : Prop := commandMakesUptoRow.holds Tryd.pinned (OpenSpec.upto commandMakesSpec)

/-- 'erratumlaw14.CommandBytes', WHERE WHAT IT READS IS OF BULK AT MOST 1048576: true; the input reads as it did. -/
def commandBytesUptoRow : OpenClaim := { program := "ytmieonfdenjedaadoor", sum := "71a40ea17439e6d2ffc7c7b2d6893db528b87f436afc4b18b47cab493438c2d0", func := "erratum/erratumlaw14.CommandBytes", spec := "commandBytes", inPlace := ["internal/abi.NoEscape"], unfollowed := true, recurses := true, named := ["erratum/command.kinds"], apart := false, laid := [("erratum/command.kinds", laid_erratum_command_kinds)], narrowed := true }
def CommandBytesUptoSaid : Prop := commandBytesUptoRow.holds Tryd.pinned (OpenSpec.upto commandBytesSpec)

/-- 'erratumlaw14.CommandTakes', WHERE WHAT IT READS IS OF BULK AT MOST 1048576: true; the input reads as it did. -/
def commandTakesUptoRow : OpenClaim := { program := "ytmieonfdenjedaadoor", sum := "71a40ea17439e6d2ffc7c7b2d6893db528b87f436afc4b18b47cab493438c2d0", func := "erratum/erratumlaw14.CommandTakes", spec := "commandTakes", inPlace := ["internal/abi.NoEscape"], unfollowed := true, recurses := true, named := ["erratum/command.kinds"], apart := false, laid := [("erratum/command.kinds", laid_erratum_command_kinds)], narrowed := true }
def CommandTakesUptoSaid : Prop := commandTakesUptoRow.holds Tryd.pinned (OpenSpec.upto commandTakesSpec)

/-- 'erratumlaw14.CommandBatches', WHERE WHAT IT READS IS OF BULK AT MOST 1048576: true; the input reads as it did. -/
def commandBatchesUptoRow : OpenClaim := { program := "ytmieonfdenjedaadoor", sum := "71a40ea17439e6d2ffc7c7b2d6893db528b87f436afc4b18b47cab493438c2d0", func := "erratum/erratumlaw14.CommandBatches", spec := "commandBatches", inPlace := ["internal/abi.NoEscape"], unfollowed := true, recurses := true, named := ["erratum/command.kinds"], apart := false, laid := [("erratum/command.kinds", laid_erratum_command_kinds)], narrowed := true }
def CommandBatchesUptoSaid : Prop := commandBatchesUptoRow.holds Tryd.pinned (OpenSpec.upto commandBatchesSpec)

end Rows
end Go.Proofs.YtmieonfdenjedaaDoor
