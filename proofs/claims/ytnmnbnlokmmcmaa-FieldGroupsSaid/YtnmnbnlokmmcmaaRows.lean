/-
  No cell of these rows narrows 'for every input' (looked for: loops, veiled, ifaces, maps, wideKeys, modest, calm, conditions, laid).
  DERIVED. THE GIVEN ROWS OF THIS SEAT. 6 by the template 'for every input the law returns true; each argument reads behind the call as it read before'; 0 by the template 'total and deterministic' (their statements: YtnmnbnlokmmcmaaTotals.lean).
  GIVEN WITH THE SEED: the statements are not yours to turn. If you find one false, say at which input.
  Laid BY PROGRAM, IN A SANDBOX (cutbox-rows.mjs): the forced cells as the released guide's own fill.sh prints them over the translation 78e25465ac079088… (all of the seat's roots in one cut). By AI agents, Wed Nov 11 2026. No macro, syntax, notation, axiom, sorry.
-/
import Derived.Test.YtnmnbnlokmmcmaaChecked
import GoSem.Claim
import GoSem.ClaimJoined
import GoSem.ClaimMapViews
import Derived.JoinedTies
import Derived.KernelRfl
namespace Go.Proofs.Ytnmnbnlokmmcmaa
/- THE CELL 'sum', in the pinned program and in every row, IS THE sha256 OF THE DUMP (.gsa) THAT YtnmnbnlokmmcmaaProg.lean LOADS. Nothing in Lean hashes anything: it is a label: what it is worth is what the hold of that sum in a sandbox is worth. -/
noncomputable def Try.pinned : Pinned := { name := "ytnmnbnlokmmcmaa", sum := "78e25465ac079088b7c4d2a88d2565771bcedde19f74e210a695a33da2716ed1", checked := Try.checked }
namespace Rows
def none {H : Type} : Left H := { results := [], args := [] }

/-- 'erratumlaw07.FieldRights': WHATEVER THE INPUT: true; the input reads as it did. -/
def fieldRightsSpec : ChangeSpec := { name := "fieldRights", fn := fun _ => fun
  | [d1, d2] => { results := [.lit (.bool true)], args := [d1, d2] }
  | _ => none }
def fieldRightsRow : OpenClaim := { program := "ytnmnbnlokmmcmaa", sum := "78e25465ac079088b7c4d2a88d2565771bcedde19f74e210a695a33da2716ed1", func := "erratum/erratumlaw07.FieldRights", spec := "fieldRights", inPlace := ["internal/bytealg.abigen_runtime_cmpstring", "internal/abi.NoEscape"], unfollowed := true, recurses := true, apart := false }
def FieldRightsSaid : Prop := fieldRightsRow.holds Try.pinned (OpenSpec.ofChange fieldRightsSpec)

/-- ITS FALSE NEIGHBOUR: 'it returns false'. Refute it at one input. -/
def fieldRightsWrong : ChangeSpec := { name := "fieldRights", fn := fun _ => fun
  | [d1, d2] => { results := [.lit (.bool false)], args := [d1, d2] }
  | _ => none }
def FieldRightsWrongFalsely : Prop := fieldRightsRow.holds Try.pinned (OpenSpec.ofChange fieldRightsWrong)

/-- 'erratumlaw07.FieldGets': WHATEVER THE INPUT: true; the input reads as it did. -/
def fieldGetsSpec : ChangeSpec := { name := "fieldGets", fn := fun _ => fun
  | [d1, d2, d3] => { results := [.lit (.bool true)], args := [d1, d2, d3] }
  | _ => none }
def fieldGetsRow : OpenClaim := { program := "ytnmnbnlokmmcmaa", sum := "78e25465ac079088b7c4d2a88d2565771bcedde19f74e210a695a33da2716ed1", func := "erratum/erratumlaw07.FieldGets", spec := "fieldGets", inPlace := ["internal/bytealg.abigen_runtime_cmpstring", "internal/abi.NoEscape"], unfollowed := true, recurses := true, apart := false }
def FieldGetsSaid : Prop := fieldGetsRow.holds Try.pinned (OpenSpec.ofChange fieldGetsSpec)

/-- ITS FALSE NEIGHBOUR: 'it returns false'. Refute it at one input. -/
def fieldGetsWrong : ChangeSpec := { name := "fieldGets", fn := fun _ => fun
  | [d1, d2, d3] => { results := [.lit (.bool false)], args := [d1, d2, d3] }
  | _ => none }
def FieldGetsWrongFalsely : Prop := fieldGetsRow.holds Try.pinned (OpenSpec.ofChange fieldGetsWrong)

/-- 'erratumlaw07.FieldOvers': WHATEVER THE INPUT: true; the input reads as it did. -/
def fieldOversSpec : ChangeSpec := { name := "fieldOvers", fn := fun _ => fun
  | [d] => { results := [.lit (.bool true)], args := [d] }
  | _ => none }
def fieldOversRow : OpenClaim := { program := "ytnmnbnlokmmcmaa", sum := "78e25465ac079088b7c4d2a88d2565771bcedde19f74e210a695a33da2716ed1", func := "erratum/erratumlaw07.FieldOvers", spec := "fieldOvers", inPlace := ["internal/bytealg.abigen_runtime_cmpstring", "internal/abi.NoEscape"], unfollowed := true, recurses := true, apart := false }
def FieldOversSaid : Prop := fieldOversRow.holds Try.pinned (OpenSpec.ofChange fieldOversSpec)

/-- ITS FALSE NEIGHBOUR: 'it returns false'. Refute it at one input. -/
def fieldOversWrong : ChangeSpec := { name := "fieldOvers", fn := fun _ => fun
  | [d] => { results := [.lit (.bool false)], args := [d] }
  | _ => none }
def FieldOversWrongFalsely : Prop := fieldOversRow.holds Try.pinned (OpenSpec.ofChange fieldOversWrong)

/-- 'erratumlaw07.FieldGroups': WHATEVER THE INPUT: true; the input reads as it did. -/
def fieldGroupsSpec : ChangeSpec := { name := "fieldGroups", fn := fun _ => fun
  | [d1, d2, d3] => { results := [.lit (.bool true)], args := [d1, d2, d3] }
  | _ => none }
def fieldGroupsRow : OpenClaim := { program := "ytnmnbnlokmmcmaa", sum := "78e25465ac079088b7c4d2a88d2565771bcedde19f74e210a695a33da2716ed1", func := "erratum/erratumlaw07.FieldGroups", spec := "fieldGroups", inPlace := ["internal/bytealg.abigen_runtime_cmpstring", "internal/abi.NoEscape"], unfollowed := true, recurses := true, apart := false }
def FieldGroupsSaid : Prop := fieldGroupsRow.holds Try.pinned (OpenSpec.ofChange fieldGroupsSpec)

/-- ITS FALSE NEIGHBOUR: 'it returns false'. Refute it at one input. -/
def fieldGroupsWrong : ChangeSpec := { name := "fieldGroups", fn := fun _ => fun
  | [d1, d2, d3] => { results := [.lit (.bool false)], args := [d1, d2, d3] }
  | _ => none }
def FieldGroupsWrongFalsely : Prop := fieldGroupsRow.holds Try.pinned (OpenSpec.ofChange fieldGroupsWrong)

/-- 'erratumlaw07.FieldBytes': WHATEVER THE INPUT: true; the input reads as it did. -/
def fieldBytesSpec : ChangeSpec := { name := "fieldBytes", fn := fun _ => fun
  | [d1, d2] => { results := [.lit (.bool true)], args := [d1, d2] }
  | _ => none }
def fieldBytesRow : OpenClaim := { program := "ytnmnbnlokmmcmaa", sum := "78e25465ac079088b7c4d2a88d2565771bcedde19f74e210a695a33da2716ed1", func := "erratum/erratumlaw07.FieldBytes", spec := "fieldBytes", inPlace := ["internal/bytealg.abigen_runtime_cmpstring", "internal/abi.NoEscape"], unfollowed := true, recurses := true, apart := false }
def FieldBytesSaid : Prop := fieldBytesRow.holds Try.pinned (OpenSpec.ofChange fieldBytesSpec)

/-- ITS FALSE NEIGHBOUR: 'it returns false'. Refute it at one input. -/
def fieldBytesWrong : ChangeSpec := { name := "fieldBytes", fn := fun _ => fun
  | [d1, d2] => { results := [.lit (.bool false)], args := [d1, d2] }
  | _ => none }
def FieldBytesWrongFalsely : Prop := fieldBytesRow.holds Try.pinned (OpenSpec.ofChange fieldBytesWrong)

/-- 'erratumlaw07.FieldTakes': WHATEVER THE INPUT: true; the input reads as it did. -/
def fieldTakesSpec : ChangeSpec := { name := "fieldTakes", fn := fun _ => fun
  | [d] => { results := [.lit (.bool true)], args := [d] }
  | _ => none }
def fieldTakesRow : OpenClaim := { program := "ytnmnbnlokmmcmaa", sum := "78e25465ac079088b7c4d2a88d2565771bcedde19f74e210a695a33da2716ed1", func := "erratum/erratumlaw07.FieldTakes", spec := "fieldTakes", inPlace := ["internal/bytealg.abigen_runtime_cmpstring", "internal/abi.NoEscape"], unfollowed := true, recurses := true, apart := false }
def FieldTakesSaid : Prop := fieldTakesRow.holds Try.pinned (OpenSpec.ofChange fieldTakesSpec)

/-- ITS FALSE NEIGHBOUR: 'it returns false'. Refute it at one input. -/
def fieldTakesWrong : ChangeSpec := { name := "fieldTakes", fn := fun _ => fun
  | [d] => { results := [.lit (.bool false)], args := [d] }
  | _ => none }
def FieldTakesWrongFalsely : Prop := fieldTakesRow.holds Try.pinned (OpenSpec.ofChange fieldTakesWrong)

/- THE SECOND FORM. 'bulk': how many values and letters a reading holds, each counted each time it is reached (what is shared counts as often as it is met; a slice's spare places count too). A statement '..UptoSaid' is the law's where the arguments, and the package variables that the reading takes, are together of bulk at most 1048576: NARROWER than '..Said'. Prove '..Said' where nothing that the law and all that it calls make is longer than what came in: it says more and counts as full. Else prove '..UptoSaid'. A law counts once. -/
mutual
def uptoBulk {H : Type} : DataW H → Nat
  | .lit (.string bytes) => bytes.length + 1
  | .lit _ => 1
  | .nil => 1
  | .ptr d => uptoBulk d + 1
  | .slice elems spare => uptoBulkAll elems + uptoBulkAll spare + 1
  | .agg parts => uptoBulkAll parts + 1
  | .iface _ d => uptoBulk d + 1
  | .map entries => uptoBulkEntries entries + 1
  | .held _ => 1
def uptoBulkAll {H : Type} : List (DataW H) → Nat
  | [] => 0
  | d :: r => uptoBulk d + uptoBulkAll r
def uptoBulkEntries {H : Type} : List (Lit × DataW H) → Nat
  | [] => 0
  | x :: r => uptoBulkEntry x + uptoBulkEntries r
def uptoBulkEntry {H : Type} : Lit × DataW H → Nat
  | (.string bytes, d) => bytes.length + uptoBulk d + 1
  | (_, d) => uptoBulk d + 1
 end
def uptoSmall : (H : Type) → List (DataW H) → Bool := fun _ ds => decide (uptoBulkAll ds ≤ 1048576)
def OpenSpec.upto (s : _root_.Go.ChangeSpec) : _root_.Go.OpenSpec := { _root_.Go.OpenSpec.ofChange s with cond := some uptoSmall }

/-- 'erratumlaw07.FieldRights', WHERE WHAT IT READS IS OF BULK AT MOST 1048576: true; the input reads as it did. -/
def fieldRightsUptoRow : OpenClaim := { program := "ytnmnbnlokmmcmaa", sum := "78e25465ac079088b7c4d2a88d2565771bcedde19f74e210a695a33da2716ed1", func := "erratum/erratumlaw07.FieldRights", spec := "fieldRights", inPlace := ["internal/bytealg.abigen_runtime_cmpstring", "internal/abi.NoEscape"], unfollowed := true, recurses := true, apart := false, narrowed := true }
def FieldRightsUptoSaid : Prop := fieldRightsUptoRow.holds Try.pinned (OpenSpec.upto fieldRightsSpec)

/-- 'erratumlaw07.FieldGets', WHERE WHAT IT READS IS OF BULK AT MOST 1048576: true; the input reads as it did. -/
def fieldGetsUptoRow : OpenClaim := { program := "ytnmnbnlokmmcmaa", sum := "78e25465ac079088b7c4d2a88d2565771bcedde19f74e210a695a33da2716ed1", func := "erratum/erratumlaw07.FieldGets", spec := "fieldGets", inPlace := ["internal/bytealg.abigen_runtime_cmpstring", "internal/abi.NoEscape"], unfollowed := true, recurses := true, apart := false, narrowed := true }
def FieldGetsUptoSaid : Prop := fieldGetsUptoRow.holds Try.pinned (OpenSpec.upto fieldGetsSpec)

/-- 'erratumlaw07.FieldOvers', WHERE WHAT IT READS IS OF BULK AT MOST 1048576: true; the input reads as it did. -/
def fieldOversUptoRow : OpenClaim := { program := "ytnmnbnlokmmcmaa", sum := "78e25465ac079088b7c4d2a88d2565771bcedde19f74e210a695a33da2716ed1", func := "erratum/erratumlaw07.FieldOvers", spec := "fieldOvers", inPlace := ["internal/bytealg.abigen_runtime_cmpstring", "internal/abi.NoEscape"], unfollowed := true, recurses := true, apart := false, narrowed := true }
def FieldOversUptoSaid : Prop := fieldOversUptoRow.holds Try.pinned (OpenSpec.upto fieldOversSpec)

/-- 'erratumlaw07.FieldGroups', WHERE WHAT IT READS IS OF BULK AT MOST 1048576: true; the input reads as it did. -/
def fieldGroupsUptoRow : OpenClaim := { program := "ytnmnbnlokmmcmaa", sum := "78e25465ac079088b7c4d2a88d2565771bcedde19f74e210a695a33da2716ed1", func := "erratum/erratumlaw07.FieldGroups", spec := "fieldGroups", inPlace := ["internal/bytealg.abigen_runtime_cmpstring", "internal/abi.NoEscape"], unfollowed := true, recurses := true, apart := false, narrowed := true }
def FieldGroupsUptoSaid : Prop := fieldGroupsUptoRow.holds Try.pinned (OpenSpec.upto fieldGroupsSpec)

/-- 'erratumlaw07.FieldBytes', WHERE WHAT IT READS IS OF BULK AT MOST 1048576: true; the input reads as it did. -/
def fieldBytesUptoRow : OpenClaim := { program := "ytnmnbnlokmmcmaa", sum := "78e25465ac079088b7c4d2a88d2565771bcedde19f74e210a695a33da2716ed1", func := "erratum/erratumlaw07.FieldBytes", spec := "fieldBytes", inPlace := ["internal/bytealg.abigen_runtime_cmpstring", "internal/abi.NoEscape"], unfollowed := true, recurses := true, apart := false, narrowed := true }
def FieldBytesUptoSaid : Prop := fieldBytesUptoRow.holds Try.pinned (OpenSpec.upto fieldBytesSpec)

/-- 'erratumlaw07.FieldTakes', WHERE WHAT IT READS IS OF BULK AT MOST 1048576: true; the input reads as it did. -/
def fieldTakesUptoRow : OpenClaim := { program := "ytnmnbnlokmmcmaa", sum := "78e25465ac079088b7c4d2a88d2565771bcedde19f74e210a695a33da2716ed1", func := "erratum/erratumlaw07.FieldTakes", spec := "fieldTakes", inPlace := ["internal/bytealg.abigen_runtime_cmpstring", "internal/abi.NoEscape"], unfollowed := true, recurses := true, apart := false, narrowed := true }
def FieldTakesUptoSaid : Prop := fieldTakesUptoRow.holds Try.pinned (OpenSpec.upto fieldTakesSpec)

end Rows
end Go.Proofs.Ytnmnbnlokmmcmaa
