/-
  No cell of these rows narrows 'for every input' (looked for: loops, veiled, ifaces, maps, wideKeys, modest, calm, conditions, laid).
  DERIVED. THE GIVEN ROWS OF THIS SEAT. 4 by the template 'for every input the law returns true; each argument reads behind the call as it read before'; 0 by the template 'total and deterministic' (their statements: YtepjhkcnhahhiaaTotals.lean).
  GIVEN WITH THE SEED: the statements are not yours to turn. If you find one false, say at which input.
  Laid BY PROGRAM, IN A SANDBOX (cutbox-rows.mjs): the forced cells as the released guide's own fill.sh prints them over the translation 76522ec0ea6ae899… (all of the seat's roots in one cut). By AI agents, Wed Nov 11 2026. No macro, syntax, notation, axiom, sorry.
-/
import Derived.Test.YtepjhkcnhahhiaaChecked
import GoSem.Claim
import GoSem.ClaimJoined
import GoSem.ClaimMapViews
import Derived.JoinedTies
import Derived.KernelRfl
namespace Go.Proofs.Ytepjhkcnhahhiaa
/- THE CELL 'sum', in the pinned program and in every row, IS THE sha256 OF THE DUMP (.gsa) THAT YtepjhkcnhahhiaaProg.lean LOADS. Nothing in Lean hashes anything: it is a label: what it is worth is what the hold of that sum in a sandbox is worth. -/
noncomputable def Try.pinned : Pinned := { name := "ytepjhkcnhahhiaa", sum := "76522ec0ea6ae899041b6fdc525058042fd0ea25479262b2a6f7d64ca4d670a1", checked := Try.checked }
namespace Rows
def none {H : Type} : Left H := { results := [], args := [] }

/-- 'erratumlaw09.VersionRights': WHATEVER THE INPUT: true; the input reads as it did. -/
def versionRightsSpec : ChangeSpec := { name := "versionRights", fn := fun _ => fun
  | [d1, d2] => { results := [.lit (.bool true)], args := [d1, d2] }
  | _ => none }
def versionRightsRow : OpenClaim := { program := "ytepjhkcnhahhiaa", sum := "76522ec0ea6ae899041b6fdc525058042fd0ea25479262b2a6f7d64ca4d670a1", func := "erratum/erratumlaw09.VersionRights", spec := "versionRights", inPlace := ["internal/abi.NoEscape"], apart := false }
def VersionRightsSaid : Prop := versionRightsRow.holds Try.pinned (OpenSpec.ofChange versionRightsSpec)

/-- ITS FALSE NEIGHBOUR: 'it returns false'. Refute it at one input. -/
def versionRightsWrong : ChangeSpec := { name := "versionRights", fn := fun _ => fun
  | [d1, d2] => { results := [.lit (.bool false)], args := [d1, d2] }
  | _ => none }
def VersionRightsWrongFalsely : Prop := versionRightsRow.holds Try.pinned (OpenSpec.ofChange versionRightsWrong)

/-- 'erratumlaw09.VersionStands': WHATEVER THE INPUT: true; the input reads as it did. -/
def versionStandsSpec : ChangeSpec := { name := "versionStands", fn := fun _ => fun
  | [d1, d2, d3] => { results := [.lit (.bool true)], args := [d1, d2, d3] }
  | _ => none }
def versionStandsRow : OpenClaim := { program := "ytepjhkcnhahhiaa", sum := "76522ec0ea6ae899041b6fdc525058042fd0ea25479262b2a6f7d64ca4d670a1", func := "erratum/erratumlaw09.VersionStands", spec := "versionStands", inPlace := ["internal/bytealg.abigen_runtime_cmpstring", "internal/abi.NoEscape"], apart := false }
def VersionStandsSaid : Prop := versionStandsRow.holds Try.pinned (OpenSpec.ofChange versionStandsSpec)

/-- ITS FALSE NEIGHBOUR: 'it returns false'. Refute it at one input. -/
def versionStandsWrong : ChangeSpec := { name := "versionStands", fn := fun _ => fun
  | [d1, d2, d3] => { results := [.lit (.bool false)], args := [d1, d2, d3] }
  | _ => none }
def VersionStandsWrongFalsely : Prop := versionStandsRow.holds Try.pinned (OpenSpec.ofChange versionStandsWrong)

/-- 'erratumlaw09.VersionBytes': WHATEVER THE INPUT: true; the input reads as it did. -/
def versionBytesSpec : ChangeSpec := { name := "versionBytes", fn := fun _ => fun
  | [d1, d2] => { results := [.lit (.bool true)], args := [d1, d2] }
  | _ => none }
def versionBytesRow : OpenClaim := { program := "ytepjhkcnhahhiaa", sum := "76522ec0ea6ae899041b6fdc525058042fd0ea25479262b2a6f7d64ca4d670a1", func := "erratum/erratumlaw09.VersionBytes", spec := "versionBytes", inPlace := ["internal/abi.NoEscape"], unfollowed := true, recurses := true, apart := false }
def VersionBytesSaid : Prop := versionBytesRow.holds Try.pinned (OpenSpec.ofChange versionBytesSpec)

/-- ITS FALSE NEIGHBOUR: 'it returns false'. Refute it at one input. -/
def versionBytesWrong : ChangeSpec := { name := "versionBytes", fn := fun _ => fun
  | [d1, d2] => { results := [.lit (.bool false)], args := [d1, d2] }
  | _ => none }
def VersionBytesWrongFalsely : Prop := versionBytesRow.holds Try.pinned (OpenSpec.ofChange versionBytesWrong)

/-- 'erratumlaw09.VersionRows': WHATEVER THE INPUT: true; the input reads as it did. -/
def versionRowsSpec : ChangeSpec := { name := "versionRows", fn := fun _ => fun
  | [d1, d2] => { results := [.lit (.bool true)], args := [d1, d2] }
  | _ => none }
def versionRowsRow : OpenClaim := { program := "ytepjhkcnhahhiaa", sum := "76522ec0ea6ae899041b6fdc525058042fd0ea25479262b2a6f7d64ca4d670a1", func := "erratum/erratumlaw09.VersionRows", spec := "versionRows", inPlace := ["internal/abi.NoEscape"], unfollowed := true, recurses := true, apart := false }
def VersionRowsSaid : Prop := versionRowsRow.holds Try.pinned (OpenSpec.ofChange versionRowsSpec)

/-- ITS FALSE NEIGHBOUR: 'it returns false'. Refute it at one input. -/
def versionRowsWrong : ChangeSpec := { name := "versionRows", fn := fun _ => fun
  | [d1, d2] => { results := [.lit (.bool false)], args := [d1, d2] }
  | _ => none }
def VersionRowsWrongFalsely : Prop := versionRowsRow.holds Try.pinned (OpenSpec.ofChange versionRowsWrong)

/- THE SECOND FORM. 'bulk': how many values and letters a reading holds, each counted each time it is reached (what is shared counts as often as it is met; a slice's spare places count too). A statement '..UptoSaid' is the law's where the arguments, and the package variables that the reading takes, are together of bulk at most 1048576: NARROWER than '..Said'. Prove '..Said' where nothing that the law and all that it calls make is longer than what came in: it says more and counts as full. Else prove '..UptoSaid'. A law counts once. -/
mutual
def uptoBulk {H : Type} : DataW H → Nat
  | .lit (.string bytes) => bytes.length + 1
  | .lit _ => 1
  | .nil => 1
  | .ptr d => uptoBulk d + 1
  | .slice elems spare => uptoBulkAll elems + uptoBulkAll spare + 1
  | .agg parts => uptoBulkAll parts + 1
  | .iface _ d => uptoBulk d + 1
  | .map entries => uptoBulkEntries entries + 1
  | .held _ => 1
def uptoBulkAll {H : Type} : List (DataW H) → Nat
  | [] => 0
  | d :: r => uptoBulk d + uptoBulkAll r
def uptoBulkEntries {H : Type} : List (Lit × DataW H) → Nat
  | [] => 0
  | x :: r => uptoBulkEntry x + uptoBulkEntries r
def uptoBulkEntry {H : Type} : Lit × DataW H → Nat
  | (.string bytes, d) => bytes.length + uptoBulk d + 1
  | (_, d) => uptoBulk d + 1
 end
def uptoSmall : (H : Type) → List (DataW H) → Bool := fun _ ds => decide (uptoBulkAll ds ≤ 1048576)
def OpenSpec.upto (s : _root_.Go.ChangeSpec) : _root_.Go.OpenSpec := { _root_.Go.OpenSpec.ofChange s with cond := some uptoSmall }

/-- 'erratumlaw09.VersionRights', WHERE WHAT IT READS IS OF BULK AT MOST 1048576: true; the input reads as it did. -/
def versionRightsUptoRow : OpenClaim := { program := "ytepjhkcnhahhiaa", sum := "76522ec0ea6ae899041b6fdc525058042fd0ea25479262b2a6f7d64ca4d670a1", func := "erratum/erratumlaw09.VersionRights", spec := "versionRights", inPlace := ["internal/abi.NoEscape"], apart := false, narrowed := true }
def VersionRightsUptoSaid : Prop := versionRightsUptoRow.holds Try.pinned (OpenSpec.upto versionRightsSpec)

/-- 'erratumlaw09.VersionStands', WHERE WHAT IT READS IS OF BULK AT MOST 1048576: true; the input reads as it did. -/
def versionStandsUptoRow : OpenClaim := { program := "ytepjhkcnhahhiaa", sum := "76522ec0ea6ae899041b6fdc525058042fd0ea25479262b2a6f7d64ca4d670a1", func := "erratum/erratumlaw09.VersionStands", spec := "versionStands", inPlace := ["internal/bytealg.abigen_runtime_cmpstring", "internal/abi.NoEscape"], apart := false, narrowed := true }
def VersionStandsUptoSaid : Prop := versionStandsUptoRow.holds Try.pinned (OpenSpec.upto versionStandsSpec)

/-- 'erratumlaw09.VersionBytes', WHERE WHAT IT READS IS OF BULK AT MOST 1048576: true; the input reads as it did. -/
def versionBytesUptoRow : OpenClaim := { program := "ytepjhkcnhahhiaa", sum := "76522ec0ea6ae899041b6fdc525058042fd0ea25479262b2a6f7d64ca4d670a1", func := "erratum/erratumlaw09.VersionBytes", spec := "versionBytes", inPlace := ["internal/abi.NoEscape"], unfollowed := true, recurses := true, apart := false, narrowed := true }
def VersionBytesUptoSaid : Prop := versionBytesUptoRow.holds Try.pinned (OpenSpec.upto versionBytesSpec)

/-- 'erratumlaw09.VersionRows', WHERE WHAT IT READS IS OF BULK AT MOST 1048576: true; the input reads as it did. -/
def versionRowsUptoRow : OpenClaim := { program := "ytepjhkcnhahhiaa", sum := "76522ec0ea6ae899041b6fdc525058042fd0ea25479262b2a6f7d64ca4d670a1", func := "erratum/erratumlaw09.VersionRows", spec := "versionRows", inPlace := ["internal/abi.NoEscape"], unfollowed := true, recurses := true, apart := false, narrowed := true }
def VersionRowsUptoSaid : Prop := versionRowsUptoRow.holds Try.pinned (OpenSpec.upto versionRowsSpec)

end Rows
end Go.Proofs.Ytepjhkcnhahhiaa
