/-
  No cell of these rows narrows 'for every input' (looked for: loops, veiled, ifaces, maps, wideKeys, modest, calm, conditions, laid).
  DERIVED. THE GIVEN ROWS OF THIS SEAT. 6 by the template 'for every input the law returns true; each argument reads behind the call as it read before'; 0 by the template 'total and deterministic' (their statements: YthbnaomhgmokkaaTotals.lean).
  GIVEN WITH THE SEED: the statements are not yours to turn. If you find one false, say at which input.
  Laid BY PROGRAM, IN A SANDBOX (cutbox-rows.mjs): the forced cells as the released guide's own fill.sh prints them over the translation f6f59f8fcf56cfeb… (all of the seat's roots in one cut). By AI agents, Wed Nov 11 2026. No macro, syntax, notation, axiom, sorry.
-/
import Derived.Test.YthbnaomhgmokkaaChecked
import GoSem.Claim
import GoSem.ClaimJoined
import GoSem.ClaimMapViews
import Derived.JoinedTies
import Derived.KernelRfl
namespace Go.Proofs.Ythbnaomhgmokkaa
/- THE CELL 'sum', in the pinned program and in every row, IS THE sha256 OF THE DUMP (.gsa) THAT YthbnaomhgmokkaaProg.lean LOADS. Nothing in Lean hashes anything: it is a label: what it is worth is what the hold of that sum in a sandbox is worth. -/
noncomputable def Try.pinned : Pinned := { name := "ythbnaomhgmokkaa", sum := "f6f59f8fcf56cfeb91f4828aebc7f388890cd960e0b550fde9016a4aef8cc692", checked := Try.checked }
namespace Rows
def none {H : Type} : Left H := { results := [], args := [] }

/-- 'erratumlaw05.SortkeyInts': WHATEVER THE INPUT: true; the input reads as it did. -/
def sortkeyIntsSpec : ChangeSpec := { name := "sortkeyInts", fn := fun _ => fun
  | [d1, d2, d3] => { results := [.lit (.bool true)], args := [d1, d2, d3] }
  | _ => none }
def sortkeyIntsRow : OpenClaim := { program := "ythbnaomhgmokkaa", sum := "f6f59f8fcf56cfeb91f4828aebc7f388890cd960e0b550fde9016a4aef8cc692", func := "erratum/erratumlaw05.SortkeyInts", spec := "sortkeyInts", inPlace := ["internal/abi.NoEscape"], apart := false }
def SortkeyIntsSaid : Prop := sortkeyIntsRow.holds Try.pinned (OpenSpec.ofChange sortkeyIntsSpec)

/-- ITS FALSE NEIGHBOUR: 'it returns false'. Refute it at one input. -/
def sortkeyIntsWrong : ChangeSpec := { name := "sortkeyInts", fn := fun _ => fun
  | [d1, d2, d3] => { results := [.lit (.bool false)], args := [d1, d2, d3] }
  | _ => none }
def SortkeyIntsWrongFalsely : Prop := sortkeyIntsRow.holds Try.pinned (OpenSpec.ofChange sortkeyIntsWrong)

/-- 'erratumlaw05.SortkeyTexts': WHATEVER THE INPUT: true; the input reads as it did. -/
def sortkeyTextsSpec : ChangeSpec := { name := "sortkeyTexts", fn := fun _ => fun
  | [d1, d2, d3] => { results := [.lit (.bool true)], args := [d1, d2, d3] }
  | _ => none }
def sortkeyTextsRow : OpenClaim := { program := "ythbnaomhgmokkaa", sum := "f6f59f8fcf56cfeb91f4828aebc7f388890cd960e0b550fde9016a4aef8cc692", func := "erratum/erratumlaw05.SortkeyTexts", spec := "sortkeyTexts", inPlace := ["internal/abi.NoEscape"], apart := false }
def SortkeyTextsSaid : Prop := sortkeyTextsRow.holds Try.pinned (OpenSpec.ofChange sortkeyTextsSpec)

/-- ITS FALSE NEIGHBOUR: 'it returns false'. Refute it at one input. -/
def sortkeyTextsWrong : ChangeSpec := { name := "sortkeyTexts", fn := fun _ => fun
  | [d1, d2, d3] => { results := [.lit (.bool false)], args := [d1, d2, d3] }
  | _ => none }
def SortkeyTextsWrongFalsely : Prop := sortkeyTextsRow.holds Try.pinned (OpenSpec.ofChange sortkeyTextsWrong)

/-- 'erratumlaw05.SortkeyTakes': WHATEVER THE INPUT: true; the input reads as it did. -/
def sortkeyTakesSpec : ChangeSpec := { name := "sortkeyTakes", fn := fun _ => fun
  | [d] => { results := [.lit (.bool true)], args := [d] }
  | _ => none }
def sortkeyTakesRow : OpenClaim := { program := "ythbnaomhgmokkaa", sum := "f6f59f8fcf56cfeb91f4828aebc7f388890cd960e0b550fde9016a4aef8cc692", func := "erratum/erratumlaw05.SortkeyTakes", spec := "sortkeyTakes", inPlace := ["internal/abi.NoEscape"], apart := false }
def SortkeyTakesSaid : Prop := sortkeyTakesRow.holds Try.pinned (OpenSpec.ofChange sortkeyTakesSpec)

/-- ITS FALSE NEIGHBOUR: 'it returns false'. Refute it at one input. -/
def sortkeyTakesWrong : ChangeSpec := { name := "sortkeyTakes", fn := fun _ => fun
  | [d] => { results := [.lit (.bool false)], args := [d] }
  | _ => none }
def SortkeyTakesWrongFalsely : Prop := sortkeyTakesRow.holds Try.pinned (OpenSpec.ofChange sortkeyTakesWrong)

/-- 'erratumlaw05.SortkeyJoins': WHATEVER THE INPUT: true; the input reads as it did. -/
def sortkeyJoinsSpec : ChangeSpec := { name := "sortkeyJoins", fn := fun _ => fun
  | [d1, d2, d3] => { results := [.lit (.bool true)], args := [d1, d2, d3] }
  | _ => none }
def sortkeyJoinsRow : OpenClaim := { program := "ythbnaomhgmokkaa", sum := "f6f59f8fcf56cfeb91f4828aebc7f388890cd960e0b550fde9016a4aef8cc692", func := "erratum/erratumlaw05.SortkeyJoins", spec := "sortkeyJoins", inPlace := ["internal/abi.NoEscape"], apart := false }
def SortkeyJoinsSaid : Prop := sortkeyJoinsRow.holds Try.pinned (OpenSpec.ofChange sortkeyJoinsSpec)

/-- ITS FALSE NEIGHBOUR: 'it returns false'. Refute it at one input. -/
def sortkeyJoinsWrong : ChangeSpec := { name := "sortkeyJoins", fn := fun _ => fun
  | [d1, d2, d3] => { results := [.lit (.bool false)], args := [d1, d2, d3] }
  | _ => none }
def SortkeyJoinsWrongFalsely : Prop := sortkeyJoinsRow.holds Try.pinned (OpenSpec.ofChange sortkeyJoinsWrong)

/-- 'erratumlaw05.SortkeyOrder': WHATEVER THE INPUT: true; the input reads as it did. -/
def sortkeyOrderSpec : ChangeSpec := { name := "sortkeyOrder", fn := fun _ => fun
  | [d1, d2] => { results := [.lit (.bool true)], args := [d1, d2] }
  | _ => none }
def sortkeyOrderRow : OpenClaim := { program := "ythbnaomhgmokkaa", sum := "f6f59f8fcf56cfeb91f4828aebc7f388890cd960e0b550fde9016a4aef8cc692", func := "erratum/erratumlaw05.SortkeyOrder", spec := "sortkeyOrder", inPlace := ["internal/abi.NoEscape"], apart := false }
def SortkeyOrderSaid : Prop := sortkeyOrderRow.holds Try.pinned (OpenSpec.ofChange sortkeyOrderSpec)

/-- ITS FALSE NEIGHBOUR: 'it returns false'. Refute it at one input. -/
def sortkeyOrderWrong : ChangeSpec := { name := "sortkeyOrder", fn := fun _ => fun
  | [d1, d2] => { results := [.lit (.bool false)], args := [d1, d2] }
  | _ => none }
def SortkeyOrderWrongFalsely : Prop := sortkeyOrderRow.holds Try.pinned (OpenSpec.ofChange sortkeyOrderWrong)

/-- 'erratumlaw05.SortkeyAfter': WHATEVER THE INPUT: true; the input reads as it did. -/
def sortkeyAfterSpec : ChangeSpec := { name := "sortkeyAfter", fn := fun _ => fun
  | [d1, d2] => { results := [.lit (.bool true)], args := [d1, d2] }
  | _ => none }
def sortkeyAfterRow : OpenClaim := { program := "ythbnaomhgmokkaa", sum := "f6f59f8fcf56cfeb91f4828aebc7f388890cd960e0b550fde9016a4aef8cc692", func := "erratum/erratumlaw05.SortkeyAfter", spec := "sortkeyAfter", inPlace := ["internal/abi.NoEscape"], apart := false }
def SortkeyAfterSaid : Prop := sortkeyAfterRow.holds Try.pinned (OpenSpec.ofChange sortkeyAfterSpec)

/-- ITS FALSE NEIGHBOUR: 'it returns false'. Refute it at one input. -/
def sortkeyAfterWrong : ChangeSpec := { name := "sortkeyAfter", fn := fun _ => fun
  | [d1, d2] => { results := [.lit (.bool false)], args := [d1, d2] }
  | _ => none }
def SortkeyAfterWrongFalsely : Prop := sortkeyAfterRow.holds Try.pinned (OpenSpec.ofChange sortkeyAfterWrong)

/- THE SECOND FORM. 'bulk': how many values and letters a reading holds, each counted each time it is reached (what is shared counts as often as it is met; a slice's spare places count too). A statement '..UptoSaid' is the law's where the arguments, and the package variables that the reading takes, are together of bulk at most 1048576: NARROWER than '..Said'. Prove '..Said' where nothing that the law and all that it calls make is longer than what came in: it says more and counts as full. Else prove '..UptoSaid'. A law counts once. -/
mutual
def uptoBulk {H : Type} : DataW H → Nat
  | .lit (.string bytes) => bytes.length + 1
  | .lit _ => 1
  | .nil => 1
  | .ptr d => uptoBulk d + 1
  | .slice elems spare => uptoBulkAll elems + uptoBulkAll spare + 1
  | .agg parts => uptoBulkAll parts + 1
  | .iface _ d => uptoBulk d + 1
  | .map entries => uptoBulkEntries entries + 1
  | .held _ => 1
def uptoBulkAll {H : Type} : List (DataW H) → Nat
  | [] => 0
  | d :: r => uptoBulk d + uptoBulkAll r
def uptoBulkEntries {H : Type} : List (Lit × DataW H) → Nat
  | [] => 0
  | x :: r => uptoBulkEntry x + uptoBulkEntries r
def uptoBulkEntry {H : Type} : Lit × DataW H → Nat
  | (.string bytes, d) => bytes.length + uptoBulk d + 1
  | (_, d) => uptoBulk d + 1
 end
def uptoSmall : (H : Type) → List (DataW H) → Bool := fun _ ds => decide (uptoBulkAll ds ≤ 1048576)
def OpenSpec.upto (s : _root_.Go.ChangeSpec) : _root_.Go.OpenSpec := { _root_.Go.OpenSpec.ofChange s with cond := some uptoSmall }

/-- 'erratumlaw05.SortkeyInts', WHERE WHAT IT READS IS OF BULK AT MOST 1048576: true; the input reads as it did. -/
def sortkeyIntsUptoRow : OpenClaim := { program := "ythbnaomhgmokkaa", sum := "f6f59f8fcf56cfeb91f4828aebc7f388890cd960e0b550fde9016a4aef8cc692", func := "erratum/erratumlaw05.SortkeyInts", spec := "sortkeyInts", inPlace := ["internal/abi.NoEscape"], apart := false, narrowed := true }
def SortkeyIntsUptoSaid : Prop := sortkeyIntsUptoRow.holds Try.pinned (OpenSpec.upto sortkeyIntsSpec)

/-- 'erratumlaw05.SortkeyTexts', WHERE WHAT IT READS IS OF BULK AT MOST 1048576: true; the input reads as it did. -/
def sortkeyTextsUptoRow : OpenClaim := { program := "ythbnaomhgmokkaa", sum := "f6f59f8fcf56cfeb91f4828aebc7f388890cd960e0b550fde9016a4aef8cc692", func := "erratum/erratumlaw05.SortkeyTexts", spec := "sortkeyTexts", inPlace := ["internal/abi.NoEscape"], apart := false, narrowed := true }
def SortkeyTextsUptoSaid : Prop := sortkeyTextsUptoRow.holds Try.pinned (OpenSpec.upto sortkeyTextsSpec)

/-- 'erratumlaw05.SortkeyTakes', WHERE WHAT IT READS IS OF BULK AT MOST 1048576: true; the input reads as it did. -/
def sortkeyTakesUptoRow : OpenClaim := { program := "ythbnaomhgmokkaa", sum := "f6f59f8fcf56cfeb91f4828aebc7f388890cd960e0b550fde9016a4aef8cc692", func := "erratum/erratumlaw05.SortkeyTakes", spec := "sortkeyTakes", inPlace := ["internal/abi.NoEscape"], apart := false, narrowed := true }
def SortkeyTakesUptoSaid : Prop := sortkeyTakesUptoRow.holds Try.pinned (OpenSpec.upto sortkeyTakesSpec)

/-- 'erratumlaw05.SortkeyJoins', WHERE WHAT IT READS IS OF BULK AT MOST 1048576: true; the input reads as it did. -/
def sortkeyJoinsUptoRow : OpenClaim := { program := "ythbnaomhgmokkaa", sum := "f6f59f8fcf56cfeb91f4828aebc7f388890cd960e0b550fde9016a4aef8cc692", func := "erratum/erratumlaw05.SortkeyJoins", spec := "sortkeyJoins", inPlace := ["internal/abi.NoEscape"], apart := false, narrowed := true }
def SortkeyJoinsUptoSaid : Prop := sortkeyJoinsUptoRow.holds Try.pinned (OpenSpec.upto sortkeyJoinsSpec)

/-- 'erratumlaw05.SortkeyOrder', WHERE WHAT IT READS IS OF BULK AT MOST 1048576: true; the input reads as it did. -/
def sortkeyOrderUptoRow : OpenClaim := { program := "ythbnaomhgmokkaa", sum := "f6f59f8fcf56cfeb91f4828aebc7f388890cd960e0b550fde9016a4aef8cc692", func := "erratum/erratumlaw05.SortkeyOrder", spec := "sortkeyOrder", inPlace := ["internal/abi.NoEscape"], apart := false, narrowed := true }
def SortkeyOrderUptoSaid : Prop := sortkeyOrderUptoRow.holds Try.pinned (OpenSpec.upto sortkeyOrderSpec)

/-- 'erratumlaw05.SortkeyAfter', WHERE WHAT IT READS IS OF BULK AT MOST 1048576: true; the input reads as it did. -/
def sortkeyAfterUptoRow : OpenClaim := { program := "ythbnaomhgmokkaa", sum := "f6f59f8fcf56cfeb91f4828aebc7f388890cd960e0b550fde9016a4aef8cc692", func := "erratum/erratumlaw05.SortkeyAfter", spec := "sortkeyAfter", inPlace := ["internal/abi.NoEscape"], apart := false, narrowed := true }
def SortkeyAfterUptoSaid : Prop := sortkeyAfterUptoRow.holds Try.pinned (OpenSpec.upto sortkeyAfterSpec)

end Rows
end Go.Proofs.Ythbnaomhgmokkaa
