/-
  No cell of these rows narrows 'for every input' (looked for: loops, veiled, ifaces, maps, wideKeys, modest, calm, conditions, laid).
  DERIVED. THE GIVEN ROWS OF THIS SEAT. 5 by the template 'for every input the law returns true; each argument reads behind the call as it read before'; 0 by the template 'total and deterministic' (their statements: YtjpkeadnccodjaaTotals.lean).
  GIVEN WITH THE SEED: the statements are not yours to turn. If you find one false, say at which input.
  Laid BY PROGRAM, IN A SANDBOX (cutbox-rows.mjs): the forced cells as the released guide's own fill.sh prints them over the translation 890c8e06d56c3ebb… (all of the seat's roots in one cut). By AI agents, Wed Nov 11 2026. No macro, syntax, notation, axiom, sorry.
-/
import Derived.Test.YtjpkeadnccodjaaChecked
import GoSem.Claim
import GoSem.ClaimJoined
import GoSem.ClaimMapViews
import Derived.JoinedTies
import Derived.KernelRfl
namespace Go.Proofs.Ytjpkeadnccodjaa
/- THE CELL 'sum', in the pinned program and in every row, IS THE sha256 OF THE DUMP (.gsa) THAT YtjpkeadnccodjaaProg.lean LOADS. Nothing in Lean hashes anything: it is a label: what it is worth is what the hold of that sum in a sandbox is worth. -/
noncomputable def Try.pinned : Pinned := { name := "ytjpkeadnccodjaa", sum := "890c8e06d56c3ebb5520eda5741b0f2ebc55544b6ac2fc1c867ef931eab96424", checked := Try.checked }
namespace Rows
def none {H : Type} : Left H := { results := [], args := [] }

/-- 'erratumlaw08.StateOf': WHATEVER THE INPUT: true; the input reads as it did. -/
def stateOfSpec : ChangeSpec := { name := "stateOf", fn := fun _ => fun
  | [d] => { results := [.lit (.bool true)], args := [d] }
  | _ => none }
def stateOfRow : OpenClaim := { program := "ytjpkeadnccodjaa", sum := "890c8e06d56c3ebb5520eda5741b0f2ebc55544b6ac2fc1c867ef931eab96424", func := "erratum/erratumlaw08.StateOf", spec := "stateOf", inPlace := ["internal/bytealg.abigen_runtime_cmpstring"], unfollowed := true, recurses := true, apart := false }
def StateOfSaid : Prop := stateOfRow.holds Try.pinned (OpenSpec.ofChange stateOfSpec)

/-- ITS FALSE NEIGHBOUR: 'it returns false'. Refute it at one input. -/
def stateOfWrong : ChangeSpec := { name := "stateOf", fn := fun _ => fun
  | [d] => { results := [.lit (.bool false)], args := [d] }
  | _ => none }
def StateOfWrongFalsely : Prop := stateOfRow.holds Try.pinned (OpenSpec.ofChange stateOfWrong)

/-- 'erratumlaw08.StateAt': WHATEVER THE INPUT: true; the input reads as it did. -/
def stateAtSpec : ChangeSpec := { name := "stateAt", fn := fun _ => fun
  | [d1, d2, d3] => { results := [.lit (.bool true)], args := [d1, d2, d3] }
  | _ => none }
def stateAtRow : OpenClaim := { program := "ytjpkeadnccodjaa", sum := "890c8e06d56c3ebb5520eda5741b0f2ebc55544b6ac2fc1c867ef931eab96424", func := "erratum/erratumlaw08.StateAt", spec := "stateAt", inPlace := ["internal/bytealg.abigen_runtime_cmpstring"], unfollowed := true, recurses := true, apart := false }
def StateAtSaid : Prop := stateAtRow.holds Try.pinned (OpenSpec.ofChange stateAtSpec)

/-- ITS FALSE NEIGHBOUR: 'it returns false'. Refute it at one input. -/
def stateAtWrong : ChangeSpec := { name := "stateAt", fn := fun _ => fun
  | [d1, d2, d3] => { results := [.lit (.bool false)], args := [d1, d2, d3] }
  | _ => none }
def StateAtWrongFalsely : Prop := stateAtRow.holds Try.pinned (OpenSpec.ofChange stateAtWrong)

/-- 'erratumlaw08.StateChanges': WHATEVER THE INPUT: true; the input reads as it did. -/
def stateChangesSpec : ChangeSpec := { name := "stateChanges", fn := fun _ => fun
  | [d1, d2] => { results := [.lit (.bool true)], args := [d1, d2] }
  | _ => none }
def stateChangesRow : OpenClaim := { program := "ytjpkeadnccodjaa", sum := "890c8e06d56c3ebb5520eda5741b0f2ebc55544b6ac2fc1c867ef931eab96424", func := "erratum/erratumlaw08.StateChanges", spec := "stateChanges", inPlace := ["internal/bytealg.abigen_runtime_cmpstring"], unfollowed := true, recurses := true, apart := false }
def StateChangesSaid : Prop := stateChangesRow.holds Try.pinned (OpenSpec.ofChange stateChangesSpec)

/-- ITS FALSE NEIGHBOUR: 'it returns false'. Refute it at one input. -/
def stateChangesWrong : ChangeSpec := { name := "stateChanges", fn := fun _ => fun
  | [d1, d2] => { results := [.lit (.bool false)], args := [d1, d2] }
  | _ => none }
def StateChangesWrongFalsely : Prop := stateChangesRow.holds Try.pinned (OpenSpec.ofChange stateChangesWrong)

/-- 'erratumlaw08.StateOrder': WHATEVER THE INPUT: true; the input reads as it did. -/
def stateOrderSpec : ChangeSpec := { name := "stateOrder", fn := fun _ => fun
  | [d1, d2] => { results := [.lit (.bool true)], args := [d1, d2] }
  | _ => none }
def stateOrderRow : OpenClaim := { program := "ytjpkeadnccodjaa", sum := "890c8e06d56c3ebb5520eda5741b0f2ebc55544b6ac2fc1c867ef931eab96424", func := "erratum/erratumlaw08.StateOrder", spec := "stateOrder", inPlace := ["internal/bytealg.abigen_runtime_cmpstring"], unfollowed := true, recurses := true, apart := false }
def StateOrderSaid : Prop := stateOrderRow.holds Try.pinned (OpenSpec.ofChange stateOrderSpec)

/-- ITS FALSE NEIGHBOUR: 'it returns false'. Refute it at one input. -/
def stateOrderWrong : ChangeSpec := { name := "stateOrder", fn := fun _ => fun
  | [d1, d2] => { results := [.lit (.bool false)], args := [d1, d2] }
  | _ => none }
def StateOrderWrongFalsely : Prop := stateOrderRow.holds Try.pinned (OpenSpec.ofChange stateOrderWrong)

/-- 'erratumlaw08.StateNewest': WHATEVER THE INPUT: true; the input reads as it did. -/
def stateNewestSpec : ChangeSpec := { name := "stateNewest", fn := fun _ => fun
  | [d] => { results := [.lit (.bool true)], args := [d] }
  | _ => none }
def stateNewestRow : OpenClaim := { program := "ytjpkeadnccodjaa", sum := "890c8e06d56c3ebb5520eda5741b0f2ebc55544b6ac2fc1c867ef931eab96424", func := "erratum/erratumlaw08.StateNewest", spec := "stateNewest", inPlace := ["internal/bytealg.abigen_runtime_cmpstring"], unfollowed := true, recurses := true, apart := false }
def StateNewestSaid : Prop := stateNewestRow.holds Try.pinned (OpenSpec.ofChange stateNewestSpec)

/-- ITS FALSE NEIGHBOUR: 'it returns false'. Refute it at one input. -/
def stateNewestWrong : ChangeSpec := { name := "stateNewest", fn := fun _ => fun
  | [d] => { results := [.lit (.bool false)], args := [d] }
  | _ => none }
def StateNewestWrongFalsely : Prop := stateNewestRow.holds Try.pinned (OpenSpec.ofChange stateNewestWrong)

/- THE SECOND FORM. 'bulk': how many values and letters a reading holds, each counted each time it is reached (what is shared counts as often as it is met; a slice's spare places count too). A statement '..UptoSaid' is the law's where the arguments, and the package variables that the reading takes, are together of bulk at most 1048576: NARROWER than '..Said'. Prove '..Said' where nothing that the law and all that it calls make is longer than what came in: it says more and counts as full. Else prove '..UptoSaid'. A law counts once. -/
mutual
def uptoBulk {H : Type} : DataW H → Nat
  | .lit (.string bytes) => bytes.length + 1
  | .lit _ => 1
  | .nil => 1
  | .ptr d => uptoBulk d + 1
  | .slice elems spare => uptoBulkAll elems + uptoBulkAll spare + 1
  | .agg parts => uptoBulkAll parts + 1
  | .iface _ d => uptoBulk d + 1
  | .map entries => uptoBulkEntries entries + 1
  | .held _ => 1
def uptoBulkAll {H : Type} : List (DataW H) → Nat
  | [] => 0
  | d :: r => uptoBulk d + uptoBulkAll r
def uptoBulkEntries {H : Type} : List (Lit × DataW H) → Nat
  | [] => 0
  | x :: r => uptoBulkEntry x + uptoBulkEntries r
def uptoBulkEntry {H : Type} : Lit × DataW H → Nat
  | (.string bytes, d) => bytes.length + uptoBulk d + 1
  | (_, d) => uptoBulk d + 1
 end
def uptoSmall : (H : Type) → List (DataW H) → Bool := fun _ ds => decide (uptoBulkAll ds ≤ 1048576)
def OpenSpec.upto (s : _root_.Go.ChangeSpec) : _root_.Go.OpenSpec := { _root_.Go.OpenSpec.ofChange s with cond := some uptoSmall }

/-- 'erratumlaw08.StateOf', WHERE WHAT IT READS IS OF BULK AT MOST 1048576: true; the input reads as it did. -/
def stateOfUptoRow : OpenClaim := { program := "ytjpkeadnccodjaa", sum := "890c8e06d56c3ebb5520eda5741b0f2ebc55544b6ac2fc1c867ef931eab96424", func := "erratum/erratumlaw08.StateOf", spec := "stateOf", inPlace := ["internal/bytealg.abigen_runtime_cmpstring"], unfollowed := true, recurses := true, apart := false, narrowed := true }
def StateOfUptoSaid : Prop := stateOfUptoRow.holds Try.pinned (OpenSpec.upto stateOfSpec)

/-- 'erratumlaw08.StateAt', WHERE WHAT IT READS IS OF BULK AT MOST 1048576: true; the input reads as it did. -/
def stateAtUptoRow : OpenClaim := { program := "ytjpkeadnccodjaa", sum := "890c8e06d56c3ebb5520eda5741b0f2ebc55544b6ac2fc1c867ef931eab96424", func := "erratum/erratumlaw08.StateAt", spec := "stateAt", inPlace := ["internal/bytealg.abigen_runtime_cmpstring"], unfollowed := true, recurses := true, apart := false, narrowed := true }
def StateAtUptoSaid : Prop := stateAtUptoRow.holds Try.pinned (OpenSpec.upto stateAtSpec)

/-- 'erratumlaw08.StateChanges', WHERE WHAT IT READS IS OF BULK AT MOST 1048576: true; the input reads as it did. -/
def stateChangesUptoRow : OpenClaim := { program := "ytjpkeadnccodjaa", sum := "890c8e06d56c3ebb5520eda5741b0f2ebc55544b6ac2fc1c867ef931eab96424", func := "erratum/erratumlaw08.StateChanges", spec := "stateChanges", inPlace := ["internal/bytealg.abigen_runtime_cmpstring"], unfollowed := true, recurses := true, apart := false, narrowed := true }
def StateChangesUptoSaid : Prop := stateChangesUptoRow.holds Try.pinned (OpenSpec.upto stateChangesSpec)

/-- 'erratumlaw08.StateOrder', WHERE WHAT IT READS IS OF BULK AT MOST 1048576: true; the input reads as it did. -/
def stateOrderUptoRow : OpenClaim := { program := "ytjpkeadnccodjaa", sum := "890c8e06d56c3ebb5520eda5741b0f2ebc55544b6ac2fc1c867ef931eab96424", func := "erratum/erratumlaw08.StateOrder", spec := "stateOrder", inPlace := ["internal/bytealg.abigen_runtime_cmpstring"], unfollowed := true, recurses := true, apart := false, narrowed := true }
def StateOrderUptoSaid : Prop := stateOrderUptoRow.holds Try.pinned (OpenSpec.upto stateOrderSpec)

/-- 'erratumlaw08.StateNewest', WHERE WHAT IT READS IS OF BULK AT MOST 1048576: true; the input reads as it did. -/
def stateNewestUptoRow : OpenClaim := { program := "ytjpkeadnccodjaa", sum := "890c8e06d56c3ebb5520eda5741b0f2ebc55544b6ac2fc1c867ef931eab96424", func := "erratum/erratumlaw08.StateNewest", spec := "stateNewest", inPlace := ["internal/bytealg.abigen_runtime_cmpstring"], unfollowed := true, recurses := true, apart := false, narrowed := true }
def StateNewestUptoSaid : Prop := stateNewestUptoRow.holds Try.pinned (OpenSpec.upto stateNewestSpec)

end Rows
end Go.Proofs.Ytjpkeadnccodjaa
