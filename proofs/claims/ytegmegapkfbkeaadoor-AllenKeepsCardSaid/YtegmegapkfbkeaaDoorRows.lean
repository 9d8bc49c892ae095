/-
  NARROWER THAN 'FOR EVERY INPUT', by the rows' own cells (each row's printed sentence says how): AllenTells: laid · AllenComposes: laid · AllenSound: laid · AllenSets: laid · AllenCloses: laid · AllenKeeps: laid.
  DERIVED. THE GIVEN ROWS OF THIS SEAT. 6 by the template 'for every input the law returns true; each argument reads behind the call as it read before'; 0 by the template 'total and deterministic' (their statements: YtegmegapkfbkeaaDoorTotals.lean).
  GIVEN WITH THE SEED: the statements are not yours to turn. If you find one false, say at which input.
  Laid BY PROGRAM, IN A SANDBOX (cutbox-rows.mjs): the forced cells as the released guide's own fill.sh prints them over the translation 46e0e8fee9e4af6a… (all of the seat's roots in one cut). By AI agents, Wed Nov 11 2026. No macro, syntax, notation, axiom, sorry.
-/
import Derived.Test.YtegmegapkfbkeaaDoorChecked
import GoSem.Claim
import GoSem.ClaimJoined
import GoSem.ClaimMapViews
import Derived.JoinedTies
import Derived.KernelRfl
namespace Go.Proofs.YtegmegapkfbkeaaDoor
/- THE CELL 'sum', in the pinned program and in every row, IS THE sha256 OF THE DUMP (.gsa) THAT YtegmegapkfbkeaaDoorProg.lean LOADS. Nothing in Lean hashes anything: it is a label: what it is worth is what the hold of that sum in a sandbox is worth. -/
noncomputable def Tryd.pinned : Pinned := { name := "ytegmegapkfbkeaadoor", sum := "46e0e8fee9e4af6ab55920e008b24d757d186b863945c9ea8f20ce8a04cd9669", checked := Tryd.checked }
namespace Rows
def none {H : Type} : Left H := { results := [], args := [] }

/- WHAT THE LISTED PACKAGE-LEVEL VARIABLES READ AS WHEN THE CALL BEGINS. Each datum BY PROGRAM (the guide's laid-datum.mjs) off the statement by which the dump's own 'gosem.cut.vars' lays the variable. In a bare row this is a premise. The card (YtegmegapkfbkeaaDoorCards.lean) ties it to the program's text. -/
def laid_erratum_allen_relations {H : Type} : DataW H := .agg [.agg [.lit (.string [98, 101, 102, 111, 114, 101]), .agg [.lit (.int .i64 (-1)), .lit (.int .i64 (-1)), .lit (.int .i64 (-1)), .lit (.int .i64 (-1))]], .agg [.lit (.string [109, 101, 101, 116, 115]), .agg [.lit (.int .i64 (-1)), .lit (.int .i64 (-1)), .lit (.int .i64 0), .lit (.int .i64 (-1))]], .agg [.lit (.string [111, 118, 101, 114, 108, 97, 112, 115]), .agg [.lit (.int .i64 (-1)), .lit (.int .i64 (-1)), .lit (.int .i64 1), .lit (.int .i64 (-1))]], .agg [.lit (.string [115, 116, 97, 114, 116, 115]), .agg [.lit (.int .i64 0), .lit (.int .i64 (-1)), .lit (.int .i64 1), .lit (.int .i64 (-1))]], .agg [.lit (.string [100, 117, 114, 105, 110, 103]), .agg [.lit (.int .i64 1), .lit (.int .i64 (-1)), .lit (.int .i64 1), .lit (.int .i64 (-1))]], .agg [.lit (.string [102, 105, 110, 105, 115, 104, 101, 115]), .agg [.lit (.int .i64 1), .lit (.int .i64 (-1)), .lit (.int .i64 1), .lit (.int .i64 0)]], .agg [.lit (.string [101, 113, 117, 97, 108, 115]), .agg [.lit (.int .i64 0), .lit (.int .i64 (-1)), .lit (.int .i64 1), .lit (.int .i64 0)]], .agg [.lit (.string [102, 105, 110, 105, 115, 104, 101, 100]), .agg [.lit (.int .i64 (-1)), .lit (.int .i64 (-1)), .lit (.int .i64 1), .lit (.int .i64 0)]], .agg [.lit (.string [99, 111, 110, 116, 97, 105, 110, 115]), .agg [.lit (.int .i64 (-1)), .lit (.int .i64 (-1)), .lit (.int .i64 1), .lit (.int .i64 1)]], .agg [.lit (.string [115, 116, 97, 114, 116, 101, 100]), .agg [.lit (.int .i64 0), .lit (.int .i64 (-1)), .lit (.int .i64 1), .lit (.int .i64 1)]], .agg [.lit (.string [111, 118, 101, 114, 108, 97, 112, 112, 101, 100]), .agg [.lit (.int .i64 1), .lit (.int .i64 (-1)), .lit (.int .i64 1), .lit (.int .i64 1)]], .agg [.lit (.string [109, 101, 116]), .agg [.lit (.int .i64 1), .lit (.int .i64 0), .lit (.int .i64 1), .lit (.int .i64 1)]], .agg [.lit (.string [97, 102, 116, 101, 114]), .agg [.lit (.int .i64 1), .lit (.int .i64 1), .lit (.int .i64 1), .lit (.int .i64 1)]]]

/-- 'erratumlaw02.AllenTells': WHATEVER THE INPUT: true; the input reads as it did. -/
def allenTellsSpec : ChangeSpec := { name := "allenTells", fn := fun _ => fun
  | [d1, d2, d3] => { results := [.lit (.bool true)], args := [d1, d2, d3] }
  | _ => none }
def allenTellsRow : OpenClaim := { program := "ytegmegapkfbkeaadoor", sum := "46e0e8fee9e4af6ab55920e008b24d757d186b863945c9ea8f20ce8a04cd9669", func := "erratum/erratumlaw02.AllenTells", spec := "allenTells", named := ["erratum/allen.relations"], apart := false, laid := [("erratum/allen.relations", laid_erratum_allen_relations)] }
def AllenTellsSaid : Prop := allenTellsRow.holds Tryd.pinned (OpenSpec.ofChange allenTellsSpec)

/-- ITS FALSE NEIGHBOUR: 'it returns false'. Refute it at one input. -/
def allenTellsWrong : ChangeSpec := { name := "allenTells", fn := fun _ => fun
  | [d1, d2, d3] => { results := [.lit (.bool false)], args := [d1, d2, d3] }
  | _ => none }
def AllenTellsWrongFalsely : Prop := allenTellsRow.holds Tryd.pinned (OpenSpec.ofChange allenTellsWrong)

/-- 'erratumlaw02.AllenComposes': WHATEVER THE INPUT: true; the input reads as it did. -/
def allenComposesSpec : ChangeSpec := { name := "allenComposes", fn := fun _ => fun
  | [d1, d2] => { results := [.lit (.bool true)], args := [d1, d2] }
  | _ => none }
def allenComposesRow : OpenClaim := { program := "ytegmegapkfbkeaadoor", sum := "46e0e8fee9e4af6ab55920e008b24d757d186b863945c9ea8f20ce8a04cd9669", func := "erratum/erratumlaw02.AllenComposes", spec := "allenComposes", named := ["erratum/allen.relations"], apart := false, laid := [("erratum/allen.relations", laid_erratum_allen_relations)] }
def AllenComposesSaid : Prop := allenComposesRow.holds Tryd.pinned (OpenSpec.ofChange allenComposesSpec)

/-- ITS FALSE NEIGHBOUR: 'it returns false'. Refute it at one input. -/
def allenComposesWrong : ChangeSpec := { name := "allenComposes", fn := fun _ => fun
  | [d1, d2] => { results := [.lit (.bool false)], args := [d1, d2] }
  | _ => none }
def AllenComposesWrongFalsely : Prop := allenComposesRow.holds Tryd.pinned (OpenSpec.ofChange allenComposesWrong)

/-- 'erratumlaw02.AllenSound': WHATEVER THE INPUT: true; the input reads as it did. -/
def allenSoundSpec : ChangeSpec := { name := "allenSound", fn := fun _ => fun
  | [d1, d2, d3] => { results := [.lit (.bool true)], args := [d1, d2, d3] }
  | _ => none }
def allenSoundRow : OpenClaim := { program := "ytegmegapkfbkeaadoor", sum := "46e0e8fee9e4af6ab55920e008b24d757d186b863945c9ea8f20ce8a04cd9669", func := "erratum/erratumlaw02.AllenSound", spec := "allenSound", named := ["erratum/allen.relations"], apart := false, laid := [("erratum/allen.relations", laid_erratum_allen_relations)] }
def AllenSoundSaid : Prop := allenSoundRow.holds Tryd.pinned (OpenSpec.ofChange allenSoundSpec)

/-- ITS FALSE NEIGHBOUR: 'it returns false'. Refute it at one input. -/
def allenSoundWrong : ChangeSpec := { name := "allenSound", fn := fun _ => fun
  | [d1, d2, d3] => { results := [.lit (.bool false)], args := [d1, d2, d3] }
  | _ => none }
def AllenSoundWrongFalsely : Prop := allenSoundRow.holds Tryd.pinned (OpenSpec.ofChange allenSoundWrong)

/-- 'erratumlaw02.AllenSets': WHATEVER THE INPUT: true; the input reads as it did. -/
def allenSetsSpec : ChangeSpec := { name := "allenSets", fn := fun _ => fun
  | [d1, d2] => { results := [.lit (.bool true)], args := [d1, d2] }
  | _ => none }
def allenSetsRow : OpenClaim := { program := "ytegmegapkfbkeaadoor", sum := "46e0e8fee9e4af6ab55920e008b24d757d186b863945c9ea8f20ce8a04cd9669", func := "erratum/erratumlaw02.AllenSets", spec := "allenSets", unfollowed := true, recurses := true, named := ["erratum/allen.relations"], apart := false, laid := [("erratum/allen.relations", laid_erratum_allen_relations)] }
def AllenSetsSaid : Prop := allenSetsRow.holds Tryd.pinned (OpenSpec.ofChange allenSetsSpec)

/-- ITS FALSE NEIGHBOUR: 'it returns false'. Refute it at one input. -/
def allenSetsWrong : ChangeSpec := { name := "allenSets", fn := fun _ => fun
  | [d1, d2] => { results := [.lit (.bool false)], args := [d1, d2] }
  | _ => none }
def AllenSetsWrongFalsely : Prop := allenSetsRow.holds Tryd.pinned (OpenSpec.ofChange allenSetsWrong)

/-- 'erratumlaw02.AllenCloses': WHATEVER THE INPUT: true; the input reads as it did. -/
def allenClosesSpec : ChangeSpec := { name := "allenCloses", fn := fun _ => fun
  | [d1, d2] => { results := [.lit (.bool true)], args := [d1, d2] }
  | _ => none }
def allenClosesRow : OpenClaim := { program := "ytegmegapkfbkeaadoor", sum := "46e0e8fee9e4af6ab55920e008b24d757d186b863945c9ea8f20ce8a04cd9669", func := "erratum/erratumlaw02.AllenCloses", spec := "allenCloses", unfollowed := true, recurses := true, named := ["erratum/allen.relations"], apart := false, laid := [("erratum/allen.relations", laid_erratum_allen_relations)] }
def AllenClosesSaid : Prop := allenClosesRow.holds Tryd.pinned (OpenSpec.ofChange allenClosesSpec)

/-- ITS FALSE NEIGHBOUR: 'it returns false'. Refute it at one input. -/
def allenClosesWrong : ChangeSpec := { name := "allenCloses", fn := fun _ => fun
  | [d1, d2] => { results := [.lit (.bool false)], args := [d1, d2] }
  | _ => none }
def AllenClosesWrongFalsely : Prop := allenClosesRow.holds Tryd.pinned (OpenSpec.ofChange allenClosesWrong)

/-- 'erratumlaw02.AllenKeeps': WHATEVER THE INPUT: true; the input reads as it did. -/
def allenKeepsSpec : ChangeSpec := { name := "allenKeeps", fn := fun _ => fun
  | [d1, d2] => { results := [.lit (.bool true)], args := [d1, d2] }
  | _ => none }
def allenKeepsRow : OpenClaim := { program := "ytegmegapkfbkeaadoor", sum := "46e0e8fee9e4af6ab55920e008b24d757d186b863945c9ea8f20ce8a04cd9669", func := "erratum/erratumlaw02.AllenKeeps", spec := "allenKeeps", unfollowed := true, recurses := true, named := ["erratum/allen.relations"], apart := false, laid := [("erratum/allen.relations", laid_erratum_allen_relations)] }
def AllenKeepsSaid : Prop := allenKeepsRow.holds Tryd.pinned (OpenSpec.ofChange allenKeepsSpec)

/-- ITS FALSE NEIGHBOUR: 'it returns false'. Refute it at one input. -/
def allenKeepsWrong : ChangeSpec := { name := "allenKeeps", fn := fun _ => fun
  | [d1, d2] => { results := [.lit (.bool false)], args := [d1, d2] }
  | _ => none }
def AllenKeepsWrongFalsely : Prop := allenKeepsRow.holds Tryd.pinned (OpenSpec.ofChange allenKeepsWrong)

/- THE SECOND FORM. 'bulk': how many values and letters a reading holds, each counted each time it is reached (what is shared counts as often as it is met; a slice's spare places count too). A statement '..UptoSaid' is the law's where the arguments, and the package variables that the reading takes, are together of bulk at most 1048576: NARROWER than '..Said'. Prove '..Said' where nothing that the law and all that it calls make is longer than what came in: it says more and counts as full. Else prove '..UptoSaid'. A law counts once. -/
mutual
def uptoBulk {H : Type} : DataW H → Nat
  | .lit (.string bytes) => bytes.length + 1
  | .lit _ => 1
  | .nil => 1
  | .ptr d => uptoBulk d + 1
  | .slice elems spare => uptoBulkAll elems + uptoBulkAll spare + 1
  | .agg parts => uptoBulkAll parts + 1
  | .iface _ d => uptoBulk d + 1
  | .map entries => uptoBulkEntries entries + 1
  | .held _ => 1
def uptoBulkAll {H : Type} : List (DataW H) → Nat
  | [] => 0
  | d :: r => uptoBulk d + uptoBulkAll r
def uptoBulkEntries {H : Type} : List (Lit × DataW H) → Nat
  | [] => 0
  | x :: r => uptoBulkEntry x + uptoBulkEntries r
def uptoBulkEntry {H : Type} : Lit × DataW H → Nat
  | (.string bytes, d) => bytes.length + uptoBulk d + 1
  | (_, d) => uptoBulk d + 1
 end
def uptoSmall : (H : Type) → List (DataW H) → Bool := fun _ ds => decide (uptoBulkAll ds ≤ 1048576)
def OpenSpec.upto (s : _root_.Go.ChangeSpec) : _root_.Go.OpenSpec := { _root_.Go.OpenSpec.ofChange s with cond := some uptoSmall }

/-- 'erratumlaw02.AllenTells', WHERE WHAT IT READS IS OF BULK AT MOST 1048576: true; the input reads as it did. -/
def allenTellsUptoRow : OpenClaim := { program := "ytegmegapkfbkeaadoor", sum := "46e0e8fee9e4af6ab55920e008b24d757d186b863945c9ea8f20ce8a04cd9669", func := "erratum/erratumlaw02.AllenTells", spec := "allenTells", named := ["erratum/allen.relations"], apart := false, laid := [("erratum/allen.relations", laid_erratum_allen_relations)], narrowed := true }
def AllenTellsUptoSaid : Prop := allenTellsUptoRow.holds Tryd.pinned (OpenSpec.upto allenTellsSpec)

/-- 'erratumlaw02.AllenComposes', WHERE WHAT IT READS IS OF BULK AT MOST 1048576: true; the input reads as it did. -/
def allenComposesUptoRow : OpenClaim := { program := "ytegmegapkfbkeaadoor", sum := "46e0e8fee9e4af6ab55920e008b24d757d186b863945c9ea8f20ce8a04cd9669", func := "erratum/erratumlaw02.AllenComposes", spec := "allenComposes", named := ["erratum/allen.relations"], apart := false, laid := [("erratum/allen.relations", laid_erratum_allen_relations)], narrowed := true }
def AllenComposesUptoSaid : Prop := allenComposesUptoRow.holds Tryd.pinned (OpenSpec.upto allenComposesSpec)

/-- 'erratumlaw02.AllenSound', WHERE WHAT IT READS IS OF BULK AT MOST 1048576: true; the input reads as it did. -/
def allenSoundUptoRow : OpenClaim := { program := "ytegmegapkfbkeaadoor", sum := "46e0e8fee9e4af6ab55920e008b24d757d186b863945c9ea8f20ce8a04cd9669", func := "erratum/erratumlaw02.AllenSound", spec := "allenSound", named := ["erratum/allen.relations"], apart := false, laid := [("erratum/allen.relations", laid_erratum_allen_relations)], narrowed := true }
def AllenSoundUptoSaid : Prop := allenSoundUptoRow.holds Tryd.pinned (OpenSpec.upto allenSoundSpec)

/-- 'erratumlaw02.AllenSets', WHERE WHAT IT READS IS OF BULK AT MOST 1048576: true; the input reads as it did. -/
def allenSetsUptoRow : OpenClaim := { program := "ytegmegapkfbkeaadoor", sum := "46e0e8fee9e4af6ab55920e008b24d757d186b863945c9ea8f20ce8a04cd9669", func := "erratum/erratumlaw02.AllenSets", spec := "allenSets", unfollowed := true, recurses := true, named := ["erratum/allen.relations"], apart := false, laid := [("erratum/allen.relations", laid_erratum_allen_relations)], narrowed := true }
def AllenSetsUptoSaid : Prop := allenSetsUptoRow.holds Tryd.pinned (OpenSpec.upto allenSetsSpec)

/-- 'erratumlaw02.AllenCloses', WHERE WHAT IT READS IS OF BULK AT MOST 1048576: true; the input reads as it did. -/
def allenClosesUptoRow : OpenClaim := { program := "ytegmegapkfbkeaadoor", sum := "46e0e8fee9e4af6ab55920e008b24d757d186b863945c9ea8f20ce8a04cd9669", func := "erratum/erratumlaw02.AllenCloses", spec := "allenCloses", unfollowed := true, recurses := true, named := ["erratum/allen.relations"], apart := false, laid := [("erratum/allen.relations", laid_erratum_allen_relations)], narrowed := true }
def AllenClosesUptoSaid : Prop := allenClosesUptoRow.holds Tryd.pinned (OpenSpec.upto allenClosesSpec)

/-- 'erratumlaw02.AllenKeeps', WHERE WHAT IT READS IS OF BULK AT MOST 1048576: true; the input reads as it did. -/
def allenKeepsUptoRow : OpenClaim := { program := "ytegmegapkfbkeaadoor", sum := "46e0e8fee9e4af6ab55920e008b24d757d186b863945c9ea8f20ce8a04cd9669", func := "erratum/erratumlaw02.AllenKeeps", spec := "allenKeeps", unfollowed := true, recurses := true, named := ["erratum/allen.relations"], apart := false, laid := [("erratum/allen.relations", laid_erratum_allen_relations)], narrowed := true }
def AllenKeepsUptoSaid : Prop := allenKeepsUptoRow.holds Tryd.pinned (OpenSpec.upto allenKeepsSpec)

end Rows
end Go.Proofs.YtegmegapkfbkeaaDoor
