/-
  No cell of these rows narrows 'for every input' (looked for: loops, veiled, ifaces, maps, wideKeys, modest, calm, conditions, laid).
  DERIVED. THE GIVEN ROWS OF THIS SEAT. 6 by the template 'for every input the law returns true; each argument reads behind the call as it read before'; 0 by the template 'total and deterministic' (their statements: YtaoobliajgcdmaaGreatTotals.lean).
  GIVEN WITH THE SEED: the statements are not yours to turn. If you find one false, say at which input.
  Laid BY PROGRAM, IN A SANDBOX (cutbox-rows.mjs): the forced cells as the released guide's own fill.sh prints them over the translation e9668b1bdcb64e24… (all of the seat's roots in one cut). By AI agents, Wed Nov 11 2026. No macro, syntax, notation, axiom, sorry.
-/
import Derived.Test.YtaoobliajgcdmaaGreatChecked
import GoSem.Claim
import GoSem.ClaimJoined
import GoSem.ClaimMapViews
import Derived.JoinedTies
import Derived.KernelRfl
namespace Go.Proofs.YtaoobliajgcdmaaGreat
/- THE CELL 'sum', in the pinned program and in every row, IS THE sha256 OF THE DUMP (.gsa) THAT YtaoobliajgcdmaaGreatProg.lean LOADS. Nothing in Lean hashes anything: it is a label: what it is worth is what the hold of that sum in a sandbox is worth. -/
noncomputable def Tryz.pinned : Pinned := { name := "ytaoobliajgcdmaagreat", sum := "e9668b1bdcb64e24bbff25787e9d0a896ac36ddb82b78b92558bc712ba97a939", checked := Tryz.checked }
namespace Rows
def none {H : Type} : Left H := { results := [], args := [] }

/-- 'erratumlaw11.TimelineMakes': WHATEVER THE INPUT: true; the input reads as it did. -/
def timelineMakesSpec : ChangeSpec := { name := "timelineMakes", fn := fun _ => fun
  | [d1, d2] => { results := [.lit (.bool true)], args := [d1, d2] }
  | _ => none }
def timelineMakesRow : OpenClaim := { program := "ytaoobliajgcdmaagreat", sum := "e9668b1bdcb64e24bbff25787e9d0a896ac36ddb82b78b92558bc712ba97a939", func := "erratum/erratumlaw11.TimelineMakes", spec := "timelineMakes", inPlace := ["internal/bytealg.abigen_runtime_cmpstring", "slices.overlaps[int]"], unfollowed := true, recurses := true, apart := false }
def TimelineMakesSaid : Prop := timelineMakesRow.holds Tryz.pinned (OpenSpec.ofChange timelineMakesSpec)

/-- ITS FALSE NEIGHBOUR: 'it returns false'. Refute it at one input. -/
def timelineMakesWrong : ChangeSpec := { name := "timelineMakes", fn := fun _ => fun
  | [d1, d2] => { results := [.lit (.bool false)], args := [d1, d2] }
  | _ => none }
def TimelineMakesWrongFalsely : Prop := timelineMakesRow.holds Tryz.pinned (OpenSpec.ofChange timelineMakesWrong)

/-- 'erratumlaw11.TimelineTells': WHATEVER THE INPUT: true; the input reads as it did. -/
def timelineTellsSpec : ChangeSpec := { name := "timelineTells", fn := fun _ => fun
  | [d1, d2, d3] => { results := [.lit (.bool true)], args := [d1, d2, d3] }
  | _ => none }
def timelineTellsRow : OpenClaim := { program := "ytaoobliajgcdmaagreat", sum := "e9668b1bdcb64e24bbff25787e9d0a896ac36ddb82b78b92558bc712ba97a939", func := "erratum/erratumlaw11.TimelineTells", spec := "timelineTells", inPlace := ["internal/bytealg.abigen_runtime_cmpstring", "slices.overlaps[int]"], unfollowed := true, recurses := true, apart := false }
def TimelineTellsSaid : Prop := timelineTellsRow.holds Tryz.pinned (OpenSpec.ofChange timelineTellsSpec)

/-- ITS FALSE NEIGHBOUR: 'it returns false'. Refute it at one input. -/
def timelineTellsWrong : ChangeSpec := { name := "timelineTells", fn := fun _ => fun
  | [d1, d2, d3] => { results := [.lit (.bool false)], args := [d1, d2, d3] }
  | _ => none }
def TimelineTellsWrongFalsely : Prop := timelineTellsRow.holds Tryz.pinned (OpenSpec.ofChange timelineTellsWrong)

/-- 'erratumlaw11.TimelineTurns': WHATEVER THE INPUT: true; the input reads as it did. -/
def timelineTurnsSpec : ChangeSpec := { name := "timelineTurns", fn := fun _ => fun
  | [d1, d2, d3] => { results := [.lit (.bool true)], args := [d1, d2, d3] }
  | _ => none }
def timelineTurnsRow : OpenClaim := { program := "ytaoobliajgcdmaagreat", sum := "e9668b1bdcb64e24bbff25787e9d0a896ac36ddb82b78b92558bc712ba97a939", func := "erratum/erratumlaw11.TimelineTurns", spec := "timelineTurns", inPlace := ["internal/bytealg.abigen_runtime_cmpstring", "slices.overlaps[int]"], unfollowed := true, recurses := true, apart := false }
def TimelineTurnsSaid : Prop := timelineTurnsRow.holds Tryz.pinned (OpenSpec.ofChange timelineTurnsSpec)

/-- ITS FALSE NEIGHBOUR: 'it returns false'. Refute it at one input. -/
def timelineTurnsWrong : ChangeSpec := { name := "timelineTurns", fn := fun _ => fun
  | [d1, d2, d3] => { results := [.lit (.bool false)], args := [d1, d2, d3] }
  | _ => none }
def TimelineTurnsWrongFalsely : Prop := timelineTurnsRow.holds Tryz.pinned (OpenSpec.ofChange timelineTurnsWrong)

/-- 'erratumlaw11.TimelineAts': WHATEVER THE INPUT: true; the input reads as it did. -/
def timelineAtsSpec : ChangeSpec := { name := "timelineAts", fn := fun _ => fun
  | [d1, d2, d3] => { results := [.lit (.bool true)], args := [d1, d2, d3] }
  | _ => none }
def timelineAtsRow : OpenClaim := { program := "ytaoobliajgcdmaagreat", sum := "e9668b1bdcb64e24bbff25787e9d0a896ac36ddb82b78b92558bc712ba97a939", func := "erratum/erratumlaw11.TimelineAts", spec := "timelineAts", inPlace := ["internal/bytealg.abigen_runtime_cmpstring", "slices.overlaps[int]"], unfollowed := true, recurses := true, apart := false }
def TimelineAtsSaid : Prop := timelineAtsRow.holds Tryz.pinned (OpenSpec.ofChange timelineAtsSpec)

/-- ITS FALSE NEIGHBOUR: 'it returns false'. Refute it at one input. -/
def timelineAtsWrong : ChangeSpec := { name := "timelineAts", fn := fun _ => fun
  | [d1, d2, d3] => { results := [.lit (.bool false)], args := [d1, d2, d3] }
  | _ => none }
def TimelineAtsWrongFalsely : Prop := timelineAtsRow.holds Tryz.pinned (OpenSpec.ofChange timelineAtsWrong)

/-- 'erratumlaw11.TimelineMore': WHATEVER THE INPUT: true; the input reads as it did. -/
def timelineMoreSpec : ChangeSpec := { name := "timelineMore", fn := fun _ => fun
  | [d1, d2, d3] => { results := [.lit (.bool true)], args := [d1, d2, d3] }
  | _ => none }
def timelineMoreRow : OpenClaim := { program := "ytaoobliajgcdmaagreat", sum := "e9668b1bdcb64e24bbff25787e9d0a896ac36ddb82b78b92558bc712ba97a939", func := "erratum/erratumlaw11.TimelineMore", spec := "timelineMore", inPlace := ["internal/bytealg.abigen_runtime_cmpstring", "slices.overlaps[int]"], unfollowed := true, recurses := true, apart := false }
def TimelineMoreSaid : Prop := timelineMoreRow.holds Tryz.pinned (OpenSpec.ofChange timelineMoreSpec)

/-- ITS FALSE NEIGHBOUR: 'it returns false'. Refute it at one input. -/
def timelineMoreWrong : ChangeSpec := { name := "timelineMore", fn := fun _ => fun
  | [d1, d2, d3] => { results := [.lit (.bool false)], args := [d1, d2, d3] }
  | _ => none }
def TimelineMoreWrongFalsely : Prop := timelineMoreRow.holds Tryz.pinned (OpenSpec.ofChange timelineMoreWrong)

/-- 'erratumlaw11.TimelineClips': WHATEVER THE INPUT: true; the input reads as it did. -/
def timelineClipsSpec : ChangeSpec := { name := "timelineClips", fn := fun _ => fun
  | [d1, d2, d3] => { results := [.lit (.bool true)], args := [d1, d2, d3] }
  | _ => none }
def timelineClipsRow : OpenClaim := { program := "ytaoobliajgcdmaagreat", sum := "e9668b1bdcb64e24bbff25787e9d0a896ac36ddb82b78b92558bc712ba97a939", func := "erratum/erratumlaw11.TimelineClips", spec := "timelineClips", inPlace := ["internal/bytealg.abigen_runtime_cmpstring", "slices.overlaps[int]"], unfollowed := true, recurses := true, apart := false }
def TimelineClipsSaid : Prop := timelineClipsRow.holds Tryz.pinned (OpenSpec.ofChange timelineClipsSpec)

/-- ITS FALSE NEIGHBOUR: 'it returns false'. Refute it at one input. -/
def timelineClipsWrong : ChangeSpec := { name := "timelineClips", fn := fun _ => fun
  | [d1, d2, d3] => { results := [.lit (.bool false)], args := [d1, d2, d3] }
  | _ => none }
def TimelineClipsWrongFalsely : Prop := timelineClipsRow.holds Tryz.pinned (OpenSpec.ofChange timelineClipsWrong)

/- THE SECOND FORM. 'bulk': how many values and letters a reading holds, each counted each time it is reached (what is shared counts as often as it is met; a slice's spare places count too). A statement '..UptoSaid' is the law's where the arguments, and the package variables that the reading takes, are together of bulk at most 1048576: NARROWER than '..Said'. Prove '..Said' where nothing that the law and all that it calls make is longer than what came in: it says more and counts as full. Else prove '..UptoSaid'. A law counts once. -/
mutual
def uptoBulk {H : Type} : DataW H → Nat
  | .lit (.string bytes) => bytes.length + 1
  | .lit _ => 1
  | .nil => 1
  | .ptr d => uptoBulk d + 1
  | .slice elems spare => uptoBulkAll elems + uptoBulkAll spare + 1
  | .agg parts => uptoBulkAll parts + 1
  | .iface _ d => uptoBulk d + 1
  | .map entries => uptoBulkEntries entries + 1
  | .held _ => 1
def uptoBulkAll {H : Type} : List (DataW H) → Nat
  | [] => 0
  | d :: r => uptoBulk d + uptoBulkAll r
def uptoBulkEntries {H : Type} : List (Lit × DataW H) → Nat
  | [] => 0
  | x :: r => uptoBulkEntry x + uptoBulkEntries r
def uptoBulkEntry {H : Type} : Lit × DataW H → Nat
  | (.string bytes, d) => bytes.length + uptoBulk d + 1
  | (_, d) => uptoBulk d + 1
 end
def uptoSmall : (H : Type) → List (DataW H) → Bool := fun _ ds => decide (uptoBulkAll ds ≤ 1048576)
def OpenSpec.upto (s : _root_.Go.ChangeSpec) : _root_.Go.OpenSpec := { _root_.Go.OpenSpec.ofChange s with cond := some uptoSmall }

/-- 'erratumlaw11.TimelineMakes', WHERE WHAT IT READS IS OF BULK AT MOST 1048576: true; the input reads as it did. -/
def timelineMakesUptoRow : OpenClaim := { program := "ytaoobliajgcdmaagreat", sum := "e9668b1bdcb64e24bbff25787e9d0a896ac36ddb82b78b92558bc712ba97a939", func := "erratum/erratumlaw11.TimelineMakes", spec := "timelineMakes", inPlace := ["internal/bytealg.abigen_runtime_cmpstring", "slices.overlaps[int]"], unfollowed := true, recurses := true, apart := false, narrowed := true }
def TimelineMakesUptoSaid : Prop := timelineMakesUptoRow.holds Tryz.pinned (OpenSpec.upto timelineMakesSpec)

/-- 'erratumlaw11.TimelineTells', WHERE WHAT IT READS IS OF BULK AT MOST 1048576: true; the input reads as it did. -/
def timelineTellsUptoRow : OpenClaim := { program := "ytaoobliajgcdmaagreat", sum := "e9668b1bdcb64e24bbff25787e9d0a896ac36ddb82b78b92558bc712ba97a939", func := "erratum/erratumlaw11.TimelineTells", spec := "timelineTells", inPlace := ["internal/bytealg.abigen_runtime_cmpstring", "slices.overlaps[int]"], unfollowed := true, recurses := true, apart := false, narrowed := true }
def TimelineTellsUptoSaid : Prop := timelineTellsUptoRow.holds Tryz.pinned (OpenSpec.upto timelineTellsSpec)

/-- 'erratumlaw11.TimelineTurns', WHERE WHAT IT READS IS OF BULK AT MOST 1048576: true; the input reads as it did. -/
def timelineTurnsUptoRow : OpenClaim := { program := "ytaoobliajgcdmaagreat", sum := "e9668b1bdcb64e24bbff25787e9d0a896ac36ddb82b78b92558bc712ba97a939", func := "erratum/erratumlaw11.TimelineTurns", spec := "timelineTurns", inPlace := ["internal/bytealg.abigen_runtime_cmpstring", "slices.overlaps[int]"], unfollowed := true, recurses := true, apart := false, narrowed := true }
def TimelineTurnsUptoSaid : Prop := timelineTurnsUptoRow.holds Tryz.pinned (OpenSpec.upto timelineTurnsSpec)

/-- 'erratumlaw11.TimelineAts', WHERE WHAT IT READS IS OF BULK AT MOST 1048576: true; the input reads as it did. -/
def timelineAtsUptoRow : OpenClaim := { program := "ytaoobliajgcdmaagreat", sum := "e9668b1bdcb64e24bbff25787e9d0a896ac36ddb82b78b92558bc712ba97a939", func := "erratum/erratumlaw11.TimelineAts", spec := "timelineAts", inPlace := ["internal/bytealg.abigen_runtime_cmpstring", "slices.overlaps[int]"], unfollowed := true, recurses := true, apart := false, narrowed := true }
def TimelineAtsUptoSaid : Prop := timelineAtsUptoRow.holds Tryz.pinned (OpenSpec.upto timelineAtsSpec)

/-- 'erratumlaw11.TimelineMore', WHERE WHAT IT READS IS OF BULK AT MOST 1048576: true; the input reads as it did. -/
def timelineMoreUptoRow : OpenClaim := { program := "ytaoobliajgcdmaagreat", sum := "e9668b1bdcb64e24bbff25787e9d0a896ac36ddb82b78b92558bc712ba97a939", func := "erratum/erratumlaw11.TimelineMore", spec := "timelineMore", inPlace := ["internal/bytealg.abigen_runtime_cmpstring", "slices.overlaps[int]"], unfollowed := true, recurses := true, apart := false, narrowed := true }
def TimelineMoreUptoSaid : Prop := timelineMoreUptoRow.holds Tryz.pinned (OpenSpec.upto timelineMoreSpec)

/-- 'erratumlaw11.TimelineClips', WHERE WHAT IT READS IS OF BULK AT MOST 1048576: true; the input reads as it did. -/
def timelineClipsUptoRow : OpenClaim := { program := "ytaoobliajgcdmaagreat", sum := "e9668b1bdcb64e24bbff25787e9d0a896ac36ddb82b78b92558bc712ba97a939", func := "erratum/erratumlaw11.TimelineClips", spec := "timelineClips", inPlace := ["internal/bytealg.abigen_runtime_cmpstring", "slices.overlaps[int]"], unfollowed := true, recurses := true, apart := false, narrowed := true }
def TimelineClipsUptoSaid : Prop := timelineClipsUptoRow.holds Tryz.pinned (OpenSpec.upto timelineClipsSpec)

end Rows
end Go.Proofs.YtaoobliajgcdmaaGreat
