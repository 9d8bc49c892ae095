/-
  Small facts that the laws' proofs share: two steps that make new blocks alone; the program's own settings; a span has two cells.
-/
import Derived.Test.YtaobmlkbhdonkaaAlive
import Derived.Deep.RegionHeld3
import Derived.ProofKit
import Derived.Lib.SmallJoins
namespace Go.Proofs.Ytaobmlkbhdonkaa
open Go.RowKit

/-- Two steps, each of which makes new blocks alone. -/
theorem chain {W w w1 : World} (h : Below W.heap.size W w) (hb : Below w.heap.size w w1) : Below W.heap.size W w1 := h.trans (hb.mono h.size)
theorem Try.own : ownKnob Try.prog.godebug = none := by kernel_rfl
theorem Try.cellsSpan : Try.prog.cellsOf 23 = 2 := by kernel_rfl

end Go.Proofs.Ytaobmlkbhdonkaa
