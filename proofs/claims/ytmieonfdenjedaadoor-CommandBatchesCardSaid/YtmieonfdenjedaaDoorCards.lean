/-
  DERIVED. GIVEN WITH THE SEED: THE CARDS: each row of YtmieonfdenjedaaDoorRows.lean that lists a variable, with what it lists TIED to the program's text (the seventh form; the later family's looks); each row that meets fmt, with fmt's text TOLD by the authors' own Lean function (tested against real Go, not proved from fmt's source: count such statements apart). THE CARD IS WHAT COUNTS. Prove the row's statement (the work); the ties are given (YtmieonfdenjedaaDoorTie.lean); close each card by the builder's one call (the guide's Derived/Test/ToyasCard.lean, 'card_holds'). Laid BY PROGRAM, IN A SANDBOX (cutbox-door.mjs). By AI agents, Wed Nov 11 2026. No macro, syntax, notation, axiom, sorry.
-/
import Derived.Test.YtmieonfdenjedaaDoorRows
import GoSem.ClaimSeven
namespace Go.Proofs.YtmieonfdenjedaaDoor
namespace Rows

/-- THE TIED CARD OF 'erratumlaw14.CommandRights'. -/
def commandRightsCard : Claim7 := { stood := { row := commandRightsRow, standIns := [], harness := (true, "65977e6d775ac36b593877892b4bb3451eff92ca1aa9302a4a68368ca37ed3a2"), looks := false }, kinds := [], alts := [], laidByText := true, laidKinds := [.data], laidTests := true, laidLooks := .later }
def CommandRightsCardSaid : Prop := Claim7.holds Tryd.pinned (.plain (OpenSpec.ofChange commandRightsSpec)) commandRightsCard

/-- THE TIED CARD OF 'erratumlaw14.CommandMakes'. -/
def commandMakesCard : Claim7 := { stood := { row := commandMakesRow, standIns := [], harness := (true, "65977e6d775ac36b593877892b4bb3451eff92ca1aa9302a4a68368ca37ed3a2"), looks := false }, kinds := [], alts := [], laidByText := true, laidKinds := [.data], laidTests := true, laidLooks := .later }
def CommandMakesCardSaid : Prop := Claim7.holds Tryd.pinned (.plain (OpenSpec.ofChange commandMakesSpec)) commandMakesCard

/-- THE TIED CARD OF 'erratumlaw14.CommandBytes'. -/
def commandBytesCard : Claim7 := { stood := { row := commandBytesRow, standIns := [], harness := (true, "65977e6d775ac36b593877892b4bb3451eff92ca1aa9302a4a68368ca37ed3a2"), looks := false }, kinds := [], alts := [], laidByText := true, laidKinds := [.data], laidTests := true, laidLooks := .later }
def CommandBytesCardSaid : Prop := Claim7.holds Tryd.pinned (.plain (OpenSpec.ofChange commandBytesSpec)) commandBytesCard

/-- THE TIED CARD OF 'erratumlaw14.CommandTakes'. -/
def commandTakesCard : Claim7 := { stood := { row := commandTakesRow, standIns := [], harness := (true, "65977e6d775ac36b593877892b4bb3451eff92ca1aa9302a4a68368ca37ed3a2"), looks := false }, kinds := [], alts := [], laidByText := true, laidKinds := [.data], laidTests := true, laidLooks := .later }
def CommandTakesCardSaid : Prop := Claim7.holds Tryd.pinned (.plain (OpenSpec.ofChange commandTakesSpec)) commandTakesCard

/-- THE TIED CARD OF 'erratumlaw14.CommandBatches'. -/
def commandBatchesCard : Claim7 := { stood := { row := commandBatchesRow, standIns := [], harness := (true, "65977e6d775ac36b593877892b4bb3451eff92ca1aa9302a4a68368ca37ed3a2"), looks := false }, kinds := [], alts := [], laidByText := true, laidKinds := [.data], laidTests := true, laidLooks := .later }
def CommandBatchesCardSaid : Prop := Claim7.holds Tryd.pinned (.plain (OpenSpec.ofChange commandBatchesSpec)) commandBatchesCard

/-- THE SECOND FORM's CARD OF 'erratumlaw14.CommandRights'. -/
def commandRightsUptoCard : Claim7 := { stood := { row := commandRightsUptoRow, standIns := [], harness := (true, "65977e6d775ac36b593877892b4bb3451eff92ca1aa9302a4a68368ca37ed3a2"), looks := false }, kinds := [], alts := [], laidByText := true, laidKinds := [.data], laidTests := true, laidLooks := .later }
def CommandRightsUptoCardSaid : Prop := Claim7.holds Tryd.pinned (.plain (OpenSpec.upto commandRightsSpec)) commandRightsUptoCard

/-- THE SECOND FORM's CARD OF 'erratumlaw14.CommandMakes'. -/
def commandMakesUptoCard : Claim7 := { stood := { row := commandMakesUptoRow, standIns := [], harness := (true, "65977e6d775ac36b593877892b4bb3451eff92ca1aa9302a4a68368ca37ed3a2"), looks := false }, kinds := [], alts := [], laidByText := true, laidKinds := [.data], laidTests := true, laidLooks := .later }
def CommandMakesUptoCardSaid : Prop := Claim7.holds Tryd.pinned (.plain (OpenSpec.upto commandMakesSpec)) commandMakesUptoCard

/-- THE SECOND FORM's CARD OF 'erratumlaw14.CommandBytes'. -/
def commandBytesUptoCard : Claim7 := { stood := { row := commandBytesUptoRow, standIns := [], harness := (true, "65977e6d775ac36b593877892b4bb3451eff92ca1aa9302a4a68368ca37ed3a2"), looks := false }, kinds := [], alts := [], laidByText := true, laidKinds := [.data], laidTests := true, laidLooks := .later }
def CommandBytesUptoCardSaid : Prop := Claim7.holds Tryd.pinned (.plain (OpenSpec.upto commandBytesSpec)) commandBytesUptoCard

/-- THE SECOND FORM's CARD OF 'erratumlaw14.CommandTakes'. -/
def commandTakesUptoCard : Claim7 := { stood := { row := commandTakesUptoRow, standIns := [], harness := (true, "65977e6d775ac36b593877892b4bb3451eff92ca1aa9302a4a68368ca37ed3a2"), looks := false }, kinds := [], alts := [], laidByText := true, laidKinds := [.data], laidTests := true, laidLooks := .later }
def CommandTakesUptoCardSaid : Prop := Claim7.holds Tryd.pinned (.plain (OpenSpec.upto commandTakesSpec)) commandTakesUptoCard

/-- THE SECOND FORM's CARD OF 'erratumlaw14.CommandBatches'. -/
def commandBatchesUptoCard : Claim7 := { stood := { row := commandBatchesUptoRow, standIns := [], harness := (true, "65977e6d775ac36b593877892b4bb3451eff92ca1aa9302a4a68368ca37ed3a2"), looks := false }, kinds := [], alts := [], laidByText := true, laidKinds := [.data], laidTests := true, laidLooks := .later }
def CommandBatchesUptoCardSaid : Prop := Claim7.holds Tryd.pinned (.plain (OpenSpec.upto commandBatchesSpec)) commandBatchesUptoCard
end Rows
end Go.Proofs.YtmieonfdenjedaaDoor
