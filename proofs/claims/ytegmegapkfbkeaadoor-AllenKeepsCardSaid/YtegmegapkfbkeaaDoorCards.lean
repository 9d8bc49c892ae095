/-
  DERIVED. GIVEN WITH THE SEED: THE CARDS: each row of YtegmegapkfbkeaaDoorRows.lean that lists a variable, with what it lists TIED to the program's text (the seventh form; the later family's looks); each row that meets fmt, with fmt's text TOLD by the authors' own Lean function (tested against real Go, not proved from fmt's source: count such statements apart). THE CARD IS WHAT COUNTS. Prove the row's statement (the work); the ties are given (YtegmegapkfbkeaaDoorTie.lean); close each card by the builder's one call (the guide's Derived/Test/ToyasCard.lean, 'card_holds'). Laid BY PROGRAM, IN A SANDBOX (cutbox-door.mjs). By AI agents, Wed Nov 11 2026. No macro, syntax, notation, axiom, sorry.
-/
import Derived.Test.YtegmegapkfbkeaaDoorRows
import GoSem.ClaimSeven
namespace Go.Proofs.YtegmegapkfbkeaaDoor
namespace Rows

/-- THE TIED CARD OF 'erratumlaw02.AllenTells'. -/
def allenTellsCard : Claim7 := { stood := { row := allenTellsRow, standIns := [], harness := (true, "ad28b104fb5a559fd8acf63c010f172af17ec550fa952c0a9d4cc4084af9e57d"), looks := false }, kinds := [], alts := [], laidByText := true, laidKinds := [.data], laidTests := true, laidLooks := .later }
def AllenTellsCardSaid : Prop := Claim7.holds Tryd.pinned (.plain (OpenSpec.ofChange allenTellsSpec)) allenTellsCard

/-- THE TIED CARD OF 'erratumlaw02.AllenComposes'. -/
def allenComposesCard : Claim7 := { stood := { row := allenComposesRow, standIns := [], harness := (true, "ad28b104fb5a559fd8acf63c010f172af17ec550fa952c0a9d4cc4084af9e57d"), looks := false }, kinds := [], alts := [], laidByText := true, laidKinds := [.data], laidTests := true, laidLooks := .later }
def AllenComposesCardSaid : Prop := Claim7.holds Tryd.pinned (.plain (OpenSpec.ofChange allenComposesSpec)) allenComposesCard

/-- THE TIED CARD OF 'erratumlaw02.AllenSound'. -/
def allenSoundCard : Claim7 := { stood := { row := allenSoundRow, standIns := [], harness := (true, "ad28b104fb5a559fd8acf63c010f172af17ec550fa952c0a9d4cc4084af9e57d"), looks := false }, kinds := [], alts := [], laidByText := true, laidKinds := [.data], laidTests := true, laidLooks := .later }
def AllenSoundCardSaid : Prop := Claim7.holds Tryd.pinned (.plain (OpenSpec.ofChange allenSoundSpec)) allenSoundCard

/-- THE TIED CARD OF 'erratumlaw02.AllenSets'. -/
def allenSetsCard : Claim7 := { stood := { row := allenSetsRow, standIns := [], harness := (true, "ad28b104fb5a559fd8acf63c010f172af17ec550fa952c0a9d4cc4084af9e57d"), looks := false }, kinds := [], alts := [], laidByText := true, laidKinds := [.data], laidTests := true, laidLooks := .later }
def AllenSetsCardSaid : Prop := Claim7.holds Tryd.pinned (.plain (OpenSpec.ofChange allenSetsSpec)) allenSetsCard

/-- THE TIED CARD OF 'erratumlaw02.AllenCloses'. -/
def allenClosesCard : Claim7 := { stood := { row := allenClosesRow, standIns := [], harness := (true, "ad28b104fb5a559fd8acf63c010f172af17ec550fa952c0a9d4cc4084af9e57d"), looks := false }, kinds := [], alts := [], laidByText := true, laidKinds := [.data], laidTests := true, laidLooks := .later }
def AllenClosesCardSaid : Prop := Claim7.holds Tryd.pinned (.plain (OpenSpec.ofChange allenClosesSpec)) allenClosesCard

/-- THE TIED CARD OF 'erratumlaw02.AllenKeeps'. -/
def allenKeepsCard : Claim7 := { stood := { row := allenKeepsRow, standIns := [], harness := (true, "ad28b104fb5a559fd8acf63c010f172af17ec550fa952c0a9d4cc4084af9e57d"), looks := false }, kinds := [], alts := [], laidByText := true, laidKinds := [.data], laidTests := true, laidLooks := .later }
def AllenKeepsCardSaid : Prop := Claim7.holds Tryd.pinned (.plain (OpenSpec.ofChange allenKeepsSpec)) allenKeepsCard

/-- THE SECOND FORM's CARD OF 'erratumlaw02.AllenTells'. -/
def allenTellsUptoCard : Claim7 := { stood := { row := allenTellsUptoRow, standIns := [], harness := (true, "ad28b104fb5a559fd8acf63c010f172af17ec550fa952c0a9d4cc4084af9e57d"), looks := false }, kinds := [], alts := [], laidByText := true, laidKinds := [.data], laidTests := true, laidLooks := .later }
def AllenTellsUptoCardSaid : Prop := Claim7.holds Tryd.pinned (.plain (OpenSpec.upto allenTellsSpec)) allenTellsUptoCard

/-- THE SECOND FORM's CARD OF 'erratumlaw02.AllenComposes'. -/
def allenComposesUptoCard : Claim7 := { stood := { row := allenComposesUptoRow, standIns := [], harness := (true, "ad28b104fb5a559fd8acf63c010f172af17ec550fa952c0a9d4cc4084af9e57d"), looks := false }, kinds := [], alts := [], laidByText := true, laidKinds := [.data], laidTests := true, laidLooks := .later }
def AllenComposesUptoCardSaid : Prop := Claim7.holds Tryd.pinned (.plain (OpenSpec.upto allenComposesSpec)) allenComposesUptoCard

/-- THE SECOND FORM's CARD OF 'erratumlaw02.AllenSound'. -/
def allenSoundUptoCard : Claim7 := { stood := { row := allenSoundUptoRow, standIns := [], harness := (true, "ad28b104fb5a559fd8acf63c010f172af17ec550fa952c0a9d4cc4084af9e57d"), looks := false }, kinds := [], alts := [], laidByText := true, laidKinds := [.data], laidTests := true, laidLooks := .later }
def AllenSoundUptoCardSaid : Prop := Claim7.holds Tryd.pinned (.plain (OpenSpec.upto allenSoundSpec)) allenSoundUptoCard

/-- THE SECOND FORM's CARD OF 'erratumlaw02.AllenSets'. -/
def allenSetsUptoCard : Claim7 := { stood := { row := allenSetsUptoRow, standIns := [], harness := (true, "ad28b104fb5a559fd8acf63c010f172af17ec550fa952c0a9d4cc4084af9e57d"), looks := false }, kinds := [], alts := [], laidByText := true, laidKinds := [.data], laidTests := true, laidLooks := .later }
def AllenSetsUptoCardSaid : Prop := Claim7.holds Tryd.pinned (.plain (OpenSpec.upto allenSetsSpec)) allenSetsUptoCard

/-- THE SECOND FORM's CARD OF 'erratumlaw02.AllenCloses'. -/
def allenClosesUptoCard : Claim7 := { stood := { row := allenClosesUptoRow, standIns := [], harness := (true, "ad28b104fb5a559fd8acf63c010f172af17ec550fa952c0a9d4cc4084af9e57d"), looks := false }, kinds := [], alts := [], laidByText := true, laidKinds := [.data], laidTests := true, laidLooks := .later }
def AllenClosesUptoCardSaid : Prop := Claim7.holds Tryd.pinned (.plain (OpenSpec.upto allenClosesSpec)) allenClosesUptoCard

/-- THE SECOND FORM's CARD OF 'erratumlaw02.AllenKeeps'. -/
def allenKeepsUptoCard : Claim7 := { stood := { row := allenKeepsUptoRow, standIns := [], harness := (true, "ad28b104fb5a559fd8acf63c010f172af17ec550fa952c0a9d4cc4084af9e57d"), looks := false }, kinds := [], alts := [], laidByText := true, laidKinds := [.data], laidTests := true, laidLooks := .later }
def AllenKeepsUptoCardSaid : Prop := Claim7.holds Tryd.pinned (.plain (OpenSpec.upto allenKeepsSpec)) allenKeepsUptoCard
end Rows
end Go.Proofs.YtegmegapkfbkeaaDoor
