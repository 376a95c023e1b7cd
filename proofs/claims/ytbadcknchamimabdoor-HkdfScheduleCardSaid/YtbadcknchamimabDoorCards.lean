/-
  DERIVED. GIVEN WITH THE SEED: THE CARDS: each row of YtbadcknchamimabDoorRows.lean that lists a variable, with what it lists TIED to the program's text (the seventh form; the later family's looks); each row that meets fmt, with fmt's text TOLD by the authors' own Lean function (tested against real Go, not proved from fmt's source: count such statements apart). THE CARD IS WHAT COUNTS. Prove the row's statement (the work); the ties are given (YtbadcknchamimabDoorTie.lean); close each card by the builder's one call (the guide's Derived/Test/ToyasCard.lean, 'card_holds'). Laid BY PROGRAM, IN A SANDBOX (cutbox-door.mjs). By AI agents, Wed Nov 11 2026. No macro, syntax, notation, axiom, sorry.
-/
import Derived.Test.YtbadcknchamimabDoorRows
import GoSem.ClaimSeven
namespace Go.Proofs.YtbadcknchamimabDoor
namespace Rows

/-- THE TIED CARD OF 'rhynelaw02.HkdfExpand'. -/
def hkdfExpandCard : Claim7 := { stood := { row := hkdfExpandRow, standIns := [], harness := (true, "51514c4db4b86ac38101e61a085df83b691a39fd7844e7ee45d3e83372f213d6"), looks := false }, kinds := [], alts := [], laidByText := true, laidKinds := [.data], laidTests := true, laidLooks := .later }
def HkdfExpandCardSaid : Prop := Claim7.holds Tryd.pinned (.plain (OpenSpec.ofChange hkdfExpandSpec)) hkdfExpandCard

/-- THE TIED CARD OF 'rhynelaw02.HkdfLabel'. -/
def hkdfLabelCard : Claim7 := { stood := { row := hkdfLabelRow, standIns := [], harness := (true, "51514c4db4b86ac38101e61a085df83b691a39fd7844e7ee45d3e83372f213d6"), looks := false }, kinds := [], alts := [], laidByText := true, laidKinds := [.data], laidTests := true, laidLooks := .later }
def HkdfLabelCardSaid : Prop := Claim7.holds Tryd.pinned (.plain (OpenSpec.ofChange hkdfLabelSpec)) hkdfLabelCard

/-- THE TIED CARD OF 'rhynelaw02.HkdfFewer'. -/
def hkdfFewerCard : Claim7 := { stood := { row := hkdfFewerRow, standIns := [], harness := (true, "51514c4db4b86ac38101e61a085df83b691a39fd7844e7ee45d3e83372f213d6"), looks := false }, kinds := [], alts := [], laidByText := true, laidKinds := [.data], laidTests := true, laidLooks := .later }
def HkdfFewerCardSaid : Prop := Claim7.holds Tryd.pinned (.plain (OpenSpec.ofChange hkdfFewerSpec)) hkdfFewerCard

/-- THE TIED CARD OF 'rhynelaw02.HkdfSchedule'. -/
def hkdfScheduleCard : Claim7 := { stood := { row := hkdfScheduleRow, standIns := [], harness := (true, "51514c4db4b86ac38101e61a085df83b691a39fd7844e7ee45d3e83372f213d6"), looks := false }, kinds := [], alts := [], laidByText := true, laidKinds := [.data], laidTests := true, laidLooks := .later }
def HkdfScheduleCardSaid : Prop := Claim7.holds Tryd.pinned (.plain (OpenSpec.ofChange hkdfScheduleSpec)) hkdfScheduleCard

/-- THE TIED CARD OF 'rhynelaw02.HkdfBlocks'. -/
def hkdfBlocksCard : Claim7 := { stood := { row := hkdfBlocksRow, standIns := [], harness := (true, "51514c4db4b86ac38101e61a085df83b691a39fd7844e7ee45d3e83372f213d6"), looks := false }, kinds := [], alts := [], laidByText := true, laidKinds := [.data], laidTests := true, laidLooks := .later }
def HkdfBlocksCardSaid : Prop := Claim7.holds Tryd.pinned (.plain (OpenSpec.ofChange hkdfBlocksSpec)) hkdfBlocksCard

/-- THE SECOND FORM's CARD OF 'rhynelaw02.HkdfExpand'. -/
def hkdfExpandUptoCard : Claim7 := { stood := { row := hkdfExpandUptoRow, standIns := [], harness := (true, "51514c4db4b86ac38101e61a085df83b691a39fd7844e7ee45d3e83372f213d6"), looks := false }, kinds := [], alts := [], laidByText := true, laidKinds := [.data], laidTests := true, laidLooks := .later }
def HkdfExpandUptoCardSaid : Prop := Claim7.holds Tryd.pinned (.plain (OpenSpec.upto hkdfExpandSpec)) hkdfExpandUptoCard

/-- THE SECOND FORM's CARD OF 'rhynelaw02.HkdfLabel'. -/
def hkdfLabelUptoCard : Claim7 := { stood := { row := hkdfLabelUptoRow, standIns := [], harness := (true, "51514c4db4b86ac38101e61a085df83b691a39fd7844e7ee45d3e83372f213d6"), looks := false }, kinds := [], alts := [], laidByText := true, laidKinds := [.data], laidTests := true, laidLooks := .later }
def HkdfLabelUptoCardSaid : Prop := Claim7.holds Tryd.pinned (.plain (OpenSpec.upto hkdfLabelSpec)) hkdfLabelUptoCard

/-- THE SECOND FORM's CARD OF 'rhynelaw02.HkdfFewer'. -/
def hkdfFewerUptoCard : Claim7 := { stood := { row := hkdfFewerUptoRow, standIns := [], harness := (true, "51514c4db4b86ac38101e61a085df83b691a39fd7844e7ee45d3e83372f213d6"), looks := false }, kinds := [], alts := [], laidByText := true, laidKinds := [.data], laidTests := true, laidLooks := .later }
def HkdfFewerUptoCardSaid : Prop := Claim7.holds Tryd.pinned (.plain (OpenSpec.upto hkdfFewerSpec)) hkdfFewerUptoCard

/-- THE SECOND FORM's CARD OF 'rhynelaw02.HkdfSchedule'. -/
def hkdfScheduleUptoCard : Claim7 := { stood := { row := hkdfScheduleUptoRow, standIns := [], harness := (true, "51514c4db4b86ac38101e61a085df83b691a39fd7844e7ee45d3e83372f213d6"), looks := false }, kinds := [], alts := [], laidByText := true, laidKinds := [.data], laidTests := true, laidLooks := .later }
def HkdfScheduleUptoCardSaid : Prop := Claim7.holds Tryd.pinned (.plain (OpenSpec.upto hkdfScheduleSpec)) hkdfScheduleUptoCard

/-- THE SECOND FORM's CARD OF 'rhynelaw02.HkdfBlocks'. -/
def hkdfBlocksUptoCard : Claim7 := { stood := { row := hkdfBlocksUptoRow, standIns := [], harness := (true, "51514c4db4b86ac38101e61a085df83b691a39fd7844e7ee45d3e83372f213d6"), looks := false }, kinds := [], alts := [], laidByText := true, laidKinds := [.data], laidTests := true, laidLooks := .later }
def HkdfBlocksUptoCardSaid : Prop := Claim7.holds Tryd.pinned (.plain (OpenSpec.upto hkdfBlocksSpec)) hkdfBlocksUptoCard
end Rows
end Go.Proofs.YtbadcknchamimabDoor
