/-
  DERIVED. GIVEN WITH THE SEED: THE CARDS: each row of YtcgbhcmgddgheabDoorRows.lean that lists a variable, with what it lists TIED to the program's text (the seventh form; the later family's looks); each row that meets fmt, with fmt's text TOLD by the authors' own Lean function (tested against real Go, not proved from fmt's source: count such statements apart). THE CARD IS WHAT COUNTS. Prove the row's statement (the work); the ties are given (YtcgbhcmgddgheabDoorTie.lean); close each card by the builder's one call (the guide's Derived/Test/ToyasCard.lean, 'card_holds'). Laid BY PROGRAM, IN A SANDBOX (cutbox-door.mjs). By AI agents, Wed Nov 11 2026. No macro, syntax, notation, axiom, sorry.
-/
import Derived.Test.YtcgbhcmgddgheabDoorRows
import GoSem.ClaimSeven
namespace Go.Proofs.YtcgbhcmgddgheabDoor
namespace Rows

/-- THE TIED CARD OF 'rhynelaw09.FramesPut'. -/
def framesPutCard : Claim7 := { stood := { row := framesPutRow, standIns := [], harness := (true, "f93a7403916761f9102d4a37a44b277b5abd5ee21efc54b30d9efac1cf9037fe"), looks := false }, kinds := [], alts := [], laidByText := true, laidKinds := [.data, .data], laidTests := true, laidLooks := .later }
def FramesPutCardSaid : Prop := Claim7.holds Tryd.pinned (.plain (OpenSpec.ofChange framesPutSpec)) framesPutCard

/-- THE TIED CARD OF 'rhynelaw09.FramesBack'. -/
def framesBackCard : Claim7 := { stood := { row := framesBackRow, standIns := [], harness := (true, "f93a7403916761f9102d4a37a44b277b5abd5ee21efc54b30d9efac1cf9037fe"), looks := false }, kinds := [], alts := [], laidByText := true, laidKinds := [.data, .data], laidTests := true, laidLooks := .later }
def FramesBackCardSaid : Prop := Claim7.holds Tryd.pinned (.plain (OpenSpec.ofChange framesBackSpec)) framesBackCard

/-- THE TIED CARD OF 'rhynelaw09.FramesAcks'. -/
def framesAcksCard : Claim7 := { stood := { row := framesAcksRow, standIns := [], harness := (true, "f93a7403916761f9102d4a37a44b277b5abd5ee21efc54b30d9efac1cf9037fe"), looks := false }, kinds := [], alts := [], laidByText := true, laidKinds := [.data, .data], laidTests := true, laidLooks := .later }
def FramesAcksCardSaid : Prop := Claim7.holds Tryd.pinned (.plain (OpenSpec.ofChange framesAcksSpec)) framesAcksCard

/-- THE TIED CARD OF 'rhynelaw09.FramesLengths'. -/
def framesLengthsCard : Claim7 := { stood := { row := framesLengthsRow, standIns := [], harness := (true, "f93a7403916761f9102d4a37a44b277b5abd5ee21efc54b30d9efac1cf9037fe"), looks := false }, kinds := [], alts := [], laidByText := true, laidKinds := [.data, .data], laidTests := true, laidLooks := .later }
def FramesLengthsCardSaid : Prop := Claim7.holds Tryd.pinned (.plain (OpenSpec.ofChange framesLengthsSpec)) framesLengthsCard

/-- THE SECOND FORM's CARD OF 'rhynelaw09.FramesPut'. -/
def framesPutUptoCard : Claim7 := { stood := { row := framesPutUptoRow, standIns := [], harness := (true, "f93a7403916761f9102d4a37a44b277b5abd5ee21efc54b30d9efac1cf9037fe"), looks := false }, kinds := [], alts := [], laidByText := true, laidKinds := [.data, .data], laidTests := true, laidLooks := .later }
def FramesPutUptoCardSaid : Prop := Claim7.holds Tryd.pinned (.plain (OpenSpec.upto framesPutSpec)) framesPutUptoCard

/-- THE SECOND FORM's CARD OF 'rhynelaw09.FramesBack'. -/
def framesBackUptoCard : Claim7 := { stood := { row := framesBackUptoRow, standIns := [], harness := (true, "f93a7403916761f9102d4a37a44b277b5abd5ee21efc54b30d9efac1cf9037fe"), looks := false }, kinds := [], alts := [], laidByText := true, laidKinds := [.data, .data], laidTests := true, laidLooks := .later }
def FramesBackUptoCardSaid : Prop := Claim7.holds Tryd.pinned (.plain (OpenSpec.upto framesBackSpec)) framesBackUptoCard

/-- THE SECOND FORM's CARD OF 'rhynelaw09.FramesAcks'. -/
def framesAcksUptoCard : Claim7 := { stood := { row := framesAcksUptoRow, standIns := [], harness := (true, "f93a7403916761f9102d4a37a44b277b5abd5ee21efc54b30d9efac1cf9037fe"), looks := false }, kinds := [], alts := [], laidByText := true, laidKinds := [.data, .data], laidTests := true, laidLooks := .later }
def FramesAcksUptoCardSaid : Prop := Claim7.holds Tryd.pinned (.plain (OpenSpec.upto framesAcksSpec)) framesAcksUptoCard

/-- THE SECOND FORM's CARD OF 'rhynelaw09.FramesLengths'. -/
def framesLengthsUptoCard : Claim7 := { stood := { row := framesLengthsUptoRow, standIns := [], harness := (true, "f93a7403916761f9102d4a37a44b277b5abd5ee21efc54b30d9efac1cf9037fe"), looks := false }, kinds := [], alts := [], laidByText := true, laidKinds := [.data, .data], laidTests := true, laidLooks := .later }
def FramesLengthsUptoCardSaid : Prop := Claim7.holds Tryd.pinned (.plain (OpenSpec.upto framesLengthsSpec)) framesLengthsUptoCard
end Rows
end Go.Proofs.YtcgbhcmgddgheabDoor
