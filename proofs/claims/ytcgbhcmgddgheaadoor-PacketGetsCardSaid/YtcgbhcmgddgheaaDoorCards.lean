/-
  DERIVED. GIVEN WITH THE SEED: THE CARDS: each row of YtcgbhcmgddgheaaDoorRows.lean that lists a variable, with what it lists TIED to the program's text (the seventh form; the later family's looks); each row that meets fmt, with fmt's text TOLD by the authors' own Lean function (tested against real Go, not proved from fmt's source: count such statements apart). THE CARD IS WHAT COUNTS. Prove the row's statement (the work); the ties are given (YtcgbhcmgddgheaaDoorTie.lean); close each card by the builder's one call (the guide's Derived/Test/ToyasCard.lean, 'card_holds'). Laid BY PROGRAM, IN A SANDBOX (cutbox-door.mjs). By AI agents, Wed Nov 11 2026. No macro, syntax, notation, axiom, sorry.
-/
import Derived.Test.YtcgbhcmgddgheaaDoorRows
import GoSem.ClaimSeven
namespace Go.Proofs.YtcgbhcmgddgheaaDoor
namespace Rows

/-- THE TIED CARD OF 'rhynelaw07.VlqPuts'. -/
def vlqPutsCard : Claim7 := { stood := { row := vlqPutsRow, standIns := [], harness := (true, "e64395a9766b199dc9aae543bb771f0a2c891cedd0dc0b094b7c817878d5574e"), looks := false }, kinds := [], alts := [], laidByText := true, laidKinds := [.data, .data], laidTests := true, laidLooks := .later }
def VlqPutsCardSaid : Prop := Claim7.holds Tryd.pinned (.plain (OpenSpec.ofChange vlqPutsSpec)) vlqPutsCard

/-- THE TIED CARD OF 'rhynelaw07.VlqKinds'. -/
def vlqKindsCard : Claim7 := { stood := { row := vlqKindsRow, standIns := [], harness := (true, "e64395a9766b199dc9aae543bb771f0a2c891cedd0dc0b094b7c817878d5574e"), looks := false }, kinds := [], alts := [], laidByText := true, laidKinds := [.data, .data], laidTests := true, laidLooks := .later }
def VlqKindsCardSaid : Prop := Claim7.holds Tryd.pinned (.plain (OpenSpec.ofChange vlqKindsSpec)) vlqKindsCard

/-- THE TIED CARD OF 'rhynelaw07.VlqGets'. -/
def vlqGetsCard : Claim7 := { stood := { row := vlqGetsRow, standIns := [], harness := (true, "e64395a9766b199dc9aae543bb771f0a2c891cedd0dc0b094b7c817878d5574e"), looks := false }, kinds := [], alts := [], laidByText := true, laidKinds := [.data, .data], laidTests := true, laidLooks := .later }
def VlqGetsCardSaid : Prop := Claim7.holds Tryd.pinned (.plain (OpenSpec.ofChange vlqGetsSpec)) vlqGetsCard

/-- THE TIED CARD OF 'rhynelaw07.VlqReturns'. -/
def vlqReturnsCard : Claim7 := { stood := { row := vlqReturnsRow, standIns := [], harness := (true, "e64395a9766b199dc9aae543bb771f0a2c891cedd0dc0b094b7c817878d5574e"), looks := false }, kinds := [], alts := [], laidByText := true, laidKinds := [.data, .data], laidTests := true, laidLooks := .later }
def VlqReturnsCardSaid : Prop := Claim7.holds Tryd.pinned (.plain (OpenSpec.ofChange vlqReturnsSpec)) vlqReturnsCard

/-- THE TIED CARD OF 'rhynelaw07.VlqLists'. -/
def vlqListsCard : Claim7 := { stood := { row := vlqListsRow, standIns := [], harness := (true, "e64395a9766b199dc9aae543bb771f0a2c891cedd0dc0b094b7c817878d5574e"), looks := false }, kinds := [], alts := [], laidByText := true, laidKinds := [.data, .data], laidTests := true, laidLooks := .later }
def VlqListsCardSaid : Prop := Claim7.holds Tryd.pinned (.plain (OpenSpec.ofChange vlqListsSpec)) vlqListsCard

/-- THE TIED CARD OF 'rhynelaw07.VlqLess'. -/
def vlqLessCard : Claim7 := { stood := { row := vlqLessRow, standIns := [], harness := (true, "e64395a9766b199dc9aae543bb771f0a2c891cedd0dc0b094b7c817878d5574e"), looks := false }, kinds := [], alts := [], laidByText := true, laidKinds := [.data, .data], laidTests := true, laidLooks := .later }
def VlqLessCardSaid : Prop := Claim7.holds Tryd.pinned (.plain (OpenSpec.ofChange vlqLessSpec)) vlqLessCard

/-- THE TIED CARD OF 'rhynelaw08.PacketPuts'. -/
def packetPutsCard : Claim7 := { stood := { row := packetPutsRow, standIns := [], harness := (true, "e64395a9766b199dc9aae543bb771f0a2c891cedd0dc0b094b7c817878d5574e"), looks := false }, kinds := [], alts := [], laidByText := true, laidKinds := [.data, .data], laidTests := true, laidLooks := .later }
def PacketPutsCardSaid : Prop := Claim7.holds Tryd.pinned (.plain (OpenSpec.ofChange packetPutsSpec)) packetPutsCard

/-- THE TIED CARD OF 'rhynelaw08.PacketGets'. -/
def packetGetsCard : Claim7 := { stood := { row := packetGetsRow, standIns := [], harness := (true, "e64395a9766b199dc9aae543bb771f0a2c891cedd0dc0b094b7c817878d5574e"), looks := false }, kinds := [], alts := [], laidByText := true, laidKinds := [.data, .data], laidTests := true, laidLooks := .later }
def PacketGetsCardSaid : Prop := Claim7.holds Tryd.pinned (.plain (OpenSpec.ofChange packetGetsSpec)) packetGetsCard

/-- THE TIED CARD OF 'rhynelaw08.PacketBack'. -/
def packetBackCard : Claim7 := { stood := { row := packetBackRow, standIns := [], harness := (true, "e64395a9766b199dc9aae543bb771f0a2c891cedd0dc0b094b7c817878d5574e"), looks := false }, kinds := [], alts := [], laidByText := true, laidKinds := [.data, .data], laidTests := true, laidLooks := .later }
def PacketBackCardSaid : Prop := Claim7.holds Tryd.pinned (.plain (OpenSpec.ofChange packetBackSpec)) packetBackCard

/-- THE TIED CARD OF 'rhynelaw08.PacketNear'. -/
def packetNearCard : Claim7 := { stood := { row := packetNearRow, standIns := [], harness := (true, "e64395a9766b199dc9aae543bb771f0a2c891cedd0dc0b094b7c817878d5574e"), looks := false }, kinds := [], alts := [], laidByText := true, laidKinds := [.data, .data], laidTests := true, laidLooks := .later }
def PacketNearCardSaid : Prop := Claim7.holds Tryd.pinned (.plain (OpenSpec.ofChange packetNearSpec)) packetNearCard

/-- THE TIED CARD OF 'rhynelaw08.PacketRows'. -/
def packetRowsCard : Claim7 := { stood := { row := packetRowsRow, standIns := [], harness := (true, "e64395a9766b199dc9aae543bb771f0a2c891cedd0dc0b094b7c817878d5574e"), looks := false }, kinds := [], alts := [], laidByText := true, laidKinds := [.data, .data], laidTests := true, laidLooks := .later }
def PacketRowsCardSaid : Prop := Claim7.holds Tryd.pinned (.plain (OpenSpec.ofChange packetRowsSpec)) packetRowsCard

/-- THE SECOND FORM's CARD OF 'rhynelaw07.VlqPuts'. -/
def vlqPutsUptoCard : Claim7 := { stood := { row := vlqPutsUptoRow, standIns := [], harness := (true, "e64395a9766b199dc9aae543bb771f0a2c891cedd0dc0b094b7c817878d5574e"), looks := false }, kinds := [], alts := [], laidByText := true, laidKinds := [.data, .data], laidTests := true, laidLooks := .later }
def VlqPutsUptoCardSaid : Prop := Claim7.holds Tryd.pinned (.plain (OpenSpec.upto vlqPutsSpec)) vlqPutsUptoCard

/-- THE SECOND FORM's CARD OF 'rhynelaw07.VlqKinds'. -/
def vlqKindsUptoCard : Claim7 := { stood := { row := vlqKindsUptoRow, standIns := [], harness := (true, "e64395a9766b199dc9aae543bb771f0a2c891cedd0dc0b094b7c817878d5574e"), looks := false }, kinds := [], alts := [], laidByText := true, laidKinds := [.data, .data], laidTests := true, laidLooks := .later }
def VlqKindsUptoCardSaid : Prop := Claim7.holds Tryd.pinned (.plain (OpenSpec.upto vlqKindsSpec)) vlqKindsUptoCard

/-- THE SECOND FORM's CARD OF 'rhynelaw07.VlqGets'. -/
def vlqGetsUptoCard : Claim7 := { stood := { row := vlqGetsUptoRow, standIns := [], harness := (true, "e64395a9766b199dc9aae543bb771f0a2c891cedd0dc0b094b7c817878d5574e"), looks := false }, kinds := [], alts := [], laidByText := true, laidKinds := [.data, .data], laidTests := true, laidLooks := .later }
def VlqGetsUptoCardSaid : Prop := Claim7.holds Tryd.pinned (.plain (OpenSpec.upto vlqGetsSpec)) vlqGetsUptoCard

/-- THE SECOND FORM's CARD OF 'rhynelaw07.VlqReturns'. -/
def vlqReturnsUptoCard : Claim7 := { stood := { row := vlqReturnsUptoRow, standIns := [], harness := (true, "e64395a9766b199dc9aae543bb771f0a2c891cedd0dc0b094b7c817878d5574e"), looks := false }, kinds := [], alts := [], laidByText := true, laidKinds := [.data, .data], laidTests := true, laidLooks := .later }
def VlqReturnsUptoCardSaid : Prop := Claim7.holds Tryd.pinned (.plain (OpenSpec.upto vlqReturnsSpec)) vlqReturnsUptoCard

/-- THE SECOND FORM's CARD OF 'rhynelaw07.VlqLists'. -/
def vlqListsUptoCard : Claim7 := { stood := { row := vlqListsUptoRow, standIns := [], harness := (true, "e64395a9766b199dc9aae543bb771f0a2c891cedd0dc0b094b7c817878d5574e"), looks := false }, kinds := [], alts := [], laidByText := true, laidKinds := [.data, .data], laidTests := true, laidLooks := .later }
def VlqListsUptoCardSaid : Prop := Claim7.holds Tryd.pinned (.plain (OpenSpec.upto vlqListsSpec)) vlqListsUptoCard

/-- THE SECOND FORM's CARD OF 'rhynelaw07.VlqLess'. -/
def vlqLessUptoCard : Claim7 := { stood := { row := vlqLessUptoRow, standIns := [], harness := (true, "e64395a9766b199dc9aae543bb771f0a2c891cedd0dc0b094b7c817878d5574e"), looks := false }, kinds := [], alts := [], laidByText := true, laidKinds := [.data, .data], laidTests := true, laidLooks := .later }
def VlqLessUptoCardSaid : Prop := Claim7.holds Tryd.pinned (.plain (OpenSpec.upto vlqLessSpec)) vlqLessUptoCard

/-- THE SECOND FORM's CARD OF 'rhynelaw08.PacketPuts'. -/
def packetPutsUptoCard : Claim7 := { stood := { row := packetPutsUptoRow, standIns := [], harness := (true, "e64395a9766b199dc9aae543bb771f0a2c891cedd0dc0b094b7c817878d5574e"), looks := false }, kinds := [], alts := [], laidByText := true, laidKinds := [.data, .data], laidTests := true, laidLooks := .later }
def PacketPutsUptoCardSaid : Prop := Claim7.holds Tryd.pinned (.plain (OpenSpec.upto packetPutsSpec)) packetPutsUptoCard

/-- THE SECOND FORM's CARD OF 'rhynelaw08.PacketGets'. -/
def packetGetsUptoCard : Claim7 := { stood := { row := packetGetsUptoRow, standIns := [], harness := (true, "e64395a9766b199dc9aae543bb771f0a2c891cedd0dc0b094b7c817878d5574e"), looks := false }, kinds := [], alts := [], laidByText := true, laidKinds := [.data, .data], laidTests := true, laidLooks := .later }
def PacketGetsUptoCardSaid : Prop := Claim7.holds Tryd.pinned (.plain (OpenSpec.upto packetGetsSpec)) packetGetsUptoCard

/-- THE SECOND FORM's CARD OF 'rhynelaw08.PacketBack'. -/
def packetBackUptoCard : Claim7 := { stood := { row := packetBackUptoRow, standIns := [], harness := (true, "e64395a9766b199dc9aae543bb771f0a2c891cedd0dc0b094b7c817878d5574e"), looks := false }, kinds := [], alts := [], laidByText := true, laidKinds := [.data, .data], laidTests := true, laidLooks := .later }
def PacketBackUptoCardSaid : Prop := Claim7.holds Tryd.pinned (.plain (OpenSpec.upto packetBackSpec)) packetBackUptoCard

/-- THE SECOND FORM's CARD OF 'rhynelaw08.PacketNear'. -/
def packetNearUptoCard : Claim7 := { stood := { row := packetNearUptoRow, standIns := [], harness := (true, "e64395a9766b199dc9aae543bb771f0a2c891cedd0dc0b094b7c817878d5574e"), looks := false }, kinds := [], alts := [], laidByText := true, laidKinds := [.data, .data], laidTests := true, laidLooks := .later }
def PacketNearUptoCardSaid : Prop := Claim7.holds Tryd.pinned (.plain (OpenSpec.upto packetNearSpec)) packetNearUptoCard

/-- THE SECOND FORM's CARD OF 'rhynelaw08.PacketRows'. -/
def packetRowsUptoCard : Claim7 := { stood := { row := packetRowsUptoRow, standIns := [], harness := (true, "e64395a9766b199dc9aae543bb771f0a2c891cedd0dc0b094b7c817878d5574e"), looks := false }, kinds := [], alts := [], laidByText := true, laidKinds := [.data, .data], laidTests := true, laidLooks := .later }
def PacketRowsUptoCardSaid : Prop := Claim7.holds Tryd.pinned (.plain (OpenSpec.upto packetRowsSpec)) packetRowsUptoCard
end Rows
end Go.Proofs.YtcgbhcmgddgheaaDoor
