/-
  DERIVED. GIVEN WITH THE SEED: THE CARDS: each row of YtebhhonmpoeliaaDoorRows.lean that lists a variable, with what it lists TIED to the program's text (the seventh form; the later family's looks); each row that meets fmt, with fmt's text TOLD by the authors' own Lean function (tested against real Go, not proved from fmt's source: count such statements apart). THE CARD IS WHAT COUNTS. Prove the row's statement (the work); the ties are given (YtebhhonmpoeliaaDoorTie.lean); close each card by the builder's one call (the guide's Derived/Test/ToyasCard.lean, 'card_holds'). Laid BY PROGRAM, IN A SANDBOX (cutbox-door.mjs). By AI agents, Wed Nov 11 2026. No macro, syntax, notation, axiom, sorry.
-/
import Derived.Test.YtebhhonmpoeliaaDoorRows
import GoSem.ClaimSeven
namespace Go.Proofs.YtebhhonmpoeliaaDoor
namespace Rows

/-- THE TIED CARD OF 'rhynelaw10.GuardKeys'. -/
def guardKeysCard : Claim7 := { stood := { row := guardKeysRow, standIns := [], harness := (true, "53851983ac3ef5e0a7d9714465ff2920094f44ccf2808a81a194b9ff8ab449b5"), looks := false }, kinds := [], alts := [], laidByText := true, laidKinds := [.data], laidTests := true, laidLooks := .later }
def GuardKeysCardSaid : Prop := Claim7.holds Tryd.pinned (.plain (OpenSpec.ofChange guardKeysSpec)) guardKeysCard

/-- THE SECOND FORM's CARD OF 'rhynelaw10.GuardKeys'. -/
def guardKeysUptoCard : Claim7 := { stood := { row := guardKeysUptoRow, standIns := [], harness := (true, "53851983ac3ef5e0a7d9714465ff2920094f44ccf2808a81a194b9ff8ab449b5"), looks := false }, kinds := [], alts := [], laidByText := true, laidKinds := [.data], laidTests := true, laidLooks := .later }
def GuardKeysUptoCardSaid : Prop := Claim7.holds Tryd.pinned (.plain (OpenSpec.upto guardKeysSpec)) guardKeysUptoCard
end Rows
end Go.Proofs.YtebhhonmpoeliaaDoor
