/-
  No cell of these rows narrows 'for every input' (looked for: loops, veiled, ifaces, maps, wideKeys, modest, calm, conditions, laid).
  DERIVED. THE GIVEN ROWS OF THIS SEAT. 3 by the template 'for every input the law returns true; each argument reads behind the call as it read before'; 0 by the template 'total and deterministic' (their statements: YtoocglckhphepaaTotals.lean).
  GIVEN WITH THE SEED: the statements are not yours to turn. If you find one false, say at which input.
  Laid BY PROGRAM, IN A SANDBOX (cutbox-rows.mjs): the forced cells as the released guide's own fill.sh prints them over the translation eef4f06144a8f0e0… (all of the seat's roots in one cut). By AI agents, Wed Nov 11 2026. No macro, syntax, notation, axiom, sorry.
-/
import Derived.Test.YtoocglckhphepaaChecked
import GoSem.Claim
import GoSem.ClaimJoined
import GoSem.ClaimMapViews
import Derived.JoinedTies
import Derived.KernelRfl
namespace Go.Proofs.Ytoocglckhphepaa
/- THE CELL 'sum', in the pinned program and in every row, IS THE sha256 OF THE DUMP (.gsa) THAT YtoocglckhphepaaProg.lean LOADS. Nothing in Lean hashes anything: it is a label: what it is worth is what the hold of that sum in a sandbox is worth. -/
noncomputable def Try.pinned : Pinned := { name := "ytoocglckhphepaa", sum := "eef4f06144a8f0e0027cbedf2e52cebecc170796f7c4a0e83a7c72e0b1ec4913", checked := Try.checked }
namespace Rows
def none {H : Type} : Left H := { results := [], args := [] }

/-- 'rhynelaw04.GcmTimes': WHATEVER THE INPUT: true; the input reads as it did. -/
def gcmTimesSpec : ChangeSpec := { name := "gcmTimes", fn := fun _ => fun
  | [d1, d2, d3] => { results := [.lit (.bool true)], args := [d1, d2, d3] }
  | _ => none }
def gcmTimesRow : OpenClaim := { program := "ytoocglckhphepaa", sum := "eef4f06144a8f0e0027cbedf2e52cebecc170796f7c4a0e83a7c72e0b1ec4913", func := "rhyne/rhynelaw04.GcmTimes", spec := "gcmTimes", apart := false }
def GcmTimesSaid : Prop := gcmTimesRow.holds Try.pinned (OpenSpec.ofChange gcmTimesSpec)

/-- ITS FALSE NEIGHBOUR: 'it returns false'. Refute it at one input. -/
def gcmTimesWrong : ChangeSpec := { name := "gcmTimes", fn := fun _ => fun
  | [d1, d2, d3] => { results := [.lit (.bool false)], args := [d1, d2, d3] }
  | _ => none }
def GcmTimesWrongFalsely : Prop := gcmTimesRow.holds Try.pinned (OpenSpec.ofChange gcmTimesWrong)

/-- 'rhynelaw04.GcmSeal': WHATEVER THE INPUT: true; the input reads as it did. -/
def gcmSealSpec : ChangeSpec := { name := "gcmSeal", fn := fun _ => fun
  | [d] => { results := [.lit (.bool true)], args := [d] }
  | _ => none }
def gcmSealRow : OpenClaim := { program := "ytoocglckhphepaa", sum := "eef4f06144a8f0e0027cbedf2e52cebecc170796f7c4a0e83a7c72e0b1ec4913", func := "rhyne/rhynelaw04.GcmSeal", spec := "gcmSeal", apart := false }
def GcmSealSaid : Prop := gcmSealRow.holds Try.pinned (OpenSpec.ofChange gcmSealSpec)

/-- ITS FALSE NEIGHBOUR: 'it returns false'. Refute it at one input. -/
def gcmSealWrong : ChangeSpec := { name := "gcmSeal", fn := fun _ => fun
  | [d] => { results := [.lit (.bool false)], args := [d] }
  | _ => none }
def GcmSealWrongFalsely : Prop := gcmSealRow.holds Try.pinned (OpenSpec.ofChange gcmSealWrong)

/-- 'rhynelaw04.GcmSpoilt': WHATEVER THE INPUT: true; the input reads as it did. -/
def gcmSpoiltSpec : ChangeSpec := { name := "gcmSpoilt", fn := fun _ => fun
  | [d1, d2, d3] => { results := [.lit (.bool true)], args := [d1, d2, d3] }
  | _ => none }
def gcmSpoiltRow : OpenClaim := { program := "ytoocglckhphepaa", sum := "eef4f06144a8f0e0027cbedf2e52cebecc170796f7c4a0e83a7c72e0b1ec4913", func := "rhyne/rhynelaw04.GcmSpoilt", spec := "gcmSpoilt", apart := false }
def GcmSpoiltSaid : Prop := gcmSpoiltRow.holds Try.pinned (OpenSpec.ofChange gcmSpoiltSpec)

/-- ITS FALSE NEIGHBOUR: 'it returns false'. Refute it at one input. -/
def gcmSpoiltWrong : ChangeSpec := { name := "gcmSpoilt", fn := fun _ => fun
  | [d1, d2, d3] => { results := [.lit (.bool false)], args := [d1, d2, d3] }
  | _ => none }
def GcmSpoiltWrongFalsely : Prop := gcmSpoiltRow.holds Try.pinned (OpenSpec.ofChange gcmSpoiltWrong)

/- THE SECOND FORM. 'bulk': how many values and letters a reading holds, each counted each time it is reached (what is shared counts as often as it is met; a slice's spare places count too). A statement '..UptoSaid' is the law's where the arguments, and the package variables that the reading takes, are together of bulk at most 1048576: NARROWER than '..Said'. Prove '..Said' where nothing that the law and all that it calls make is longer than what came in: it says more and counts as full. Else prove '..UptoSaid'. A law counts once. -/
mutual
def uptoBulk {H : Type} : DataW H → Nat
  | .lit (.string bytes) => bytes.length + 1
  | .lit _ => 1
  | .nil => 1
  | .ptr d => uptoBulk d + 1
  | .slice elems spare => uptoBulkAll elems + uptoBulkAll spare + 1
  | .agg parts => uptoBulkAll parts + 1
  | .iface _ d => uptoBulk d + 1
  | .map entries => uptoBulkEntries entries + 1
  | .held _ => 1
def uptoBulkAll {H : Type} : List (DataW H) → Nat
  | [] => 0
  | d :: r => uptoBulk d + uptoBulkAll r
def uptoBulkEntries {H : Type} : List (Lit × DataW H) → Nat
  | [] => 0
  | x :: r => uptoBulkEntry x + uptoBulkEntries r
def uptoBulkEntry {H : Type} : Lit × DataW H → Nat
  | (.string bytes, d) => bytes.length + uptoBulk d + 1
  | (_, d) => uptoBulk d + 1
 end
def uptoSmall : (H : Type) → List (DataW H) → Bool := fun _ ds => decide (uptoBulkAll ds ≤ 1048576)
def OpenSpec.upto (s : _root_.Go.ChangeSpec) : _root_.Go.OpenSpec := { _root_.Go.OpenSpec.ofChange s with cond := some uptoSmall }

/-- 'rhynelaw04.GcmTimes', WHERE WHAT IT READS IS OF BULK AT MOST 1048576: true; the input reads as it did. -/
def gcmTimesUptoRow : OpenClaim := { program := "ytoocglckhphepaa", sum := "eef4f06144a8f0e0027cbedf2e52cebecc170796f7c4a0e83a7c72e0b1ec4913", func := "rhyne/rhynelaw04.GcmTimes", spec := "gcmTimes", apart := false, narrowed := true }
def GcmTimesUptoSaid : Prop := gcmTimesUptoRow.holds Try.pinned (OpenSpec.upto gcmTimesSpec)

/-- 'rhynelaw04.GcmSeal', WHERE WHAT IT READS IS OF BULK AT MOST 1048576: true; the input reads as it did. -/
def gcmSealUptoRow : OpenClaim := { program := "ytoocglckhphepaa", sum := "eef4f06144a8f0e0027cbedf2e52cebecc170796f7c4a0e83a7c72e0b1ec4913", func := "rhyne/rhynelaw04.GcmSeal", spec := "gcmSeal", apart := false, narrowed := true }
def GcmSealUptoSaid : Prop := gcmSealUptoRow.holds Try.pinned (OpenSpec.upto gcmSealSpec)

/-- 'rhynelaw04.GcmSpoilt', WHERE WHAT IT READS IS OF BULK AT MOST 1048576: true; the input reads as it did. -/
def gcmSpoiltUptoRow : OpenClaim := { program := "ytoocglckhphepaa", sum := "eef4f06144a8f0e0027cbedf2e52cebecc170796f7c4a0e83a7c72e0b1ec4913", func := "rhyne/rhynelaw04.GcmSpoilt", spec := "gcmSpoilt", apart := false, narrowed := true }
def GcmSpoiltUptoSaid : Prop := gcmSpoiltUptoRow.holds Try.pinned (OpenSpec.upto gcmSpoiltSpec)

end Rows
end Go.Proofs.Ytoocglckhphepaa
