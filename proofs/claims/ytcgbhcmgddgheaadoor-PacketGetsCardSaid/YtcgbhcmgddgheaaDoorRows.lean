/-
  NARROWER THAN 'FOR EVERY INPUT', by the rows' own cells (each row's printed sentence says how): VlqPuts: laid · VlqKinds: laid · VlqGets: laid · VlqReturns: laid · VlqLists: laid · VlqLess: laid · PacketPuts: laid · PacketGets: laid · PacketBack: laid · PacketNear: laid · PacketRows: laid.
  DERIVED. THE GIVEN ROWS OF THIS SEAT. 11 by the template 'for every input the law returns true; each argument reads behind the call as it read before'; 0 by the template 'total and deterministic' (their statements: YtcgbhcmgddgheaaDoorTotals.lean).
  GIVEN WITH THE SEED: the statements are not yours to turn. If you find one false, say at which input.
  Laid BY PROGRAM, IN A SANDBOX (cutbox-rows.mjs): the forced cells as the released guide's own fill.sh prints them over the translation 321646166c9e67b9… (all of the seat's roots in one cut). By AI agents, Wed Nov 11 2026. No macro, syntax, notation, axiom, sorry.
-/
import Derived.Test.YtcgbhcmgddgheaaDoorChecked
import GoSem.Claim
import GoSem.ClaimJoined
import GoSem.ClaimMapViews
import Derived.JoinedTies
import Derived.KernelRfl
namespace Go.Proofs.YtcgbhcmgddgheaaDoor
/- THE CELL 'sum', in the pinned program and in every row, IS THE sha256 OF THE DUMP (.gsa) THAT YtcgbhcmgddgheaaDoorProg.lean LOADS. Nothing in Lean hashes anything: it is a label: what it is worth is what the hold of that sum in a sandbox is worth. -/
noncomputable def Tryd.pinned : Pinned := { name := "ytcgbhcmgddgheaadoor", sum := "321646166c9e67b9363c4acf7d902cd86aa19f49f39df222117ad27b6543cd18", checked := Tryd.checked }
namespace Rows
def none {H : Type} : Left H := { results := [], args := [] }

/- WHAT THE LISTED PACKAGE-LEVEL VARIABLES READ AS WHEN THE CALL BEGINS. Each datum BY PROGRAM (the guide's laid-datum.mjs) off the statement by which the dump's own 'gosem.cut.vars' lays the variable. In a bare row this is a premise. The card (YtcgbhcmgddgheaaDoorCards.lean) ties it to the program's text. -/
def laid_math_bits_deBruijn32tab {H : Type} : DataW H := .agg [.lit (.int .u8 0), .lit (.int .u8 1), .lit (.int .u8 28), .lit (.int .u8 2), .lit (.int .u8 29), .lit (.int .u8 14), .lit (.int .u8 24), .lit (.int .u8 3), .lit (.int .u8 30), .lit (.int .u8 22), .lit (.int .u8 20), .lit (.int .u8 15), .lit (.int .u8 25), .lit (.int .u8 17), .lit (.int .u8 4), .lit (.int .u8 8), .lit (.int .u8 31), .lit (.int .u8 27), .lit (.int .u8 13), .lit (.int .u8 23), .lit (.int .u8 21), .lit (.int .u8 19), .lit (.int .u8 16), .lit (.int .u8 7), .lit (.int .u8 26), .lit (.int .u8 12), .lit (.int .u8 18), .lit (.int .u8 6), .lit (.int .u8 11), .lit (.int .u8 5), .lit (.int .u8 10), .lit (.int .u8 9)]
def laid_math_bits_deBruijn64tab {H : Type} : DataW H := .agg [.lit (.int .u8 0), .lit (.int .u8 1), .lit (.int .u8 56), .lit (.int .u8 2), .lit (.int .u8 57), .lit (.int .u8 49), .lit (.int .u8 28), .lit (.int .u8 3), .lit (.int .u8 61), .lit (.int .u8 58), .lit (.int .u8 42), .lit (.int .u8 50), .lit (.int .u8 38), .lit (.int .u8 29), .lit (.int .u8 17), .lit (.int .u8 4), .lit (.int .u8 62), .lit (.int .u8 47), .lit (.int .u8 59), .lit (.int .u8 36), .lit (.int .u8 45), .lit (.int .u8 43), .lit (.int .u8 51), .lit (.int .u8 22), .lit (.int .u8 53), .lit (.int .u8 39), .lit (.int .u8 33), .lit (.int .u8 30), .lit (.int .u8 24), .lit (.int .u8 18), .lit (.int .u8 12), .lit (.int .u8 5), .lit (.int .u8 63), .lit (.int .u8 55), .lit (.int .u8 48), .lit (.int .u8 27), .lit (.int .u8 60), .lit (.int .u8 41), .lit (.int .u8 37), .lit (.int .u8 16), .lit (.int .u8 46), .lit (.int .u8 35), .lit (.int .u8 44), .lit (.int .u8 21), .lit (.int .u8 52), .lit (.int .u8 32), .lit (.int .u8 23), .lit (.int .u8 11), .lit (.int .u8 54), .lit (.int .u8 26), .lit (.int .u8 40), .lit (.int .u8 15), .lit (.int .u8 34), .lit (.int .u8 20), .lit (.int .u8 31), .lit (.int .u8 10), .lit (.int .u8 25), .lit (.int .u8 14), .lit (.int .u8 19), .lit (.int .u8 9), .lit (.int .u8 13), .lit (.int .u8 8), .lit (.int .u8 7), .lit (.int .u8 6)]

/-- 'rhynelaw07.VlqPuts': WHATEVER THE INPUT: true; the input reads as it did. -/
def vlqPutsSpec : ChangeSpec := { name := "vlqPuts", fn := fun _ => fun
  | [d1, d2, d3] => { results := [.lit (.bool true)], args := [d1, d2, d3] }
  | _ => none }
def vlqPutsRow : OpenClaim := { program := "ytcgbhcmgddgheaadoor", sum := "321646166c9e67b9363c4acf7d902cd86aa19f49f39df222117ad27b6543cd18", func := "rhyne/rhynelaw07.VlqPuts", spec := "vlqPuts", named := ["math/bits.deBruijn32tab", "math/bits.deBruijn64tab"], apart := false, laid := [("math/bits.deBruijn32tab", laid_math_bits_deBruijn32tab), ("math/bits.deBruijn64tab", laid_math_bits_deBruijn64tab)] }
def VlqPutsSaid : Prop := vlqPutsRow.holds Tryd.pinned (OpenSpec.ofChange vlqPutsSpec)

/-- ITS FALSE NEIGHBOUR: 'it returns false'. Refute it at one input. -/
def vlqPutsWrong : ChangeSpec := { name := "vlqPuts", fn := fun _ => fun
  | [d1, d2, d3] => { results := [.lit (.bool false)], args := [d1, d2, d3] }
  | _ => none }
def VlqPutsWrongFalsely : Prop := vlqPutsRow.holds Tryd.pinned (OpenSpec.ofChange vlqPutsWrong)

/-- 'rhynelaw07.VlqKinds': WHATEVER THE INPUT: true; the input reads as it did. -/
def vlqKindsSpec : ChangeSpec := { name := "vlqKinds", fn := fun _ => fun
  | [d1, d2] => { results := [.lit (.bool true)], args := [d1, d2] }
  | _ => none }
def vlqKindsRow : OpenClaim := { program := "ytcgbhcmgddgheaadoor", sum := "321646166c9e67b9363c4acf7d902cd86aa19f49f39df222117ad27b6543cd18", func := "rhyne/rhynelaw07.VlqKinds", spec := "vlqKinds", named := ["math/bits.deBruijn32tab", "math/bits.deBruijn64tab"], apart := false, laid := [("math/bits.deBruijn32tab", laid_math_bits_deBruijn32tab), ("math/bits.deBruijn64tab", laid_math_bits_deBruijn64tab)] }
def VlqKindsSaid : Prop := vlqKindsRow.holds Tryd.pinned (OpenSpec.ofChange vlqKindsSpec)

/-- ITS FALSE NEIGHBOUR: 'it returns false'. Refute it at one input. -/
def vlqKindsWrong : ChangeSpec := { name := "vlqKinds", fn := fun _ => fun
  | [d1, d2] => { results := [.lit (.bool false)], args := [d1, d2] }
  | _ => none }
def VlqKindsWrongFalsely : Prop := vlqKindsRow.holds Tryd.pinned (OpenSpec.ofChange vlqKindsWrong)

/-- 'rhynelaw07.VlqGets': WHATEVER THE INPUT: true; the input reads as it did. -/
def vlqGetsSpec : ChangeSpec := { name := "vlqGets", fn := fun _ => fun
  | [d] => { results := [.lit (.bool true)], args := [d] }
  | _ => none }
def vlqGetsRow : OpenClaim := { program := "ytcgbhcmgddgheaadoor", sum := "321646166c9e67b9363c4acf7d902cd86aa19f49f39df222117ad27b6543cd18", func := "rhyne/rhynelaw07.VlqGets", spec := "vlqGets", named := ["math/bits.deBruijn32tab", "math/bits.deBruijn64tab"], apart := false, laid := [("math/bits.deBruijn32tab", laid_math_bits_deBruijn32tab), ("math/bits.deBruijn64tab", laid_math_bits_deBruijn64tab)] }
def VlqGetsSaid : Prop := vlqGetsRow.holds Tryd.pinned (OpenSpec.ofChange vlqGetsSpec)

/-- ITS FALSE NEIGHBOUR: 'it returns false'. Refute it at one input. -/
def vlqGetsWrong : ChangeSpec := { name := "vlqGets", fn := fun _ => fun
  | [d] => { results := [.lit (.bool false)], args := [d] }
  | _ => none }
def VlqGetsWrongFalsely : Prop := vlqGetsRow.holds Tryd.pinned (OpenSpec.ofChange vlqGetsWrong)

/-- 'rhynelaw07.VlqReturns': WHATEVER THE INPUT: true; the input reads as it did. -/
def vlqReturnsSpec : ChangeSpec := { name := "vlqReturns", fn := fun _ => fun
  | [d] => { results := [.lit (.bool true)], args := [d] }
  | _ => none }
def vlqReturnsRow : OpenClaim := { program := "ytcgbhcmgddgheaadoor", sum := "321646166c9e67b9363c4acf7d902cd86aa19f49f39df222117ad27b6543cd18", func := "rhyne/rhynelaw07.VlqReturns", spec := "vlqReturns", named := ["math/bits.deBruijn32tab", "math/bits.deBruijn64tab"], apart := false, laid := [("math/bits.deBruijn32tab", laid_math_bits_deBruijn32tab), ("math/bits.deBruijn64tab", laid_math_bits_deBruijn64tab)] }
def VlqReturnsSaid : Prop := vlqReturnsRow.holds Tryd.pinned (OpenSpec.ofChange vlqReturnsSpec)

/-- ITS FALSE NEIGHBOUR: 'it returns false'. Refute it at one input. -/
def vlqReturnsWrong : ChangeSpec := { name := "vlqReturns", fn := fun _ => fun
  | [d] => { results := [.lit (.bool false)], args := [d] }
  | _ => none }
def VlqReturnsWrongFalsely : Prop := vlqReturnsRow.holds Tryd.pinned (OpenSpec.ofChange vlqReturnsWrong)

/-- 'rhynelaw07.VlqLists': WHATEVER THE INPUT: true; the input reads as it did. -/
def vlqListsSpec : ChangeSpec := { name := "vlqLists", fn := fun _ => fun
  | [d] => { results := [.lit (.bool true)], args := [d] }
  | _ => none }
def vlqListsRow : OpenClaim := { program := "ytcgbhcmgddgheaadoor", sum := "321646166c9e67b9363c4acf7d902cd86aa19f49f39df222117ad27b6543cd18", func := "rhyne/rhynelaw07.VlqLists", spec := "vlqLists", unfollowed := true, recurses := true, named := ["math/bits.deBruijn32tab", "math/bits.deBruijn64tab"], apart := false, laid := [("math/bits.deBruijn32tab", laid_math_bits_deBruijn32tab), ("math/bits.deBruijn64tab", laid_math_bits_deBruijn64tab)] }
def VlqListsSaid : Prop := vlqListsRow.holds Tryd.pinned (OpenSpec.ofChange vlqListsSpec)

/-- ITS FALSE NEIGHBOUR: 'it returns false'. Refute it at one input. -/
def vlqListsWrong : ChangeSpec := { name := "vlqLists", fn := fun _ => fun
  | [d] => { results := [.lit (.bool false)], args := [d] }
  | _ => none }
def VlqListsWrongFalsely : Prop := vlqListsRow.holds Tryd.pinned (OpenSpec.ofChange vlqListsWrong)

/-- 'rhynelaw07.VlqLess': WHATEVER THE INPUT: true; the input reads as it did. -/
def vlqLessSpec : ChangeSpec := { name := "vlqLess", fn := fun _ => fun
  | [d1, d2] => { results := [.lit (.bool true)], args := [d1, d2] }
  | _ => none }
def vlqLessRow : OpenClaim := { program := "ytcgbhcmgddgheaadoor", sum := "321646166c9e67b9363c4acf7d902cd86aa19f49f39df222117ad27b6543cd18", func := "rhyne/rhynelaw07.VlqLess", spec := "vlqLess", named := ["math/bits.deBruijn32tab", "math/bits.deBruijn64tab"], apart := false, laid := [("math/bits.deBruijn32tab", laid_math_bits_deBruijn32tab), ("math/bits.deBruijn64tab", laid_math_bits_deBruijn64tab)] }
def VlqLessSaid : Prop := vlqLessRow.holds Tryd.pinned (OpenSpec.ofChange vlqLessSpec)

/-- ITS FALSE NEIGHBOUR: 'it returns false'. Refute it at one input. -/
def vlqLessWrong : ChangeSpec := { name := "vlqLess", fn := fun _ => fun
  | [d1, d2] => { results := [.lit (.bool false)], args := [d1, d2] }
  | _ => none }
def VlqLessWrongFalsely : Prop := vlqLessRow.holds Tryd.pinned (OpenSpec.ofChange vlqLessWrong)

/-- 'rhynelaw08.PacketPuts': WHATEVER THE INPUT: true; the input reads as it did. -/
def packetPutsSpec : ChangeSpec := { name := "packetPuts", fn := fun _ => fun
  | [d] => { results := [.lit (.bool true)], args := [d] }
  | _ => none }
def packetPutsRow : OpenClaim := { program := "ytcgbhcmgddgheaadoor", sum := "321646166c9e67b9363c4acf7d902cd86aa19f49f39df222117ad27b6543cd18", func := "rhyne/rhynelaw08.PacketPuts", spec := "packetPuts", named := ["math/bits.deBruijn32tab", "math/bits.deBruijn64tab"], apart := false, laid := [("math/bits.deBruijn32tab", laid_math_bits_deBruijn32tab), ("math/bits.deBruijn64tab", laid_math_bits_deBruijn64tab)] }
def PacketPutsSaid : Prop := packetPutsRow.holds Tryd.pinned (OpenSpec.ofChange packetPutsSpec)

/-- ITS FALSE NEIGHBOUR: 'it returns false'. Refute it at one input. -/
def packetPutsWrong : ChangeSpec := { name := "packetPuts", fn := fun _ => fun
  | [d] => { results := [.lit (.bool false)], args := [d] }
  | _ => none }
def PacketPutsWrongFalsely : Prop := packetPutsRow.holds Tryd.pinned (OpenSpec.ofChange packetPutsWrong)

/-- 'rhynelaw08.PacketGets': WHATEVER THE INPUT: true; the input reads as it did. -/
def packetGetsSpec : ChangeSpec := { name := "packetGets", fn := fun _ => fun
  | [d1, d2] => { results := [.lit (.bool true)], args := [d1, d2] }
  | _ => none }
def packetGetsRow : OpenClaim := { program := "ytcgbhcmgddgheaadoor", sum := "321646166c9e67b9363c4acf7d902cd86aa19f49f39df222117ad27b6543cd18", func := "rhyne/rhynelaw08.PacketGets", spec := "packetGets", named := ["math/bits.deBruijn32tab", "math/bits.deBruijn64tab"], apart := false, laid := [("math/bits.deBruijn32tab", laid_math_bits_deBruijn32tab), ("math/bits.deBruijn64tab", laid_math_bits_deBruijn64tab)] }
def PacketGetsSaid : Prop := packetGetsRow.holds Tryd.pinned (OpenSpec.ofChange packetGetsSpec)

/-- ITS FALSE NEIGHBOUR: 'it returns false'. Refute it at one input. -/
def packetGetsWrong : ChangeSpec := { name := "packetGets", fn := fun _ => fun
  | [d1, d2] => { results := [.lit (.bool false)], args := [d1, d2] }
  | _ => none }
def PacketGetsWrongFalsely : Prop := packetGetsRow.holds Tryd.pinned (OpenSpec.ofChange packetGetsWrong)

/-- 'rhynelaw08.PacketBack': WHATEVER THE INPUT: true; the input reads as it did. -/
def packetBackSpec : ChangeSpec := { name := "packetBack", fn := fun _ => fun
  | [d1, d2] => { results := [.lit (.bool true)], args := [d1, d2] }
  | _ => none }
def packetBackRow : OpenClaim := { program := "ytcgbhcmgddgheaadoor", sum := "321646166c9e67b9363c4acf7d902cd86aa19f49f39df222117ad27b6543cd18", func := "rhyne/rhynelaw08.PacketBack", spec := "packetBack", named := ["math/bits.deBruijn32tab", "math/bits.deBruijn64tab"], apart := false, laid := [("math/bits.deBruijn32tab", laid_math_bits_deBruijn32tab), ("math/bits.deBruijn64tab", laid_math_bits_deBruijn64tab)] }
def PacketBackSaid : Prop := packetBackRow.holds Tryd.pinned (OpenSpec.ofChange packetBackSpec)

/-- ITS FALSE NEIGHBOUR: 'it returns false'. Refute it at one input. -/
def packetBackWrong : ChangeSpec := { name := "packetBack", fn := fun _ => fun
  | [d1, d2] => { results := [.lit (.bool false)], args := [d1, d2] }
  | _ => none }
def PacketBackWrongFalsely : Prop := packetBackRow.holds Tryd.pinned (OpenSpec.ofChange packetBackWrong)

/-- 'rhynelaw08.PacketNear': WHATEVER THE INPUT: true; the input reads as it did. -/
def packetNearSpec : ChangeSpec := { name := "packetNear", fn := fun _ => fun
  | [d1, d2, d3] => { results := [.lit (.bool true)], args := [d1, d2, d3] }
  | _ => none }
def packetNearRow : OpenClaim := { program := "ytcgbhcmgddgheaadoor", sum := "321646166c9e67b9363c4acf7d902cd86aa19f49f39df222117ad27b6543cd18", func := "rhyne/rhynelaw08.PacketNear", spec := "packetNear", named := ["math/bits.deBruijn32tab", "math/bits.deBruijn64tab"], apart := false, laid := [("math/bits.deBruijn32tab", laid_math_bits_deBruijn32tab), ("math/bits.deBruijn64tab", laid_math_bits_deBruijn64tab)] }
def PacketNearSaid : Prop := packetNearRow.holds Tryd.pinned (OpenSpec.ofChange packetNearSpec)

/-- ITS FALSE NEIGHBOUR: 'it returns false'. Refute it at one input. -/
def packetNearWrong : ChangeSpec := { name := "packetNear", fn := fun _ => fun
  | [d1, d2, d3] => { results := [.lit (.bool false)], args := [d1, d2, d3] }
  | _ => none }
def PacketNearWrongFalsely : Prop := packetNearRow.holds Tryd.pinned (OpenSpec.ofChange packetNearWrong)

/-- 'rhynelaw08.PacketRows': WHATEVER THE INPUT: true; the input reads as it did. -/
def packetRowsSpec : ChangeSpec := { name := "packetRows", fn := fun _ => fun
  | [d1, d2] => { results := [.lit (.bool true)], args := [d1, d2] }
  | _ => none }
def packetRowsRow : OpenClaim := { program := "ytcgbhcmgddgheaadoor", sum := "321646166c9e67b9363c4acf7d902cd86aa19f49f39df222117ad27b6543cd18", func := "rhyne/rhynelaw08.PacketRows", spec := "packetRows", named := ["math/bits.deBruijn32tab", "math/bits.deBruijn64tab"], apart := false, laid := [("math/bits.deBruijn32tab", laid_math_bits_deBruijn32tab), ("math/bits.deBruijn64tab", laid_math_bits_deBruijn64tab)] }
def PacketRowsSaid : Prop := packetRowsRow.holds Tryd.pinned (OpenSpec.ofChange packetRowsSpec)

/-- ITS FALSE NEIGHBOUR: 'it returns false'. Refute it at one input. -/
def packetRowsWrong : ChangeSpec := { name := "packetRows", fn := fun _ => fun
  | [d1, d2] => { results := [.lit (.bool false)], args := [d1, d2] }
  | _ => none }
def PacketRowsWrongFalsely : Prop := packetRowsRow.holds Tryd.pinned (OpenSpec.ofChange packetRowsWrong)

/- THE SECOND FORM. 'bulk': how many values and letters a reading holds, each counted each time it is reached (what is shared counts as often as it is met; a slice's spare places count too). A statement '..UptoSaid' is the law's where the arguments, and the package variables that the reading takes, are together of bulk at most 1048576: NARROWER than '..Said'. Prove '..Said' where nothing that the law and all that it calls make is longer than what came in: it says more and counts as full. Else prove '..UptoSaid'. A law counts once. -/
mutual
def uptoBulk {H : Type} : DataW H → Nat
  | .lit (.string bytes) => bytes.length + 1
  | .lit _ => 1
  | .nil => 1
  | .ptr d => uptoBulk d + 1
  | .slice elems spare => uptoBulkAll elems + uptoBulkAll spare + 1
  | .agg parts => uptoBulkAll parts + 1
  | .iface _ d => uptoBulk d + 1
  | .map entries => uptoBulkEntries entries + 1
  | .held _ => 1
def uptoBulkAll {H : Type} : List (DataW H) → Nat
  | [] => 0
  | d :: r => uptoBulk d + uptoBulkAll r
def uptoBulkEntries {H : Type} : List (Lit × DataW H) → Nat
  | [] => 0
  | x :: r => uptoBulkEntry x + uptoBulkEntries r
def uptoBulkEntry {H : Type} : Lit × DataW H → Nat
  | (.string bytes, d) => bytes.length + uptoBulk d + 1
  | (_, d) => uptoBulk d + 1
 end
def uptoSmall : (H : Type) → List (DataW H) → Bool := fun _ ds => decide (uptoBulkAll ds ≤ 1048576)
def OpenSpec.upto (s : _root_.Go.ChangeSpec) : _root_.Go.OpenSpec := { _root_.Go.OpenSpec.ofChange s with cond := some uptoSmall }

/-- 'rhynelaw07.VlqPuts', WHERE WHAT IT READS IS OF BULK AT MOST 1048576: true; the input reads as it did. -/
def vlqPutsUptoRow : OpenClaim := { program := "ytcgbhcmgddgheaadoor", sum := "321646166c9e67b9363c4acf7d902cd86aa19f49f39df222117ad27b6543cd18", func := "rhyne/rhynelaw07.VlqPuts", spec := "vlqPuts", named := ["math/bits.deBruijn32tab", "math/bits.deBruijn64tab"], apart := false, laid := [("math/bits.deBruijn32tab", laid_math_bits_deBruijn32tab), ("math/bits.deBruijn64tab", laid_math_bits_deBruijn64tab)], narrowed := true }
def VlqPutsUptoSaid : Prop := vlqPutsUptoRow.holds Tryd.pinned (OpenSpec.upto vlqPutsSpec)

/-- 'rhynelaw07.VlqKinds', WHERE WHAT IT READS IS OF BULK AT MOST 1048576: true; the input reads as it did. -/
def vlqKindsUptoRow : OpenClaim := { program := "ytcgbhcmgddgheaadoor", sum := "321646166c9e67b9363c4acf7d902cd86aa19f49f39df222117ad27b6543cd18", func := "rhyne/rhynelaw07.VlqKinds", spec := "vlqKinds", named := ["math/bits.deBruijn32tab", "math/bits.deBruijn64tab"], apart := false, laid := [("math/bits.deBruijn32tab", laid_math_bits_deBruijn32tab), ("math/bits.deBruijn64tab", laid_math_bits_deBruijn64tab)], narrowed := true }
def VlqKindsUptoSaid : Prop := vlqKindsUptoRow.holds Tryd.pinned (OpenSpec.upto vlqKindsSpec)

/-- 'rhynelaw07.VlqGets', WHERE WHAT IT READS IS OF BULK AT MOST 1048576: true; the input reads as it did. -/
def vlqGetsUptoRow : OpenClaim := { program := "ytcgbhcmgddgheaadoor", sum := "321646166c9e67b9363c4acf7d902cd86aa19f49f39df222117ad27b6543cd18", func := "rhyne/rhynelaw07.VlqGets", spec := "vlqGets", named := ["math/bits.deBruijn32tab", "math/bits.deBruijn64tab"], apart := false, laid := [("math/bits.deBruijn32tab", laid_math_bits_deBruijn32tab), ("math/bits.deBruijn64tab", laid_math_bits_deBruijn64tab)], narrowed := true }
def VlqGetsUptoSaid : Prop := vlqGetsUptoRow.holds Tryd.pinned (OpenSpec.upto vlqGetsSpec)

/-- 'rhynelaw07.VlqReturns', WHERE WHAT IT READS IS OF BULK AT MOST 1048576: true; the input reads as it did. -/
def vlqReturnsUptoRow : OpenClaim := { program := "ytcgbhcmgddgheaadoor", sum := "321646166c9e67b9363c4acf7d902cd86aa19f49f39df222117ad27b6543cd18", func := "rhyne/rhynelaw07.VlqReturns", spec := "vlqReturns", named := ["math/bits.deBruijn32tab", "math/bits.deBruijn64tab"], apart := false, laid := [("math/bits.deBruijn32tab", laid_math_bits_deBruijn32tab), ("math/bits.deBruijn64tab", laid_math_bits_deBruijn64tab)], narrowed := true }
def VlqReturnsUptoSaid : Prop := vlqReturnsUptoRow.holds Tryd.pinned (OpenSpec.upto vlqReturnsSpec)

/-- 'rhynelaw07.VlqLists', WHERE WHAT IT READS IS OF BULK AT MOST 1048576: true; the input reads as it did. -/
def vlqListsUptoRow : OpenClaim := { program := "ytcgbhcmgddgheaadoor", sum := "321646166c9e67b9363c4acf7d902cd86aa19f49f39df222117ad27b6543cd18", func := "rhyne/rhynelaw07.VlqLists", spec := "vlqLists", unfollowed := true, recurses := true, named := ["math/bits.deBruijn32tab", "math/bits.deBruijn64tab"], apart := false, laid := [("math/bits.deBruijn32tab", laid_math_bits_deBruijn32tab), ("math/bits.deBruijn64tab", laid_math_bits_deBruijn64tab)], narrowed := true }
def VlqListsUptoSaid : Prop := vlqListsUptoRow.holds Tryd.pinned (OpenSpec.upto vlqListsSpec)

/-- 'rhynelaw07.VlqLess', WHERE WHAT IT READS IS OF BULK AT MOST 1048576: true; the input reads as it did. -/
def vlqLessUptoRow : OpenClaim := { program := "ytcgbhcmgddgheaadoor", sum := "321646166c9e67b9363c4acf7d902cd86aa19f49f39df222117ad27b6543cd18", func := "rhyne/rhynelaw07.VlqLess", spec := "vlqLess", named := ["math/bits.deBruijn32tab", "math/bits.deBruijn64tab"], apart := false, laid := [("math/bits.deBruijn32tab", laid_math_bits_deBruijn32tab), ("math/bits.deBruijn64tab", laid_math_bits_deBruijn64tab)], narrowed := true }
def VlqLessUptoSaid : Prop := vlqLessUptoRow.holds Tryd.pinned (OpenSpec.upto vlqLessSpec)

/-- 'rhynelaw08.PacketPuts', WHERE WHAT IT READS IS OF BULK AT MOST 1048576: true; the input reads as it did. -/
def packetPutsUptoRow : OpenClaim := { program := "ytcgbhcmgddgheaadoor", sum := "321646166c9e67b9363c4acf7d902cd86aa19f49f39df222117ad27b6543cd18", func := "rhyne/rhynelaw08.PacketPuts", spec := "packetPuts", named := ["math/bits.deBruijn32tab", "math/bits.deBruijn64tab"], apart := false, laid := [("math/bits.deBruijn32tab", laid_math_bits_deBruijn32tab), ("math/bits.deBruijn64tab", laid_math_bits_deBruijn64tab)], narrowed := true }
def PacketPutsUptoSaid : Prop := packetPutsUptoRow.holds Tryd.pinned (OpenSpec.upto packetPutsSpec)

/-- 'rhynelaw08.PacketGets', WHERE WHAT IT READS IS OF BULK AT MOST 1048576: true; the input reads as it did. -/
def packetGetsUptoRow : OpenClaim := { program := "ytcgbhcmgddgheaadoor", sum := "321646166c9e67b9363c4acf7d902cd86aa19f49f39df222117ad27b6543cd18", func := "rhyne/rhynelaw08.PacketGets", spec := "packetGets", named := ["math/bits.deBruijn32tab", "math/bits.deBruijn64tab"], apart := false, laid := [("math/bits.deBruijn32tab", laid_math_bits_deBruijn32tab), ("math/bits.deBruijn64tab", laid_math_bits_deBruijn64tab)], narrowed := true }
def PacketGetsUptoSaid : Prop := packetGetsUptoRow.holds Tryd.pinned (OpenSpec.upto packetGetsSpec)

/-- 'rhynelaw08.PacketBack', WHERE WHAT IT READS IS OF BULK AT MOST 1048576: true; the input reads as it did. -/
def packetBackUptoRow : OpenClaim := { program := "ytcgbhcmgddgheaadoor", sum := "321646166c9e67b9363c4acf7d902cd86aa19f49f39df222117ad27b6543cd18", func := "rhyne/rhynelaw08.PacketBack", spec := "packetBack", named := ["math/bits.deBruijn32tab", "math/bits.deBruijn64tab"], apart := false, laid := [("math/bits.deBruijn32tab", laid_math_bits_deBruijn32tab), ("math/bits.deBruijn64tab", laid_math_bits_deBruijn64tab)], narrowed := true }
def PacketBackUptoSaid : Prop := packetBackUptoRow.holds Tryd.pinned (OpenSpec.upto packetBackSpec)

/-- 'rhynelaw08.PacketNear', WHERE WHAT IT READS IS OF BULK AT MOST 1048576: true; the input reads as it did. -/
def packetNearUptoRow : OpenClaim := { program := "ytcgbhcmgddgheaadoor", sum := "321646166c9e67b9363c4acf7d902cd86aa19f49f39df222117ad27b6543cd18", func := "rhyne/rhynelaw08.PacketNear", spec := "packetNear", named := ["math/bits.deBruijn32tab", "math/bits.deBruijn64tab"], apart := false, laid := [("math/bits.deBruijn32tab", laid_math_bits_deBruijn32tab), ("math/bits.deBruijn64tab", laid_math_bits_deBruijn64tab)], narrowed := true }
def PacketNearUptoSaid : Prop := packetNearUptoRow.holds Tryd.pinned (OpenSpec.upto packetNearSpec)

/-- 'rhynelaw08.PacketRows', WHERE WHAT IT READS IS OF BULK AT MOST 1048576: true; the input reads as it did. -/
def packetRowsUptoRow : OpenClaim := { program := "ytcgbhcmgddgheaadoor", sum := "321646166c9e67b9363c4acf7d902cd86aa19f49f39df222117ad27b6543cd18", func := "rhyne/rhynelaw08.PacketRows", spec := "packetRows", named := ["math/bits.deBruijn32tab", "math/bits.deBruijn64tab"], apart := false, laid := [("math/bits.deBruijn32tab", laid_math_bits_deBruijn32tab), ("math/bits.deBruijn64tab", laid_math_bits_deBruijn64tab)], narrowed := true }
def PacketRowsUptoSaid : Prop := packetRowsUptoRow.holds Tryd.pinned (OpenSpec.upto packetRowsSpec)

end Rows
end Go.Proofs.YtcgbhcmgddgheaaDoor
