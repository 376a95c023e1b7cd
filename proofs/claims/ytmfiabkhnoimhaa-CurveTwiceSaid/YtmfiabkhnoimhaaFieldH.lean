/-
  THE CALLS OF THE STATEMENTS OF field: one, and whether p is nought.
-/
import Derived.Test.YtmfiabkhnoimhaaFieldG
namespace Go.Proofs.Ytmfiabkhnoimhaa
open Go Go.RowKit Go.BigFrame
def byteF (n : BitVec 8) (i : Nat) : BitVec 8 := if i = 0 then n else 0#8
def primeTo (k i : Nat) : BitVec 8 := if i = 0 then 237#8 else if i < k then 255#8 else 0#8
def primeF (i : Nat) : BitVec 8 := if i = 31 then 127#8 else primeTo 31 i
theorem b32_one1 : Value.agg #[.int .u8 1, .int .u8 0, .int .u8 0, .int .u8 0, .int .u8 0, .int .u8 0, .int .u8 0, .int .u8 0, .int .u8 0, .int .u8 0, .int .u8 0, .int .u8 0, .int .u8 0, .int .u8 0, .int .u8 0, .int .u8 0, .int .u8 0, .int .u8 0, .int .u8 0, .int .u8 0, .int .u8 0, .int .u8 0, .int .u8 0, .int .u8 0, .int .u8 0, .int .u8 0, .int .u8 0, .int .u8 0, .int .u8 0, .int .u8 0, .int .u8 0, .int .u8 0] = .agg (b32 (byteF 1#8)) := by kernel_rfl
theorem b32_p0 : #[Value.int .u8 237, .int .u8 0, .int .u8 0, .int .u8 0, .int .u8 0, .int .u8 0, .int .u8 0, .int .u8 0, .int .u8 0, .int .u8 0, .int .u8 0, .int .u8 0, .int .u8 0, .int .u8 0, .int .u8 0, .int .u8 0, .int .u8 0, .int .u8 0, .int .u8 0, .int .u8 0, .int .u8 0, .int .u8 0, .int .u8 0, .int .u8 0, .int .u8 0, .int .u8 0, .int .u8 0, .int .u8 0, .int .u8 0, .int .u8 0, .int .u8 0, .int .u8 0] = b32 (primeTo 1) := by kernel_rfl
theorem of_one (w : World) : Calls Try.prog 16 #[.agg #[.int .u8 1, .int .u8 0, .int .u8 0, .int .u8 0, .int .u8 0, .int .u8 0, .int .u8 0, .int .u8 0, .int .u8 0, .int .u8 0, .int .u8 0, .int .u8 0, .int .u8 0, .int .u8 0, .int .u8 0, .int .u8 0, .int .u8 0, .int .u8 0, .int .u8 0, .int .u8 0, .int .u8 0, .int .u8 0, .int .u8 0, .int .u8 0, .int .u8 0, .int .u8 0, .int .u8 0, .int .u8 0, .int .u8 0, .int .u8 0, .int .u8 0, .int .u8 0]] w fun e w' => e = .returned (E5.of (byteF 1#8)).v ∧ Below w.heap.size w w' := by
  rw [b32_one1]; exact ofE_any _ w
theorem z64 : n64 0#64 = 0 := by unfold n64; rfl
def zeroE : E5 := ⟨0#64, 0#64, 0#64, 0#64, 0#64⟩
theorem str_same {f g : Nat → BitVec 8} (h : ∀ i, i < 32 → f i = g i) : strOf f 32 = strOf g 32 := (strOf_eq f g 32).2 h
theorem small_byteF (n : BitVec 8) (w : World) (k : Int) (hk : k = n8 n) :
    Calls Try.prog 13 #[.int .i64 k] w fun e w' => e = .returned (.string (strOf (byteF n) 32)) ∧ Below w.heap.size w w' := by
  subst hk; exact small_any n w
end Go.Proofs.Ytmfiabkhnoimhaa
