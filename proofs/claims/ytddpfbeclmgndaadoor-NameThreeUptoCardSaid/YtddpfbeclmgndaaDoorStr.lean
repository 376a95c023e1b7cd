/-
  BYTES AS A STRING: 'string(b)', and when two such are one.
-/
import Derived.Test.YtddpfbeclmgndaaDoorKit
namespace Go.Proofs.YtddpfbeclmgndaaDoor
open Go Go.RowKit
def strL (f : Nat → BitVec 8) (n : Nat) : List UInt8 := (List.range n).map fun i => UInt8.ofBitVec (f i)
def strOf (f : Nat → BitVec 8) (n : Nat) : ByteArray := ⟨(strL f n).toArray⟩
theorem strL_length (f : Nat → BitVec 8) (n : Nat) : (strL f n).length = n := by simp [strL]
theorem n8_u8 (x : BitVec 8) : n8 x = ((UInt8.ofBitVec x).toNat : Int) := by unfold n8; rfl
theorem conv_str (f : Nat → BitVec 8) (b o n c : Nat) (w : World) (hc : ∀ i, i < n → w.cell? ⟨b, o + i, none⟩ = some (.int .u8 (n8 (f i)))) :
    (convert 29 9 (.slice (some ⟨b, o, none⟩) n c)).run Tryd.prog w = .ok (.string (strOf f n)) w := by
  have h := run_convert_bytes_back (P := Tryd.prog) w 29 9 5 ⟨b, o, none⟩ c (strL f n) (by kernel_rfl) (by kernel_rfl) (by kernel_rfl) (fun j hj => by
    have hj' : j < n := by simpa [strL] using hj
    have e : ((⟨b, o, none⟩ : Addr).add j) = ⟨b, o + j, none⟩ := by unfold Addr.add; split <;> simp_all
    rw [e, hc j hj', n8_u8]
    simp [strL])
  rw [strL_length] at h
  exact h
theorem strL_eq (f g : Nat → BitVec 8) (n : Nat) : strL f n = strL g n ↔ ∀ i, i < n → f i = g i := by
  unfold strL
  rw [List.map_inj_left]
  constructor
  · intro h i hi
    have := h i (List.mem_range.2 hi)
    exact congrArg UInt8.toBitVec this
  · intro h i hi
    rw [h i (List.mem_range.1 hi)]
theorem strOf_eq (f g : Nat → BitVec 8) (n : Nat) : strOf f n = strOf g n ↔ ∀ i, i < n → f i = g i := by
  rw [← strL_eq]
  unfold strOf
  constructor
  · intro h
    have := congrArg (fun x : ByteArray => x.data.toList) h
    simpa using this
  · intro h; rw [h]
theorem strOf_beq (f g : Nat → BitVec 8) (n : Nat) : (strOf f n == strOf g n) = decide (∀ i, i < n → f i = g i) := by
  rw [beq_toListBytes, ByteArray.toList_eq, ByteArray.toList_eq]
  show (strL f n == strL g n) = _
  rw [Bool.eq_iff_iff, decide_eq_true_eq, beq_iff_eq, strL_eq]
theorem strOf_list_beq (f g : Nat → BitVec 8) (n : Nat) : ((strOf f n).toList == (strOf g n).toList) = decide (∀ i, i < n → f i = g i) := by
  rw [← beq_toListBytes, strOf_beq]
/-- Are the first n bytes the same? -/
def allEq (f g : Nat → BitVec 8) (n : Nat) : Bool := decide (∀ i, i < n → f i = g i)
theorem allEq_iff (f g : Nat → BitVec 8) (n : Nat) : allEq f g n = true ↔ ∀ i, i < n → f i = g i := by unfold allEq; rw [decide_eq_true_eq]
theorem strOf_allEq (f g : Nat → BitVec 8) (n : Nat) : (strOf f n == strOf g n) = allEq f g n := strOf_beq f g n
theorem strOf_list_allEq (f g : Nat → BitVec 8) (n : Nat) : ((strOf f n).toList == (strOf g n).toList) = allEq f g n := strOf_list_beq f g n
theorem strOf_size (f : Nat → BitVec 8) (n : Nat) : (strOf f n).size = n := by
  show (strL f n).toArray.size = n
  simp [strL]
end Go.Proofs.YtddpfbeclmgndaaDoor
