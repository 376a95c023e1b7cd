/-
  THE CALLS OF PACKAGE aes, FOURTH PART: what stands for each byte; is there a key; a block turned.
-/
import Derived.Test.YtoocglckhphepaaAesB
import Derived.Test.YtoocglckhphepaaAesC
namespace Go.Proofs.Ytoocglckhphepaa
open Go Go.RowKit Go.BigFrame
def sboxL : List Nat := [99, 124, 119, 123, 242, 107, 111, 197, 48, 1, 103, 43, 254, 215, 171, 118, 202, 130, 201, 125, 250, 89, 71, 240, 173, 212, 162, 175, 156, 164, 114, 192, 183, 253, 147, 38, 54, 63, 247, 204, 52, 165, 229, 241, 113, 216, 49, 21, 4, 199, 35, 195, 24, 150, 5, 154, 7, 18, 128, 226, 235, 39, 178, 117, 9, 131, 44, 26, 27, 110, 90, 160, 82, 59, 214, 179, 41, 227, 47, 132, 83, 209, 0, 237, 32, 252, 177, 91, 106, 203, 190, 57, 74, 76, 88, 207, 208, 239, 170, 251, 67, 77, 51, 133, 69, 249, 2, 127, 80, 60, 159, 168, 81, 163, 64, 143, 146, 157, 56, 245, 188, 182, 218, 33, 16, 255, 243, 210, 205, 12, 19, 236, 95, 151, 68, 23, 196, 167, 126, 61, 100, 93, 25, 115, 96, 129, 79, 220, 34, 42, 144, 136, 70, 238, 184, 20, 222, 94, 11, 219, 224, 50, 58, 10, 73, 6, 36, 92, 194, 211, 172, 98, 145, 149, 228, 121, 231, 200, 55, 109, 141, 213, 78, 169, 108, 86, 244, 234, 101, 122, 174, 8, 186, 120, 37, 46, 28, 166, 180, 198, 232, 221, 116, 31, 75, 189, 139, 138, 112, 62, 181, 102, 72, 3, 246, 14, 97, 53, 87, 185, 134, 193, 29, 158, 225, 248, 152, 17, 105, 217, 142, 148, 155, 30, 135, 233, 206, 85, 40, 223, 140, 161, 137, 13, 191, 230, 66, 104, 65, 153, 45, 15, 176, 84, 187, 22]
/-- What stands for byte i. -/
def sbox (i : Nat) : BitVec 8 := BitVec.ofNat 8 (sboxL.getD i 0)
def sboxCells : Array Value := ((List.range 256).map fun i => Value.int .u8 (n8 (sbox i))).toArray
theorem sboxCells_size : sboxCells.size = 256 := by unfold sboxCells; simp
theorem sboxCells_get (i : Nat) (h : i < 256) : sboxCells[i]? = some (.int .u8 (n8 (sbox i))) := by
  unfold sboxCells
  simp [h]
theorem sboxCells_one : sboxCells.all (·.oneCell') = true := by
  rw [Array.all_eq_true_iff_forall_mem]
  intro v hv
  unfold sboxCells at hv
  simp only [List.mem_toArray, List.mem_map] at hv
  obtain ⟨i, _, rfl⟩ := hv
  rfl
def zeros256 : Array Value := Array.replicate 256 (.int .u8 0)
theorem zero_256 : (Try.prog.info? 74).map (·.zero) = some (some (.agg zeros256)) := by kernel_rfl
theorem size_256 : (Try.prog.info? 74).map (·.size) = some sboxCells.size := by kernel_rfl
theorem under_256 : Try.prog.underlying 74 = some (.array 256 5) := by kernel_rfl
set_option maxHeartbeats 1000000 in
set_option maxRecDepth 100000 in
theorem substitutes_any (w : World) :
    Calls Try.prog 30 #[] w fun e w' => e = .returned (.agg sboxCells) ∧ Below w.heap.size w w' := by
  go_enter Try.func30, Try.ntmps30
  go_step
  go_step
  go_step
  refine wpList_alloc_row (o := ⟨some 0, .alloc 74, _, _, _, _⟩) rfl 74 rfl zeros256 zero_256 ?_
  go_step
  go_step
  go_step
  go_step
  go_step
  show wpList _ _ _ _ ⟨#[.pointer (some ⟨w.heap.size, 0, none⟩), undef], []⟩ _
  refine wpList_run (v := .agg sboxCells) (w' := w.alloc (.cells zeros256 74)) rfl (by kernel_rfl) ?_
  show wpList _ _ _ _ ⟨#[.pointer (some ⟨w.heap.size, 0, none⟩), .agg sboxCells], []⟩ _
  refine wpList_store_new rfl 74 _ _ rfl zeros256 sboxCells _ rfl rfl rfl size_256 (by kernel_rfl) sboxCells_one ?_
  go_wp2
  refine bodyPost_ret (v := .agg sboxCells) (results_cell_row rfl _ _ w.heap.size 74 sboxCells (0, 0) _ rfl (heap_alloc_last _ _) under_256 rfl size_256) rfl ⟨rfl, ?_⟩
  exact (Below.refl _ _).alloc (Nat.le_refl _) _

end Go.Proofs.Ytoocglckhphepaa
