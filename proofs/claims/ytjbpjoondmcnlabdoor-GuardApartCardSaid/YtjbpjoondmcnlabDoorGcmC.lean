/-
  THE CALLS OF PACKAGE gcm, THIRD PART: counters, sums over blocks.
-/
import Derived.Test.YtjbpjoondmcnlabDoorMg19
import Derived.Test.YtjbpjoondmcnlabDoorMg04
import Derived.Test.YtjbpjoondmcnlabDoorMg01
import Derived.Deep.WholeRow
import Derived.Laws.CopyRow
set_option maxRecDepth 100000
namespace Go.Proofs.YtjbpjoondmcnlabDoor
open Go Go.RowKit Go.BigFrame
set_option maxRecDepth 100000
set_option linter.unusedSimpArgs false
attribute [local go_sem] index_16
theorem bytes16_b16 (g : Nat → BitVec 8) : bytesArr g 16 = b16 g := by
  unfold bytesArr b16
  rw [show List.range 16 = [0, 1, 2, 3, 4, 5, 6, 7, 8, 9, 10, 11, 12, 13, 14, 15] from rfl]
  rfl
theorem joinRow (f c : Nat → BitVec 8) (o n m : Nat) (hfit : o + n ≤ m) :
    ((bytesArr c m).toList.take o ++ firsts f n ++ (bytesArr c m).toList.drop (o + (firsts f n).length)).toArray = bytesArr (fun i => if o ≤ i ∧ i < o + n then f (i - o) else c i) m := by
  apply Array.ext_getElem?
  intro i
  rw [firsts_len]
  have ht : ((bytesArr c m).toList.take o).length = o := by simp [bytesArr]; omega
  rw [List.getElem?_toArray, List.append_assoc]
  by_cases h1 : i < o
  · rw [List.getElem?_append_left (by rw [ht]; exact h1)]
    have : i < m := by omega
    have h2 : ¬ o ≤ i := by omega
    simp [bytesArr, h1, this, h2]
  · rw [List.getElem?_append_right (by rw [ht]; omega), ht]
    by_cases h2 : i < o + n
    · rw [List.getElem?_append_left (by rw [firsts_len]; omega)]
      have h3 : i < m := by omega
      have h4 : i - o < n := by omega
      have h5 : o ≤ i := by omega
      simp [bytesArr, firsts, h2, h3, h4, h5]
    · rw [List.getElem?_append_right (by rw [firsts_len]; omega), firsts_len, List.getElem?_drop, show o + n + (i - o - n) = i by omega]
      by_cases h3 : i < m
      · simp [bytesArr, h2, h3]
      · simp [bytesArr, h3]
theorem run_copy_bytes (f c : Nat → BitVec 8) (n g o dLen dCap : Nat) (b bo sCap sLen : Nat) (h : n = Nat.min sLen dLen) (m : Nat) (t : TypeId) (w : World) (hg : w.heap[g]? = some (.cells (bytesArr c m) t (0, 0))) (hfit : o + n ≤ m)
    (hs : ∀ i, i < n → w.cell? ⟨b, bo + i, none⟩ = some (.int .u8 (n8 (f i)))) :
    (Builtin.copy_ #[31, 31] 3 #[.slice (some ⟨g, o, none⟩) dLen dCap, .slice (some ⟨b, bo, none⟩) sLen sCap]).run Tryd.prog w =
      .ok (goInt n) (w.setRow g (bytesArr (fun i => if o ≤ i ∧ i < o + n then f (i - o) else c i) m)) := by
  have hi : (Tryd.prog.info? 5).map (·.size) = some 1 := by kernel_rfl
  have r := run_copy_row (P := Tryd.prog) w 31 31 3 5 g o dLen dCap ⟨b, bo, none⟩ sLen sCap (bytesArr c m) t (firsts f n) under_bytes hi hg (by rw [firsts_len]; exact h) (fun j v hj => by
    have hj' : j < n := by have := (List.getElem?_eq_some_iff.1 hj).1; rwa [firsts_len] at this
    rw [firsts_get _ _ _ hj'] at hj
    injection hj with hj
    rw [← hj, show ((⟨b, bo, none⟩ : Addr).add j) = ⟨b, bo + j, none⟩ from by unfold Addr.add; split <;> simp_all]
    exact hs j hj') (by rw [firsts_len, bytesArr_size]; exact hfit) (firsts_one f n)
  rw [joinRow f c o n m hfit, firsts_len] at r
  exact r
/-- A counter: a nonce's twelve bytes, and a number in the last one. -/
def ctrN (f : Nat → BitVec 8) (x : BitVec 8) (i : Nat) : BitVec 8 := if i < 12 then f i else if i = 15 then x else 0#8
theorem n8_zero : n8 0#8 = 0 := by unfold n8; rfl
set_option maxHeartbeats 4000000 in
theorem counter_any (f : Nat → BitVec 8) (x : BitVec 8) (bb bo c : Nat) (w : World) (hb : ∀ i, i < 12 → w.cell? ⟨bb, bo + i, none⟩ = some (.int .u8 (n8 (f i)))) (hbb : bb < w.heap.size) :
    Calls Tryd.prog 72 #[.slice (some ⟨bb, bo, none⟩) 12 c, .int .u8 (n8 x)] w fun e w' => e = .returned (.agg (b16 (ctrN f x))) ∧ Below w.heap.size w w' := by
  have cp : (Builtin.copy_ #[31, 31] 3 #[.slice (some ⟨w.heap.size + 1, 0, none⟩) 12 16, .slice (some ⟨bb, bo, none⟩) 12 c]).run Tryd.prog ((w.alloc (.cells #[.int .u8 0, .int .u8 0, .int .u8 0, .int .u8 0, .int .u8 0, .int .u8 0, .int .u8 0, .int .u8 0, .int .u8 0, .int .u8 0, .int .u8 0, .int .u8 0, .int .u8 0, .int .u8 0, .int .u8 0, .int .u8 0] 93)).alloc (.cells #[.int .u8 0, .int .u8 0, .int .u8 0, .int .u8 0, .int .u8 0, .int .u8 0, .int .u8 0, .int .u8 0, .int .u8 0, .int .u8 0, .int .u8 0, .int .u8 0, .int .u8 0, .int .u8 0, .int .u8 0, .int .u8 0] 93)) =
      .ok (goInt 12) ((w.alloc (.cells #[.int .u8 0, .int .u8 0, .int .u8 0, .int .u8 0, .int .u8 0, .int .u8 0, .int .u8 0, .int .u8 0, .int .u8 0, .int .u8 0, .int .u8 0, .int .u8 0, .int .u8 0, .int .u8 0, .int .u8 0, .int .u8 0] 93)).alloc (.cells #[.int .u8 (n8 (f 0)), .int .u8 (n8 (f 1)), .int .u8 (n8 (f 2)), .int .u8 (n8 (f 3)), .int .u8 (n8 (f 4)), .int .u8 (n8 (f 5)), .int .u8 (n8 (f 6)), .int .u8 (n8 (f 7)), .int .u8 (n8 (f 8)), .int .u8 (n8 (f 9)), .int .u8 (n8 (f 10)), .int .u8 (n8 (f 11)), .int .u8 0, .int .u8 0, .int .u8 0, .int .u8 0] 93)) := by
    have h0 : (.cells #[.int .u8 0, .int .u8 0, .int .u8 0, .int .u8 0, .int .u8 0, .int .u8 0, .int .u8 0, .int .u8 0, .int .u8 0, .int .u8 0, .int .u8 0, .int .u8 0, .int .u8 0, .int .u8 0, .int .u8 0, .int .u8 0] 93 : Obj) = .cells (bytesArr (fun _ => 0#8) 16) 93 := by rw [← zeros_bytes]; rfl
    have r := run_copy_bytes f (fun _ => 0#8) 12 (w.heap.size + 1) 0 12 16 bb bo c 12 rfl 16 93 ((w.alloc (.cells #[.int .u8 0, .int .u8 0, .int .u8 0, .int .u8 0, .int .u8 0, .int .u8 0, .int .u8 0, .int .u8 0, .int .u8 0, .int .u8 0, .int .u8 0, .int .u8 0, .int .u8 0, .int .u8 0, .int .u8 0, .int .u8 0] 93)).alloc (.cells (bytesArr (fun _ => 0#8) 16) 93)) (heap_alloc2_new _ _ _) (by omega) (fun i hi => by
      rw [(((Below.refl w.heap.size w).alloc (Nat.le_refl _) _).alloc (by simp) _).cell (p := ⟨bb, bo + i, none⟩) hbb]; exact hb i hi)
    rw [h0]
    rw [h0] at r
    rw [r]
    have e := World.setRow_alloc_new (w.alloc (.cells (bytesArr (fun _ => 0#8) 16) 93)) (bytesArr (fun _ => 0#8) 16) (bytesArr (fun i => if 0 ≤ i ∧ i < 0 + 12 then f (i - 0) else 0#8) 16) 93
    rw [show (w.alloc (.cells (bytesArr (fun _ => 0#8) 16) 93)).heap.size = w.heap.size + 1 by simp] at e
    rw [e]
    congr 3
    rw [bytes16_b16]
    simp [b16, n8_zero]
  go_enter Tryd.func72, Tryd.ntmps72
  go_wp2
  refine bodyPost_ret (v := .agg (b16 (ctrN f x))) (by simp [results, Tryd.results72, go_sem, b16, ctrN, n8_zero]) rfl ⟨rfl, ?_⟩
  repeat (first | exact Below.refl _ _ | apply Below.drew | refine Below.alloc ?_ (by simp; try omega) _)
end Go.Proofs.YtjbpjoondmcnlabDoor
