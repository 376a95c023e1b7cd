/-
  THE CALLS OF THE STATEMENTS OF field: a number's bytes as a text; one; the texts of small numbers.
-/
import Derived.Test.YtmfiabkhnoimhaaFieldD
import Derived.Test.YtmfiabkhnoimhaaFieldF
import Derived.Test.YtmfiabkhnoimhaaNew
import Derived.RegionTactic
namespace Go.Proofs.Ytmfiabkhnoimhaa
open Go Go.RowKit Go.BigFrame
theorem z8 : n8 0#8 = 0 := by unfold n8; rfl
theorem arr32 (b : Nat) (w : World) : (Instr.sliceAt 22 (.pointer (some ⟨b, 0, none⟩)) none none none).run Try.prog w = .ok (.slice (some ⟨b, 0, none⟩) 32 32) w := by kernel_rfl
theorem conv31 (b : Nat) (w : World) (h0 : w.cell? ⟨b, 0, none⟩ = some (.int .u8 0)) (h1 : w.cell? ⟨b, 1, none⟩ = some (.int .u8 0)) (h2 : w.cell? ⟨b, 2, none⟩ = some (.int .u8 0)) (h3 : w.cell? ⟨b, 3, none⟩ = some (.int .u8 0)) (h4 : w.cell? ⟨b, 4, none⟩ = some (.int .u8 0)) (h5 : w.cell? ⟨b, 5, none⟩ = some (.int .u8 0)) (h6 : w.cell? ⟨b, 6, none⟩ = some (.int .u8 0)) (h7 : w.cell? ⟨b, 7, none⟩ = some (.int .u8 0)) (h8 : w.cell? ⟨b, 8, none⟩ = some (.int .u8 0)) (h9 : w.cell? ⟨b, 9, none⟩ = some (.int .u8 0)) (h10 : w.cell? ⟨b, 10, none⟩ = some (.int .u8 0)) (h11 : w.cell? ⟨b, 11, none⟩ = some (.int .u8 0)) (h12 : w.cell? ⟨b, 12, none⟩ = some (.int .u8 0)) (h13 : w.cell? ⟨b, 13, none⟩ = some (.int .u8 0)) (h14 : w.cell? ⟨b, 14, none⟩ = some (.int .u8 0)) (h15 : w.cell? ⟨b, 15, none⟩ = some (.int .u8 0)) (h16 : w.cell? ⟨b, 16, none⟩ = some (.int .u8 0)) (h17 : w.cell? ⟨b, 17, none⟩ = some (.int .u8 0)) (h18 : w.cell? ⟨b, 18, none⟩ = some (.int .u8 0)) (h19 : w.cell? ⟨b, 19, none⟩ = some (.int .u8 0)) (h20 : w.cell? ⟨b, 20, none⟩ = some (.int .u8 0)) (h21 : w.cell? ⟨b, 21, none⟩ = some (.int .u8 0)) (h22 : w.cell? ⟨b, 22, none⟩ = some (.int .u8 0)) (h23 : w.cell? ⟨b, 23, none⟩ = some (.int .u8 0)) (h24 : w.cell? ⟨b, 24, none⟩ = some (.int .u8 0)) (h25 : w.cell? ⟨b, 25, none⟩ = some (.int .u8 0)) (h26 : w.cell? ⟨b, 26, none⟩ = some (.int .u8 0)) (h27 : w.cell? ⟨b, 27, none⟩ = some (.int .u8 0)) (h28 : w.cell? ⟨b, 28, none⟩ = some (.int .u8 0)) (h29 : w.cell? ⟨b, 29, none⟩ = some (.int .u8 0)) (h30 : w.cell? ⟨b, 30, none⟩ = some (.int .u8 0)) :
    (convert 25 9 (.slice (some ⟨b, 0, none⟩) 31 31)).run Try.prog w = .ok (.string (strOf (fun _ => 0#8) 31)) w := by
  refine conv_str (fun _ => 0#8) b 0 31 31 w (fun i hi => ?_)
  have key : w.cell? ⟨b, 0 + i, none⟩ = some (.int .u8 (n8 0#8)) := by
    have hc : i = 0 ∨ i = 1 ∨ i = 2 ∨ i = 3 ∨ i = 4 ∨ i = 5 ∨ i = 6 ∨ i = 7 ∨ i = 8 ∨ i = 9 ∨ i = 10 ∨ i = 11 ∨ i = 12 ∨ i = 13 ∨ i = 14 ∨ i = 15 ∨ i = 16 ∨ i = 17 ∨ i = 18 ∨ i = 19 ∨ i = 20 ∨ i = 21 ∨ i = 22 ∨ i = 23 ∨ i = 24 ∨ i = 25 ∨ i = 26 ∨ i = 27 ∨ i = 28 ∨ i = 29 ∨ i = 30 := by omega
    rw [z8, Nat.zero_add]
    rcases hc with rfl | rfl | rfl | rfl | rfl | rfl | rfl | rfl | rfl | rfl | rfl | rfl | rfl | rfl | rfl | rfl | rfl | rfl | rfl | rfl | rfl | rfl | rfl | rfl | rfl | rfl | rfl | rfl | rfl | rfl | rfl
    · exact h0
    · exact h1
    · exact h2
    · exact h3
    · exact h4
    · exact h5
    · exact h6
    · exact h7
    · exact h8
    · exact h9
    · exact h10
    · exact h11
    · exact h12
    · exact h13
    · exact h14
    · exact h15
    · exact h16
    · exact h17
    · exact h18
    · exact h19
    · exact h20
    · exact h21
    · exact h22
    · exact h23
    · exact h24
    · exact h25
    · exact h26
    · exact h27
    · exact h28
    · exact h29
    · exact h30
  exact key
theorem conv1 (b : Nat) (x : BitVec 8) (w : World) (h : w.cell? ⟨b, 0, none⟩ = some (.int .u8 (n8 x))) :
    (convert 25 9 (.slice (some ⟨b, 0, none⟩) 1 1)).run Try.prog w = .ok (.string (strOf (fun _ => x) 1)) w := by
  refine conv_str (fun _ => x) b 0 1 1 w (fun i hi => ?_)
  obtain rfl : i = 0 := by omega
  exact h
theorem strOf_append (f g : Nat → BitVec 8) (a b : Nat) : strOf f a ++ strOf g b = strOf (fun i => if i < a then f i else g (i - a)) (a + b) := by
  apply ByteArray.ext
  rw [ByteArray.data_append]
  unfold strOf
  apply Array.ext'
  rw [Array.toList_append]
  show strL f a ++ strL g b = strL _ (a + b)
  apply List.ext_getElem?
  intro i
  by_cases hi : i < a
  · rw [List.getElem?_append_left (by rw [strL_length]; exact hi)]
    have h2 : i < a + b := by omega
    simp [strL, hi, h2]
  · rw [List.getElem?_append_right (by rw [strL_length]; omega), strL_length]
    by_cases h2 : i < a + b
    · have h3 : i - a < b := by omega
      simp [strL, hi, h2, h3]
    · have h3 : ¬ i - a < b := by omega
      simp [strL, h2, h3]
theorem small_str (n : BitVec 8) : strOf (fun _ => n) 1 ++ strOf (fun _ => 0#8) 31 = strOf (fun i => if i = 0 then n else 0#8) 32 := by
  rw [strOf_append, strOf_eq]
  intro i _
  by_cases h : i = 0
  · simp [h]
  · have : ¬ i < 1 := by omega
    simp [h, this]
theorem make31 (w : World) : (Instr.makeSlice 25 (.int .i64 31) (.int .i64 31)).run Try.prog w = .ok (.slice (some ⟨w.heap.size, 0, none⟩) 31 31) (w.alloc (.cells #[.int .u8 0, .int .u8 0, .int .u8 0, .int .u8 0, .int .u8 0, .int .u8 0, .int .u8 0, .int .u8 0, .int .u8 0, .int .u8 0, .int .u8 0, .int .u8 0, .int .u8 0, .int .u8 0, .int .u8 0, .int .u8 0, .int .u8 0, .int .u8 0, .int .u8 0, .int .u8 0, .int .u8 0, .int .u8 0, .int .u8 0, .int .u8 0, .int .u8 0, .int .u8 0, .int .u8 0, .int .u8 0, .int .u8 0, .int .u8 0, .int .u8 0] 5)) := by kernel_rfl
set_option maxHeartbeats 4000000 in
set_option maxRecDepth 100000 in
theorem small_any (n : BitVec 8) (w : World) :
    Calls Try.prog 13 #[.int .i64 (n8 n)] w fun e w' => e = .returned (.string (strOf (fun i => if i = 0 then n else 0#8) 32)) ∧ Below w.heap.size w w' := by
  have c1 := fun b w => conv1 b n w
  have c31 := conv31
  have mk := make31
  have sz := strOf_size
  have sm := small_str n
  have wr : IntKind.u8.wrap (n8 n) = n8 n := by rw [wrap_n8, ofInt_n8]
  go_enter Try.func13, Try.ntmps13
  go_wp2_with fail
  go_region
  all_goals (go_wp2; go_ret; refine ⟨rfl, ?_⟩)
  all_goals (repeat (first | exact Below.refl _ _ | apply Below.drew | refine Below.alloc ?_ (by simp; try omega) _))
end Go.Proofs.Ytmfiabkhnoimhaa
