/-
  sha's schedule: a block's words.
-/
import Derived.Test.YtjbpjoondmcnlabDoorMg01
import Derived.RegionTactic
import Derived.BigQuiet
import Derived.Deep.QuietTactic
import Derived.Deep.DeepCutAuto
import Derived.Deep.Cut
import Derived.Lib.Hide
set_option maxRecDepth 100000
namespace Go.Proofs.YtjbpjoondmcnlabDoor
open Go Go.RowKit Go.BigFrame
set_option linter.unusedSimpArgs false
set_option linter.unusedVariables false
def bytesA (f : Nat → BitVec 8) (n : Nat) : Array Value := ((List.range n).map fun i => .int .u8 (n8 (f i))).toArray
def wordsA (g : Nat → BitVec 32) (n : Nat) : Array Value := ((List.range n).map fun i => .int .u32 (n32 (g i))).toArray
theorem bytesA_get (f : Nat → BitVec 8) {n i : Nat} (h : i < n) : (bytesA f n)[i]? = some (.int .u8 (n8 (f i))) := by simp [bytesA, h]
theorem wordsA_get (g : Nat → BitVec 32) {n i : Nat} (h : i < n) : (wordsA g n)[i]? = some (.int .u32 (n32 (g i))) := by simp [wordsA, h]
theorem bytesA_size (f : Nat → BitVec 8) (n : Nat) : (bytesA f n).size = n := by simp [bytesA]
theorem wordsA_size (g : Nat → BitVec 32) (n : Nat) : (wordsA g n).size = n := by simp [wordsA]
theorem wordsA_congr {g h : Nat → BitVec 32} {n : Nat} (e : ∀ i, i < n → g i = h i) : wordsA g n = wordsA h n := by
  unfold wordsA
  congr 1
  exact List.map_congr_left (fun i hi => by rw [e i (List.mem_range.1 hi)])
theorem wordsA_set (g : Nat → BitVec 32) (n j : Nat) (x : BitVec 32) : (wordsA g n).setIfInBounds j (.int .u32 (n32 x)) = wordsA (fun i => if i = j then x else g i) n := by
  apply Array.ext_getElem?
  intro i
  rw [Array.getElem?_setIfInBounds]
  by_cases hij : j = i
  · subst hij
    rw [if_pos rfl, wordsA_size]
    by_cases hj : j < n
    · rw [if_pos hj, wordsA_get _ hj, if_pos rfl]
    · rw [if_neg hj, Array.getElem?_eq_none (by rw [wordsA_size]; omega)]
  · rw [if_neg hij]
    by_cases hi : i < n
    · rw [wordsA_get _ hi, wordsA_get _ hi, if_neg (fun e => hij e.symm)]
    · rw [Array.getElem?_eq_none (by rw [wordsA_size]; omega), Array.getElem?_eq_none (by rw [wordsA_size]; omega)]
theorem wordsA_one (g : Nat → BitVec 32) (n : Nat) : (wordsA g n).all (·.oneCell') = true := by
  rw [Array.all_eq_true_iff_forall_mem]
  intro v hv
  simp only [wordsA, List.mem_toArray, List.mem_map] at hv
  obtain ⟨i, _, rfl⟩ := hv
  rfl
theorem alloc_size (w : World) (o : Obj) : (w.alloc o).heap.size = w.heap.size + 1 := by simp
theorem replicate_words (n : Nat) : (Array.replicate n (.int .u32 0) : Array Value) = wordsA (fun _ => 0#32) n := by
  have z : n32 0#32 = 0 := by unfold n32; rfl
  apply Array.ext_getElem?
  intro i
  by_cases hi : i < n
  · rw [wordsA_get _ hi, z]; simp [hi]
  · rw [Array.getElem?_eq_none (by simp; omega), Array.getElem?_eq_none (by rw [wordsA_size]; omega)]
/-- The words that are there so far. -/
def sofar (g : Nat → BitVec 32) (k i : Nat) : BitVec 32 := if i < k then g i else 0#32
set_option maxHeartbeats 4000000 in
set_option maxRecDepth 100000 in
theorem schedule_any (f : Nat → BitVec 8) (w : World) : Calls Tryd.prog 98 #[.agg (bytesA f 64)] w fun e w' => e = .returned (.agg (wordsA (schedW f) 64)) ∧ Below w.heap.size w w' := by
  go_enter Tryd.func98, Tryd.ntmps98
  have hz : (Tryd.prog.info? 154).map (·.zero) = some (some (.agg (Array.replicate 64 (.int .u32 0)))) := by kernel_rfl
  go_upto_region 2 with (refine wpList_alloc_row rfl 154 rfl _ hz ?_)
  obtain ⟨wa, hwa⟩ : ∃ wa, ((w.alloc (.cells (bytesA f 64) 132)).alloc (.cells (Array.replicate 64 (.int .u32 0)) 154)).alloc (.cells (Array.replicate 64 (.int .u32 0)) 154) = wa := ⟨_, rfl⟩
  have R0 := rows_alloc w [.cells (bytesA f 64) 132, .cells (Array.replicate 64 (.int .u32 0)) 154, .cells (Array.replicate 64 (.int .u32 0)) 154] 0
  have R1 := rows_alloc w [.cells (bytesA f 64) 132, .cells (Array.replicate 64 (.int .u32 0)) 154, .cells (Array.replicate 64 (.int .u32 0)) 154] 1
  have R2 := rows_alloc w [.cells (bytesA f 64) 132, .cells (Array.replicate 64 (.int .u32 0)) 154, .cells (Array.replicate 64 (.int .u32 0)) 154] 2
  have hb : Below w.heap.size w wa := by
    rw [← hwa]
    repeat (first | exact Below.refl _ _ | refine Below.alloc ?_ (by simp; try omega) _)
  simp only [List.foldl] at R0 R1 R2
  rw [hwa] at R0 R1 R2
  simp only [Act.put, List.setIfInBounds_toArray, List.set_cons_succ, List.set_cons_zero, alloc_size, hwa]
  clear hwa
  have K0 : wa.heap[w.heap.size]? = some (.cells (bytesA f 64) 132 (0, 0)) := R0
  have K2 : wa.heap[w.heap.size + 1 + 1]? = some (.cells (wordsA (fun _ => 0#32) 64) 154 (0, 0)) := by rw [← replicate_words]; exact R2
  have K1 : wa.heap[w.heap.size + 1]? = some (.cells (wordsA (fun _ => 0#32) 64) 154 (0, 0)) := by rw [← replicate_words]; exact R1
  clear R0 R1 R2
  obtain ⟨q, hq⟩ : ∃ q, w.heap.size = q := ⟨_, rfl⟩
  obtain ⟨m, hm⟩ : ∃ m, q + 1 = m := ⟨_, rfl⟩
  obtain ⟨r, hr⟩ : ∃ r, m + 1 = r := ⟨_, rfl⟩
  rw [hq] at K0 K1 K2 hb
  rw [hm] at K1 K2
  rw [hr] at K2
  simp only [hq, hm, hr]
  have hqr : q < m ∧ m < r := ⟨by omega, by omega⟩
  have HQ := Lib.hid hq
  clear hq hm hr
  have hb0 := Lib.hid hb
  clear hb
  go_wp2_with fail
  go_loopw [8] (fun s wr => ∃ i : Nat, i ≤ 16 ∧ s = .int .i64 (i : Int) ∧ wr.heap[q]? = some (.cells (bytesA f 64) 132 (0, 0)) ∧ wr.heap[r]? = some (.cells (wordsA (sofar (schedW f) i) 64) 154 (0, 0)) ∧ wr.heap[m]? = some (.cells (wordsA (fun _ => 0#32) 64) 154 (0, 0)) ∧ Below q w wr) (fun s _ => 16 - (intOf s).toNat)
  case atStart => exact ⟨0, by omega, rfl, K0, by rw [wordsA_congr (h := fun _ => 0#32) (fun j _ => by unfold sofar; rw [if_neg (by omega)])]; exact K2, K1, hb0.out⟩
  case round =>
    clear K0 K1 K2 hb0 wa
    obtain ⟨i, hi, rfl, k0, k2, k1, bel⟩ := hrel
    have BEL := Lib.hid bel
    have H0 := Lib.hid k0; have H1 := Lib.hid k1; have H2 := Lib.hid k2
    clear bel k0 k1 k2
    by_cases hlt : i < 16
    · have hlI : (i : Int) < 16 := by omega
      have hl64 : (i : Int) < 64 := by omega
      have KB0 : ∀ w2 : World, w2.heap = wr.heap ∧ Below q w w2 → w2.cell? ⟨q, 4 * i, none⟩ = some (.int .u8 (n8 (f (4 * i)))) := fun w2 h => by rw [cell_of_row _ _ _ _ _ _ (by rw [h.1]; exact H0.out)]; exact bytesA_get f (by omega)
      have KB1 : ∀ w2 : World, w2.heap = wr.heap ∧ Below q w w2 → w2.cell? ⟨q, 4 * i + 1, none⟩ = some (.int .u8 (n8 (f (4 * i + 1)))) := fun w2 h => by rw [cell_of_row _ _ _ _ _ _ (by rw [h.1]; exact H0.out)]; exact bytesA_get f (by omega)
      have KB2 : ∀ w2 : World, w2.heap = wr.heap ∧ Below q w w2 → w2.cell? ⟨q, 4 * i + 2, none⟩ = some (.int .u8 (n8 (f (4 * i + 2)))) := fun w2 h => by rw [cell_of_row _ _ _ _ _ _ (by rw [h.1]; exact H0.out)]; exact bytesA_get f (by omega)
      have KB3 : ∀ w2 : World, w2.heap = wr.heap ∧ Below q w w2 → w2.cell? ⟨q, 4 * i + 3, none⟩ = some (.int .u8 (n8 (f (4 * i + 3)))) := fun w2 h => by rw [cell_of_row _ _ _ _ _ _ (by rw [h.1]; exact H0.out)]; exact bytesA_get f (by omega)
      have hw_0 : IntKind.i64.wrap (4 * (i : Int)) = 4 * (i : Int) := by rw [IntKind.wrap_i64]; omega
      have hn0 : (0 : Int) ≤ 4 * (i : Int) := by omega
      have hl0 : 4 * (i : Int) < 64 := by omega
      have ht0 : (4 * (i : Int)).toNat = 4 * i := by omega
      have hw_1 : IntKind.i64.wrap (4 * (i : Int) + 1) = 4 * (i : Int) + 1 := by rw [IntKind.wrap_i64]; omega
      have hn1 : (0 : Int) ≤ 4 * (i : Int) + 1 := by omega
      have hl1 : 4 * (i : Int) + 1 < 64 := by omega
      have ht1 : (4 * (i : Int) + 1).toNat = 4 * i + 1 := by omega
      have hw_2 : IntKind.i64.wrap (4 * (i : Int) + 2) = 4 * (i : Int) + 2 := by rw [IntKind.wrap_i64]; omega
      have hn2 : (0 : Int) ≤ 4 * (i : Int) + 2 := by omega
      have hl2 : 4 * (i : Int) + 2 < 64 := by omega
      have ht2 : (4 * (i : Int) + 2).toNat = 4 * i + 2 := by omega
      have hw_3 : IntKind.i64.wrap (4 * (i : Int) + 3) = 4 * (i : Int) + 3 := by rw [IntKind.wrap_i64]; omega
      have hn3 : (0 : Int) ≤ 4 * (i : Int) + 3 := by omega
      have hl3 : 4 * (i : Int) + 3 < 64 := by omega
      have ht3 : (4 * (i : Int) + 3).toNat = 4 * i + 3 := by omega
      go_upto_region 5 with (fail)
      refine region_class1 31 (fun w2 => w2.heap = wr.heap ∧ Below q w w2) mixedOrders (by kernel_rfl) ⟨rfl, BEL.out.drew⟩ rfl ?_
      refine wpQuiet_take (by rfl) (fun K hK => ⟨.int .i64 (i : Int), fun w2 hw2 => ?_, hK _ ?_⟩)
      · clear hw2; go_simp
      clear hK K
      simp only [Act.put, List.setIfInBounds_toArray, List.set_cons_succ, List.set_cons_zero]
      refine wpQuiet_take (by rfl) (fun K hK => ⟨.int .i64 (i : Int), fun w2 hw2 => ?_, hK _ ?_⟩)
      · clear hw2; go_simp
      clear hK K
      simp only [Act.put, List.setIfInBounds_toArray, List.set_cons_succ, List.set_cons_zero]
      refine wpQuiet_take (by rfl) (fun K hK => ⟨.int .i64 (4 * (i : Int)), fun w2 hw2 => ?_, hK _ ?_⟩)
      · clear hw2; go_simp
      clear hK K
      simp only [Act.put, List.setIfInBounds_toArray, List.set_cons_succ, List.set_cons_zero]
      refine wpQuiet_take (by rfl) (fun K hK => ⟨.pointer (some ⟨q, 4 * i, none⟩), fun w2 hw2 => ?_, hK _ ?_⟩)
      · clear hw2; go_simp
      clear hK K
      simp only [Act.put, List.setIfInBounds_toArray, List.set_cons_succ, List.set_cons_zero]
      refine wpQuiet_take (by rfl) (fun K hK => ⟨.int .u8 (n8 (f (4 * i))), fun w2 hw2 => ?_, hK _ ?_⟩)
      · have hc := KB0 w2 hw2
        clear hw2; go_simp
      clear hK K
      simp only [Act.put, List.setIfInBounds_toArray, List.set_cons_succ, List.set_cons_zero]
      refine wpQuiet_take (by rfl) (fun K hK => ⟨.int .u32 (n32 ((f (4 * i)).setWidth 32)), fun w2 hw2 => ?_, hK _ ?_⟩)
      · clear hw2; go_simp
      clear hK K
      simp only [Act.put, List.setIfInBounds_toArray, List.set_cons_succ, List.set_cons_zero]
      refine wpQuiet_take (by rfl) (fun K hK => ⟨.int .u32 (n32 ((f (4 * i)).setWidth 32 <<< 24)), fun w2 hw2 => ?_, hK _ ?_⟩)
      · clear hw2; go_simp
      clear hK K
      simp only [Act.put, List.setIfInBounds_toArray, List.set_cons_succ, List.set_cons_zero]
      refine wpQuiet_take (by rfl) (fun K hK => ⟨.int .i64 (i : Int), fun w2 hw2 => ?_, hK _ ?_⟩)
      · clear hw2; go_simp
      clear hK K
      simp only [Act.put, List.setIfInBounds_toArray, List.set_cons_succ, List.set_cons_zero]
      refine wpQuiet_take (by rfl) (fun K hK => ⟨.int .i64 (4 * (i : Int)), fun w2 hw2 => ?_, hK _ ?_⟩)
      · clear hw2; go_simp
      clear hK K
      simp only [Act.put, List.setIfInBounds_toArray, List.set_cons_succ, List.set_cons_zero]
      refine wpQuiet_take (by rfl) (fun K hK => ⟨.int .i64 (4 * (i : Int) + 1), fun w2 hw2 => ?_, hK _ ?_⟩)
      · clear hw2; go_simp
      clear hK K
      simp only [Act.put, List.setIfInBounds_toArray, List.set_cons_succ, List.set_cons_zero]
      refine wpQuiet_take (by rfl) (fun K hK => ⟨.pointer (some ⟨q, 4 * i + 1, none⟩), fun w2 hw2 => ?_, hK _ ?_⟩)
      · clear hw2; go_simp
      clear hK K
      simp only [Act.put, List.setIfInBounds_toArray, List.set_cons_succ, List.set_cons_zero]
      refine wpQuiet_take (by rfl) (fun K hK => ⟨.int .u8 (n8 (f (4 * i + 1))), fun w2 hw2 => ?_, hK _ ?_⟩)
      · have hc := KB1 w2 hw2
        clear hw2; go_simp
      clear hK K
      simp only [Act.put, List.setIfInBounds_toArray, List.set_cons_succ, List.set_cons_zero]
      refine wpQuiet_take (by rfl) (fun K hK => ⟨.int .u32 (n32 ((f (4 * i + 1)).setWidth 32)), fun w2 hw2 => ?_, hK _ ?_⟩)
      · clear hw2; go_simp
      clear hK K
      simp only [Act.put, List.setIfInBounds_toArray, List.set_cons_succ, List.set_cons_zero]
      refine wpQuiet_take (by rfl) (fun K hK => ⟨.int .u32 (n32 ((f (4 * i + 1)).setWidth 32 <<< 16)), fun w2 hw2 => ?_, hK _ ?_⟩)
      · clear hw2; go_simp
      clear hK K
      simp only [Act.put, List.setIfInBounds_toArray, List.set_cons_succ, List.set_cons_zero]
      refine wpQuiet_take (by rfl) (fun K hK => ⟨.int .u32 (n32 (((f (4 * i)).setWidth 32 <<< 24) ||| ((f (4 * i + 1)).setWidth 32 <<< 16))), fun w2 hw2 => ?_, hK _ ?_⟩)
      · clear hw2; go_simp
      clear hK K
      simp only [Act.put, List.setIfInBounds_toArray, List.set_cons_succ, List.set_cons_zero]
      refine wpQuiet_take (by rfl) (fun K hK => ⟨.int .i64 (i : Int), fun w2 hw2 => ?_, hK _ ?_⟩)
      · clear hw2; go_simp
      clear hK K
      simp only [Act.put, List.setIfInBounds_toArray, List.set_cons_succ, List.set_cons_zero]
      refine wpQuiet_take (by rfl) (fun K hK => ⟨.int .i64 (4 * (i : Int)), fun w2 hw2 => ?_, hK _ ?_⟩)
      · clear hw2; go_simp
      clear hK K
      simp only [Act.put, List.setIfInBounds_toArray, List.set_cons_succ, List.set_cons_zero]
      refine wpQuiet_take (by rfl) (fun K hK => ⟨.int .i64 (4 * (i : Int) + 2), fun w2 hw2 => ?_, hK _ ?_⟩)
      · clear hw2; go_simp
      clear hK K
      simp only [Act.put, List.setIfInBounds_toArray, List.set_cons_succ, List.set_cons_zero]
      refine wpQuiet_take (by rfl) (fun K hK => ⟨.pointer (some ⟨q, 4 * i + 2, none⟩), fun w2 hw2 => ?_, hK _ ?_⟩)
      · clear hw2; go_simp
      clear hK K
      simp only [Act.put, List.setIfInBounds_toArray, List.set_cons_succ, List.set_cons_zero]
      refine wpQuiet_take (by rfl) (fun K hK => ⟨.int .u8 (n8 (f (4 * i + 2))), fun w2 hw2 => ?_, hK _ ?_⟩)
      · have hc := KB2 w2 hw2
        clear hw2; go_simp
      clear hK K
      simp only [Act.put, List.setIfInBounds_toArray, List.set_cons_succ, List.set_cons_zero]
      refine wpQuiet_take (by rfl) (fun K hK => ⟨.int .u32 (n32 ((f (4 * i + 2)).setWidth 32)), fun w2 hw2 => ?_, hK _ ?_⟩)
      · clear hw2; go_simp
      clear hK K
      simp only [Act.put, List.setIfInBounds_toArray, List.set_cons_succ, List.set_cons_zero]
      refine wpQuiet_take (by rfl) (fun K hK => ⟨.int .u32 (n32 ((f (4 * i + 2)).setWidth 32 <<< 8)), fun w2 hw2 => ?_, hK _ ?_⟩)
      · clear hw2; go_simp
      clear hK K
      simp only [Act.put, List.setIfInBounds_toArray, List.set_cons_succ, List.set_cons_zero]
      refine wpQuiet_take (by rfl) (fun K hK => ⟨.int .u32 (n32 ((((f (4 * i)).setWidth 32 <<< 24) ||| ((f (4 * i + 1)).setWidth 32 <<< 16)) ||| ((f (4 * i + 2)).setWidth 32 <<< 8))), fun w2 hw2 => ?_, hK _ ?_⟩)
      · clear hw2; go_simp
      clear hK K
      simp only [Act.put, List.setIfInBounds_toArray, List.set_cons_succ, List.set_cons_zero]
      refine wpQuiet_take (by rfl) (fun K hK => ⟨.int .i64 (i : Int), fun w2 hw2 => ?_, hK _ ?_⟩)
      · clear hw2; go_simp
      clear hK K
      simp only [Act.put, List.setIfInBounds_toArray, List.set_cons_succ, List.set_cons_zero]
      refine wpQuiet_take (by rfl) (fun K hK => ⟨.int .i64 (4 * (i : Int)), fun w2 hw2 => ?_, hK _ ?_⟩)
      · clear hw2; go_simp
      clear hK K
      simp only [Act.put, List.setIfInBounds_toArray, List.set_cons_succ, List.set_cons_zero]
      refine wpQuiet_take (by rfl) (fun K hK => ⟨.int .i64 (4 * (i : Int) + 3), fun w2 hw2 => ?_, hK _ ?_⟩)
      · clear hw2; go_simp
      clear hK K
      simp only [Act.put, List.setIfInBounds_toArray, List.set_cons_succ, List.set_cons_zero]
      refine wpQuiet_take (by rfl) (fun K hK => ⟨.pointer (some ⟨q, 4 * i + 3, none⟩), fun w2 hw2 => ?_, hK _ ?_⟩)
      · clear hw2; go_simp
      clear hK K
      simp only [Act.put, List.setIfInBounds_toArray, List.set_cons_succ, List.set_cons_zero]
      refine wpQuiet_take (by rfl) (fun K hK => ⟨.int .u8 (n8 (f (4 * i + 3))), fun w2 hw2 => ?_, hK _ ?_⟩)
      · have hc := KB3 w2 hw2
        clear hw2; go_simp
      clear hK K
      simp only [Act.put, List.setIfInBounds_toArray, List.set_cons_succ, List.set_cons_zero]
      refine wpQuiet_take (by rfl) (fun K hK => ⟨.int .u32 (n32 ((f (4 * i + 3)).setWidth 32)), fun w2 hw2 => ?_, hK _ ?_⟩)
      · clear hw2; go_simp
      clear hK K
      simp only [Act.put, List.setIfInBounds_toArray, List.set_cons_succ, List.set_cons_zero]
      refine wpQuiet_take (by rfl) (fun K hK => ⟨.int .u32 (n32 (((((f (4 * i)).setWidth 32 <<< 24) ||| ((f (4 * i + 1)).setWidth 32 <<< 16)) ||| ((f (4 * i + 2)).setWidth 32 <<< 8)) ||| ((f (4 * i + 3)).setWidth 32))), fun w2 hw2 => ?_, hK _ ?_⟩)
      · clear hw2; go_simp
      clear hK K
      simp only [Act.put, List.setIfInBounds_toArray, List.set_cons_succ, List.set_cons_zero]
      refine wpQuiet_take (by rfl) (fun K hK => ⟨.pointer (some ⟨r, i, none⟩), fun w2 hw2 => ?_, hK _ ?_⟩)
      · clear hw2; go_simp
      clear hK K
      simp only [Act.put, List.setIfInBounds_toArray, List.set_cons_succ, List.set_cons_zero]
      refine wpQuiet_take0 ?_
      intro w2 hw2
      have k0 : w2.heap[q]? = some (.cells (bytesA f 64) 132 (0, 0)) := by rw [hw2.1]; exact H0.out
      have k1 : w2.heap[m]? = some (.cells (wordsA (fun _ => 0#32) 64) 154 (0, 0)) := by rw [hw2.1]; exact H1.out
      have k2 : w2.heap[r]? = some (.cells (wordsA (sofar (schedW f) i) 64) 154 (0, 0)) := by rw [hw2.1]; exact H2.out
      have kc : w2.cell? ⟨r, i, none⟩ = some (.int .u32 (n32 (sofar (schedW f) i i))) := by rw [cell_of_row _ _ _ _ _ _ k2]; exact wordsA_get _ (by omega)
      have fz : w2.frozen? ⟨r, i, none⟩ = false := frozen_of_row _ _ _ _ _ k2
      have B2 := Lib.hid hw2.2
      have QS := Lib.hid (rowSet_cell w2 r i 154 _ (.int .u32 (n32 (schedW f i))) k2)
      have G0 := Lib.hid k0; have G1 := Lib.hid k1
      have e : (((((f (4 * i)).setWidth 32 <<< 24) ||| ((f (4 * i + 1)).setWidth 32 <<< 16)) ||| ((f (4 * i + 2)).setWidth 32 <<< 8)) ||| ((f (4 * i + 3)).setWidth 32)) = schedW f i := (schedW_low f hlt).symm
      rw [e]
      clear hw2 k0 k1 k2 e KB0 KB1 KB2 KB3 hw_0 hw_1 hw_2 hw_3 hn0 hn1 hn2 hn3 hl0 hl1 hl2 hl3 ht0 ht1 ht2 ht3
      go_wp2_with fail
      go_roundw
      case rel =>
        refine ⟨i + 1, by omega, by go_num, (QS.out.other q (by omega)).trans G0.out, ?_, (QS.out.other m (by omega)).trans G1.out, B2.out.trans (QS.out.below _ (by omega))⟩
        have h := QS.out.row
        rw [wordsA_set, wordsA_congr (h := sofar (schedW f) (i + 1)) (fun j _ => by
          unfold sofar
          by_cases e : j = i
          · subst e; rw [if_pos rfl, if_pos (by omega)]
          · rw [if_neg e]
            by_cases e2 : j < i
            · rw [if_pos e2, if_pos (by omega)]
            · rw [if_neg e2, if_neg (by omega)])] at h
        exact h
      case measure => (simp [intOf] <;> omega)
    · obtain rfl : i = 16 := by omega
      have S0 : Hid (sofar (schedW f) 16 = sofar (schedW f) 16) := Lib.hid rfl
      go_upto_region 8 with (fail)
      go_loopw [5] (fun s wr => ∃ i : Nat, 16 ≤ i ∧ i ≤ 64 ∧ s = .int .i64 (i : Int) ∧ wr.heap[r]? = some (.cells (wordsA (sofar (schedW f) i) 64) 154 (0, 0)) ∧ wr.heap[m]? = some (.cells (wordsA (fun _ => 0#32) 64) 154 (0, 0)) ∧ Below q w wr) (fun s _ => 64 - (intOf s).toNat)
      case atStart => exact ⟨16, by omega, by omega, rfl, H2.out, H1.out, BEL.out⟩
      case round =>
        clear H0 H1 H2 BEL hi hlt
        obtain ⟨i, hi16, hi, rfl, k2, k1, bel⟩ := hrel
        have BEL := Lib.hid bel
        have H1 := Lib.hid k1; have H2 := Lib.hid k2
        clear bel k1 k2
        by_cases hlt : i < 64
        · have hlI : (i : Int) < 64 := by omega
          have KC2 : ∀ w2 : World, w2.heap = wr.heap ∧ Below q w w2 → w2.cell? ⟨r, i - 2, none⟩ = some (.int .u32 (n32 (schedW f (i - 2)))) := fun w2 h => by
            rw [cell_of_row _ _ _ _ _ _ (by rw [h.1]; exact H2.out), wordsA_get _ (by omega)]
            unfold sofar
            rw [if_pos (by omega)]
          have hw_2 : IntKind.i64.wrap ((i : Int) - 2) = ((i : Int) - 2) := by rw [IntKind.wrap_i64]; omega
          have hn2 : (0 : Int) ≤ ((i : Int) - 2) := by omega
          have hm2 : (2 : Int) ≤ (i : Int) := by omega
          have hl2 : ((i : Int) - 2) < 64 := by omega
          have ht2 : (((i : Int) - 2)).toNat = i - 2 := by omega
          have KC7 : ∀ w2 : World, w2.heap = wr.heap ∧ Below q w w2 → w2.cell? ⟨r, i - 7, none⟩ = some (.int .u32 (n32 (schedW f (i - 7)))) := fun w2 h => by
            rw [cell_of_row _ _ _ _ _ _ (by rw [h.1]; exact H2.out), wordsA_get _ (by omega)]
            unfold sofar
            rw [if_pos (by omega)]
          have hw_7 : IntKind.i64.wrap ((i : Int) - 7) = ((i : Int) - 7) := by rw [IntKind.wrap_i64]; omega
          have hn7 : (0 : Int) ≤ ((i : Int) - 7) := by omega
          have hm7 : (7 : Int) ≤ (i : Int) := by omega
          have hl7 : ((i : Int) - 7) < 64 := by omega
          have ht7 : (((i : Int) - 7)).toNat = i - 7 := by omega
          have KC15 : ∀ w2 : World, w2.heap = wr.heap ∧ Below q w w2 → w2.cell? ⟨r, i - 15, none⟩ = some (.int .u32 (n32 (schedW f (i - 15)))) := fun w2 h => by
            rw [cell_of_row _ _ _ _ _ _ (by rw [h.1]; exact H2.out), wordsA_get _ (by omega)]
            unfold sofar
            rw [if_pos (by omega)]
          have hw_15 : IntKind.i64.wrap ((i : Int) - 15) = ((i : Int) - 15) := by rw [IntKind.wrap_i64]; omega
          have hn15 : (0 : Int) ≤ ((i : Int) - 15) := by omega
          have hm15 : (15 : Int) ≤ (i : Int) := by omega
          have hl15 : ((i : Int) - 15) < 64 := by omega
          have ht15 : (((i : Int) - 15)).toNat = i - 15 := by omega
          have KC16 : ∀ w2 : World, w2.heap = wr.heap ∧ Below q w w2 → w2.cell? ⟨r, i - 16, none⟩ = some (.int .u32 (n32 (schedW f (i - 16)))) := fun w2 h => by
            rw [cell_of_row _ _ _ _ _ _ (by rw [h.1]; exact H2.out), wordsA_get _ (by omega)]
            unfold sofar
            rw [if_pos (by omega)]
          have hw_16 : IntKind.i64.wrap ((i : Int) - 16) = ((i : Int) - 16) := by rw [IntKind.wrap_i64]; omega
          have hn16 : (0 : Int) ≤ ((i : Int) - 16) := by omega
          have hm16 : (16 : Int) ≤ (i : Int) := by omega
          have hl16 : ((i : Int) - 16) < 64 := by omega
          have ht16 : (((i : Int) - 16)).toNat = i - 16 := by omega
          go_upto_region 10 with (fail)
          refine region_class1 9 (fun w2 => w2.heap = wr.heap ∧ Below q w w2) mixedOrders (by kernel_rfl) ⟨rfl, BEL.out.drew⟩ rfl ?_
          refine wpQuiet_take (by rfl) (fun K hK => ⟨.int .i64 (i : Int), fun w2 hw2 => ?_, hK _ ?_⟩)
          · clear hw2; go_simp
          clear hK K
          simp only [Act.put, List.setIfInBounds_toArray, List.set_cons_succ, List.set_cons_zero]
          refine wpQuiet_take (by rfl) (fun K hK => ⟨.int .i64 ((i : Int) - 15), fun w2 hw2 => ?_, hK _ ?_⟩)
          · clear hw2; go_simp
          clear hK K
          simp only [Act.put, List.setIfInBounds_toArray, List.set_cons_succ, List.set_cons_zero]
          refine wpQuiet_take (by rfl) (fun K hK => ⟨.pointer (some ⟨r, i - 15, none⟩), fun w2 hw2 => ?_, hK _ ?_⟩)
          · clear hw2; go_simp
          clear hK K
          simp only [Act.put, List.setIfInBounds_toArray, List.set_cons_succ, List.set_cons_zero]
          refine wpQuiet_take (by rfl) (fun K hK => ⟨.int .u32 (n32 (schedW f (i - 15))), fun w2 hw2 => ?_, hK _ ?_⟩)
          · have hc := KC15 w2 hw2
            clear hw2; go_simp
          clear hK K
          simp only [Act.put, List.setIfInBounds_toArray, List.set_cons_succ, List.set_cons_zero]
          refine wpQuiet_take (by rfl) (fun K hK => ⟨.int .i64 (i : Int), fun w2 hw2 => ?_, hK _ ?_⟩)
          · clear hw2; go_simp
          clear hK K
          simp only [Act.put, List.setIfInBounds_toArray, List.set_cons_succ, List.set_cons_zero]
          refine wpQuiet_take (by rfl) (fun K hK => ⟨.int .i64 ((i : Int) - 2), fun w2 hw2 => ?_, hK _ ?_⟩)
          · clear hw2; go_simp
          clear hK K
          simp only [Act.put, List.setIfInBounds_toArray, List.set_cons_succ, List.set_cons_zero]
          refine wpQuiet_take (by rfl) (fun K hK => ⟨.pointer (some ⟨r, i - 2, none⟩), fun w2 hw2 => ?_, hK _ ?_⟩)
          · clear hw2; go_simp
          clear hK K
          simp only [Act.put, List.setIfInBounds_toArray, List.set_cons_succ, List.set_cons_zero]
          refine wpQuiet_take (by rfl) (fun K hK => ⟨.int .u32 (n32 (schedW f (i - 2))), fun w2 hw2 => ?_, hK _ ?_⟩)
          · have hc := KC2 w2 hw2
            clear hw2; go_simp
          clear hK K
          simp only [Act.put, List.setIfInBounds_toArray, List.set_cons_succ, List.set_cons_zero]
          refine wpQuiet_take (by rfl) (fun K hK => ⟨.int .u32 (n32 (schedW f (i - 15))), fun w2 hw2 => ?_, hK _ ?_⟩)
          · clear hw2; go_simp
          clear hK K
          simp only [Act.put, List.setIfInBounds_toArray, List.set_cons_succ, List.set_cons_zero]
          refine wpQuiet_take0 ?_
          intro w2 hw2
          have kw2 : w2.heap[r]? = some (.cells (wordsA (sofar (schedW f) i) 64) 154 (0, 0)) := by rw [hw2.1]; exact H2.out
          have km2 : w2.heap[m]? = some (.cells (wordsA (fun _ => 0#32) 64) 154 (0, 0)) := by rw [hw2.1]; exact H1.out
          have KW2 := Lib.hid kw2; have KM2 := Lib.hid km2; have BE2 := Lib.hid hw2.2
          have KC7' := Lib.hid (fun (w3 : World) (h : w3.heap = w2.heap ∧ Below q w w3) => KC7 w3 ⟨h.1.trans hw2.1, h.2⟩)
          have KC16' := Lib.hid (fun (w3 : World) (h : w3.heap = w2.heap ∧ Below q w w3) => KC16 w3 ⟨h.1.trans hw2.1, h.2⟩)
          clear hw2 kw2 km2 KC2 KC7 KC15 KC16
          go_wp2_with fail
          with_reducible refine (rotl7 _ _).mono ?_
          rintro e w3 ⟨rfl, rfl⟩
          go_wp2_with fail
          with_reducible refine (rotl18 _ _).mono ?_
          rintro e w3 ⟨rfl, rfl⟩
          go_wp2_with fail
          with_reducible refine (rotl17 _ _).mono ?_
          rintro e w3 ⟨rfl, rfl⟩
          go_wp2_with fail
          with_reducible refine (rotl19 _ _).mono ?_
          rintro e w3 ⟨rfl, rfl⟩
          go_upto_region 13 with (fail)
          obtain ⟨Z0, hZ0⟩ : ∃ Z, rotR (schedW f (i - 15)) 7 ^^^ rotR (schedW f (i - 15)) 18 ^^^ schedW f (i - 15) >>> 3 = Z := ⟨_, rfl⟩
          obtain ⟨Z1, hZ1⟩ : ∃ Z, rotR (schedW f (i - 2)) 17 ^^^ rotR (schedW f (i - 2)) 19 ^^^ schedW f (i - 2) >>> 10 = Z := ⟨_, rfl⟩
          have hZ : Z1 + schedW f (i - 7) + Z0 + schedW f (i - 16) = schedW f i := by rw [← hZ0, ← hZ1]; exact (schedW_high f hi16).symm
          have HZ := Lib.hid hZ
          simp only [hZ0, hZ1]
          clear hZ hZ0 hZ1
          refine region_class1 15 (fun w3 => w3.heap = w2.heap ∧ Below q w w3) mixedOrders (by kernel_rfl) ⟨rfl, BE2.out.drew⟩ rfl ?_
          refine wpQuiet_take (by rfl) (fun K hK => ⟨.int .i64 (i : Int), fun w5 hw5 => ?_, hK _ ?_⟩)
          · clear hw5; go_simp
          clear hK K
          simp only [Act.put, List.setIfInBounds_toArray, List.set_cons_succ, List.set_cons_zero]
          refine wpQuiet_take (by rfl) (fun K hK => ⟨.int .u32 (n32 Z1), fun w5 hw5 => ?_, hK _ ?_⟩)
          · clear hw5; go_simp
          clear hK K
          simp only [Act.put, List.setIfInBounds_toArray, List.set_cons_succ, List.set_cons_zero]
          refine wpQuiet_take (by rfl) (fun K hK => ⟨.int .i64 (i : Int), fun w5 hw5 => ?_, hK _ ?_⟩)
          · clear hw5; go_simp
          clear hK K
          simp only [Act.put, List.setIfInBounds_toArray, List.set_cons_succ, List.set_cons_zero]
          refine wpQuiet_take (by rfl) (fun K hK => ⟨.int .i64 ((i : Int) - 7), fun w5 hw5 => ?_, hK _ ?_⟩)
          · clear hw5; go_simp
          clear hK K
          simp only [Act.put, List.setIfInBounds_toArray, List.set_cons_succ, List.set_cons_zero]
          refine wpQuiet_take (by rfl) (fun K hK => ⟨.pointer (some ⟨r, i - 7, none⟩), fun w5 hw5 => ?_, hK _ ?_⟩)
          · clear hw5; go_simp
          clear hK K
          simp only [Act.put, List.setIfInBounds_toArray, List.set_cons_succ, List.set_cons_zero]
          refine wpQuiet_take (by rfl) (fun K hK => ⟨.int .u32 (n32 (schedW f (i - 7))), fun w5 hw5 => ?_, hK _ ?_⟩)
          · have hc := KC7'.out w5 hw5
            clear hw5; go_simp
          clear hK K
          simp only [Act.put, List.setIfInBounds_toArray, List.set_cons_succ, List.set_cons_zero]
          refine wpQuiet_take (by rfl) (fun K hK => ⟨.int .u32 (n32 (Z1 + schedW f (i - 7))), fun w5 hw5 => ?_, hK _ ?_⟩)
          · clear hw5; go_simp
          clear hK K
          simp only [Act.put, List.setIfInBounds_toArray, List.set_cons_succ, List.set_cons_zero]
          refine wpQuiet_take (by rfl) (fun K hK => ⟨.int .u32 (n32 Z0), fun w5 hw5 => ?_, hK _ ?_⟩)
          · clear hw5; go_simp
          clear hK K
          simp only [Act.put, List.setIfInBounds_toArray, List.set_cons_succ, List.set_cons_zero]
          refine wpQuiet_take (by rfl) (fun K hK => ⟨.int .u32 (n32 (Z1 + schedW f (i - 7) + Z0)), fun w5 hw5 => ?_, hK _ ?_⟩)
          · clear hw5; go_simp
          clear hK K
          simp only [Act.put, List.setIfInBounds_toArray, List.set_cons_succ, List.set_cons_zero]
          refine wpQuiet_take (by rfl) (fun K hK => ⟨.int .i64 (i : Int), fun w5 hw5 => ?_, hK _ ?_⟩)
          · clear hw5; go_simp
          clear hK K
          simp only [Act.put, List.setIfInBounds_toArray, List.set_cons_succ, List.set_cons_zero]
          refine wpQuiet_take (by rfl) (fun K hK => ⟨.int .i64 ((i : Int) - 16), fun w5 hw5 => ?_, hK _ ?_⟩)
          · clear hw5; go_simp
          clear hK K
          simp only [Act.put, List.setIfInBounds_toArray, List.set_cons_succ, List.set_cons_zero]
          refine wpQuiet_take (by rfl) (fun K hK => ⟨.pointer (some ⟨r, i - 16, none⟩), fun w5 hw5 => ?_, hK _ ?_⟩)
          · clear hw5; go_simp
          clear hK K
          simp only [Act.put, List.setIfInBounds_toArray, List.set_cons_succ, List.set_cons_zero]
          refine wpQuiet_take (by rfl) (fun K hK => ⟨.int .u32 (n32 (schedW f (i - 16))), fun w5 hw5 => ?_, hK _ ?_⟩)
          · have hc := KC16'.out w5 hw5
            clear hw5; go_simp
          clear hK K
          simp only [Act.put, List.setIfInBounds_toArray, List.set_cons_succ, List.set_cons_zero]
          refine wpQuiet_take (by rfl) (fun K hK => ⟨.int .u32 (n32 (Z1 + schedW f (i - 7) + Z0 + schedW f (i - 16))), fun w5 hw5 => ?_, hK _ ?_⟩)
          · clear hw5; go_simp
          clear hK K
          simp only [Act.put, List.setIfInBounds_toArray, List.set_cons_succ, List.set_cons_zero]
          refine wpQuiet_take (by rfl) (fun K hK => ⟨.pointer (some ⟨r, i, none⟩), fun w5 hw5 => ?_, hK _ ?_⟩)
          · clear hw5; go_simp
          clear hK K
          simp only [Act.put, List.setIfInBounds_toArray, List.set_cons_succ, List.set_cons_zero]
          refine wpQuiet_take0 ?_
          intro w3 hw3
          have k1 : w3.heap[m]? = some (.cells (wordsA (fun _ => 0#32) 64) 154 (0, 0)) := by rw [hw3.1]; exact KM2.out
          have k2 : w3.heap[r]? = some (.cells (wordsA (sofar (schedW f) i) 64) 154 (0, 0)) := by rw [hw3.1]; exact KW2.out
          have kc : w3.cell? ⟨r, i, none⟩ = some (.int .u32 (n32 (sofar (schedW f) i i))) := by rw [cell_of_row _ _ _ _ _ _ k2]; exact wordsA_get _ (by omega)
          have fz : w3.frozen? ⟨r, i, none⟩ = false := frozen_of_row _ _ _ _ _ k2
          have B3 := Lib.hid hw3.2
          have QS := Lib.hid (rowSet_cell w3 r i 154 _ (.int .u32 (n32 (schedW f i))) k2)
          have G1 := Lib.hid k1
          rw [HZ.out]
          clear hw3 k1 k2
          go_wp2_with fail
          go_roundw
          case rel =>
            refine ⟨i + 1, by omega, by omega, by go_num, ?_, (QS.out.other m (by omega)).trans G1.out, B3.out.trans (QS.out.below _ (by omega))⟩
            have h := QS.out.row
            rw [wordsA_set, wordsA_congr (h := sofar (schedW f) (i + 1)) (fun j _ => by
              unfold sofar
              by_cases e : j = i
              · subst e; rw [if_pos rfl, if_pos (by omega)]
              · rw [if_neg e]
                by_cases e2 : j < i
                · rw [if_pos e2, if_pos (by omega)]
                · rw [if_neg e2, if_neg (by omega)])] at h
            exact h
          case measure => (simp [intOf] <;> omega)
        · obtain rfl : i = 64 := by omega
          have e64 : wordsA (sofar (schedW f) 64) 64 = wordsA (schedW f) 64 := wordsA_congr (fun j hj => by unfold sofar; rw [if_pos hj])
          rw [e64] at H2
          clear e64
          go_wp2_with (first
            | (refine wpList_load_row rfl 154 _ rfl r rfl _ _ (0, 0) _ H2.out Tryd.underlying154 rfl (by rw [wordsA_size]; kernel_rfl) ?_)
            | (refine wpList_store_row rfl 154 _ _ rfl m _ _ (wordsA (schedW f) 64) rfl rfl H1.out (by rw [wordsA_size, wordsA_size]) (by rw [wordsA_size]; kernel_rfl) (wordsA_one _ _) ?_; intro w4 s4))
          exact ret_row m _ 154 (wordsA (schedW f) 64) rfl _ rfl s4.row Tryd.underlying154 rfl (by rw [wordsA_size]; kernel_rfl) rfl ⟨rfl, by rw [HQ.out]; exact BEL.out.trans (s4.below _ (by omega))⟩
end Go.Proofs.YtjbpjoondmcnlabDoor
