/-
  TEXTS PUT TOGETHER: ShaC, ShaD, RowIn.
-/
import Derived.Test.YtjbpjoondmcnlabDoorShaB
import Derived.Test.YtjbpjoondmcnlabDoorWords
import Derived.ProofKit
import Derived.OpenShut
import Derived.Below
set_option maxRecDepth 100000
/-
  sha's turn: the state behind one block more.
-/
namespace Go.Proofs.YtjbpjoondmcnlabDoor
open Go Go.RowKit Go.BigFrame
set_option linter.unusedSimpArgs false
set_option linter.unusedVariables false
theorem not_n32 (x : BitVec 32) : bits BinOp.xor IntKind.u32 IntKind.u32.max (n32 x) = n32 (~~~x) := by
  show IntKind.wrap .u32 _ = _
  rw [show BitVec.ofInt (IntKind.bits .u32) (n32 x) = x from ofInt_n32 x, show BitVec.ofInt (IntKind.bits .u32) IntKind.u32.max = BitVec.allOnes 32 from rfl, wrap_n32]
  have e : BitVec.ofInt 32 (((BitVec.allOnes 32 ^^^ x).toNat : Nat) : Int) = ~~~x := by
    rw [BitVec.ofInt_natCast, BitVec.ofNat_toNat, BitVec.setWidth_eq]
    exact BitVec.allOnes_xor
  exact congrArg n32 e
theorem unary_xor (x : BitVec 32) : Op.unary UnOp.xor (.int .u32 (n32 x)) = pure (.int .u32 (n32 (~~~x))) := by
  have h : Op.unary UnOp.xor (.int .u32 (n32 x)) = pure (.int .u32 (bits BinOp.xor IntKind.u32 IntKind.u32.max (n32 x))) := rfl
  rw [h, not_n32]
attribute [go_sem high] unary_xor
theorem index_words (g : Nat → BitVec 32) (i : Nat) (h : i < 64) (w : World) : (Instr.index 154 (.agg (wordsA g 64)) (.int .i64 (i : Int))).run Tryd.prog w = .ok (.int .u32 (n32 (g i))) w := by
  have hr := run_index_arr (P := Tryd.prog) 154 114 64 (wordsA g 64) .i64 .u32 (i : Int) w (by kernel_rfl) (by kernel_rfl) (by kernel_rfl) (by omega) (by omega) (wordsA_size g 64)
  rw [hr, Int.toNat_natCast, wordsA_get g h]
  rfl
theorem index_eight (g : Nat → BitVec 32) (i : Nat) (h : i < 8) (w : World) : (Instr.index 143 (.agg (wordsA g 8)) (.int .i64 (i : Int))).run Tryd.prog w = .ok (.int .u32 (n32 (g i))) w := by
  have hr := run_index_arr (P := Tryd.prog) 143 114 8 (wordsA g 8) .i64 .u32 (i : Int) w (by kernel_rfl) (by kernel_rfl) (by kernel_rfl) (by omega) (by omega) (wordsA_size g 8)
  rw [hr, Int.toNat_natCast, wordsA_get g h]
  rfl
set_option maxHeartbeats 8000000 in
set_option maxRecDepth 100000 in
theorem turn_any (v : W8) (f : Nat → BitVec 8) (w : World) (T : TabK w) : Calls Tryd.prog 93 #[.agg (wordsA v.get 8), .agg (bytesA f 64)] w fun e w' => e = .returned (.agg (wordsA (v.turn kW f).get 8)) ∧ Below w.heap.size w w' := by
  go_enter Tryd.func93, Tryd.ntmps93
  have hz : (Tryd.prog.info? 154).map (·.zero) = some (some (.agg (Array.replicate 64 (.int .u32 0)))) := by kernel_rfl
  have hz8 : (Tryd.prog.info? 143).map (·.zero) = some (some (.agg (Array.replicate 8 (.int .u32 0)))) := by kernel_rfl
  go_upto_region 1 with (refine wpList_alloc_row rfl 143 rfl _ hz8 ?_)
  obtain ⟨wa, hwa⟩ : ∃ wa, ((w.alloc (.cells (wordsA v.get 8) 143)).alloc (.cells (bytesA f 64) 132)).alloc (.cells (Array.replicate 8 (.int .u32 0)) 143) = wa := ⟨_, rfl⟩
  have R0 := rows_alloc w [.cells (wordsA v.get 8) 143, .cells (bytesA f 64) 132, .cells (Array.replicate 8 (.int .u32 0)) 143] 0
  have R1 := rows_alloc w [.cells (wordsA v.get 8) 143, .cells (bytesA f 64) 132, .cells (Array.replicate 8 (.int .u32 0)) 143] 1
  have R2 := rows_alloc w [.cells (wordsA v.get 8) 143, .cells (bytesA f 64) 132, .cells (Array.replicate 8 (.int .u32 0)) 143] 2
  have hb : Below w.heap.size w wa := by
    rw [← hwa]
    repeat (first | exact Below.refl _ _ | refine Below.alloc ?_ (by simp; try omega) _)
  simp only [List.foldl] at R0 R1 R2
  rw [hwa] at R0 R1 R2
  simp only [Act.put, List.setIfInBounds_toArray, List.set_cons_succ, List.set_cons_zero, alloc_size, hwa]
  clear hwa
  have K0 : wa.heap[w.heap.size]? = some (.cells (wordsA v.get 8) 143 (0, 0)) := R0
  have K1 : wa.heap[w.heap.size + 1]? = some (.cells (bytesA f 64) 132 (0, 0)) := R1
  have K2 : wa.heap[w.heap.size + 1 + 1]? = some (.cells (wordsA (fun _ => 0#32) 8) 143 (0, 0)) := by rw [← replicate_words]; exact R2
  clear R0 R1 R2
  obtain ⟨q, hq⟩ : ∃ q, w.heap.size = q := ⟨_, rfl⟩
  obtain ⟨m, hm⟩ : ∃ m, q + 1 = m := ⟨_, rfl⟩
  obtain ⟨r, hr⟩ : ∃ r, m + 1 = r := ⟨_, rfl⟩
  have TL := T.lt
  rw [hq] at K0 K1 K2 hb TL
  rw [hm] at K1 K2
  rw [hr] at K2
  simp only [hq, hm, hr]
  have hqr : q < m ∧ m < r := ⟨by omega, by omega⟩
  have HQ := Lib.hid hq
  clear hq hm hr
  go_wp2_with (refine wpList_load_row rfl 132 _ rfl m rfl _ _ (0, 0) _ K1 Tryd.underlying132 rfl (by rw [bytesA_size]; kernel_rfl) ?_)
  with_reducible refine (schedule_any f _).mono ?_
  rintro e w1 ⟨rfl, hb1⟩
  have hrs := lt_row K2
  have K0' := below_row hb1 (by omega) K0
  have K2' := below_row hb1 (by omega) K2
  have hbw := hb.trans (hb1.mono (by omega))
  clear K0 K1 K2 hb
  go_upto_region 2 with (first
    | (refine wpList_alloc_row (o := ⟨some 5, .alloc 154, _, _, _, _⟩) rfl 154 rfl _ hz ?_)
    | (refine wpList_store_new (o := ⟨none, .store 154 (.tmp 5) (.tmp 22), _, _, _, _⟩) rfl 154 _ _ rfl (Array.replicate 64 (.int .u32 0)) (wordsA (schedW f) 64) _ rfl rfl rfl (by rw [wordsA_size]; kernel_rfl) (by rw [wordsA_size]; rfl) (wordsA_one _ _) ?_))
  obtain ⟨wb, hwb⟩ : ∃ wb, w1.alloc (.cells (wordsA (schedW f) 64) 154) = wb := ⟨_, rfl⟩
  have S5 : wb.heap[w1.heap.size]? = some (.cells (wordsA (schedW f) 64) 154 (0, 0)) := by rw [← hwb]; exact heap_alloc_last _ _
  have R0 : wb.heap[q]? = some (.cells (wordsA v.get 8) 143 (0, 0)) := by rw [← hwb]; exact (heap_alloc_old _ _ (lt_row K0')).trans K0'
  have R2 : wb.heap[r]? = some (.cells (wordsA (fun _ => 0#32) 8) 143 (0, 0)) := by rw [← hwb]; exact (heap_alloc_old _ _ (lt_row K2')).trans K2'
  have hbb : Below q w wb := by rw [← hwb]; exact hbw.alloc (by have := hbw.size; have := lt_row K0'; omega) _
  obtain ⟨s5, hs5⟩ : ∃ s5, w1.heap.size = s5 := ⟨_, rfl⟩
  rw [hs5] at S5
  simp only [hwb, hs5]
  clear hwb hs5 K0' K2' hbw hb1 hrs w1 wa
  have KV0 : ∀ w2 : World, w2.heap = wb.heap ∧ Below q w w2 → w2.cell? ⟨q, 0, none⟩ = some (.int .u32 (n32 (v.get 0))) := fun w2 h => by rw [cell_of_row _ _ _ _ _ _ (by rw [h.1]; exact R0)]; exact wordsA_get _ (by omega)
  have KV1 : ∀ w2 : World, w2.heap = wb.heap ∧ Below q w w2 → w2.cell? ⟨q, 1, none⟩ = some (.int .u32 (n32 (v.get 1))) := fun w2 h => by rw [cell_of_row _ _ _ _ _ _ (by rw [h.1]; exact R0)]; exact wordsA_get _ (by omega)
  have KV2 : ∀ w2 : World, w2.heap = wb.heap ∧ Below q w w2 → w2.cell? ⟨q, 2, none⟩ = some (.int .u32 (n32 (v.get 2))) := fun w2 h => by rw [cell_of_row _ _ _ _ _ _ (by rw [h.1]; exact R0)]; exact wordsA_get _ (by omega)
  have KV3 : ∀ w2 : World, w2.heap = wb.heap ∧ Below q w w2 → w2.cell? ⟨q, 3, none⟩ = some (.int .u32 (n32 (v.get 3))) := fun w2 h => by rw [cell_of_row _ _ _ _ _ _ (by rw [h.1]; exact R0)]; exact wordsA_get _ (by omega)
  have KV4 : ∀ w2 : World, w2.heap = wb.heap ∧ Below q w w2 → w2.cell? ⟨q, 4, none⟩ = some (.int .u32 (n32 (v.get 4))) := fun w2 h => by rw [cell_of_row _ _ _ _ _ _ (by rw [h.1]; exact R0)]; exact wordsA_get _ (by omega)
  have KV5 : ∀ w2 : World, w2.heap = wb.heap ∧ Below q w w2 → w2.cell? ⟨q, 5, none⟩ = some (.int .u32 (n32 (v.get 5))) := fun w2 h => by rw [cell_of_row _ _ _ _ _ _ (by rw [h.1]; exact R0)]; exact wordsA_get _ (by omega)
  have KV6 : ∀ w2 : World, w2.heap = wb.heap ∧ Below q w w2 → w2.cell? ⟨q, 6, none⟩ = some (.int .u32 (n32 (v.get 6))) := fun w2 h => by rw [cell_of_row _ _ _ _ _ _ (by rw [h.1]; exact R0)]; exact wordsA_get _ (by omega)
  have KV7 : ∀ w2 : World, w2.heap = wb.heap ∧ Below q w w2 → w2.cell? ⟨q, 7, none⟩ = some (.int .u32 (n32 (v.get 7))) := fun w2 h => by rw [cell_of_row _ _ _ _ _ _ (by rw [h.1]; exact R0)]; exact wordsA_get _ (by omega)
  refine region_class 23 (fun w2 => w2.heap = wb.heap ∧ Below q w w2) mixedOrders (by kernel_rfl) ⟨rfl, hbb.drew⟩ ?_
  refine wpQuiet_take (by rfl) (fun K hK => ⟨.pointer (some ⟨q, 0, none⟩), fun w2 hw2 => ?_, hK _ ?_⟩)
  · clear hw2; go_simp
  clear hK K
  simp only [Act.put, List.setIfInBounds_toArray, List.set_cons_succ, List.set_cons_zero]
  refine wpQuiet_take (by rfl) (fun K hK => ⟨.int .u32 (n32 (v.get 0)), fun w2 hw2 => ?_, hK _ ?_⟩)
  · have hc := KV0 w2 hw2
    clear hw2; go_simp
  clear hK K
  simp only [Act.put, List.setIfInBounds_toArray, List.set_cons_succ, List.set_cons_zero]
  refine wpQuiet_take (by rfl) (fun K hK => ⟨.pointer (some ⟨q, 1, none⟩), fun w2 hw2 => ?_, hK _ ?_⟩)
  · clear hw2; go_simp
  clear hK K
  simp only [Act.put, List.setIfInBounds_toArray, List.set_cons_succ, List.set_cons_zero]
  refine wpQuiet_take (by rfl) (fun K hK => ⟨.int .u32 (n32 (v.get 1)), fun w2 hw2 => ?_, hK _ ?_⟩)
  · have hc := KV1 w2 hw2
    clear hw2; go_simp
  clear hK K
  simp only [Act.put, List.setIfInBounds_toArray, List.set_cons_succ, List.set_cons_zero]
  refine wpQuiet_take (by rfl) (fun K hK => ⟨.pointer (some ⟨q, 2, none⟩), fun w2 hw2 => ?_, hK _ ?_⟩)
  · clear hw2; go_simp
  clear hK K
  simp only [Act.put, List.setIfInBounds_toArray, List.set_cons_succ, List.set_cons_zero]
  refine wpQuiet_take (by rfl) (fun K hK => ⟨.int .u32 (n32 (v.get 2)), fun w2 hw2 => ?_, hK _ ?_⟩)
  · have hc := KV2 w2 hw2
    clear hw2; go_simp
  clear hK K
  simp only [Act.put, List.setIfInBounds_toArray, List.set_cons_succ, List.set_cons_zero]
  refine wpQuiet_take (by rfl) (fun K hK => ⟨.pointer (some ⟨q, 3, none⟩), fun w2 hw2 => ?_, hK _ ?_⟩)
  · clear hw2; go_simp
  clear hK K
  simp only [Act.put, List.setIfInBounds_toArray, List.set_cons_succ, List.set_cons_zero]
  refine wpQuiet_take (by rfl) (fun K hK => ⟨.int .u32 (n32 (v.get 3)), fun w2 hw2 => ?_, hK _ ?_⟩)
  · have hc := KV3 w2 hw2
    clear hw2; go_simp
  clear hK K
  simp only [Act.put, List.setIfInBounds_toArray, List.set_cons_succ, List.set_cons_zero]
  refine wpQuiet_take (by rfl) (fun K hK => ⟨.pointer (some ⟨q, 4, none⟩), fun w2 hw2 => ?_, hK _ ?_⟩)
  · clear hw2; go_simp
  clear hK K
  simp only [Act.put, List.setIfInBounds_toArray, List.set_cons_succ, List.set_cons_zero]
  refine wpQuiet_take (by rfl) (fun K hK => ⟨.int .u32 (n32 (v.get 4)), fun w2 hw2 => ?_, hK _ ?_⟩)
  · have hc := KV4 w2 hw2
    clear hw2; go_simp
  clear hK K
  simp only [Act.put, List.setIfInBounds_toArray, List.set_cons_succ, List.set_cons_zero]
  refine wpQuiet_take (by rfl) (fun K hK => ⟨.pointer (some ⟨q, 5, none⟩), fun w2 hw2 => ?_, hK _ ?_⟩)
  · clear hw2; go_simp
  clear hK K
  simp only [Act.put, List.setIfInBounds_toArray, List.set_cons_succ, List.set_cons_zero]
  refine wpQuiet_take (by rfl) (fun K hK => ⟨.int .u32 (n32 (v.get 5)), fun w2 hw2 => ?_, hK _ ?_⟩)
  · have hc := KV5 w2 hw2
    clear hw2; go_simp
  clear hK K
  simp only [Act.put, List.setIfInBounds_toArray, List.set_cons_succ, List.set_cons_zero]
  refine wpQuiet_take (by rfl) (fun K hK => ⟨.pointer (some ⟨q, 6, none⟩), fun w2 hw2 => ?_, hK _ ?_⟩)
  · clear hw2; go_simp
  clear hK K
  simp only [Act.put, List.setIfInBounds_toArray, List.set_cons_succ, List.set_cons_zero]
  refine wpQuiet_take (by rfl) (fun K hK => ⟨.int .u32 (n32 (v.get 6)), fun w2 hw2 => ?_, hK _ ?_⟩)
  · have hc := KV6 w2 hw2
    clear hw2; go_simp
  clear hK K
  simp only [Act.put, List.setIfInBounds_toArray, List.set_cons_succ, List.set_cons_zero]
  refine wpQuiet_take (by rfl) (fun K hK => ⟨.pointer (some ⟨q, 7, none⟩), fun w2 hw2 => ?_, hK _ ?_⟩)
  · clear hw2; go_simp
  clear hK K
  simp only [Act.put, List.setIfInBounds_toArray, List.set_cons_succ, List.set_cons_zero]
  refine wpQuiet_take (by rfl) (fun K hK => ⟨.int .u32 (n32 (v.get 7)), fun w2 hw2 => ?_, hK _ ?_⟩)
  · have hc := KV7 w2 hw2
    clear hw2; go_simp
  clear hK K
  simp only [Act.put, List.setIfInBounds_toArray, List.set_cons_succ, List.set_cons_zero]
  refine wpQuiet_take (by rfl) (fun K hK => ⟨.int .u32 (n32 (v.get 0)), fun w2 hw2 => ?_, hK _ ?_⟩)
  · clear hw2; go_simp
  clear hK K
  simp only [Act.put, List.setIfInBounds_toArray, List.set_cons_succ, List.set_cons_zero]
  refine wpQuiet_take (by rfl) (fun K hK => ⟨.int .u32 (n32 (v.get 1)), fun w2 hw2 => ?_, hK _ ?_⟩)
  · clear hw2; go_simp
  clear hK K
  simp only [Act.put, List.setIfInBounds_toArray, List.set_cons_succ, List.set_cons_zero]
  refine wpQuiet_take (by rfl) (fun K hK => ⟨.int .u32 (n32 (v.get 2)), fun w2 hw2 => ?_, hK _ ?_⟩)
  · clear hw2; go_simp
  clear hK K
  simp only [Act.put, List.setIfInBounds_toArray, List.set_cons_succ, List.set_cons_zero]
  refine wpQuiet_take (by rfl) (fun K hK => ⟨.int .u32 (n32 (v.get 3)), fun w2 hw2 => ?_, hK _ ?_⟩)
  · clear hw2; go_simp
  clear hK K
  simp only [Act.put, List.setIfInBounds_toArray, List.set_cons_succ, List.set_cons_zero]
  refine wpQuiet_take (by rfl) (fun K hK => ⟨.int .u32 (n32 (v.get 4)), fun w2 hw2 => ?_, hK _ ?_⟩)
  · clear hw2; go_simp
  clear hK K
  simp only [Act.put, List.setIfInBounds_toArray, List.set_cons_succ, List.set_cons_zero]
  refine wpQuiet_take (by rfl) (fun K hK => ⟨.int .u32 (n32 (v.get 5)), fun w2 hw2 => ?_, hK _ ?_⟩)
  · clear hw2; go_simp
  clear hK K
  simp only [Act.put, List.setIfInBounds_toArray, List.set_cons_succ, List.set_cons_zero]
  refine wpQuiet_take (by rfl) (fun K hK => ⟨.int .u32 (n32 (v.get 6)), fun w2 hw2 => ?_, hK _ ?_⟩)
  · clear hw2; go_simp
  clear hK K
  simp only [Act.put, List.setIfInBounds_toArray, List.set_cons_succ, List.set_cons_zero]
  refine wpQuiet_take0 ?_
  intro w2 hw2
  have S5' := Lib.hid (show w2.heap[s5]? = some (.cells (wordsA (schedW f) 64) 154 (0, 0)) by rw [hw2.1]; exact S5)
  have R0' := Lib.hid (show w2.heap[q]? = some (.cells (wordsA v.get 8) 143 (0, 0)) by rw [hw2.1]; exact R0)
  have R2' := Lib.hid (show w2.heap[r]? = some (.cells (wordsA (fun _ => 0#32) 8) 143 (0, 0)) by rw [hw2.1]; exact R2)
  have B2 := Lib.hid hw2.2
  clear hw2 S5 R0 R2 hbb KV0 KV1 KV2 KV3 KV4 KV5 KV6 KV7 wb
  go_upto_region 4 with (refine wpList_load_row rfl 154 _ rfl s5 rfl _ _ (0, 0) _ S5'.out Tryd.underlying154 rfl (by rw [wordsA_size]; kernel_rfl) ?_)
  go_loopw [6, 7, 8, 9, 10, 11, 12, 13, 40] (fun s6 s7 s8 s9 s10 s11 s12 s13 s40 wr => ∃ (i : Nat) (V : W8), i ≤ 64 ∧ Hid (W8.steps kW (schedW f) v i = V) ∧ s40 = .int .i64 (i : Int) ∧ s6 = .int .u32 (n32 V.a) ∧ s7 = .int .u32 (n32 V.b) ∧ s8 = .int .u32 (n32 V.c) ∧ s9 = .int .u32 (n32 V.d) ∧ s10 = .int .u32 (n32 V.e) ∧ s11 = .int .u32 (n32 V.f) ∧ s12 = .int .u32 (n32 V.g) ∧ s13 = .int .u32 (n32 V.h) ∧ wr.heap = w2.heap ∧ Below q w wr) (fun _ _ _ _ _ _ _ _ s40 _ => 64 - (intOf s40).toNat)
  case atStart => exact ⟨0, v, by omega, Lib.hid rfl, rfl, rfl, rfl, rfl, rfl, rfl, rfl, rfl, rfl, rfl, B2.out⟩
  case round =>
    obtain ⟨i, V, hi, HV, rfl, rfl, rfl, rfl, rfl, rfl, rfl, rfl, rfl, hh, bel⟩ := hrel
    have TW := T.later (by rw [HQ.out]; exact bel)
    have HH := Lib.hid hh
    have BEL := Lib.hid bel
    clear hh bel
    by_cases hlt : i < 64
    · have hlI : (i : Int) < 64 := by omega
      have kc := TW.cell i hlt
      have hix := index_words (schedW f) i hlt
      clear TW
      go_upto_region 6 with (fail)
      clear hix
      go_wp2_with fail
      with_reducible refine (rotl6 _ _).mono ?_
      rintro e w3 ⟨rfl, rfl⟩
      go_wp2_with fail
      with_reducible refine (rotl11 _ _).mono ?_
      rintro e w3 ⟨rfl, rfl⟩
      go_wp2_with fail
      with_reducible refine (rotl25 _ _).mono ?_
      rintro e w3 ⟨rfl, rfl⟩
      go_upto_region 8 with (fail)
      clear kc
      go_wp2_with fail
      with_reducible refine (rotl2 _ _).mono ?_
      rintro e w3 ⟨rfl, rfl⟩
      go_wp2_with fail
      with_reducible refine (rotl13 _ _).mono ?_
      rintro e w3 ⟨rfl, rfl⟩
      go_wp2_with fail
      with_reducible refine (rotl22 _ _).mono ?_
      rintro e w3 ⟨rfl, rfl⟩
      go_wp2_with fail
      go_roundw
      case rel =>
        refine ⟨i + 1, V.step (kW i) (schedW f i), by omega, Lib.hid (by show (W8.steps kW (schedW f) v i).step _ _ = _; rw [HV.out]), by go_num, rfl, rfl, rfl, rfl, rfl, rfl, rfl, rfl, HH.out, BEL.out⟩
      case measure => (simp [intOf] <;> omega)
    · obtain rfl : i = 64 := by omega
      clear hlt hi TW
      have k0 : wr.heap[q]? = some (.cells (wordsA v.get 8) 143 (0, 0)) := by rw [HH.out]; exact R0'.out
      have k2 : wr.heap[r]? = some (.cells (wordsA (fun _ => 0#32) 8) 143 (0, 0)) := by rw [HH.out]; exact R2'.out
      have G0 := Lib.hid k0; have G2 := Lib.hid k2
      clear k0 k2
      go_upto_region 13 with (fail)
      have e8 : (#[.int .u32 (n32 V.a), .int .u32 (n32 V.b), .int .u32 (n32 V.c), .int .u32 (n32 V.d), .int .u32 (n32 V.e), .int .u32 (n32 V.f), .int .u32 (n32 V.g), .int .u32 (n32 V.h)] : Array Value) = wordsA V.get 8 := rfl
      simp only [e8]
      clear e8
      go_loopw [113] (fun s wr => ∃ i : Nat, i ≤ 8 ∧ s = .int .i64 (i : Int) ∧ wr.heap[q]? = some (.cells (wordsA (fun j => if j < i then v.get j + V.get j else v.get j) 8) 143 (0, 0)) ∧ wr.heap[r]? = some (.cells (wordsA (fun _ => 0#32) 8) 143 (0, 0)) ∧ Below q w wr) (fun s _ => 8 - (intOf s).toNat)
      case atStart => exact ⟨0, by omega, rfl, by rw [wordsA_congr (h := v.get) (fun j _ => by rw [if_neg (by omega)])]; exact G0.out, G2.out, BEL.out⟩
      case round =>
        clear G0 G2 BEL HH R0' R2' S5' B2
        obtain ⟨i, hi, rfl, k0, k2, bel⟩ := hrel
        have G0 := Lib.hid k0; have G2 := Lib.hid k2; have BEL := Lib.hid bel
        clear k0 k2 bel
        by_cases hlt : i < 8
        · have hlI : (i : Int) < 8 := by omega
          have hix := index_eight V.get i hlt
          have kc : wr.cell? ⟨q, i, none⟩ = some (.int .u32 (n32 (v.get i))) := by
            rw [cell_of_row _ _ _ _ _ _ G0.out, wordsA_get _ hlt, if_neg (by omega)]
          have fz : wr.frozen? ⟨q, i, none⟩ = false := frozen_of_row _ _ _ _ _ G0.out
          have QS := Lib.hid (rowSet_cell wr q i 143 _ (.int .u32 (n32 (v.get i + V.get i))) G0.out)
          go_wp2_with fail
          go_roundw
          case rel =>
            refine ⟨i + 1, by omega, by go_num, ?_, (QS.out.other r (by omega)).trans G2.out, BEL.out.trans (QS.out.below _ (by omega))⟩
            have h := QS.out.row
            rw [wordsA_set, wordsA_congr (h := fun j => if j < i + 1 then v.get j + V.get j else v.get j) (fun j _ => by
              by_cases e : j = i
              · subst e; rw [if_pos rfl, if_pos (by omega)]
              · rw [if_neg e]
                by_cases e2 : j < i
                · rw [if_pos e2, if_pos (by omega)]
                · rw [if_neg e2, if_neg (by omega)])] at h
            exact h
          case measure => (simp [intOf] <;> omega)
        · obtain rfl : i = 8 := by omega
          have e9 : wordsA (fun j => if j < 8 then v.get j + V.get j else v.get j) 8 = wordsA (v.turn kW f).get 8 := by
            have e10 : v.turn kW f = v.add V := by unfold W8.turn; rw [HV.out]
            rw [e10]
            exact wordsA_congr (fun j hj => by rw [if_pos hj]; rcases (by omega : j = 0 ∨ j = 1 ∨ j = 2 ∨ j = 3 ∨ j = 4 ∨ j = 5 ∨ j = 6 ∨ j = 7) with rfl | rfl | rfl | rfl | rfl | rfl | rfl | rfl <;> rfl)
          rw [e9] at G0
          clear e9
          go_wp2_with (first
            | (refine wpList_load_row rfl 143 _ rfl q rfl _ _ (0, 0) _ G0.out Tryd.underlying143 rfl (by rw [wordsA_size]; kernel_rfl) ?_)
            | (refine wpList_store_row rfl 143 _ _ rfl r _ _ (wordsA (v.turn kW f).get 8) rfl rfl G2.out (by rw [wordsA_size, wordsA_size]) (by rw [wordsA_size]; kernel_rfl) (wordsA_one _ _) ?_; intro w4 s4))
          exact ret_row r _ 143 (wordsA (v.turn kW f).get 8) rfl _ rfl s4.row Tryd.underlying143 rfl (by rw [wordsA_size]; kernel_rfl) rfl ⟨rfl, by rw [HQ.out]; exact BEL.out.trans (s4.below _ (by omega))⟩
end Go.Proofs.YtjbpjoondmcnlabDoor
/-
  sha: the start, a state's bytes, the length's bytes.
-/
namespace Go.Proofs.YtjbpjoondmcnlabDoor
open Go Go.RowKit Go.BigFrame
set_option linter.unusedSimpArgs false
set_option linter.unusedVariables false
/-- The state ahead of any block. -/
def startW : W8 := ⟨1779033703#32, 3144134277#32, 1013904242#32, 2773480762#32, 1359893119#32, 2600822924#32, 528734635#32, 1541459225#32⟩
theorem bytesA_congr {f g : Nat → BitVec 8} {n : Nat} (e : ∀ i, i < n → f i = g i) : bytesA f n = bytesA g n := by
  unfold bytesA
  congr 1
  exact List.map_congr_left (fun i hi => by rw [e i (List.mem_range.1 hi)])
theorem bytesA_set (g : Nat → BitVec 8) (n j : Nat) (x : BitVec 8) : (bytesA g n).setIfInBounds j (.int .u8 (n8 x)) = bytesA (fun i => if i = j then x else g i) n := by
  apply Array.ext_getElem?
  intro i
  rw [Array.getElem?_setIfInBounds]
  by_cases hij : j = i
  · subst hij
    rw [if_pos rfl, bytesA_size]
    by_cases hj : j < n
    · rw [if_pos hj, bytesA_get _ hj, if_pos rfl]
    · rw [if_neg hj, Array.getElem?_eq_none (by rw [bytesA_size]; omega)]
  · rw [if_neg hij]
    by_cases hi : i < n
    · rw [bytesA_get _ hi, bytesA_get _ hi, if_neg (fun e => hij e.symm)]
    · rw [Array.getElem?_eq_none (by rw [bytesA_size]; omega), Array.getElem?_eq_none (by rw [bytesA_size]; omega)]
theorem bytesA_one (g : Nat → BitVec 8) (n : Nat) : (bytesA g n).all (·.oneCell') = true := by
  rw [Array.all_eq_true_iff_forall_mem]
  intro v hv
  simp only [bytesA, List.mem_toArray, List.mem_map] at hv
  obtain ⟨i, _, rfl⟩ := hv
  rfl
theorem replicate_bytes (n : Nat) : (Array.replicate n (.int .u8 0) : Array Value) = bytesA (fun _ => 0#8) n := by
  have z : n8 0#8 = 0 := by unfold n8; rfl
  apply Array.ext_getElem?
  intro i
  by_cases hi : i < n
  · rw [bytesA_get _ hi, z]; simp [hi]
  · rw [Array.getElem?_eq_none (by simp; omega), Array.getElem?_eq_none (by rw [bytesA_size]; omega)]
theorem startW_cells : wordsA startW.get 8 = #[.int .u32 1779033703, .int .u32 3144134277, .int .u32 1013904242, .int .u32 2773480762, .int .u32 1359893119, .int .u32 2600822924, .int .u32 528734635, .int .u32 1541459225] := by
  have e : ∀ k : Nat, n32 (BitVec.ofNat 32 k) = ((k % 4294967296 : Nat) : Int) := fun k => by unfold n32; rw [BitVec.toNat_ofNat]
  show (#[.int .u32 (n32 1779033703#32), .int .u32 (n32 3144134277#32), .int .u32 (n32 1013904242#32), .int .u32 (n32 2773480762#32), .int .u32 (n32 1359893119#32), .int .u32 (n32 2600822924#32), .int .u32 (n32 528734635#32), .int .u32 (n32 1541459225#32)] : Array Value) = _
  simp only [e]
  rfl
set_option maxRecDepth 100000 in
theorem start_any (w : World) : Calls Tryd.prog 92 #[] w fun e w' => e = .returned (.agg (wordsA startW.get 8)) ∧ Below w.heap.size w w' := by
  go_enter Tryd.func92, Tryd.ntmps92
  go_wp2_with fail
  refine ret_row w.heap.size 143 143 (wordsA startW.get 8) rfl _ rfl ?_ Tryd.underlying143 rfl (by rw [wordsA_size]; kernel_rfl) rfl ⟨rfl, ?_⟩
  · rw [startW_cells]
    exact heap_alloc_last _ _
  · exact (Below.refl _ _).alloc (Nat.le_refl _) _
theorem shr_byte32 (x : BitVec 32) (k : Nat) : n32 x / 2 ^ k % 256 = n8 ((x >>> k).setWidth 8) := by
  unfold n32 n8
  rw [BitVec.toNat_setWidth, BitVec.toNat_ushiftRight, Nat.shiftRight_eq_div_pow]
  simp
theorem shr_byte64 (x : BitVec 64) (k : Nat) : n64 x / 2 ^ k % 256 = n8 ((x >>> k).setWidth 8) := by
  unfold n64 n8
  rw [BitVec.toNat_setWidth, BitVec.toNat_ushiftRight, Nat.shiftRight_eq_div_pow]
  simp
/-- A state's bytes. -/
def stateB (v : W8) (i : Nat) : BitVec 8 := (v.get (i / 4) >>> (24 - 8 * (i % 4))).setWidth 8
theorem sumB_state (k : Nat → BitVec 32) (v : W8) (f : Nat → BitVec 8) (n : Nat) : sumB k v f n = stateB (W8.blocks k v (padded f n) ((n + 8) / 64 + 1)) := rfl
set_option maxHeartbeats 4000000 in
set_option maxRecDepth 100000 in
theorem sumOf_any (v : W8) (w : World) : Calls Tryd.prog 95 #[.agg (wordsA v.get 8)] w fun e w' => e = .returned (.agg (bytesA (stateB v) 32)) ∧ Below w.heap.size w w' := by
  go_enter Tryd.func95, Tryd.ntmps95
  have hz : (Tryd.prog.info? 103).map (·.zero) = some (some (.agg (Array.replicate 32 (.int .u8 0)))) := by kernel_rfl
  go_upto_region 2 with (refine wpList_alloc_row rfl 103 rfl _ hz ?_)
  obtain ⟨wa, hwa⟩ : ∃ wa, ((w.alloc (.cells (wordsA v.get 8) 143)).alloc (.cells (Array.replicate 32 (.int .u8 0)) 103)).alloc (.cells (Array.replicate 32 (.int .u8 0)) 103) = wa := ⟨_, rfl⟩
  have R0 := rows_alloc w [.cells (wordsA v.get 8) 143, .cells (Array.replicate 32 (.int .u8 0)) 103, .cells (Array.replicate 32 (.int .u8 0)) 103] 0
  have R1 := rows_alloc w [.cells (wordsA v.get 8) 143, .cells (Array.replicate 32 (.int .u8 0)) 103, .cells (Array.replicate 32 (.int .u8 0)) 103] 1
  have R2 := rows_alloc w [.cells (wordsA v.get 8) 143, .cells (Array.replicate 32 (.int .u8 0)) 103, .cells (Array.replicate 32 (.int .u8 0)) 103] 2
  have hb : Below w.heap.size w wa := by
    rw [← hwa]
    repeat (first | exact Below.refl _ _ | refine Below.alloc ?_ (by simp; try omega) _)
  simp only [List.foldl] at R0 R1 R2
  rw [hwa] at R0 R1 R2
  simp only [Act.put, List.setIfInBounds_toArray, List.set_cons_succ, List.set_cons_zero, alloc_size, hwa]
  clear hwa
  have K0 : wa.heap[w.heap.size]? = some (.cells (wordsA v.get 8) 143 (0, 0)) := R0
  have K1 : wa.heap[w.heap.size + 1]? = some (.cells (bytesA (fun _ => 0#8) 32) 103 (0, 0)) := by rw [← replicate_bytes]; exact R1
  have K2 : wa.heap[w.heap.size + 1 + 1]? = some (.cells (bytesA (fun _ => 0#8) 32) 103 (0, 0)) := by rw [← replicate_bytes]; exact R2
  clear R0 R1 R2
  obtain ⟨q, hq⟩ : ∃ q, w.heap.size = q := ⟨_, rfl⟩
  obtain ⟨m, hm⟩ : ∃ m, q + 1 = m := ⟨_, rfl⟩
  obtain ⟨r, hr⟩ : ∃ r, m + 1 = r := ⟨_, rfl⟩
  rw [hq] at K0 K1 K2 hb
  rw [hm] at K1 K2
  rw [hr] at K2
  simp only [hq, hm, hr]
  have hqr : q < m ∧ m < r := ⟨by omega, by omega⟩
  have HQ := Lib.hid hq
  clear hq hm hr
  have hb0 := Lib.hid hb
  clear hb
  go_wp2_with fail
  go_loopw [5] (fun s wr => ∃ i : Nat, i ≤ 32 ∧ s = .int .i64 (i : Int) ∧ wr.heap[q]? = some (.cells (wordsA v.get 8) 143 (0, 0)) ∧ wr.heap[r]? = some (.cells (bytesA (fun j => if j < i then stateB v j else 0#8) 32) 103 (0, 0)) ∧ wr.heap[m]? = some (.cells (bytesA (fun _ => 0#8) 32) 103 (0, 0)) ∧ Below q w wr) (fun s _ => 32 - (intOf s).toNat)
  case atStart => exact ⟨0, by omega, rfl, K0, by rw [bytesA_congr (g := fun _ => 0#8) (fun j _ => by rw [if_neg (by omega)])]; exact K2, K1, hb0.out⟩
  case round =>
    clear K0 K1 K2 hb0 wa
    obtain ⟨i, hi, rfl, k0, k2, k1, bel⟩ := hrel
    have BEL := Lib.hid bel
    have H0 := Lib.hid k0; have H1 := Lib.hid k1; have H2 := Lib.hid k2
    clear bel k0 k1 k2
    by_cases hlt : i < 32
    · have hlI : (i : Int) < 32 := by omega
      have hd : Int.tdiv (i : Int) 4 = ((i / 4 : Nat) : Int) := rfl
      have hm8 : Int.tmod (i : Int) 4 = ((i % 4 : Nat) : Int) := rfl
      have hs0 : 0 ≤ 24 - 8 * ((i : Int) % 4) := by omega
      have hs1 : (24 - 8 * ((i : Int) % 4)).toNat = 24 - 8 * (i % 4) := by omega
      have hsb := shr_byte32 (v.get (i / 4)) (24 - 8 * (i % 4))
      have kc : wr.cell? ⟨q, i / 4, none⟩ = some (.int .u32 (n32 (v.get (i / 4)))) := by rw [cell_of_row _ _ _ _ _ _ H0.out]; exact wordsA_get _ (by omega)
      have kr : wr.cell? ⟨r, i, none⟩ = some (.int .u8 (n8 0#8)) := by rw [cell_of_row _ _ _ _ _ _ H2.out, bytesA_get _ hlt, if_neg (by omega)]
      have fz : wr.frozen? ⟨r, i, none⟩ = false := frozen_of_row _ _ _ _ _ H2.out
      have QS := Lib.hid (rowSet_cell wr r i 103 _ (.int .u8 (n8 ((v.get (i / 4) >>> (24 - 8 * (i % 4))).setWidth 8))) H2.out)
      go_upto_region 5 with (fail)
      go_wp2_with fail
      go_roundw
      case rel =>
        refine ⟨i + 1, by omega, by go_num, (QS.out.other q (by omega)).trans H0.out, ?_, (QS.out.other m (by omega)).trans H1.out, BEL.out.trans (QS.out.below _ (by omega))⟩
        have h := QS.out.row
        rw [bytesA_set, bytesA_congr (g := fun j => if j < i + 1 then stateB v j else 0#8) (fun j _ => by
          by_cases e : j = i
          · subst e; rw [if_pos rfl, if_pos (by omega)]; rfl
          · rw [if_neg e]
            by_cases e2 : j < i
            · rw [if_pos e2, if_pos (by omega)]
            · rw [if_neg e2, if_neg (by omega)])] at h
        exact h
      case measure => (simp [intOf] <;> omega)
    · obtain rfl : i = 32 := by omega
      clear hlt hi
      have e9 : bytesA (fun j => if j < 32 then stateB v j else 0#8) 32 = bytesA (stateB v) 32 := bytesA_congr (fun j hj => by rw [if_pos hj])
      rw [e9] at H2
      clear e9
      go_wp2_with (first
        | (refine wpList_load_row rfl 103 _ rfl r rfl _ _ (0, 0) _ H2.out Tryd.underlying103 rfl (by rw [bytesA_size]; kernel_rfl) ?_)
        | (refine wpList_store_row rfl 103 _ _ rfl m _ _ (bytesA (stateB v) 32) rfl rfl H1.out (by rw [bytesA_size, bytesA_size]) (by rw [bytesA_size]; kernel_rfl) (bytesA_one _ _) ?_; intro w4 s4))
      exact ret_row m _ 103 (bytesA (stateB v) 32) rfl _ rfl s4.row Tryd.underlying103 rfl (by rw [bytesA_size]; kernel_rfl) rfl ⟨rfl, by rw [HQ.out]; exact BEL.out.trans (s4.below _ (by omega))⟩
/-- A count's eight bytes, the highest first. -/
def lengthB (x : BitVec 64) (i : Nat) : BitVec 8 := (x >>> (56 - 8 * i)).setWidth 8
set_option maxHeartbeats 4000000 in
set_option maxRecDepth 100000 in
theorem putLength_any (x : BitVec 64) (c : Nat → BitVec 8) (M g o l cp : Nat) (T : TypeId) (hl : 8 ≤ l) (hM : o + l ≤ M) (w : World) (hg : w.heap[g]? = some (.cells (bytesA c M) T (0, 0))) :
    Calls Tryd.prog 94 #[.slice (some ⟨g, o, none⟩) l cp, .int .u64 (n64 x)] w fun e w' => e = .returned (.tuple #[]) ∧ RowSet w g T (bytesA (fun j => if o ≤ j ∧ j < o + 8 then lengthB x (j - o) else c j) M) w' := by
  have HG := Lib.hid hg
  have HM := Lib.hid hM
  clear hg hM
  go_enter Tryd.func94, Tryd.ntmps94
  go_wp2_with fail
  go_loopw [5] (fun s wr => ∃ i : Nat, i ≤ 8 ∧ s = .int .i64 (i : Int) ∧ RowSet w g T (bytesA (fun j => if o ≤ j ∧ j < o + i then lengthB x (j - o) else c j) M) wr) (fun s _ => 8 - (intOf s).toNat)
  case atStart => exact ⟨0, by omega, rfl, by rw [bytesA_congr (g := c) (fun j _ => by rw [if_neg (by omega)])]; exact ⟨HG.out, fun _ _ => rfl, rfl, fun _ _ => Below.refl _ _⟩⟩
  case round =>
    obtain ⟨i, hi, rfl, rs⟩ := hrel
    have RS := Lib.hid rs
    clear rs
    by_cases hlt : i < 8
    · have hlI : (i : Int) < 8 := by omega
      have hlI2 : (i : Int) < (l : Int) := by omega
      have hs0 : 0 ≤ 56 - 8 * (i : Int) := by omega
      have hs1 : (56 - 8 * (i : Int)).toNat = 56 - 8 * i := by omega
      have hsb := shr_byte64 x (56 - 8 * i)
      have hoM : o + i < M := by have := HM.out; omega
      have kr : wr.cell? ⟨g, o + i, none⟩ = some (.int .u8 (n8 (c (o + i)))) := by rw [cell_of_row _ _ _ _ _ _ RS.out.row, bytesA_get _ hoM, if_neg (by omega)]
      have fz : wr.frozen? ⟨g, o + i, none⟩ = false := frozen_of_row _ _ _ _ _ RS.out.row
      have QS := Lib.hid (rowSet_cell wr g (o + i) T _ (.int .u8 (n8 ((x >>> (56 - 8 * i)).setWidth 8))) RS.out.row)
      go_upto_region 3 with (fail)
      go_wp2_with fail
      go_roundw
      case rel =>
        refine ⟨i + 1, by omega, by go_num, ?_, fun k hk => (QS.out.other k hk).trans (RS.out.other k hk), QS.out.size.trans RS.out.size, fun b hb => (RS.out.below b hb).trans (QS.out.below b hb)⟩
        have h := QS.out.row
        rw [bytesA_set, bytesA_congr (g := fun j => if o ≤ j ∧ j < o + (i + 1) then lengthB x (j - o) else c j) (fun j _ => by
          by_cases e : j = o + i
          · subst e; rw [if_pos rfl, if_pos (by omega), Nat.add_sub_cancel_left]; rfl
          · rw [if_neg e]
            by_cases e2 : o ≤ j ∧ j < o + i
            · rw [if_pos e2, if_pos (by omega)]
            · rw [if_neg e2, if_neg (by omega)])] at h
        exact h
      case measure => (simp [intOf] <;> omega)
    · obtain rfl : i = 8 := by omega
      clear hlt hi
      go_wp2_with fail
      go_end0
      exact ⟨rfl, RS.out⟩
end Go.Proofs.YtjbpjoondmcnlabDoor
/-
  BYTES THAT CAME IN: what the row's reading of a []byte says, in the walk's words.
-/
namespace Go.Proofs.YtjbpjoondmcnlabDoor
open Go Go.RowKit Go.ChangeShapes Go.WideShapes
/-- A []byte of n elements, f i the i-th. -/
def BytesIn (w : World) (a : Option Addr) (n : Nat) (f : Nat → BitVec 8) : Prop :=
  n ≤ maxLen ∧ (n = 0 ∨ ∃ b off, a = some ⟨b, off, none⟩ ∧ b < w.heap.size ∧ ∀ i, i < n → w.cell? ⟨b, off + i, none⟩ = some (.int .u8 (n8 (f i))))
theorem n8_of_wf (n : Int) (h : (Lit.int .u8 n).wf = true) : n = n8 (BitVec.ofInt 8 n) := by
  have hx : 0 ≤ n ∧ n ≤ 255 := by simpa [Lit.wf, IntKind.min, IntKind.max, IntKind.signed, IntKind.bits] using h
  rw [← wrap_n8, IntKind.wrap_u8]
  omega
theorem row_in (w : World) (a : Option Addr) (len cap : Nat) (zs : List Int)
    (h : (a = none ∧ len = 0 ∧ cap = 0 ∧ zs = []) ∨ ∃ x, a = some x ∧ len ≤ cap ∧ cap ≤ maxLen ∧ zs.length = cap ∧ (∀ i, i < zs.length → w.cell? (x.add i) = some (.int .u8 (zs.getD i 0))) ∧ ∀ n ∈ zs, (Lit.int .u8 n).wf = true) :
    ∃ f : Nat → BitVec 8, BytesIn w a len f := by
  rcases h with ⟨rfl, rfl, rfl, rfl⟩ | ⟨x, rfl, hl, hm, hz, hc, hw⟩
  · exact ⟨fun _ => 0#8, Nat.zero_le _, .inl rfl⟩
  · refine ⟨fun i => BitVec.ofInt 8 (zs.getD i 0), Nat.le_trans hl hm, ?_⟩
    by_cases h0 : len = 0
    · exact .inl h0
    · obtain ⟨b, off, rfl, hcell⟩ := ints_at hc (by omega)
      refine .inr ⟨b, off, rfl, ?_, fun i hi => ?_⟩
      · have := hcell 0 (by omega)
        exact World.block_lt_of_cell? w _ this
      · rw [hcell i (by omega), ← n8_of_wf _ (hw _ ?_)]
        rw [List.getD_eq_getElem?_getD, List.getElem?_eq_getElem (by omega)]
        exact List.getElem_mem _
end Go.Proofs.YtjbpjoondmcnlabDoor
