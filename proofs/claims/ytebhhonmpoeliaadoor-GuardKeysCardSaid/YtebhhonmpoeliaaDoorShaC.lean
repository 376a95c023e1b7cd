/-
  sha's turn: the state behind one block more.
-/
import Derived.Test.YtebhhonmpoeliaaDoorShaB
namespace Go.Proofs.YtebhhonmpoeliaaDoor
open Go Go.RowKit Go.BigFrame
set_option linter.unusedSimpArgs false
set_option linter.unusedVariables false
theorem not_n32 (x : BitVec 32) : bits BinOp.xor IntKind.u32 IntKind.u32.max (n32 x) = n32 (~~~x) := by
  show IntKind.wrap .u32 _ = _
  rw [show BitVec.ofInt (IntKind.bits .u32) (n32 x) = x from ofInt_n32 x, show BitVec.ofInt (IntKind.bits .u32) IntKind.u32.max = BitVec.allOnes 32 from rfl, wrap_n32]
  have e : BitVec.ofInt 32 (((BitVec.allOnes 32 ^^^ x).toNat : Nat) : Int) = ~~~x := by
    rw [BitVec.ofInt_natCast, BitVec.ofNat_toNat, BitVec.setWidth_eq]
    exact BitVec.allOnes_xor
  exact congrArg n32 e
theorem unary_xor (x : BitVec 32) : Op.unary UnOp.xor (.int .u32 (n32 x)) = pure (.int .u32 (n32 (~~~x))) := by
  have h : Op.unary UnOp.xor (.int .u32 (n32 x)) = pure (.int .u32 (bits BinOp.xor IntKind.u32 IntKind.u32.max (n32 x))) := rfl
  rw [h, not_n32]
attribute [go_sem high] unary_xor
theorem index_words (g : Nat → BitVec 32) (i : Nat) (h : i < 64) (w : World) : (Instr.index 71 (.agg (wordsA g 64)) (.int .i64 (i : Int))).run Tryd.prog w = .ok (.int .u32 (n32 (g i))) w := by
  have hr := run_index_arr (P := Tryd.prog) 71 56 64 (wordsA g 64) .i64 .u32 (i : Int) w (by kernel_rfl) (by kernel_rfl) (by kernel_rfl) (by omega) (by omega) (wordsA_size g 64)
  rw [hr, Int.toNat_natCast, wordsA_get g h]
  rfl
theorem index_eight (g : Nat → BitVec 32) (i : Nat) (h : i < 8) (w : World) : (Instr.index 57 (.agg (wordsA g 8)) (.int .i64 (i : Int))).run Tryd.prog w = .ok (.int .u32 (n32 (g i))) w := by
  have hr := run_index_arr (P := Tryd.prog) 57 56 8 (wordsA g 8) .i64 .u32 (i : Int) w (by kernel_rfl) (by kernel_rfl) (by kernel_rfl) (by omega) (by omega) (wordsA_size g 8)
  rw [hr, Int.toNat_natCast, wordsA_get g h]
  rfl
set_option maxHeartbeats 8000000 in
set_option maxRecDepth 100000 in
theorem turn_any (v : W8) (f : Nat → BitVec 8) (w : World) (T : TabK w) : Calls Tryd.prog 32 #[.agg (wordsA v.get 8), .agg (bytesA f 64)] w fun e w' => e = .returned (.agg (wordsA (v.turn kW f).get 8)) ∧ Below w.heap.size w w' := by
  go_enter Tryd.func32, Tryd.ntmps32
  have hz : (Tryd.prog.info? 71).map (·.zero) = some (some (.agg (Array.replicate 64 (.int .u32 0)))) := by kernel_rfl
  have hz8 : (Tryd.prog.info? 57).map (·.zero) = some (some (.agg (Array.replicate 8 (.int .u32 0)))) := by kernel_rfl
  go_upto_region 1 with (refine wpList_alloc_row rfl 57 rfl _ hz8 ?_)
  obtain ⟨wa, hwa⟩ : ∃ wa, ((w.alloc (.cells (wordsA v.get 8) 57)).alloc (.cells (bytesA f 64) 48)).alloc (.cells (Array.replicate 8 (.int .u32 0)) 57) = wa := ⟨_, rfl⟩
  have R0 := rows_alloc w [.cells (wordsA v.get 8) 57, .cells (bytesA f 64) 48, .cells (Array.replicate 8 (.int .u32 0)) 57] 0
  have R1 := rows_alloc w [.cells (wordsA v.get 8) 57, .cells (bytesA f 64) 48, .cells (Array.replicate 8 (.int .u32 0)) 57] 1
  have R2 := rows_alloc w [.cells (wordsA v.get 8) 57, .cells (bytesA f 64) 48, .cells (Array.replicate 8 (.int .u32 0)) 57] 2
  have hb : Below w.heap.size w wa := by
    rw [← hwa]
    repeat (first | exact Below.refl _ _ | refine Below.alloc ?_ (by simp; try omega) _)
  simp only [List.foldl] at R0 R1 R2
  rw [hwa] at R0 R1 R2
  simp only [Act.put, List.setIfInBounds_toArray, List.set_cons_succ, List.set_cons_zero, alloc_size, hwa]
  clear hwa
  have K0 : wa.heap[w.heap.size]? = some (.cells (wordsA v.get 8) 57 (0, 0)) := R0
  have K1 : wa.heap[w.heap.size + 1]? = some (.cells (bytesA f 64) 48 (0, 0)) := R1
  have K2 : wa.heap[w.heap.size + 1 + 1]? = some (.cells (wordsA (fun _ => 0#32) 8) 57 (0, 0)) := by rw [← replicate_words]; exact R2
  clear R0 R1 R2
  obtain ⟨q, hq⟩ : ∃ q, w.heap.size = q := ⟨_, rfl⟩
  obtain ⟨m, hm⟩ : ∃ m, q + 1 = m := ⟨_, rfl⟩
  obtain ⟨r, hr⟩ : ∃ r, m + 1 = r := ⟨_, rfl⟩
  have TL := T.lt
  rw [hq] at K0 K1 K2 hb TL
  rw [hm] at K1 K2
  rw [hr] at K2
  simp only [hq, hm, hr]
  have hqr : q < m ∧ m < r := ⟨by omega, by omega⟩
  have HQ := Lib.hid hq
  clear hq hm hr
  go_wp2_with (refine wpList_load_row rfl 48 _ rfl m rfl _ _ (0, 0) _ K1 Tryd.underlying48 rfl (by rw [bytesA_size]; kernel_rfl) ?_)
  with_reducible refine (schedule_any f _).mono ?_
  rintro e w1 ⟨rfl, hb1⟩
  have hrs := lt_row K2
  have K0' := below_row hb1 (by omega) K0
  have K2' := below_row hb1 (by omega) K2
  have hbw := hb.trans (hb1.mono (by omega))
  clear K0 K1 K2 hb
  go_upto_region 2 with (first
    | (refine wpList_alloc_row (o := ⟨some 5, .alloc 71, _, _, _, _⟩) rfl 71 rfl _ hz ?_)
    | (refine wpList_store_new (o := ⟨none, .store 71 (.tmp 5) (.tmp 22), _, _, _, _⟩) rfl 71 _ _ rfl (Array.replicate 64 (.int .u32 0)) (wordsA (schedW f) 64) _ rfl rfl rfl (by rw [wordsA_size]; kernel_rfl) (by rw [wordsA_size]; rfl) (wordsA_one _ _) ?_))
  obtain ⟨wb, hwb⟩ : ∃ wb, w1.alloc (.cells (wordsA (schedW f) 64) 71) = wb := ⟨_, rfl⟩
  have S5 : wb.heap[w1.heap.size]? = some (.cells (wordsA (schedW f) 64) 71 (0, 0)) := by rw [← hwb]; exact heap_alloc_last _ _
  have R0 : wb.heap[q]? = some (.cells (wordsA v.get 8) 57 (0, 0)) := by rw [← hwb]; exact (heap_alloc_old _ _ (lt_row K0')).trans K0'
  have R2 : wb.heap[r]? = some (.cells (wordsA (fun _ => 0#32) 8) 57 (0, 0)) := by rw [← hwb]; exact (heap_alloc_old _ _ (lt_row K2')).trans K2'
  have hbb : Below q w wb := by rw [← hwb]; exact hbw.alloc (by have := hbw.size; have := lt_row K0'; omega) _
  obtain ⟨s5, hs5⟩ : ∃ s5, w1.heap.size = s5 := ⟨_, rfl⟩
  rw [hs5] at S5
  simp only [hwb, hs5]
  clear hwb hs5 K0' K2' hbw hb1 hrs w1 wa
  have KV0 : ∀ w2 : World, w2.heap = wb.heap ∧ Below q w w2 → w2.cell? ⟨q, 0, none⟩ = some (.int .u32 (n32 (v.get 0))) := fun w2 h => by rw [cell_of_row _ _ _ _ _ _ (by rw [h.1]; exact R0)]; exact wordsA_get _ (by omega)
  have KV1 : ∀ w2 : World, w2.heap = wb.heap ∧ Below q w w2 → w2.cell? ⟨q, 1, none⟩ = some (.int .u32 (n32 (v.get 1))) := fun w2 h => by rw [cell_of_row _ _ _ _ _ _ (by rw [h.1]; exact R0)]; exact wordsA_get _ (by omega)
  have KV2 : ∀ w2 : World, w2.heap = wb.heap ∧ Below q w w2 → w2.cell? ⟨q, 2, none⟩ = some (.int .u32 (n32 (v.get 2))) := fun w2 h => by rw [cell_of_row _ _ _ _ _ _ (by rw [h.1]; exact R0)]; exact wordsA_get _ (by omega)
  have KV3 : ∀ w2 : World, w2.heap = wb.heap ∧ Below q w w2 → w2.cell? ⟨q, 3, none⟩ = some (.int .u32 (n32 (v.get 3))) := fun w2 h => by rw [cell_of_row _ _ _ _ _ _ (by rw [h.1]; exact R0)]; exact wordsA_get _ (by omega)
  have KV4 : ∀ w2 : World, w2.heap = wb.heap ∧ Below q w w2 → w2.cell? ⟨q, 4, none⟩ = some (.int .u32 (n32 (v.get 4))) := fun w2 h => by rw [cell_of_row _ _ _ _ _ _ (by rw [h.1]; exact R0)]; exact wordsA_get _ (by omega)
  have KV5 : ∀ w2 : World, w2.heap = wb.heap ∧ Below q w w2 → w2.cell? ⟨q, 5, none⟩ = some (.int .u32 (n32 (v.get 5))) := fun w2 h => by rw [cell_of_row _ _ _ _ _ _ (by rw [h.1]; exact R0)]; exact wordsA_get _ (by omega)
  have KV6 : ∀ w2 : World, w2.heap = wb.heap ∧ Below q w w2 → w2.cell? ⟨q, 6, none⟩ = some (.int .u32 (n32 (v.get 6))) := fun w2 h => by rw [cell_of_row _ _ _ _ _ _ (by rw [h.1]; exact R0)]; exact wordsA_get _ (by omega)
  have KV7 : ∀ w2 : World, w2.heap = wb.heap ∧ Below q w w2 → w2.cell? ⟨q, 7, none⟩ = some (.int .u32 (n32 (v.get 7))) := fun w2 h => by rw [cell_of_row _ _ _ _ _ _ (by rw [h.1]; exact R0)]; exact wordsA_get _ (by omega)
  refine region_class 23 (fun w2 => w2.heap = wb.heap ∧ Below q w w2) mixedOrders (by kernel_rfl) ⟨rfl, hbb.drew⟩ ?_
  refine wpQuiet_take (by rfl) (fun K hK => ⟨.pointer (some ⟨q, 0, none⟩), fun w2 hw2 => ?_, hK _ ?_⟩)
  · clear hw2; go_simp
  clear hK K
  simp only [Act.put, List.setIfInBounds_toArray, List.set_cons_succ, List.set_cons_zero]
  refine wpQuiet_take (by rfl) (fun K hK => ⟨.int .u32 (n32 (v.get 0)), fun w2 hw2 => ?_, hK _ ?_⟩)
  · have hc := KV0 w2 hw2
    clear hw2; go_simp
  clear hK K
  simp only [Act.put, List.setIfInBounds_toArray, List.set_cons_succ, List.set_cons_zero]
  refine wpQuiet_take (by rfl) (fun K hK => ⟨.pointer (some ⟨q, 1, none⟩), fun w2 hw2 => ?_, hK _ ?_⟩)
  · clear hw2; go_simp
  clear hK K
  simp only [Act.put, List.setIfInBounds_toArray, List.set_cons_succ, List.set_cons_zero]
  refine wpQuiet_take (by rfl) (fun K hK => ⟨.int .u32 (n32 (v.get 1)), fun w2 hw2 => ?_, hK _ ?_⟩)
  · have hc := KV1 w2 hw2
    clear hw2; go_simp
  clear hK K
  simp only [Act.put, List.setIfInBounds_toArray, List.set_cons_succ, List.set_cons_zero]
  refine wpQuiet_take (by rfl) (fun K hK => ⟨.pointer (some ⟨q, 2, none⟩), fun w2 hw2 => ?_, hK _ ?_⟩)
  · clear hw2; go_simp
  clear hK K
  simp only [Act.put, List.setIfInBounds_toArray, List.set_cons_succ, List.set_cons_zero]
  refine wpQuiet_take (by rfl) (fun K hK => ⟨.int .u32 (n32 (v.get 2)), fun w2 hw2 => ?_, hK _ ?_⟩)
  · have hc := KV2 w2 hw2
    clear hw2; go_simp
  clear hK K
  simp only [Act.put, List.setIfInBounds_toArray, List.set_cons_succ, List.set_cons_zero]
  refine wpQuiet_take (by rfl) (fun K hK => ⟨.pointer (some ⟨q, 3, none⟩), fun w2 hw2 => ?_, hK _ ?_⟩)
  · clear hw2; go_simp
  clear hK K
  simp only [Act.put, List.setIfInBounds_toArray, List.set_cons_succ, List.set_cons_zero]
  refine wpQuiet_take (by rfl) (fun K hK => ⟨.int .u32 (n32 (v.get 3)), fun w2 hw2 => ?_, hK _ ?_⟩)
  · have hc := KV3 w2 hw2
    clear hw2; go_simp
  clear hK K
  simp only [Act.put, List.setIfInBounds_toArray, List.set_cons_succ, List.set_cons_zero]
  refine wpQuiet_take (by rfl) (fun K hK => ⟨.pointer (some ⟨q, 4, none⟩), fun w2 hw2 => ?_, hK _ ?_⟩)
  · clear hw2; go_simp
  clear hK K
  simp only [Act.put, List.setIfInBounds_toArray, List.set_cons_succ, List.set_cons_zero]
  refine wpQuiet_take (by rfl) (fun K hK => ⟨.int .u32 (n32 (v.get 4)), fun w2 hw2 => ?_, hK _ ?_⟩)
  · have hc := KV4 w2 hw2
    clear hw2; go_simp
  clear hK K
  simp only [Act.put, List.setIfInBounds_toArray, List.set_cons_succ, List.set_cons_zero]
  refine wpQuiet_take (by rfl) (fun K hK => ⟨.pointer (some ⟨q, 5, none⟩), fun w2 hw2 => ?_, hK _ ?_⟩)
  · clear hw2; go_simp
  clear hK K
  simp only [Act.put, List.setIfInBounds_toArray, List.set_cons_succ, List.set_cons_zero]
  refine wpQuiet_take (by rfl) (fun K hK => ⟨.int .u32 (n32 (v.get 5)), fun w2 hw2 => ?_, hK _ ?_⟩)
  · have hc := KV5 w2 hw2
    clear hw2; go_simp
  clear hK K
  simp only [Act.put, List.setIfInBounds_toArray, List.set_cons_succ, List.set_cons_zero]
  refine wpQuiet_take (by rfl) (fun K hK => ⟨.pointer (some ⟨q, 6, none⟩), fun w2 hw2 => ?_, hK _ ?_⟩)
  · clear hw2; go_simp
  clear hK K
  simp only [Act.put, List.setIfInBounds_toArray, List.set_cons_succ, List.set_cons_zero]
  refine wpQuiet_take (by rfl) (fun K hK => ⟨.int .u32 (n32 (v.get 6)), fun w2 hw2 => ?_, hK _ ?_⟩)
  · have hc := KV6 w2 hw2
    clear hw2; go_simp
  clear hK K
  simp only [Act.put, List.setIfInBounds_toArray, List.set_cons_succ, List.set_cons_zero]
  refine wpQuiet_take (by rfl) (fun K hK => ⟨.pointer (some ⟨q, 7, none⟩), fun w2 hw2 => ?_, hK _ ?_⟩)
  · clear hw2; go_simp
  clear hK K
  simp only [Act.put, List.setIfInBounds_toArray, List.set_cons_succ, List.set_cons_zero]
  refine wpQuiet_take (by rfl) (fun K hK => ⟨.int .u32 (n32 (v.get 7)), fun w2 hw2 => ?_, hK _ ?_⟩)
  · have hc := KV7 w2 hw2
    clear hw2; go_simp
  clear hK K
  simp only [Act.put, List.setIfInBounds_toArray, List.set_cons_succ, List.set_cons_zero]
  refine wpQuiet_take (by rfl) (fun K hK => ⟨.int .u32 (n32 (v.get 0)), fun w2 hw2 => ?_, hK _ ?_⟩)
  · clear hw2; go_simp
  clear hK K
  simp only [Act.put, List.setIfInBounds_toArray, List.set_cons_succ, List.set_cons_zero]
  refine wpQuiet_take (by rfl) (fun K hK => ⟨.int .u32 (n32 (v.get 1)), fun w2 hw2 => ?_, hK _ ?_⟩)
  · clear hw2; go_simp
  clear hK K
  simp only [Act.put, List.setIfInBounds_toArray, List.set_cons_succ, List.set_cons_zero]
  refine wpQuiet_take (by rfl) (fun K hK => ⟨.int .u32 (n32 (v.get 2)), fun w2 hw2 => ?_, hK _ ?_⟩)
  · clear hw2; go_simp
  clear hK K
  simp only [Act.put, List.setIfInBounds_toArray, List.set_cons_succ, List.set_cons_zero]
  refine wpQuiet_take (by rfl) (fun K hK => ⟨.int .u32 (n32 (v.get 3)), fun w2 hw2 => ?_, hK _ ?_⟩)
  · clear hw2; go_simp
  clear hK K
  simp only [Act.put, List.setIfInBounds_toArray, List.set_cons_succ, List.set_cons_zero]
  refine wpQuiet_take (by rfl) (fun K hK => ⟨.int .u32 (n32 (v.get 4)), fun w2 hw2 => ?_, hK _ ?_⟩)
  · clear hw2; go_simp
  clear hK K
  simp only [Act.put, List.setIfInBounds_toArray, List.set_cons_succ, List.set_cons_zero]
  refine wpQuiet_take (by rfl) (fun K hK => ⟨.int .u32 (n32 (v.get 5)), fun w2 hw2 => ?_, hK _ ?_⟩)
  · clear hw2; go_simp
  clear hK K
  simp only [Act.put, List.setIfInBounds_toArray, List.set_cons_succ, List.set_cons_zero]
  refine wpQuiet_take (by rfl) (fun K hK => ⟨.int .u32 (n32 (v.get 6)), fun w2 hw2 => ?_, hK _ ?_⟩)
  · clear hw2; go_simp
  clear hK K
  simp only [Act.put, List.setIfInBounds_toArray, List.set_cons_succ, List.set_cons_zero]
  refine wpQuiet_take0 ?_
  intro w2 hw2
  have S5' := Lib.hid (show w2.heap[s5]? = some (.cells (wordsA (schedW f) 64) 71 (0, 0)) by rw [hw2.1]; exact S5)
  have R0' := Lib.hid (show w2.heap[q]? = some (.cells (wordsA v.get 8) 57 (0, 0)) by rw [hw2.1]; exact R0)
  have R2' := Lib.hid (show w2.heap[r]? = some (.cells (wordsA (fun _ => 0#32) 8) 57 (0, 0)) by rw [hw2.1]; exact R2)
  have B2 := Lib.hid hw2.2
  clear hw2 S5 R0 R2 hbb KV0 KV1 KV2 KV3 KV4 KV5 KV6 KV7 wb
  go_upto_region 4 with (refine wpList_load_row rfl 71 _ rfl s5 rfl _ _ (0, 0) _ S5'.out Tryd.underlying71 rfl (by rw [wordsA_size]; kernel_rfl) ?_)
  go_loopw [6, 7, 8, 9, 10, 11, 12, 13, 40] (fun s6 s7 s8 s9 s10 s11 s12 s13 s40 wr => ∃ (i : Nat) (V : W8), i ≤ 64 ∧ Hid (W8.steps kW (schedW f) v i = V) ∧ s40 = .int .i64 (i : Int) ∧ s6 = .int .u32 (n32 V.a) ∧ s7 = .int .u32 (n32 V.b) ∧ s8 = .int .u32 (n32 V.c) ∧ s9 = .int .u32 (n32 V.d) ∧ s10 = .int .u32 (n32 V.e) ∧ s11 = .int .u32 (n32 V.f) ∧ s12 = .int .u32 (n32 V.g) ∧ s13 = .int .u32 (n32 V.h) ∧ wr.heap = w2.heap ∧ Below q w wr) (fun _ _ _ _ _ _ _ _ s40 _ => 64 - (intOf s40).toNat)
  case atStart => exact ⟨0, v, by omega, Lib.hid rfl, rfl, rfl, rfl, rfl, rfl, rfl, rfl, rfl, rfl, rfl, B2.out⟩
  case round =>
    obtain ⟨i, V, hi, HV, rfl, rfl, rfl, rfl, rfl, rfl, rfl, rfl, rfl, hh, bel⟩ := hrel
    have TW := T.later (by rw [HQ.out]; exact bel)
    have HH := Lib.hid hh
    have BEL := Lib.hid bel
    clear hh bel
    by_cases hlt : i < 64
    · have hlI : (i : Int) < 64 := by omega
      have kc := TW.cell i hlt
      have hix := index_words (schedW f) i hlt
      clear TW
      go_upto_region 6 with (fail)
      clear hix
      go_wp2_with fail
      with_reducible refine (rotl6 _ _).mono ?_
      rintro e w3 ⟨rfl, rfl⟩
      go_wp2_with fail
      with_reducible refine (rotl11 _ _).mono ?_
      rintro e w3 ⟨rfl, rfl⟩
      go_wp2_with fail
      with_reducible refine (rotl25 _ _).mono ?_
      rintro e w3 ⟨rfl, rfl⟩
      go_upto_region 8 with (fail)
      clear kc
      go_wp2_with fail
      with_reducible refine (rotl2 _ _).mono ?_
      rintro e w3 ⟨rfl, rfl⟩
      go_wp2_with fail
      with_reducible refine (rotl13 _ _).mono ?_
      rintro e w3 ⟨rfl, rfl⟩
      go_wp2_with fail
      with_reducible refine (rotl22 _ _).mono ?_
      rintro e w3 ⟨rfl, rfl⟩
      go_wp2_with fail
      go_roundw
      case rel =>
        refine ⟨i + 1, V.step (kW i) (schedW f i), by omega, Lib.hid (by show (W8.steps kW (schedW f) v i).step _ _ = _; rw [HV.out]), by go_num, rfl, rfl, rfl, rfl, rfl, rfl, rfl, rfl, HH.out, BEL.out⟩
      case measure => (simp [intOf] <;> omega)
    · obtain rfl : i = 64 := by omega
      clear hlt hi TW
      have k0 : wr.heap[q]? = some (.cells (wordsA v.get 8) 57 (0, 0)) := by rw [HH.out]; exact R0'.out
      have k2 : wr.heap[r]? = some (.cells (wordsA (fun _ => 0#32) 8) 57 (0, 0)) := by rw [HH.out]; exact R2'.out
      have G0 := Lib.hid k0; have G2 := Lib.hid k2
      clear k0 k2
      go_upto_region 13 with (fail)
      have e8 : (#[.int .u32 (n32 V.a), .int .u32 (n32 V.b), .int .u32 (n32 V.c), .int .u32 (n32 V.d), .int .u32 (n32 V.e), .int .u32 (n32 V.f), .int .u32 (n32 V.g), .int .u32 (n32 V.h)] : Array Value) = wordsA V.get 8 := rfl
      simp only [e8]
      clear e8
      go_loopw [113] (fun s wr => ∃ i : Nat, i ≤ 8 ∧ s = .int .i64 (i : Int) ∧ wr.heap[q]? = some (.cells (wordsA (fun j => if j < i then v.get j + V.get j else v.get j) 8) 57 (0, 0)) ∧ wr.heap[r]? = some (.cells (wordsA (fun _ => 0#32) 8) 57 (0, 0)) ∧ Below q w wr) (fun s _ => 8 - (intOf s).toNat)
      case atStart => exact ⟨0, by omega, rfl, by rw [wordsA_congr (h := v.get) (fun j _ => by rw [if_neg (by omega)])]; exact G0.out, G2.out, BEL.out⟩
      case round =>
        clear G0 G2 BEL HH R0' R2' S5' B2
        obtain ⟨i, hi, rfl, k0, k2, bel⟩ := hrel
        have G0 := Lib.hid k0; have G2 := Lib.hid k2; have BEL := Lib.hid bel
        clear k0 k2 bel
        by_cases hlt : i < 8
        · have hlI : (i : Int) < 8 := by omega
          have hix := index_eight V.get i hlt
          have kc : wr.cell? ⟨q, i, none⟩ = some (.int .u32 (n32 (v.get i))) := by
            rw [cell_of_row _ _ _ _ _ _ G0.out, wordsA_get _ hlt, if_neg (by omega)]
          have fz : wr.frozen? ⟨q, i, none⟩ = false := frozen_of_row _ _ _ _ _ G0.out
          have QS := Lib.hid (rowSet_cell wr q i 57 _ (.int .u32 (n32 (v.get i + V.get i))) G0.out)
          go_wp2_with fail
          go_roundw
          case rel =>
            refine ⟨i + 1, by omega, by go_num, ?_, (QS.out.other r (by omega)).trans G2.out, BEL.out.trans (QS.out.below _ (by omega))⟩
            have h := QS.out.row
            rw [wordsA_set, wordsA_congr (h := fun j => if j < i + 1 then v.get j + V.get j else v.get j) (fun j _ => by
              by_cases e : j = i
              · subst e; rw [if_pos rfl, if_pos (by omega)]
              · rw [if_neg e]
                by_cases e2 : j < i
                · rw [if_pos e2, if_pos (by omega)]
                · rw [if_neg e2, if_neg (by omega)])] at h
            exact h
          case measure => (simp [intOf] <;> omega)
        · obtain rfl : i = 8 := by omega
          have e9 : wordsA (fun j => if j < 8 then v.get j + V.get j else v.get j) 8 = wordsA (v.turn kW f).get 8 := by
            have e10 : v.turn kW f = v.add V := by unfold W8.turn; rw [HV.out]
            rw [e10]
            exact wordsA_congr (fun j hj => by rw [if_pos hj]; rcases (by omega : j = 0 ∨ j = 1 ∨ j = 2 ∨ j = 3 ∨ j = 4 ∨ j = 5 ∨ j = 6 ∨ j = 7) with rfl | rfl | rfl | rfl | rfl | rfl | rfl | rfl <;> rfl)
          rw [e9] at G0
          clear e9
          go_wp2_with (first
            | (refine wpList_load_row rfl 57 _ rfl q rfl _ _ (0, 0) _ G0.out Tryd.underlying57 rfl (by rw [wordsA_size]; kernel_rfl) ?_)
            | (refine wpList_store_row rfl 57 _ _ rfl r _ _ (wordsA (v.turn kW f).get 8) rfl rfl G2.out (by rw [wordsA_size, wordsA_size]) (by rw [wordsA_size]; kernel_rfl) (wordsA_one _ _) ?_; intro w4 s4))
          exact ret_row r _ 57 (wordsA (v.turn kW f).get 8) rfl _ rfl s4.row Tryd.underlying57 rfl (by rw [wordsA_size]; kernel_rfl) rfl ⟨rfl, by rw [HQ.out]; exact BEL.out.trans (s4.below _ (by omega))⟩
end Go.Proofs.YtebhhonmpoeliaaDoor
