/-
  THE DOCUMENT's Block IS ONE TURN OF sha.
-/
import Derived.Test.YtebhhonmpoeliaaDoorShaQ
namespace Go.Proofs.YtebhhonmpoeliaaDoor
open Go Go.RowKit Go.BigFrame
set_option linter.unusedSimpArgs false
set_option linter.unusedVariables false
/-- The rows of Block while it runs. -/
structure BlkSt (w0 : World) (q r s u : Nat) (v U : Nat → BitVec 32) (w : World) : Prop where
  bel : Below q w0 w
  rq : w.heap[q]? = some (.cells (wordsA v 8) 57 (0, 0))
  rr : w.heap[r]? = some (.cells (wordsA (fun _ => 0#32) 8) 57 (0, 0))
  rs : w.heap[s]? = some (.cells (wordsA kW 64) 56 (0, 0))
  ru : w.heap[u]? = some (.cells (wordsA U 64) 71 (0, 0))
theorem BlkSt.heap {w0 w w' : World} {q r s u : Nat} {v U : Nat → BitVec 32} (h : BlkSt w0 q r s u v U w) (hh : w'.heap = w.heap) (hb : Below q w0 w') : BlkSt w0 q r s u v U w' :=
  ⟨hb, by rw [hh]; exact h.rq, by rw [hh]; exact h.rr, by rw [hh]; exact h.rs, by rw [hh]; exact h.ru⟩
theorem BlkSt.setU {w0 w w' : World} {q r s u : Nat} {v U U' : Nat → BitVec 32} (h : BlkSt w0 q r s u v U w) (hs : RowSet w u 71 (wordsA U' 64) w') (ho : q < r ∧ r < s ∧ s < u) : BlkSt w0 q r s u v U' w' :=
  ⟨h.bel.trans (hs.below _ (by omega)), hs.keep (by omega) h.rq, hs.keep (by omega) h.rr, hs.keep (by omega) h.rs, hs.row⟩
theorem BlkSt.other {w0 w w' : World} {q r s u t : Nat} {v U : Nat → BitVec 32} {T : TypeId} {c : Array Value} (h : BlkSt w0 q r s u v U w) (hs : RowSet w t T c w') (ho : q < r ∧ r < s ∧ s < u) (ht : u < t) : BlkSt w0 q r s u v U w' :=
  ⟨h.bel.trans (hs.below _ (by omega)), hs.keep (by omega) h.rq, hs.keep (by omega) h.rr, hs.keep (by omega) h.rs, hs.keep (by omega) h.ru⟩
theorem BlkSt.setQ {w0 w w' : World} {q r s u : Nat} {v v' U : Nat → BitVec 32} (h : BlkSt w0 q r s u v U w) (hs : RowSet w q 57 (wordsA v' 8) w') (ho : q < r ∧ r < s ∧ s < u) : BlkSt w0 q r s u v' U w' :=
  ⟨h.bel.trans (hs.below _ (Nat.le_refl _)), hs.row, hs.keep (by omega) h.rr, hs.keep (by omega) h.rs, hs.keep (by omega) h.ru⟩
theorem upto_set (g : Nat → BitVec 32) (i j : Nat) : (if j = i then g i else sofar g i j) = sofar g (i + 1) j := by
  unfold sofar
  by_cases e : j = i
  · subst e; rw [if_pos rfl, if_pos (by omega)]
  · rw [if_neg e]
    by_cases e2 : j < i
    · rw [if_pos e2, if_pos (by omega)]
    · rw [if_neg e2, if_neg (by omega)]
theorem strOf_at (f : Nat → BitVec 8) (n k : Nat) (h : k < n) (w : World) : (Instr.index 9 (.string (strOf f n)) (.int .i64 (k : Int))).run Tryd.prog w = .ok (.int .u8 (n8 (f k))) w := by
  have hs := strOf_size f n
  have h2 : k < (strOf f n).data.size := by rw [ByteArray.size_data, hs]; exact h
  have hd : (strOf f n).data[k]? = some (UInt8.ofBitVec (f k)) := by
    show (strL f n).toArray[k]? = _
    simp [strL, h]
  have hg : (strOf f n)[k]'(by rw [hs]; exact h) = UInt8.ofBitVec (f k) := by
    rw [Array.getElem?_eq_getElem h2] at hd
    exact Option.some.inj hd
  have h0 : (0 : Int) ≤ (k : Int) := by omega
  have h1 : (k : Int) < ((strOf f n).size : Int) := by rw [hs]; omega
  rw [n8_u8, ← hg]
  simp [go_sem, h0, h1]
set_option maxHeartbeats 16000000 in
set_option maxRecDepth 100000 in
theorem block_any (v : W8) (f : Nat → BitVec 8) (w : World) : Calls Tryd.prog 28 #[.agg (wordsA v.get 8), .string (strOf f 64)] w fun e w' => e = .returned (.agg (wordsA (v.turn kW f).get 8)) ∧ Below w.heap.size w w' := by
  obtain ⟨S, hS⟩ : ∃ S, strOf f 64 = S := ⟨_, rfl⟩
  have SI := Lib.hid (strOf_at f 64)
  rw [hS] at SI ⊢
  clear hS
  have hz : (Tryd.prog.info? 71).map (·.zero) = some (some (.agg (Array.replicate 64 (.int .u32 0)))) := by kernel_rfl
  have hz8 : (Tryd.prog.info? 57).map (·.zero) = some (some (.agg (Array.replicate 8 (.int .u32 0)))) := by kernel_rfl
  go_enter Tryd.func28, Tryd.ntmps28
  go_wp2_with (refine wpList_alloc_row (o := ⟨some 4, .alloc 57, _, _, _, _⟩) rfl 57 rfl _ hz8 ?_)
  with_reducible refine (keys_any _).mono ?_
  rintro e w1 ⟨rfl, rfl⟩
  go_upto_region 3 with (refine wpList_alloc_row (o := ⟨some 6, .alloc 71, _, _, _, _⟩) rfl 71 rfl _ hz ?_)
  obtain ⟨wa, hwa⟩ : ∃ wa, (((w.alloc (.cells (wordsA v.get 8) 57)).alloc (.cells (Array.replicate 8 (.int .u32 0)) 57)).alloc (.cells (wordsA kW 64) 56)).alloc (.cells (Array.replicate 64 (.int .u32 0)) 71) = wa := ⟨_, rfl⟩
  have R0 := rows_alloc w [.cells (wordsA v.get 8) 57, .cells (Array.replicate 8 (.int .u32 0)) 57, .cells (wordsA kW 64) 56, .cells (Array.replicate 64 (.int .u32 0)) 71] 0
  have R1 := rows_alloc w [.cells (wordsA v.get 8) 57, .cells (Array.replicate 8 (.int .u32 0)) 57, .cells (wordsA kW 64) 56, .cells (Array.replicate 64 (.int .u32 0)) 71] 1
  have R2 := rows_alloc w [.cells (wordsA v.get 8) 57, .cells (Array.replicate 8 (.int .u32 0)) 57, .cells (wordsA kW 64) 56, .cells (Array.replicate 64 (.int .u32 0)) 71] 2
  have R3 := rows_alloc w [.cells (wordsA v.get 8) 57, .cells (Array.replicate 8 (.int .u32 0)) 57, .cells (wordsA kW 64) 56, .cells (Array.replicate 64 (.int .u32 0)) 71] 3
  have hb : Below w.heap.size w wa := by
    rw [← hwa]
    repeat (first | exact Below.refl _ _ | refine Below.alloc ?_ (by simp; try omega) _)
  simp only [List.foldl] at R0 R1 R2 R3
  rw [hwa] at R0 R1 R2 R3
  simp only [Act.put, List.setIfInBounds_toArray, List.set_cons_succ, List.set_cons_zero, alloc_size, hwa]
  clear hwa
  have K0 : wa.heap[w.heap.size]? = some (.cells (wordsA v.get 8) 57 (0, 0)) := R0
  have K1 : wa.heap[w.heap.size + 1]? = some (.cells (wordsA (fun _ => 0#32) 8) 57 (0, 0)) := by rw [← replicate_words]; exact R1
  have K2 : wa.heap[w.heap.size + 1 + 1]? = some (.cells (wordsA kW 64) 56 (0, 0)) := R2
  have K3 : wa.heap[w.heap.size + 1 + 1 + 1]? = some (.cells (wordsA (sofar (schedW f) 0) 64) 71 (0, 0)) := by
    rw [wordsA_congr (h := fun _ => 0#32) (fun j _ => by unfold sofar; rw [if_neg (by omega)]), ← replicate_words]; exact R3
  clear R0 R1 R2 R3
  obtain ⟨q, hq⟩ : ∃ q, w.heap.size = q := ⟨_, rfl⟩
  obtain ⟨r, hr⟩ : ∃ r, q + 1 = r := ⟨_, rfl⟩
  obtain ⟨s, hs⟩ : ∃ s, r + 1 = s := ⟨_, rfl⟩
  obtain ⟨u, hu⟩ : ∃ u, s + 1 = u := ⟨_, rfl⟩
  rw [hq] at K0 K1 K2 K3 hb
  rw [hr] at K1 K2 K3
  rw [hs] at K2 K3
  rw [hu] at K3
  simp only [hq, hr, hs, hu]
  have ho : q < r ∧ r < s ∧ s < u := ⟨by omega, by omega, by omega⟩
  have HQ := Lib.hid hq
  have S0 := Lib.hid (show BlkSt w q r s u v.get (sofar (schedW f) 0) wa from ⟨hb, K0, K1, K2, K3⟩)
  clear hq hr hs hu K0 K1 K2 K3 hb
  go_wp2_with fail
  go_loopw [7] (fun s7 wr => ∃ i : Nat, i ≤ 16 ∧ s7 = .int .i64 (i : Int) ∧ BlkSt w q r s u v.get (sofar (schedW f) i) wr) (fun s7 _ => 16 - (intOf s7).toNat)
  case atStart => exact ⟨0, by omega, rfl, S0.out⟩
  case round =>
    clear S0 wa
    obtain ⟨i, hi, rfl, st⟩ := hrel
    have ST := Lib.hid st
    clear st
    by_cases hlt : i < 16
    · have hlI : (i : Int) < 16 := by omega
      have hl64 : (i : Int) < 64 := by omega
      have IX0 := Lib.hid (fun w' => (show (Instr.index 9 (.string S) (.int .i64 (4 * (i : Int)))).run Tryd.prog w' = .ok (.int .u8 (n8 (f (4 * i)))) w' from by
        have h := SI.out (4 * i) (by omega) w'
        rw [show ((4 * i : Nat) : Int) = 4 * (i : Int) by omega] at h
        exact h))
      have IX1 := Lib.hid (fun w' => (show (Instr.index 9 (.string S) (.int .i64 (4 * (i : Int) + 1))).run Tryd.prog w' = .ok (.int .u8 (n8 (f (4 * i + 1)))) w' from by
        have h := SI.out (4 * i + 1) (by omega) w'
        rw [show ((4 * i + 1 : Nat) : Int) = 4 * (i : Int) + 1 by omega] at h
        exact h))
      have IX2 := Lib.hid (fun w' => (show (Instr.index 9 (.string S) (.int .i64 (4 * (i : Int) + 2))).run Tryd.prog w' = .ok (.int .u8 (n8 (f (4 * i + 2)))) w' from by
        have h := SI.out (4 * i + 2) (by omega) w'
        rw [show ((4 * i + 2 : Nat) : Int) = 4 * (i : Int) + 2 by omega] at h
        exact h))
      have IX3 := Lib.hid (fun w' => (show (Instr.index 9 (.string S) (.int .i64 (4 * (i : Int) + 3))).run Tryd.prog w' = .ok (.int .u8 (n8 (f (4 * i + 3)))) w' from by
        have h := SI.out (4 * i + 3) (by omega) w'
        rw [show ((4 * i + 3 : Nat) : Int) = 4 * (i : Int) + 3 by omega] at h
        exact h))
      have hw_0 : IntKind.i64.wrap (4 * (i : Int)) = 4 * (i : Int) := by rw [IntKind.wrap_i64]; omega
      have hw_1 : IntKind.i64.wrap (4 * (i : Int) + 1) = 4 * (i : Int) + 1 := by rw [IntKind.wrap_i64]; omega
      have hw_2 : IntKind.i64.wrap (4 * (i : Int) + 2) = 4 * (i : Int) + 2 := by rw [IntKind.wrap_i64]; omega
      have hw_3 : IntKind.i64.wrap (4 * (i : Int) + 3) = 4 * (i : Int) + 3 := by rw [IntKind.wrap_i64]; omega
      go_upto_region 6 with (fail)
      refine region_class1 31 (fun w2 => w2.heap = wr.heap ∧ Below q w w2) mixedOrders (by kernel_rfl) ⟨rfl, ST.out.bel.drew⟩ rfl ?_
      refine wpQuiet_take (by rfl) (fun K hK => ⟨.int .i64 ((i : Int)), fun w2' hw2 => ?_, hK _ ?_⟩)
      · clear hw2; go_simp
      clear hK K
      simp only [Act.put, List.setIfInBounds_toArray, List.set_cons_succ, List.set_cons_zero]
      refine wpQuiet_take (by rfl) (fun K hK => ⟨.string S, fun w2' hw2 => ?_, hK _ ?_⟩)
      · clear hw2; go_simp
      clear hK K
      simp only [Act.put, List.setIfInBounds_toArray, List.set_cons_succ, List.set_cons_zero]
      refine wpQuiet_take (by rfl) (fun K hK => ⟨.int .i64 ((i : Int)), fun w2' hw2 => ?_, hK _ ?_⟩)
      · clear hw2; go_simp
      clear hK K
      simp only [Act.put, List.setIfInBounds_toArray, List.set_cons_succ, List.set_cons_zero]
      refine wpQuiet_take (by rfl) (fun K hK => ⟨.int .i64 (4 * (i : Int)), fun w2' hw2 => ?_, hK _ ?_⟩)
      · clear hw2; go_simp
      clear hK K
      simp only [Act.put, List.setIfInBounds_toArray, List.set_cons_succ, List.set_cons_zero]
      refine wpQuiet_take (by rfl) (fun K hK => ⟨.int .u8 (n8 (f (4 * i))), fun w2' hw2 => ?_, hK _ ?_⟩)
      · have hc := IX0.out w2'
        clear hw2; go_simp
      clear hK K
      simp only [Act.put, List.setIfInBounds_toArray, List.set_cons_succ, List.set_cons_zero]
      refine wpQuiet_take (by rfl) (fun K hK => ⟨.int .u32 (n32 ((f (4 * i)).setWidth 32)), fun w2' hw2 => ?_, hK _ ?_⟩)
      · clear hw2; go_simp
      clear hK K
      simp only [Act.put, List.setIfInBounds_toArray, List.set_cons_succ, List.set_cons_zero]
      refine wpQuiet_take (by rfl) (fun K hK => ⟨.int .u32 (n32 (((f (4 * i)).setWidth 32 <<< 24))), fun w2' hw2 => ?_, hK _ ?_⟩)
      · clear hw2; go_simp
      clear hK K
      simp only [Act.put, List.setIfInBounds_toArray, List.set_cons_succ, List.set_cons_zero]
      refine wpQuiet_take (by rfl) (fun K hK => ⟨.string S, fun w2' hw2 => ?_, hK _ ?_⟩)
      · clear hw2; go_simp
      clear hK K
      simp only [Act.put, List.setIfInBounds_toArray, List.set_cons_succ, List.set_cons_zero]
      refine wpQuiet_take (by rfl) (fun K hK => ⟨.int .i64 ((i : Int)), fun w2' hw2 => ?_, hK _ ?_⟩)
      · clear hw2; go_simp
      clear hK K
      simp only [Act.put, List.setIfInBounds_toArray, List.set_cons_succ, List.set_cons_zero]
      refine wpQuiet_take (by rfl) (fun K hK => ⟨.int .i64 (4 * (i : Int)), fun w2' hw2 => ?_, hK _ ?_⟩)
      · clear hw2; go_simp
      clear hK K
      simp only [Act.put, List.setIfInBounds_toArray, List.set_cons_succ, List.set_cons_zero]
      refine wpQuiet_take (by rfl) (fun K hK => ⟨.int .i64 (4 * (i : Int) + 1), fun w2' hw2 => ?_, hK _ ?_⟩)
      · clear hw2; go_simp
      clear hK K
      simp only [Act.put, List.setIfInBounds_toArray, List.set_cons_succ, List.set_cons_zero]
      refine wpQuiet_take (by rfl) (fun K hK => ⟨.int .u8 (n8 (f (4 * i + 1))), fun w2' hw2 => ?_, hK _ ?_⟩)
      · have hc := IX1.out w2'
        clear hw2; go_simp
      clear hK K
      simp only [Act.put, List.setIfInBounds_toArray, List.set_cons_succ, List.set_cons_zero]
      refine wpQuiet_take (by rfl) (fun K hK => ⟨.int .u32 (n32 ((f (4 * i + 1)).setWidth 32)), fun w2' hw2 => ?_, hK _ ?_⟩)
      · clear hw2; go_simp
      clear hK K
      simp only [Act.put, List.setIfInBounds_toArray, List.set_cons_succ, List.set_cons_zero]
      refine wpQuiet_take (by rfl) (fun K hK => ⟨.int .u32 (n32 (((f (4 * i + 1)).setWidth 32 <<< 16))), fun w2' hw2 => ?_, hK _ ?_⟩)
      · clear hw2; go_simp
      clear hK K
      simp only [Act.put, List.setIfInBounds_toArray, List.set_cons_succ, List.set_cons_zero]
      refine wpQuiet_take (by rfl) (fun K hK => ⟨.int .u32 (n32 ((((f (4 * i)).setWidth 32 <<< 24) + ((f (4 * i + 1)).setWidth 32 <<< 16)))), fun w2' hw2 => ?_, hK _ ?_⟩)
      · clear hw2; go_simp
      clear hK K
      simp only [Act.put, List.setIfInBounds_toArray, List.set_cons_succ, List.set_cons_zero]
      refine wpQuiet_take (by rfl) (fun K hK => ⟨.string S, fun w2' hw2 => ?_, hK _ ?_⟩)
      · clear hw2; go_simp
      clear hK K
      simp only [Act.put, List.setIfInBounds_toArray, List.set_cons_succ, List.set_cons_zero]
      refine wpQuiet_take (by rfl) (fun K hK => ⟨.int .i64 ((i : Int)), fun w2' hw2 => ?_, hK _ ?_⟩)
      · clear hw2; go_simp
      clear hK K
      simp only [Act.put, List.setIfInBounds_toArray, List.set_cons_succ, List.set_cons_zero]
      refine wpQuiet_take (by rfl) (fun K hK => ⟨.int .i64 (4 * (i : Int)), fun w2' hw2 => ?_, hK _ ?_⟩)
      · clear hw2; go_simp
      clear hK K
      simp only [Act.put, List.setIfInBounds_toArray, List.set_cons_succ, List.set_cons_zero]
      refine wpQuiet_take (by rfl) (fun K hK => ⟨.int .i64 (4 * (i : Int) + 2), fun w2' hw2 => ?_, hK _ ?_⟩)
      · clear hw2; go_simp
      clear hK K
      simp only [Act.put, List.setIfInBounds_toArray, List.set_cons_succ, List.set_cons_zero]
      refine wpQuiet_take (by rfl) (fun K hK => ⟨.int .u8 (n8 (f (4 * i + 2))), fun w2' hw2 => ?_, hK _ ?_⟩)
      · have hc := IX2.out w2'
        clear hw2; go_simp
      clear hK K
      simp only [Act.put, List.setIfInBounds_toArray, List.set_cons_succ, List.set_cons_zero]
      refine wpQuiet_take (by rfl) (fun K hK => ⟨.int .u32 (n32 ((f (4 * i + 2)).setWidth 32)), fun w2' hw2 => ?_, hK _ ?_⟩)
      · clear hw2; go_simp
      clear hK K
      simp only [Act.put, List.setIfInBounds_toArray, List.set_cons_succ, List.set_cons_zero]
      refine wpQuiet_take (by rfl) (fun K hK => ⟨.int .u32 (n32 (((f (4 * i + 2)).setWidth 32 <<< 8))), fun w2' hw2 => ?_, hK _ ?_⟩)
      · clear hw2; go_simp
      clear hK K
      simp only [Act.put, List.setIfInBounds_toArray, List.set_cons_succ, List.set_cons_zero]
      refine wpQuiet_take (by rfl) (fun K hK => ⟨.int .u32 (n32 (((((f (4 * i)).setWidth 32 <<< 24) + ((f (4 * i + 1)).setWidth 32 <<< 16)) + ((f (4 * i + 2)).setWidth 32 <<< 8)))), fun w2' hw2 => ?_, hK _ ?_⟩)
      · clear hw2; go_simp
      clear hK K
      simp only [Act.put, List.setIfInBounds_toArray, List.set_cons_succ, List.set_cons_zero]
      refine wpQuiet_take (by rfl) (fun K hK => ⟨.string S, fun w2' hw2 => ?_, hK _ ?_⟩)
      · clear hw2; go_simp
      clear hK K
      simp only [Act.put, List.setIfInBounds_toArray, List.set_cons_succ, List.set_cons_zero]
      refine wpQuiet_take (by rfl) (fun K hK => ⟨.int .i64 ((i : Int)), fun w2' hw2 => ?_, hK _ ?_⟩)
      · clear hw2; go_simp
      clear hK K
      simp only [Act.put, List.setIfInBounds_toArray, List.set_cons_succ, List.set_cons_zero]
      refine wpQuiet_take (by rfl) (fun K hK => ⟨.int .i64 (4 * (i : Int)), fun w2' hw2 => ?_, hK _ ?_⟩)
      · clear hw2; go_simp
      clear hK K
      simp only [Act.put, List.setIfInBounds_toArray, List.set_cons_succ, List.set_cons_zero]
      refine wpQuiet_take (by rfl) (fun K hK => ⟨.int .i64 (4 * (i : Int) + 3), fun w2' hw2 => ?_, hK _ ?_⟩)
      · clear hw2; go_simp
      clear hK K
      simp only [Act.put, List.setIfInBounds_toArray, List.set_cons_succ, List.set_cons_zero]
      refine wpQuiet_take (by rfl) (fun K hK => ⟨.int .u8 (n8 (f (4 * i + 3))), fun w2' hw2 => ?_, hK _ ?_⟩)
      · have hc := IX3.out w2'
        clear hw2; go_simp
      clear hK K
      simp only [Act.put, List.setIfInBounds_toArray, List.set_cons_succ, List.set_cons_zero]
      refine wpQuiet_take (by rfl) (fun K hK => ⟨.int .u32 (n32 ((f (4 * i + 3)).setWidth 32)), fun w2' hw2 => ?_, hK _ ?_⟩)
      · clear hw2; go_simp
      clear hK K
      simp only [Act.put, List.setIfInBounds_toArray, List.set_cons_succ, List.set_cons_zero]
      refine wpQuiet_take (by rfl) (fun K hK => ⟨.int .u32 (n32 ((((((f (4 * i)).setWidth 32 <<< 24) + ((f (4 * i + 1)).setWidth 32 <<< 16)) + ((f (4 * i + 2)).setWidth 32 <<< 8)) + ((f (4 * i + 3)).setWidth 32)))), fun w2' hw2 => ?_, hK _ ?_⟩)
      · clear hw2; go_simp
      clear hK K
      simp only [Act.put, List.setIfInBounds_toArray, List.set_cons_succ, List.set_cons_zero]
      refine wpQuiet_take (by rfl) (fun K hK => ⟨.pointer (some ⟨u, i, none⟩), fun w2' hw2 => ?_, hK _ ?_⟩)
      · clear hw2; go_simp
      clear hK K
      simp only [Act.put, List.setIfInBounds_toArray, List.set_cons_succ, List.set_cons_zero]
      refine wpQuiet_take0 ?_
      intro w2 hw2
      have st2 := ST.out.heap hw2.1 hw2.2
      have kc : w2.cell? ⟨u, i, none⟩ = some (.int .u32 (n32 (sofar (schedW f) i i))) := by rw [cell_of_row _ _ _ _ _ _ st2.ru]; exact wordsA_get _ (by omega)
      have fz : w2.frozen? ⟨u, i, none⟩ = false := frozen_of_row _ _ _ _ _ st2.ru
      have QS := Lib.hid (rowSet_cell w2 u i 71 _ (.int .u32 (n32 (schedW f i))) st2.ru)
      have ST2 := Lib.hid st2
      have e : (((((f (4 * i)).setWidth 32 <<< 24) + ((f (4 * i + 1)).setWidth 32 <<< 16)) + ((f (4 * i + 2)).setWidth 32 <<< 8)) + ((f (4 * i + 3)).setWidth 32)) = schedW f i := (beW_add _ _ _ _).trans (schedW_low f hlt).symm
      rw [e]
      clear hw2 st2 e IX0 IX1 IX2 IX3 hw_0 hw_1 hw_2 hw_3
      go_wp2_with fail
      go_roundw
      case rel =>
        refine ⟨i + 1, by omega, by go_num, ST2.out.setU ?_ ho⟩
        have h := QS.out
        rw [wordsA_set, wordsA_congr (h := sofar (schedW f) (i + 1)) (fun j _ => upto_set _ _ _)] at h
        exact h
      case measure => (simp [intOf] <;> omega)
    · obtain rfl : i = 16 := by omega
      clear hlt hi
      have S1 := ST
      clear ST
      go_wp2_with fail
      go_loopw [8] (fun s8 wr => ∃ i : Nat, 16 ≤ i ∧ i ≤ 64 ∧ s8 = .int .i64 (i : Int) ∧ BlkSt w q r s u v.get (sofar (schedW f) i) wr) (fun s8 _ => 64 - (intOf s8).toNat)
      case atStart => exact ⟨16, by omega, by omega, rfl, S1.out⟩
      case round =>
        clear S1
        obtain ⟨i, hi16, hi, rfl, st⟩ := hrel
        have ST := Lib.hid st
        clear st
        have HQS := Lib.hid (Nat.le_of_lt (lt_row ST.out.rq))
        by_cases hlt : i < 64
        · have hlI : (i : Int) < 64 := by omega
          have KC2 : ∀ w2 : World, w2.heap = wr.heap ∧ Below q w w2 → w2.cell? ⟨u, i - 2, none⟩ = some (.int .u32 (n32 (schedW f (i - 2)))) := fun w2 h => by
            rw [cell_of_row _ _ _ _ _ _ (by rw [h.1]; exact ST.out.ru), wordsA_get _ (by omega)]
            unfold sofar
            rw [if_pos (by omega)]
          have hw_2 : IntKind.i64.wrap ((i : Int) - 2) = ((i : Int) - 2) := by rw [IntKind.wrap_i64]; omega
          have hn2 : (0 : Int) ≤ ((i : Int) - 2) := by omega
          have hm2 : (2 : Int) ≤ (i : Int) := by omega
          have hl2 : ((i : Int) - 2) < 64 := by omega
          have ht2 : (((i : Int) - 2)).toNat = i - 2 := by omega
          have KC7 : ∀ w2 : World, w2.heap = wr.heap ∧ Below q w w2 → w2.cell? ⟨u, i - 7, none⟩ = some (.int .u32 (n32 (schedW f (i - 7)))) := fun w2 h => by
            rw [cell_of_row _ _ _ _ _ _ (by rw [h.1]; exact ST.out.ru), wordsA_get _ (by omega)]
            unfold sofar
            rw [if_pos (by omega)]
          have hw_7 : IntKind.i64.wrap ((i : Int) - 7) = ((i : Int) - 7) := by rw [IntKind.wrap_i64]; omega
          have hn7 : (0 : Int) ≤ ((i : Int) - 7) := by omega
          have hm7 : (7 : Int) ≤ (i : Int) := by omega
          have hl7 : ((i : Int) - 7) < 64 := by omega
          have ht7 : (((i : Int) - 7)).toNat = i - 7 := by omega
          have KC15 : ∀ w2 : World, w2.heap = wr.heap ∧ Below q w w2 → w2.cell? ⟨u, i - 15, none⟩ = some (.int .u32 (n32 (schedW f (i - 15)))) := fun w2 h => by
            rw [cell_of_row _ _ _ _ _ _ (by rw [h.1]; exact ST.out.ru), wordsA_get _ (by omega)]
            unfold sofar
            rw [if_pos (by omega)]
          have hw_15 : IntKind.i64.wrap ((i : Int) - 15) = ((i : Int) - 15) := by rw [IntKind.wrap_i64]; omega
          have hn15 : (0 : Int) ≤ ((i : Int) - 15) := by omega
          have hm15 : (15 : Int) ≤ (i : Int) := by omega
          have hl15 : ((i : Int) - 15) < 64 := by omega
          have ht15 : (((i : Int) - 15)).toNat = i - 15 := by omega
          have KC16 : ∀ w2 : World, w2.heap = wr.heap ∧ Below q w w2 → w2.cell? ⟨u, i - 16, none⟩ = some (.int .u32 (n32 (schedW f (i - 16)))) := fun w2 h => by
            rw [cell_of_row _ _ _ _ _ _ (by rw [h.1]; exact ST.out.ru), wordsA_get _ (by omega)]
            unfold sofar
            rw [if_pos (by omega)]
          have hw_16 : IntKind.i64.wrap ((i : Int) - 16) = ((i : Int) - 16) := by rw [IntKind.wrap_i64]; omega
          have hn16 : (0 : Int) ≤ ((i : Int) - 16) := by omega
          have hm16 : (16 : Int) ≤ (i : Int) := by omega
          have hl16 : ((i : Int) - 16) < 64 := by omega
          have ht16 : (((i : Int) - 16)).toNat = i - 16 := by omega
          go_upto_region 10 with (fail)
          refine region_class1 9 (fun w2 => w2.heap = wr.heap ∧ Below q w w2) mixedOrders (by kernel_rfl) ⟨rfl, ST.out.bel.drew⟩ rfl ?_
          refine wpQuiet_take (by rfl) (fun K hK => ⟨.int .i64 ((i : Int)), fun w2' hw2 => ?_, hK _ ?_⟩)
          · clear hw2; go_simp
          clear hK K
          simp only [Act.put, List.setIfInBounds_toArray, List.set_cons_succ, List.set_cons_zero]
          refine wpQuiet_take (by rfl) (fun K hK => ⟨.int .i64 (((i : Int) - 15)), fun w2' hw2 => ?_, hK _ ?_⟩)
          · clear hw2; go_simp
          clear hK K
          simp only [Act.put, List.setIfInBounds_toArray, List.set_cons_succ, List.set_cons_zero]
          refine wpQuiet_take (by rfl) (fun K hK => ⟨.pointer (some ⟨u, i - 15, none⟩), fun w2' hw2 => ?_, hK _ ?_⟩)
          · clear hw2; go_simp
          clear hK K
          simp only [Act.put, List.setIfInBounds_toArray, List.set_cons_succ, List.set_cons_zero]
          refine wpQuiet_take (by rfl) (fun K hK => ⟨.int .u32 (n32 (schedW f (i - 15))), fun w2' hw2 => ?_, hK _ ?_⟩)
          · have hc := KC15 w2' hw2
            clear hw2; go_simp
          clear hK K
          simp only [Act.put, List.setIfInBounds_toArray, List.set_cons_succ, List.set_cons_zero]
          refine wpQuiet_take (by rfl) (fun K hK => ⟨.int .i64 ((i : Int)), fun w2' hw2 => ?_, hK _ ?_⟩)
          · clear hw2; go_simp
          clear hK K
          simp only [Act.put, List.setIfInBounds_toArray, List.set_cons_succ, List.set_cons_zero]
          refine wpQuiet_take (by rfl) (fun K hK => ⟨.int .i64 (((i : Int) - 2)), fun w2' hw2 => ?_, hK _ ?_⟩)
          · clear hw2; go_simp
          clear hK K
          simp only [Act.put, List.setIfInBounds_toArray, List.set_cons_succ, List.set_cons_zero]
          refine wpQuiet_take (by rfl) (fun K hK => ⟨.pointer (some ⟨u, i - 2, none⟩), fun w2' hw2 => ?_, hK _ ?_⟩)
          · clear hw2; go_simp
          clear hK K
          simp only [Act.put, List.setIfInBounds_toArray, List.set_cons_succ, List.set_cons_zero]
          refine wpQuiet_take (by rfl) (fun K hK => ⟨.int .u32 (n32 (schedW f (i - 2))), fun w2' hw2 => ?_, hK _ ?_⟩)
          · have hc := KC2 w2' hw2
            clear hw2; go_simp
          clear hK K
          simp only [Act.put, List.setIfInBounds_toArray, List.set_cons_succ, List.set_cons_zero]
          refine wpQuiet_take (by rfl) (fun K hK => ⟨.int .u32 (n32 (schedW f (i - 15))), fun w2' hw2 => ?_, hK _ ?_⟩)
          · clear hw2; go_simp
          clear hK K
          simp only [Act.put, List.setIfInBounds_toArray, List.set_cons_succ, List.set_cons_zero]
          refine wpQuiet_take0 ?_
          intro w2 hw2
          have HW2 := Lib.hid hw2
          clear hw2
          go_upto_region 11 with (fail)
          refine region_class1 29 (fun w2 => w2.heap = wr.heap ∧ Below q w w2) mixedOrders (by kernel_rfl) ⟨HW2.out.1, HW2.out.2.drew⟩ rfl ?_
          refine wpQuiet_take (by rfl) (fun K hK => ⟨.int .i64 ((i : Int)), fun w2' hw2 => ?_, hK _ ?_⟩)
          · clear hw2; go_simp
          clear hK K
          simp only [Act.put, List.setIfInBounds_toArray, List.set_cons_succ, List.set_cons_zero]
          refine wpQuiet_take (by rfl) (fun K hK => ⟨.int .i64 ((i : Int)), fun w2' hw2 => ?_, hK _ ?_⟩)
          · clear hw2; go_simp
          clear hK K
          simp only [Act.put, List.setIfInBounds_toArray, List.set_cons_succ, List.set_cons_zero]
          refine wpQuiet_take (by rfl) (fun K hK => ⟨.int .i64 (((i : Int) - 16)), fun w2' hw2 => ?_, hK _ ?_⟩)
          · clear hw2; go_simp
          clear hK K
          simp only [Act.put, List.setIfInBounds_toArray, List.set_cons_succ, List.set_cons_zero]
          refine wpQuiet_take (by rfl) (fun K hK => ⟨.pointer (some ⟨u, i - 16, none⟩), fun w2' hw2 => ?_, hK _ ?_⟩)
          · clear hw2; go_simp
          clear hK K
          simp only [Act.put, List.setIfInBounds_toArray, List.set_cons_succ, List.set_cons_zero]
          refine wpQuiet_take (by rfl) (fun K hK => ⟨.int .u32 (n32 (schedW f (i - 16))), fun w2' hw2 => ?_, hK _ ?_⟩)
          · have hc := KC16 w2' hw2
            clear hw2; go_simp
          clear hK K
          simp only [Act.put, List.setIfInBounds_toArray, List.set_cons_succ, List.set_cons_zero]
          refine wpQuiet_take (by rfl) (fun K hK => ⟨.int .u32 (n32 (schedW f (i - 15))), fun w2' hw2 => ?_, hK _ ?_⟩)
          · clear hw2; go_simp
          clear hK K
          simp only [Act.put, List.setIfInBounds_toArray, List.set_cons_succ, List.set_cons_zero]
          refine wpQuiet_take (by rfl) (fun K hK => ⟨.int .u32 (n32 (rotR (schedW f (i - 15)) 7)), fun w2' hw2 => ?_, hK _ ?_⟩)
          · go_simp
            go_at_call 36
            with_reducible refine (rturn7 _ w2').mono ?_
            rintro e w4 ⟨rfl, hb4, hh4⟩
            exact ⟨rfl, hh4.trans hw2.1, hw2.2.trans (hb4.mono (by rw [hw2.1]; exact HQS.out))⟩
          clear hK K
          simp only [Act.put, List.setIfInBounds_toArray, List.set_cons_succ, List.set_cons_zero]
          refine wpQuiet_take (by rfl) (fun K hK => ⟨.int .u32 (n32 (schedW f (i - 15))), fun w2' hw2 => ?_, hK _ ?_⟩)
          · clear hw2; go_simp
          clear hK K
          simp only [Act.put, List.setIfInBounds_toArray, List.set_cons_succ, List.set_cons_zero]
          refine wpQuiet_take (by rfl) (fun K hK => ⟨.int .u32 (n32 (rotR (schedW f (i - 15)) 18)), fun w2' hw2 => ?_, hK _ ?_⟩)
          · go_simp
            go_at_call 36
            with_reducible refine (rturn18 _ w2').mono ?_
            rintro e w4 ⟨rfl, hb4, hh4⟩
            exact ⟨rfl, hh4.trans hw2.1, hw2.2.trans (hb4.mono (by rw [hw2.1]; exact HQS.out))⟩
          clear hK K
          simp only [Act.put, List.setIfInBounds_toArray, List.set_cons_succ, List.set_cons_zero]
          refine wpQuiet_take (by rfl) (fun K hK => ⟨.int .u32 (n32 (rotR (schedW f (i - 15)) 7 ^^^ rotR (schedW f (i - 15)) 18)), fun w2' hw2 => ?_, hK _ ?_⟩)
          · clear hw2; go_simp
          clear hK K
          simp only [Act.put, List.setIfInBounds_toArray, List.set_cons_succ, List.set_cons_zero]
          refine wpQuiet_take (by rfl) (fun K hK => ⟨.int .u32 (n32 (schedW f (i - 15))), fun w2' hw2 => ?_, hK _ ?_⟩)
          · clear hw2; go_simp
          clear hK K
          simp only [Act.put, List.setIfInBounds_toArray, List.set_cons_succ, List.set_cons_zero]
          refine wpQuiet_take (by rfl) (fun K hK => ⟨.int .u32 (n32 ((schedW f (i - 15)) >>> 3)), fun w2' hw2 => ?_, hK _ ?_⟩)
          · clear hw2; go_simp
          clear hK K
          simp only [Act.put, List.setIfInBounds_toArray, List.set_cons_succ, List.set_cons_zero]
          refine wpQuiet_take (by rfl) (fun K hK => ⟨.int .u32 (n32 (rotR (schedW f (i - 15)) 7 ^^^ rotR (schedW f (i - 15)) 18 ^^^ (schedW f (i - 15)) >>> 3)), fun w2' hw2 => ?_, hK _ ?_⟩)
          · clear hw2; go_simp
          clear hK K
          simp only [Act.put, List.setIfInBounds_toArray, List.set_cons_succ, List.set_cons_zero]
          refine wpQuiet_take (by rfl) (fun K hK => ⟨.int .u32 (n32 (schedW f (i - 16) + (rotR (schedW f (i - 15)) 7 ^^^ rotR (schedW f (i - 15)) 18 ^^^ (schedW f (i - 15)) >>> 3))), fun w2' hw2 => ?_, hK _ ?_⟩)
          · clear hw2; go_simp
          clear hK K
          simp only [Act.put, List.setIfInBounds_toArray, List.set_cons_succ, List.set_cons_zero]
          refine wpQuiet_take (by rfl) (fun K hK => ⟨.int .i64 ((i : Int)), fun w2' hw2 => ?_, hK _ ?_⟩)
          · clear hw2; go_simp
          clear hK K
          simp only [Act.put, List.setIfInBounds_toArray, List.set_cons_succ, List.set_cons_zero]
          refine wpQuiet_take (by rfl) (fun K hK => ⟨.int .i64 (((i : Int) - 7)), fun w2' hw2 => ?_, hK _ ?_⟩)
          · clear hw2; go_simp
          clear hK K
          simp only [Act.put, List.setIfInBounds_toArray, List.set_cons_succ, List.set_cons_zero]
          refine wpQuiet_take (by rfl) (fun K hK => ⟨.pointer (some ⟨u, i - 7, none⟩), fun w2' hw2 => ?_, hK _ ?_⟩)
          · clear hw2; go_simp
          clear hK K
          simp only [Act.put, List.setIfInBounds_toArray, List.set_cons_succ, List.set_cons_zero]
          refine wpQuiet_take (by rfl) (fun K hK => ⟨.int .u32 (n32 (schedW f (i - 7))), fun w2' hw2 => ?_, hK _ ?_⟩)
          · have hc := KC7 w2' hw2
            clear hw2; go_simp
          clear hK K
          simp only [Act.put, List.setIfInBounds_toArray, List.set_cons_succ, List.set_cons_zero]
          refine wpQuiet_take (by rfl) (fun K hK => ⟨.int .u32 (n32 (schedW f (i - 16) + (rotR (schedW f (i - 15)) 7 ^^^ rotR (schedW f (i - 15)) 18 ^^^ (schedW f (i - 15)) >>> 3) + schedW f (i - 7))), fun w2' hw2 => ?_, hK _ ?_⟩)
          · clear hw2; go_simp
          clear hK K
          simp only [Act.put, List.setIfInBounds_toArray, List.set_cons_succ, List.set_cons_zero]
          refine wpQuiet_take (by rfl) (fun K hK => ⟨.int .u32 (n32 (schedW f (i - 2))), fun w2' hw2 => ?_, hK _ ?_⟩)
          · clear hw2; go_simp
          clear hK K
          simp only [Act.put, List.setIfInBounds_toArray, List.set_cons_succ, List.set_cons_zero]
          refine wpQuiet_take (by rfl) (fun K hK => ⟨.int .u32 (n32 (rotR (schedW f (i - 2)) 17)), fun w2' hw2 => ?_, hK _ ?_⟩)
          · go_simp
            go_at_call 36
            with_reducible refine (rturn17 _ w2').mono ?_
            rintro e w4 ⟨rfl, hb4, hh4⟩
            exact ⟨rfl, hh4.trans hw2.1, hw2.2.trans (hb4.mono (by rw [hw2.1]; exact HQS.out))⟩
          clear hK K
          simp only [Act.put, List.setIfInBounds_toArray, List.set_cons_succ, List.set_cons_zero]
          refine wpQuiet_take (by rfl) (fun K hK => ⟨.int .u32 (n32 (schedW f (i - 2))), fun w2' hw2 => ?_, hK _ ?_⟩)
          · clear hw2; go_simp
          clear hK K
          simp only [Act.put, List.setIfInBounds_toArray, List.set_cons_succ, List.set_cons_zero]
          refine wpQuiet_take (by rfl) (fun K hK => ⟨.int .u32 (n32 (rotR (schedW f (i - 2)) 19)), fun w2' hw2 => ?_, hK _ ?_⟩)
          · go_simp
            go_at_call 36
            with_reducible refine (rturn19 _ w2').mono ?_
            rintro e w4 ⟨rfl, hb4, hh4⟩
            exact ⟨rfl, hh4.trans hw2.1, hw2.2.trans (hb4.mono (by rw [hw2.1]; exact HQS.out))⟩
          clear hK K
          simp only [Act.put, List.setIfInBounds_toArray, List.set_cons_succ, List.set_cons_zero]
          refine wpQuiet_take (by rfl) (fun K hK => ⟨.int .u32 (n32 (rotR (schedW f (i - 2)) 17 ^^^ rotR (schedW f (i - 2)) 19)), fun w2' hw2 => ?_, hK _ ?_⟩)
          · clear hw2; go_simp
          clear hK K
          simp only [Act.put, List.setIfInBounds_toArray, List.set_cons_succ, List.set_cons_zero]
          refine wpQuiet_take (by rfl) (fun K hK => ⟨.int .u32 (n32 (schedW f (i - 2))), fun w2' hw2 => ?_, hK _ ?_⟩)
          · clear hw2; go_simp
          clear hK K
          simp only [Act.put, List.setIfInBounds_toArray, List.set_cons_succ, List.set_cons_zero]
          refine wpQuiet_take (by rfl) (fun K hK => ⟨.int .u32 (n32 ((schedW f (i - 2)) >>> 10)), fun w2' hw2 => ?_, hK _ ?_⟩)
          · clear hw2; go_simp
          clear hK K
          simp only [Act.put, List.setIfInBounds_toArray, List.set_cons_succ, List.set_cons_zero]
          refine wpQuiet_take (by rfl) (fun K hK => ⟨.int .u32 (n32 (rotR (schedW f (i - 2)) 17 ^^^ rotR (schedW f (i - 2)) 19 ^^^ (schedW f (i - 2)) >>> 10)), fun w2' hw2 => ?_, hK _ ?_⟩)
          · clear hw2; go_simp
          clear hK K
          simp only [Act.put, List.setIfInBounds_toArray, List.set_cons_succ, List.set_cons_zero]
          refine wpQuiet_take (by rfl) (fun K hK => ⟨.int .u32 (n32 (schedW f (i - 16) + (rotR (schedW f (i - 15)) 7 ^^^ rotR (schedW f (i - 15)) 18 ^^^ (schedW f (i - 15)) >>> 3) + schedW f (i - 7) + (rotR (schedW f (i - 2)) 17 ^^^ rotR (schedW f (i - 2)) 19 ^^^ (schedW f (i - 2)) >>> 10))), fun w2' hw2 => ?_, hK _ ?_⟩)
          · clear hw2; go_simp
          clear hK K
          simp only [Act.put, List.setIfInBounds_toArray, List.set_cons_succ, List.set_cons_zero]
          refine wpQuiet_take (by rfl) (fun K hK => ⟨.pointer (some ⟨u, i, none⟩), fun w2' hw2 => ?_, hK _ ?_⟩)
          · clear hw2; go_simp
          clear hK K
          simp only [Act.put, List.setIfInBounds_toArray, List.set_cons_succ, List.set_cons_zero]
          refine wpQuiet_take0 ?_
          intro w3 hw3
          have st3 := ST.out.heap hw3.1 hw3.2
          have kc : w3.cell? ⟨u, i, none⟩ = some (.int .u32 (n32 (sofar (schedW f) i i))) := by rw [cell_of_row _ _ _ _ _ _ st3.ru]; exact wordsA_get _ (by omega)
          have fz : w3.frozen? ⟨u, i, none⟩ = false := frozen_of_row _ _ _ _ _ st3.ru
          have QS := Lib.hid (rowSet_cell w3 u i 71 _ (.int .u32 (n32 (schedW f i))) st3.ru)
          have ST3 := Lib.hid st3
          have e : schedW f (i - 16) + (rotR (schedW f (i - 15)) 7 ^^^ rotR (schedW f (i - 15)) 18 ^^^ (schedW f (i - 15)) >>> 3) + schedW f (i - 7) + (rotR (schedW f (i - 2)) 17 ^^^ rotR (schedW f (i - 2)) 19 ^^^ (schedW f (i - 2)) >>> 10) = schedW f i := by
            have h := schedW_doc f hi16
            unfold sig0 sig1 at h
            exact h
          rw [e]
          clear hw3 st3 e KC2 KC7 KC15 KC16 HW2
          go_wp2_with fail
          go_roundw
          case rel =>
            refine ⟨i + 1, by omega, by omega, by go_num, ST3.out.setU ?_ ho⟩
            have h := QS.out
            rw [wordsA_set, wordsA_congr (h := sofar (schedW f) (i + 1)) (fun j _ => upto_set _ _ _)] at h
            exact h
          case measure => (simp [intOf] <;> omega)
        · obtain rfl : i = 64 := by omega
          have st1 : BlkSt w q r s u v.get (schedW f) wr := ⟨ST.out.bel, ST.out.rq, ST.out.rr, ST.out.rs, by
            have h := ST.out.ru
            rw [wordsA_congr (h := schedW f) (fun j hj => by unfold sofar; rw [if_pos hj])] at h
            exact h⟩
          clear ST hlt hi hi16
          have S1 := Lib.hid st1
          have HUW := Lib.hid (lt_row st1.ru)
          clear st1
          go_upto_region 12 with fail
          go_step
          refine wpList_load_row rfl 57 _ rfl q rfl _ _ (0, 0) _ S1.out.rq Tryd.underlying57 rfl (by rw [wordsA_size]; kernel_rfl) ?_
          simp only [Act.put, List.setIfInBounds_toArray, List.set_cons_succ, List.set_cons_zero]
          refine wpList_alloc_row (o := ⟨some 11, .alloc 57, _, _, _, _⟩) rfl 57 rfl _ hz8 ?_
          simp only [Act.put, List.setIfInBounds_toArray, List.set_cons_succ, List.set_cons_zero]
          refine wpList_store_new (o := ⟨none, .store 57 (.tmp 11) (.tmp 95), _, _, _, _⟩) rfl 57 _ _ rfl (Array.replicate 8 (.int .u32 0)) (wordsA v.get 8) _ rfl rfl rfl (by rw [wordsA_size]; kernel_rfl) (by rw [wordsA_size]; rfl) (wordsA_one _ _) ?_
          simp only [Act.put, List.setIfInBounds_toArray, List.set_cons_succ, List.set_cons_zero]
          go_upto_region 13 with fail
          obtain ⟨wb, hwb⟩ : ∃ wb, wr.alloc (.cells (wordsA v.get 8) 57) = wb := ⟨_, rfl⟩
          have hal : Below wr.heap.size wr wb := by rw [← hwb]; exact (Below.refl _ _).alloc (Nat.le_refl _) _
          have hrt : wb.heap[wr.heap.size]? = some (.cells (wordsA v.get 8) 57 (0, 0)) := by rw [← hwb]; exact heap_alloc_last _ _
          obtain ⟨t, ht⟩ : ∃ t, wr.heap.size = t := ⟨_, rfl⟩
          rw [ht] at hrt hal
          have hut : u < t := by have := HUW.out; omega
          simp only [hwb, ht]
          have SB := Lib.hid (show BlkSt w q r s u v.get (schedW f) wb from ⟨S1.out.bel.trans (hal.mono (by omega)), (hal.block q (by omega)).trans S1.out.rq, (hal.block r (by omega)).trans S1.out.rr, (hal.block s (by omega)).trans S1.out.rs, (hal.block u (by omega)).trans S1.out.ru⟩)
          have RT := Lib.hid hrt
          clear hal hrt ht hwb S1 HUW HQS
          go_wp2_with fail
          go_loopw [12] (fun s12 wr => ∃ (i : Nat) (V : W8), i ≤ 64 ∧ Hid (W8.steps kW (schedW f) v i = V) ∧ s12 = .int .i64 (i : Int) ∧ BlkSt w q r s u v.get (schedW f) wr ∧ wr.heap[t]? = some (.cells (wordsA V.get 8) 57 (0, 0))) (fun s12 _ => 64 - (intOf s12).toNat)
          case atStart => exact ⟨0, v, by omega, Lib.hid rfl, rfl, SB.out, RT.out⟩
          case round =>
            clear SB RT
            obtain ⟨i, V, hi, HV, rfl, st, rt⟩ := hrel
            have ST := Lib.hid st
            have RT := Lib.hid rt
            clear st rt
            have HQS := Lib.hid (Nat.le_of_lt (lt_row ST.out.rq))
            by_cases hlt : i < 64
            · have hlI : (i : Int) < 64 := by omega
              have hlI' : (i : Int) < (64 : Nat) := by omega
              have KV0 : ∀ w2 : World, w2.heap = wr.heap ∧ Below q w w2 → w2.cell? ⟨t, 0, none⟩ = some (.int .u32 (n32 V.a)) := fun w2 h => by rw [cell_of_row _ _ _ _ _ _ (by rw [h.1]; exact RT.out)]; exact wordsA_get V.get (n := 8) (by omega)
              have KV1 : ∀ w2 : World, w2.heap = wr.heap ∧ Below q w w2 → w2.cell? ⟨t, 1, none⟩ = some (.int .u32 (n32 V.b)) := fun w2 h => by rw [cell_of_row _ _ _ _ _ _ (by rw [h.1]; exact RT.out)]; exact wordsA_get V.get (n := 8) (by omega)
              have KV2 : ∀ w2 : World, w2.heap = wr.heap ∧ Below q w w2 → w2.cell? ⟨t, 2, none⟩ = some (.int .u32 (n32 V.c)) := fun w2 h => by rw [cell_of_row _ _ _ _ _ _ (by rw [h.1]; exact RT.out)]; exact wordsA_get V.get (n := 8) (by omega)
              have KV3 : ∀ w2 : World, w2.heap = wr.heap ∧ Below q w w2 → w2.cell? ⟨t, 3, none⟩ = some (.int .u32 (n32 V.d)) := fun w2 h => by rw [cell_of_row _ _ _ _ _ _ (by rw [h.1]; exact RT.out)]; exact wordsA_get V.get (n := 8) (by omega)
              have KV4 : ∀ w2 : World, w2.heap = wr.heap ∧ Below q w w2 → w2.cell? ⟨t, 4, none⟩ = some (.int .u32 (n32 V.e)) := fun w2 h => by rw [cell_of_row _ _ _ _ _ _ (by rw [h.1]; exact RT.out)]; exact wordsA_get V.get (n := 8) (by omega)
              have KV5 : ∀ w2 : World, w2.heap = wr.heap ∧ Below q w w2 → w2.cell? ⟨t, 5, none⟩ = some (.int .u32 (n32 V.f)) := fun w2 h => by rw [cell_of_row _ _ _ _ _ _ (by rw [h.1]; exact RT.out)]; exact wordsA_get V.get (n := 8) (by omega)
              have KV6 : ∀ w2 : World, w2.heap = wr.heap ∧ Below q w w2 → w2.cell? ⟨t, 6, none⟩ = some (.int .u32 (n32 V.g)) := fun w2 h => by rw [cell_of_row _ _ _ _ _ _ (by rw [h.1]; exact RT.out)]; exact wordsA_get V.get (n := 8) (by omega)
              have KV7 : ∀ w2 : World, w2.heap = wr.heap ∧ Below q w w2 → w2.cell? ⟨t, 7, none⟩ = some (.int .u32 (n32 V.h)) := fun w2 h => by rw [cell_of_row _ _ _ _ _ _ (by rw [h.1]; exact RT.out)]; exact wordsA_get V.get (n := 8) (by omega)
              have KK : ∀ w2 : World, w2.heap = wr.heap ∧ Below q w w2 → w2.cell? ⟨s, i, none⟩ = some (.int .u32 (n32 (kW i))) := fun w2 h => by rw [cell_of_row _ _ _ _ _ _ (by rw [h.1]; exact ST.out.rs)]; exact wordsA_get _ hlt
              have KW : ∀ w2 : World, w2.heap = wr.heap ∧ Below q w w2 → w2.cell? ⟨u, i, none⟩ = some (.int .u32 (n32 (schedW f i))) := fun w2 h => by rw [cell_of_row _ _ _ _ _ _ (by rw [h.1]; exact ST.out.ru)]; exact wordsA_get _ hlt
              go_upto_region 16 with (fail)
              refine region_class1 5 (fun w2 => w2.heap = wr.heap ∧ Below q w w2) mixedOrders (by kernel_rfl) ⟨rfl, ST.out.bel.drew⟩ rfl ?_
              refine wpQuiet_take (by rfl) (fun K hK => ⟨.pointer (some ⟨t, 4, none⟩), fun w2' hw2 => ?_, hK _ ?_⟩)
              · clear hw2; go_simp
              clear hK K
              simp only [Act.put, List.setIfInBounds_toArray, List.set_cons_succ, List.set_cons_zero]
              refine wpQuiet_take (by rfl) (fun K hK => ⟨.int .u32 (n32 (V.e)), fun w2' hw2 => ?_, hK _ ?_⟩)
              · have hc := KV4 w2' hw2
                clear hw2; go_simp
              clear hK K
              simp only [Act.put, List.setIfInBounds_toArray, List.set_cons_succ, List.set_cons_zero]
              refine wpQuiet_take (by rfl) (fun K hK => ⟨.pointer (some ⟨t, 0, none⟩), fun w2' hw2 => ?_, hK _ ?_⟩)
              · clear hw2; go_simp
              clear hK K
              simp only [Act.put, List.setIfInBounds_toArray, List.set_cons_succ, List.set_cons_zero]
              refine wpQuiet_take (by rfl) (fun K hK => ⟨.int .u32 (n32 (V.a)), fun w2' hw2 => ?_, hK _ ?_⟩)
              · have hc := KV0 w2' hw2
                clear hw2; go_simp
              clear hK K
              simp only [Act.put, List.setIfInBounds_toArray, List.set_cons_succ, List.set_cons_zero]
              refine wpQuiet_take (by rfl) (fun K hK => ⟨.int .u32 (n32 (V.e)), fun w2' hw2 => ?_, hK _ ?_⟩)
              · clear hw2; go_simp
              clear hK K
              simp only [Act.put, List.setIfInBounds_toArray, List.set_cons_succ, List.set_cons_zero]
              refine wpQuiet_take0 ?_
              intro w2 hw2
              have HW2 := Lib.hid hw2
              clear hw2
              go_upto_region 17 with (fail)
              refine region_class1 31 (fun w2 => w2.heap = wr.heap ∧ Below q w w2) mixedOrders (by kernel_rfl) ⟨HW2.out.1, HW2.out.2.drew⟩ rfl ?_
              refine wpQuiet_take (by rfl) (fun K hK => ⟨.pointer (some ⟨t, 7, none⟩), fun w2' hw2 => ?_, hK _ ?_⟩)
              · clear hw2; go_simp
              clear hK K
              simp only [Act.put, List.setIfInBounds_toArray, List.set_cons_succ, List.set_cons_zero]
              refine wpQuiet_take (by rfl) (fun K hK => ⟨.int .u32 (n32 (V.h)), fun w2' hw2 => ?_, hK _ ?_⟩)
              · have hc := KV7 w2' hw2
                clear hw2; go_simp
              clear hK K
              simp only [Act.put, List.setIfInBounds_toArray, List.set_cons_succ, List.set_cons_zero]
              refine wpQuiet_take (by rfl) (fun K hK => ⟨.int .u32 (n32 (V.e)), fun w2' hw2 => ?_, hK _ ?_⟩)
              · clear hw2; go_simp
              clear hK K
              simp only [Act.put, List.setIfInBounds_toArray, List.set_cons_succ, List.set_cons_zero]
              refine wpQuiet_take (by rfl) (fun K hK => ⟨.int .u32 (n32 (rotR (V.e) 6)), fun w2' hw2 => ?_, hK _ ?_⟩)
              · go_simp
                go_at_call 36
                with_reducible refine (rturn6 _ w2').mono ?_
                rintro e w4 ⟨rfl, hb4, hh4⟩
                exact ⟨rfl, hh4.trans hw2.1, hw2.2.trans (hb4.mono (by rw [hw2.1]; exact HQS.out))⟩
              clear hK K
              simp only [Act.put, List.setIfInBounds_toArray, List.set_cons_succ, List.set_cons_zero]
              refine wpQuiet_take (by rfl) (fun K hK => ⟨.int .u32 (n32 (V.e)), fun w2' hw2 => ?_, hK _ ?_⟩)
              · clear hw2; go_simp
              clear hK K
              simp only [Act.put, List.setIfInBounds_toArray, List.set_cons_succ, List.set_cons_zero]
              refine wpQuiet_take (by rfl) (fun K hK => ⟨.int .u32 (n32 (rotR (V.e) 11)), fun w2' hw2 => ?_, hK _ ?_⟩)
              · go_simp
                go_at_call 36
                with_reducible refine (rturn11 _ w2').mono ?_
                rintro e w4 ⟨rfl, hb4, hh4⟩
                exact ⟨rfl, hh4.trans hw2.1, hw2.2.trans (hb4.mono (by rw [hw2.1]; exact HQS.out))⟩
              clear hK K
              simp only [Act.put, List.setIfInBounds_toArray, List.set_cons_succ, List.set_cons_zero]
              refine wpQuiet_take (by rfl) (fun K hK => ⟨.int .u32 (n32 (rotR V.e 6 ^^^ rotR V.e 11)), fun w2' hw2 => ?_, hK _ ?_⟩)
              · clear hw2; go_simp
              clear hK K
              simp only [Act.put, List.setIfInBounds_toArray, List.set_cons_succ, List.set_cons_zero]
              refine wpQuiet_take (by rfl) (fun K hK => ⟨.int .u32 (n32 (V.e)), fun w2' hw2 => ?_, hK _ ?_⟩)
              · clear hw2; go_simp
              clear hK K
              simp only [Act.put, List.setIfInBounds_toArray, List.set_cons_succ, List.set_cons_zero]
              refine wpQuiet_take (by rfl) (fun K hK => ⟨.int .u32 (n32 (rotR (V.e) 25)), fun w2' hw2 => ?_, hK _ ?_⟩)
              · go_simp
                go_at_call 36
                with_reducible refine (rturn25 _ w2').mono ?_
                rintro e w4 ⟨rfl, hb4, hh4⟩
                exact ⟨rfl, hh4.trans hw2.1, hw2.2.trans (hb4.mono (by rw [hw2.1]; exact HQS.out))⟩
              clear hK K
              simp only [Act.put, List.setIfInBounds_toArray, List.set_cons_succ, List.set_cons_zero]
              refine wpQuiet_take (by rfl) (fun K hK => ⟨.int .u32 (n32 (rotR V.e 6 ^^^ rotR V.e 11 ^^^ rotR V.e 25)), fun w2' hw2 => ?_, hK _ ?_⟩)
              · clear hw2; go_simp
              clear hK K
              simp only [Act.put, List.setIfInBounds_toArray, List.set_cons_succ, List.set_cons_zero]
              refine wpQuiet_take (by rfl) (fun K hK => ⟨.int .u32 (n32 (V.h + (rotR V.e 6 ^^^ rotR V.e 11 ^^^ rotR V.e 25))), fun w2' hw2 => ?_, hK _ ?_⟩)
              · clear hw2; go_simp
              clear hK K
              simp only [Act.put, List.setIfInBounds_toArray, List.set_cons_succ, List.set_cons_zero]
              refine wpQuiet_take (by rfl) (fun K hK => ⟨.int .u32 (n32 (V.e)), fun w2' hw2 => ?_, hK _ ?_⟩)
              · clear hw2; go_simp
              clear hK K
              simp only [Act.put, List.setIfInBounds_toArray, List.set_cons_succ, List.set_cons_zero]
              refine wpQuiet_take (by rfl) (fun K hK => ⟨.pointer (some ⟨t, 5, none⟩), fun w2' hw2 => ?_, hK _ ?_⟩)
              · clear hw2; go_simp
              clear hK K
              simp only [Act.put, List.setIfInBounds_toArray, List.set_cons_succ, List.set_cons_zero]
              refine wpQuiet_take (by rfl) (fun K hK => ⟨.int .u32 (n32 (V.f)), fun w2' hw2 => ?_, hK _ ?_⟩)
              · have hc := KV5 w2' hw2
                clear hw2; go_simp
              clear hK K
              simp only [Act.put, List.setIfInBounds_toArray, List.set_cons_succ, List.set_cons_zero]
              refine wpQuiet_take (by rfl) (fun K hK => ⟨.int .u32 (n32 (V.e &&& V.f)), fun w2' hw2 => ?_, hK _ ?_⟩)
              · clear hw2; go_simp
              clear hK K
              simp only [Act.put, List.setIfInBounds_toArray, List.set_cons_succ, List.set_cons_zero]
              refine wpQuiet_take (by rfl) (fun K hK => ⟨.int .u32 (n32 (V.e)), fun w2' hw2 => ?_, hK _ ?_⟩)
              · clear hw2; go_simp
              clear hK K
              simp only [Act.put, List.setIfInBounds_toArray, List.set_cons_succ, List.set_cons_zero]
              refine wpQuiet_take (by rfl) (fun K hK => ⟨.int .u32 (n32 (~~~V.e)), fun w2' hw2 => ?_, hK _ ?_⟩)
              · clear hw2; go_simp
              clear hK K
              simp only [Act.put, List.setIfInBounds_toArray, List.set_cons_succ, List.set_cons_zero]
              refine wpQuiet_take (by rfl) (fun K hK => ⟨.pointer (some ⟨t, 6, none⟩), fun w2' hw2 => ?_, hK _ ?_⟩)
              · clear hw2; go_simp
              clear hK K
              simp only [Act.put, List.setIfInBounds_toArray, List.set_cons_succ, List.set_cons_zero]
              refine wpQuiet_take (by rfl) (fun K hK => ⟨.int .u32 (n32 (V.g)), fun w2' hw2 => ?_, hK _ ?_⟩)
              · have hc := KV6 w2' hw2
                clear hw2; go_simp
              clear hK K
              simp only [Act.put, List.setIfInBounds_toArray, List.set_cons_succ, List.set_cons_zero]
              refine wpQuiet_take (by rfl) (fun K hK => ⟨.int .u32 (n32 (~~~V.e &&& V.g)), fun w2' hw2 => ?_, hK _ ?_⟩)
              · clear hw2; go_simp
              clear hK K
              simp only [Act.put, List.setIfInBounds_toArray, List.set_cons_succ, List.set_cons_zero]
              refine wpQuiet_take (by rfl) (fun K hK => ⟨.int .u32 (n32 ((V.e &&& V.f) ^^^ (~~~V.e &&& V.g))), fun w2' hw2 => ?_, hK _ ?_⟩)
              · clear hw2; go_simp
              clear hK K
              simp only [Act.put, List.setIfInBounds_toArray, List.set_cons_succ, List.set_cons_zero]
              refine wpQuiet_take (by rfl) (fun K hK => ⟨.int .u32 (n32 (V.h + (rotR V.e 6 ^^^ rotR V.e 11 ^^^ rotR V.e 25) + ((V.e &&& V.f) ^^^ (~~~V.e &&& V.g)))), fun w2' hw2 => ?_, hK _ ?_⟩)
              · clear hw2; go_simp
              clear hK K
              simp only [Act.put, List.setIfInBounds_toArray, List.set_cons_succ, List.set_cons_zero]
              refine wpQuiet_take (by rfl) (fun K hK => ⟨.slice (some ⟨s, 0, none⟩) 64 64, fun w2' hw2 => ?_, hK _ ?_⟩)
              · clear hw2; go_simp
              clear hK K
              simp only [Act.put, List.setIfInBounds_toArray, List.set_cons_succ, List.set_cons_zero]
              refine wpQuiet_take (by rfl) (fun K hK => ⟨.int .i64 ((i : Int)), fun w2' hw2 => ?_, hK _ ?_⟩)
              · clear hw2; go_simp
              clear hK K
              simp only [Act.put, List.setIfInBounds_toArray, List.set_cons_succ, List.set_cons_zero]
              refine wpQuiet_take (by rfl) (fun K hK => ⟨.pointer (some ⟨s, i, none⟩), fun w2' hw2 => ?_, hK _ ?_⟩)
              · clear hw2; go_simp
              clear hK K
              simp only [Act.put, List.setIfInBounds_toArray, List.set_cons_succ, List.set_cons_zero]
              refine wpQuiet_take (by rfl) (fun K hK => ⟨.int .u32 (n32 (kW i)), fun w2' hw2 => ?_, hK _ ?_⟩)
              · have hc := KK w2' hw2
                clear hw2; go_simp
              clear hK K
              simp only [Act.put, List.setIfInBounds_toArray, List.set_cons_succ, List.set_cons_zero]
              refine wpQuiet_take (by rfl) (fun K hK => ⟨.int .u32 (n32 (V.h + (rotR V.e 6 ^^^ rotR V.e 11 ^^^ rotR V.e 25) + ((V.e &&& V.f) ^^^ (~~~V.e &&& V.g)) + kW i)), fun w2' hw2 => ?_, hK _ ?_⟩)
              · clear hw2; go_simp
              clear hK K
              simp only [Act.put, List.setIfInBounds_toArray, List.set_cons_succ, List.set_cons_zero]
              refine wpQuiet_take (by rfl) (fun K hK => ⟨.int .i64 ((i : Int)), fun w2' hw2 => ?_, hK _ ?_⟩)
              · clear hw2; go_simp
              clear hK K
              simp only [Act.put, List.setIfInBounds_toArray, List.set_cons_succ, List.set_cons_zero]
              refine wpQuiet_take (by rfl) (fun K hK => ⟨.pointer (some ⟨u, i, none⟩), fun w2' hw2 => ?_, hK _ ?_⟩)
              · clear hw2; go_simp
              clear hK K
              simp only [Act.put, List.setIfInBounds_toArray, List.set_cons_succ, List.set_cons_zero]
              refine wpQuiet_take (by rfl) (fun K hK => ⟨.int .u32 (n32 (schedW f i)), fun w2' hw2 => ?_, hK _ ?_⟩)
              · have hc := KW w2' hw2
                clear hw2; go_simp
              clear hK K
              simp only [Act.put, List.setIfInBounds_toArray, List.set_cons_succ, List.set_cons_zero]
              refine wpQuiet_take (by rfl) (fun K hK => ⟨.int .u32 (n32 (V.h + (rotR V.e 6 ^^^ rotR V.e 11 ^^^ rotR V.e 25) + ((V.e &&& V.f) ^^^ (~~~V.e &&& V.g)) + kW i + schedW f i)), fun w2' hw2 => ?_, hK _ ?_⟩)
              · clear hw2; go_simp
              clear hK K
              simp only [Act.put, List.setIfInBounds_toArray, List.set_cons_succ, List.set_cons_zero]
              refine wpQuiet_take0 ?_
              intro w3 hw3
              have HW3 := Lib.hid hw3
              have e1 : V.h + (rotR V.e 6 ^^^ rotR V.e 11 ^^^ rotR V.e 25) + ((V.e &&& V.f) ^^^ (~~~V.e &&& V.g)) + kW i + schedW f i = V.one (kW i) (schedW f i) := by unfold W8.one; rfl
              rw [e1]
              clear hw3 HW2 e1
              obtain ⟨O1, hO1⟩ : ∃ O, V.one (kW i) (schedW f i) = O := ⟨_, rfl⟩
              simp only [hO1]
              have HO1 := Lib.hid hO1
              clear hO1
              go_upto_region 18 with (fail)
              refine region_class1 24 (fun w2 => w2.heap = wr.heap ∧ Below q w w2) mixedOrders (by kernel_rfl) ⟨HW3.out.1, HW3.out.2.drew⟩ rfl ?_
              refine wpQuiet_take (by rfl) (fun K hK => ⟨.int .u32 (n32 (V.a)), fun w2' hw2 => ?_, hK _ ?_⟩)
              · clear hw2; go_simp
              clear hK K
              simp only [Act.put, List.setIfInBounds_toArray, List.set_cons_succ, List.set_cons_zero]
              refine wpQuiet_take (by rfl) (fun K hK => ⟨.int .u32 (n32 (rotR (V.a) 2)), fun w2' hw2 => ?_, hK _ ?_⟩)
              · go_simp
                go_at_call 36
                with_reducible refine (rturn2 _ w2').mono ?_
                rintro e w4 ⟨rfl, hb4, hh4⟩
                exact ⟨rfl, hh4.trans hw2.1, hw2.2.trans (hb4.mono (by rw [hw2.1]; exact HQS.out))⟩
              clear hK K
              simp only [Act.put, List.setIfInBounds_toArray, List.set_cons_succ, List.set_cons_zero]
              refine wpQuiet_take (by rfl) (fun K hK => ⟨.int .u32 (n32 (V.a)), fun w2' hw2 => ?_, hK _ ?_⟩)
              · clear hw2; go_simp
              clear hK K
              simp only [Act.put, List.setIfInBounds_toArray, List.set_cons_succ, List.set_cons_zero]
              refine wpQuiet_take (by rfl) (fun K hK => ⟨.int .u32 (n32 (rotR (V.a) 13)), fun w2' hw2 => ?_, hK _ ?_⟩)
              · go_simp
                go_at_call 36
                with_reducible refine (rturn13 _ w2').mono ?_
                rintro e w4 ⟨rfl, hb4, hh4⟩
                exact ⟨rfl, hh4.trans hw2.1, hw2.2.trans (hb4.mono (by rw [hw2.1]; exact HQS.out))⟩
              clear hK K
              simp only [Act.put, List.setIfInBounds_toArray, List.set_cons_succ, List.set_cons_zero]
              refine wpQuiet_take (by rfl) (fun K hK => ⟨.int .u32 (n32 (rotR V.a 2 ^^^ rotR V.a 13)), fun w2' hw2 => ?_, hK _ ?_⟩)
              · clear hw2; go_simp
              clear hK K
              simp only [Act.put, List.setIfInBounds_toArray, List.set_cons_succ, List.set_cons_zero]
              refine wpQuiet_take (by rfl) (fun K hK => ⟨.int .u32 (n32 (V.a)), fun w2' hw2 => ?_, hK _ ?_⟩)
              · clear hw2; go_simp
              clear hK K
              simp only [Act.put, List.setIfInBounds_toArray, List.set_cons_succ, List.set_cons_zero]
              refine wpQuiet_take (by rfl) (fun K hK => ⟨.int .u32 (n32 (rotR (V.a) 22)), fun w2' hw2 => ?_, hK _ ?_⟩)
              · go_simp
                go_at_call 36
                with_reducible refine (rturn22 _ w2').mono ?_
                rintro e w4 ⟨rfl, hb4, hh4⟩
                exact ⟨rfl, hh4.trans hw2.1, hw2.2.trans (hb4.mono (by rw [hw2.1]; exact HQS.out))⟩
              clear hK K
              simp only [Act.put, List.setIfInBounds_toArray, List.set_cons_succ, List.set_cons_zero]
              refine wpQuiet_take (by rfl) (fun K hK => ⟨.int .u32 (n32 (rotR V.a 2 ^^^ rotR V.a 13 ^^^ rotR V.a 22)), fun w2' hw2 => ?_, hK _ ?_⟩)
              · clear hw2; go_simp
              clear hK K
              simp only [Act.put, List.setIfInBounds_toArray, List.set_cons_succ, List.set_cons_zero]
              refine wpQuiet_take (by rfl) (fun K hK => ⟨.int .u32 (n32 (V.a)), fun w2' hw2 => ?_, hK _ ?_⟩)
              · clear hw2; go_simp
              clear hK K
              simp only [Act.put, List.setIfInBounds_toArray, List.set_cons_succ, List.set_cons_zero]
              refine wpQuiet_take (by rfl) (fun K hK => ⟨.pointer (some ⟨t, 1, none⟩), fun w2' hw2 => ?_, hK _ ?_⟩)
              · clear hw2; go_simp
              clear hK K
              simp only [Act.put, List.setIfInBounds_toArray, List.set_cons_succ, List.set_cons_zero]
              refine wpQuiet_take (by rfl) (fun K hK => ⟨.int .u32 (n32 (V.b)), fun w2' hw2 => ?_, hK _ ?_⟩)
              · have hc := KV1 w2' hw2
                clear hw2; go_simp
              clear hK K
              simp only [Act.put, List.setIfInBounds_toArray, List.set_cons_succ, List.set_cons_zero]
              refine wpQuiet_take (by rfl) (fun K hK => ⟨.int .u32 (n32 (V.a &&& V.b)), fun w2' hw2 => ?_, hK _ ?_⟩)
              · clear hw2; go_simp
              clear hK K
              simp only [Act.put, List.setIfInBounds_toArray, List.set_cons_succ, List.set_cons_zero]
              refine wpQuiet_take (by rfl) (fun K hK => ⟨.int .u32 (n32 (V.a)), fun w2' hw2 => ?_, hK _ ?_⟩)
              · clear hw2; go_simp
              clear hK K
              simp only [Act.put, List.setIfInBounds_toArray, List.set_cons_succ, List.set_cons_zero]
              refine wpQuiet_take (by rfl) (fun K hK => ⟨.pointer (some ⟨t, 2, none⟩), fun w2' hw2 => ?_, hK _ ?_⟩)
              · clear hw2; go_simp
              clear hK K
              simp only [Act.put, List.setIfInBounds_toArray, List.set_cons_succ, List.set_cons_zero]
              refine wpQuiet_take (by rfl) (fun K hK => ⟨.int .u32 (n32 (V.c)), fun w2' hw2 => ?_, hK _ ?_⟩)
              · have hc := KV2 w2' hw2
                clear hw2; go_simp
              clear hK K
              simp only [Act.put, List.setIfInBounds_toArray, List.set_cons_succ, List.set_cons_zero]
              refine wpQuiet_take (by rfl) (fun K hK => ⟨.int .u32 (n32 (V.a &&& V.c)), fun w2' hw2 => ?_, hK _ ?_⟩)
              · clear hw2; go_simp
              clear hK K
              simp only [Act.put, List.setIfInBounds_toArray, List.set_cons_succ, List.set_cons_zero]
              refine wpQuiet_take (by rfl) (fun K hK => ⟨.int .u32 (n32 ((V.a &&& V.b) ^^^ (V.a &&& V.c))), fun w2' hw2 => ?_, hK _ ?_⟩)
              · clear hw2; go_simp
              clear hK K
              simp only [Act.put, List.setIfInBounds_toArray, List.set_cons_succ, List.set_cons_zero]
              refine wpQuiet_take (by rfl) (fun K hK => ⟨.pointer (some ⟨t, 1, none⟩), fun w2' hw2 => ?_, hK _ ?_⟩)
              · clear hw2; go_simp
              clear hK K
              simp only [Act.put, List.setIfInBounds_toArray, List.set_cons_succ, List.set_cons_zero]
              refine wpQuiet_take (by rfl) (fun K hK => ⟨.int .u32 (n32 (V.b)), fun w2' hw2 => ?_, hK _ ?_⟩)
              · have hc := KV1 w2' hw2
                clear hw2; go_simp
              clear hK K
              simp only [Act.put, List.setIfInBounds_toArray, List.set_cons_succ, List.set_cons_zero]
              refine wpQuiet_take (by rfl) (fun K hK => ⟨.pointer (some ⟨t, 2, none⟩), fun w2' hw2 => ?_, hK _ ?_⟩)
              · clear hw2; go_simp
              clear hK K
              simp only [Act.put, List.setIfInBounds_toArray, List.set_cons_succ, List.set_cons_zero]
              refine wpQuiet_take (by rfl) (fun K hK => ⟨.int .u32 (n32 (V.c)), fun w2' hw2 => ?_, hK _ ?_⟩)
              · have hc := KV2 w2' hw2
                clear hw2; go_simp
              clear hK K
              simp only [Act.put, List.setIfInBounds_toArray, List.set_cons_succ, List.set_cons_zero]
              refine wpQuiet_take (by rfl) (fun K hK => ⟨.int .u32 (n32 (V.b &&& V.c)), fun w2' hw2 => ?_, hK _ ?_⟩)
              · clear hw2; go_simp
              clear hK K
              simp only [Act.put, List.setIfInBounds_toArray, List.set_cons_succ, List.set_cons_zero]
              refine wpQuiet_take (by rfl) (fun K hK => ⟨.int .u32 (n32 ((V.a &&& V.b) ^^^ (V.a &&& V.c) ^^^ (V.b &&& V.c))), fun w2' hw2 => ?_, hK _ ?_⟩)
              · clear hw2; go_simp
              clear hK K
              simp only [Act.put, List.setIfInBounds_toArray, List.set_cons_succ, List.set_cons_zero]
              refine wpQuiet_take (by rfl) (fun K hK => ⟨.int .u32 (n32 ((rotR V.a 2 ^^^ rotR V.a 13 ^^^ rotR V.a 22) + ((V.a &&& V.b) ^^^ (V.a &&& V.c) ^^^ (V.b &&& V.c)))), fun w2' hw2 => ?_, hK _ ?_⟩)
              · clear hw2; go_simp
              clear hK K
              simp only [Act.put, List.setIfInBounds_toArray, List.set_cons_succ, List.set_cons_zero]
              refine wpQuiet_take0 ?_
              intro w4 hw4
              have HW4 := Lib.hid hw4
              have e2 : (rotR V.a 2 ^^^ rotR V.a 13 ^^^ rotR V.a 22) + ((V.a &&& V.b) ^^^ (V.a &&& V.c) ^^^ (V.b &&& V.c)) = V.two := by unfold W8.two; rfl
              rw [e2]
              clear hw4 HW3 e2
              obtain ⟨O2, hO2⟩ : ∃ O, V.two = O := ⟨_, rfl⟩
              simp only [hO2]
              have HO2 := Lib.hid hO2
              clear hO2
              go_upto_region 19 with (fail)
              have st4 := ST.out.heap HW4.out.1 HW4.out.2
              have rt4 : w4.heap[t]? = some (.cells (wordsA V.get 8) 57 (0, 0)) := by rw [HW4.out.1]; exact RT.out
              have ST4 := Lib.hid st4
              have RT4 := Lib.hid rt4
              have kv0 := KV0 w4 HW4.out
              have kv1 := KV1 w4 HW4.out
              have kv2 := KV2 w4 HW4.out
              have kv3 := KV3 w4 HW4.out
              have kv4 := KV4 w4 HW4.out
              have kv5 := KV5 w4 HW4.out
              have kv6 := KV6 w4 HW4.out
              clear st4 rt4 KV0 KV1 KV2 KV3 KV4 KV5 KV6 KV7 KK KW HW4
              iterate 61 go_step
              refine wpList_store_row (op := ⟨none, .store 57 (.tmp 11) (.tmp 178), _, _, _, _⟩) rfl 57 _ _ rfl t _ _ (wordsA (W8.get ⟨O1 + O2, V.a, V.b, V.c, V.d + O1, V.e, V.f, V.g⟩) 8) rfl rfl RT4.out (by rw [wordsA_size, wordsA_size]) (by rw [wordsA_size]; kernel_rfl) (wordsA_one _ _) ?_
              intro w5 s5
              have S5 := Lib.hid s5
              clear s5
              simp only [Act.put, List.setIfInBounds_toArray, List.set_cons_succ, List.set_cons_zero]
              go_wp2_with fail
              go_roundw
              case rel =>
                refine ⟨i + 1, V.step (kW i) (schedW f i), by omega, Lib.hid (by show (W8.steps kW (schedW f) v i).step _ _ = _; rw [HV.out]), by go_num, ST4.out.other S5.out ho hut, ?_⟩
                have h := S5.out.row
                rw [← HO1.out, ← HO2.out] at h
                exact h
              case measure => (simp [intOf] <;> omega)
            · obtain rfl : i = 64 := by omega
              clear hlt hi
              have S2 := ST
              have R2 := RT
              clear ST RT
              go_wp2_with fail
              go_loopw [17] (fun s17 wr => ∃ i : Nat, i ≤ 8 ∧ s17 = .int .i64 (i : Int) ∧ BlkSt w q r s u (fun j => if j < i then v.get j + V.get j else v.get j) (schedW f) wr ∧ wr.heap[t]? = some (.cells (wordsA V.get 8) 57 (0, 0))) (fun s17 _ => 8 - (intOf s17).toNat)
              case atStart => exact ⟨0, by omega, rfl, ⟨S2.out.bel, by rw [wordsA_congr (h := v.get) (fun j _ => by rw [if_neg (by omega)])]; exact S2.out.rq, S2.out.rr, S2.out.rs, S2.out.ru⟩, R2.out⟩
              case round =>
                clear S2 R2 HQS
                obtain ⟨i, hi, rfl, st, rt⟩ := hrel
                have ST := Lib.hid st
                have RT := Lib.hid rt
                clear st rt
                by_cases hlt : i < 8
                · have hlI : (i : Int) < 8 := by omega
                  have KQ : ∀ w2 : World, w2.heap = wr.heap ∧ Below q w w2 → w2.cell? ⟨q, i, none⟩ = some (.int .u32 (n32 (v.get i))) := fun w2 h => by
                    rw [cell_of_row _ _ _ _ _ _ (by rw [h.1]; exact ST.out.rq), wordsA_get _ hlt, if_neg (by omega)]
                  have KT : ∀ w2 : World, w2.heap = wr.heap ∧ Below q w w2 → w2.cell? ⟨t, i, none⟩ = some (.int .u32 (n32 (V.get i))) := fun w2 h => by
                    rw [cell_of_row _ _ _ _ _ _ (by rw [h.1]; exact RT.out), wordsA_get _ hlt]
                  go_upto_region 23 with (fail)
                  refine region_class1 9 (fun w2 => w2.heap = wr.heap ∧ Below q w w2) mixedOrders (by kernel_rfl) ⟨rfl, ST.out.bel.drew⟩ rfl ?_
                  refine wpQuiet_take (by rfl) (fun K hK => ⟨.int .i64 ((i : Int)), fun w2' hw2 => ?_, hK _ ?_⟩)
                  · clear hw2; go_simp
                  clear hK K
                  simp only [Act.put, List.setIfInBounds_toArray, List.set_cons_succ, List.set_cons_zero]
                  refine wpQuiet_take (by rfl) (fun K hK => ⟨.int .i64 ((i : Int)), fun w2' hw2 => ?_, hK _ ?_⟩)
                  · clear hw2; go_simp
                  clear hK K
                  simp only [Act.put, List.setIfInBounds_toArray, List.set_cons_succ, List.set_cons_zero]
                  refine wpQuiet_take (by rfl) (fun K hK => ⟨.pointer (some ⟨q, i, none⟩), fun w2' hw2 => ?_, hK _ ?_⟩)
                  · clear hw2; go_simp
                  clear hK K
                  simp only [Act.put, List.setIfInBounds_toArray, List.set_cons_succ, List.set_cons_zero]
                  refine wpQuiet_take (by rfl) (fun K hK => ⟨.int .u32 (n32 (v.get i)), fun w2' hw2 => ?_, hK _ ?_⟩)
                  · have hc := KQ w2' hw2
                    clear hw2; go_simp
                  clear hK K
                  simp only [Act.put, List.setIfInBounds_toArray, List.set_cons_succ, List.set_cons_zero]
                  refine wpQuiet_take (by rfl) (fun K hK => ⟨.int .i64 ((i : Int)), fun w2' hw2 => ?_, hK _ ?_⟩)
                  · clear hw2; go_simp
                  clear hK K
                  simp only [Act.put, List.setIfInBounds_toArray, List.set_cons_succ, List.set_cons_zero]
                  refine wpQuiet_take (by rfl) (fun K hK => ⟨.pointer (some ⟨t, i, none⟩), fun w2' hw2 => ?_, hK _ ?_⟩)
                  · clear hw2; go_simp
                  clear hK K
                  simp only [Act.put, List.setIfInBounds_toArray, List.set_cons_succ, List.set_cons_zero]
                  refine wpQuiet_take (by rfl) (fun K hK => ⟨.int .u32 (n32 (V.get i)), fun w2' hw2 => ?_, hK _ ?_⟩)
                  · have hc := KT w2' hw2
                    clear hw2; go_simp
                  clear hK K
                  simp only [Act.put, List.setIfInBounds_toArray, List.set_cons_succ, List.set_cons_zero]
                  refine wpQuiet_take (by rfl) (fun K hK => ⟨.int .u32 (n32 (v.get i + V.get i)), fun w2' hw2 => ?_, hK _ ?_⟩)
                  · clear hw2; go_simp
                  clear hK K
                  simp only [Act.put, List.setIfInBounds_toArray, List.set_cons_succ, List.set_cons_zero]
                  refine wpQuiet_take (by rfl) (fun K hK => ⟨.pointer (some ⟨q, i, none⟩), fun w2' hw2 => ?_, hK _ ?_⟩)
                  · clear hw2; go_simp
                  clear hK K
                  simp only [Act.put, List.setIfInBounds_toArray, List.set_cons_succ, List.set_cons_zero]
                  refine wpQuiet_take0 ?_
                  intro w2 hw2
                  have st2 := ST.out.heap hw2.1 hw2.2
                  have RT2 := Lib.hid (show w2.heap[t]? = some (.cells (wordsA V.get 8) 57 (0, 0)) by rw [hw2.1]; exact RT.out)
                  have kc := KQ w2 hw2
                  have fz : w2.frozen? ⟨q, i, none⟩ = false := frozen_of_row _ _ _ _ _ st2.rq
                  have QS := Lib.hid (rowSet_cell w2 q i 57 _ (.int .u32 (n32 (v.get i + V.get i))) st2.rq)
                  have ST2 := Lib.hid st2
                  clear hw2 st2 KQ KT
                  go_wp2_with fail
                  go_roundw
                  case rel =>
                    refine ⟨i + 1, by omega, by go_num, ST2.out.setQ ?_ ho, QS.out.keep (by omega) RT2.out⟩
                    have h := QS.out
                    rw [wordsA_set, wordsA_congr (h := fun j => if j < i + 1 then v.get j + V.get j else v.get j) (fun j _ => by
                      by_cases e : j = i
                      · subst e; rw [if_pos rfl, if_pos (by omega)]
                      · rw [if_neg e]
                        by_cases e2 : j < i
                        · rw [if_pos e2, if_pos (by omega)]
                        · rw [if_neg e2, if_neg (by omega)])] at h
                    exact h
                  case measure => (simp [intOf] <;> omega)
                · obtain rfl : i = 8 := by omega
                  have e9 : wordsA (fun j => if j < 8 then v.get j + V.get j else v.get j) 8 = wordsA (v.turn kW f).get 8 := by
                    have e10 : v.turn kW f = v.add V := by unfold W8.turn; rw [HV.out]
                    rw [e10]
                    exact wordsA_congr (fun j hj => by rw [if_pos hj]; rcases (by omega : j = 0 ∨ j = 1 ∨ j = 2 ∨ j = 3 ∨ j = 4 ∨ j = 5 ∨ j = 6 ∨ j = 7) with rfl | rfl | rfl | rfl | rfl | rfl | rfl | rfl <;> rfl)
                  have GQ := ST.out.rq
                  rw [e9] at GQ
                  have G0 := Lib.hid GQ
                  clear e9 GQ
                  go_wp2_with (first
                    | (refine wpList_load_row rfl 57 _ rfl q rfl _ _ (0, 0) _ G0.out Tryd.underlying57 rfl (by rw [wordsA_size]; kernel_rfl) ?_)
                    | (refine wpList_store_row rfl 57 _ _ rfl r _ _ (wordsA (v.turn kW f).get 8) rfl rfl ST.out.rr (by rw [wordsA_size, wordsA_size]) (by rw [wordsA_size]; kernel_rfl) (wordsA_one _ _) ?_; intro w4 s4))
                  exact ret_row r _ 57 (wordsA (v.turn kW f).get 8) rfl _ rfl s4.row Tryd.underlying57 rfl (by rw [wordsA_size]; kernel_rfl) rfl ⟨rfl, by rw [HQ.out]; exact ST.out.bel.trans (s4.below _ (by omega))⟩
end Go.Proofs.YtebhhonmpoeliaaDoor
