/-
  THE DOCUMENT'S ANSWER FOR aes, THIRD PART: the table.
-/
import Derived.Test.YtjbpjoondmcnlabDoorMg25
import Derived.Test.YtjbpjoondmcnlabDoorMg22
import Derived.Laws.Rows
import Derived.Laws.Tables
set_option maxRecDepth 100000
namespace Go.Proofs.YtjbpjoondmcnlabDoor
open Go Go.RowKit Go.BigFrame
set_option maxRecDepth 100000
set_option maxHeartbeats 4000000 in
set_option maxRecDepth 100000 in
theorem table_any (w : World) :
    Calls Tryd.prog 58 #[] w fun e w' => e = .returned (.agg sboxCells) ∧ Below w.heap.size w w' := by
  go_enter Tryd.func58, Tryd.ntmps58
  go_wp2_with (first
    | (refine wpList_alloc_row (o := ⟨some 0, .alloc 106, _, _, _, _⟩) rfl 106 rfl zeros256 zero_256 ?_)
    | (refine wpList_alloc_row (o := ⟨some 1, .alloc 106, _, _, _, _⟩) rfl 106 rfl zeros256 zero_256 ?_))
  have st : MyRow w (w.heap.size + 1) 256 106 (fun _ => 0#8) ((w.alloc (.cells zeros256 106)).alloc (.cells zeros256 106)) := by
    refine ⟨((Below.refl _ _).alloc (Nat.le_refl _) _).alloc (by simp) _, ?_, by omega⟩
    rw [← zeros_bytes]
    exact heap_alloc2_new _ _ _
  have hres : ((w.alloc (.cells zeros256 106)).alloc (.cells zeros256 106)).heap[w.heap.size]? = some (.cells zeros256 106 (0, 0)) := heap_alloc2_old _ _ _
  generalize hW : (World.alloc _ _).alloc _ = wa at *
  generalize hq : w.heap.size + 1 = q at *
  have Hq := Lib.hid hq
  clear hW hq
  go_loopw [2] (fun s2 wr => ∃ (k : Nat) (f : Nat → BitVec 8), k ≤ 256 ∧ s2 = .int .i64 (k : Int) ∧ MyRow w q 256 106 f wr ∧ (∀ i, i < k → f i = sbox i) ∧ wr.heap[w.heap.size]? = some (.cells zeros256 106 (0, 0)))
    (fun s2 _ => 256 - (intOf s2).toNat)
  case atStart => exact ⟨0, _, by omega, rfl, st, fun i hi => by omega, hres⟩
  case round =>
    clear st hres
    obtain ⟨k, f, hk, rfl, st, hf, hres⟩ := hrel
    by_cases hk2 : k < 256
    · have hkI : (k : Int) < 256 := by omega
      have e1 := ofInt_byte k
      have F := Lib.hid hf
      have Hres := Lib.hid hres
      clear hf hres
      go_wp2_with fail
      refine (sub_any _ _).mono ?_
      rintro e w1 ⟨rfl, hb1⟩
      have st1 := st.later hb1
      have f1 := st1.free k
      clear e1
      rw [subR_sbox ⟨k, hk2⟩]
      have Hres1 := Lib.hid ((hb1.block _ (lt_of_heap Hres.out)).trans Hres.out)
      have c1 := st1.at k hk2
      clear st hb1 Hres
      go_wp2_with fail
      have st2 := st1.set k (sbox k)
      go_roundw
      case rel =>
        refine ⟨k + 1, _, by omega, by go_num, st2, fun i hi => ?_, ?_⟩
        · unfold updb
          by_cases hik : i = k
          · rw [if_pos hik, hik]
          · rw [if_neg hik]; exact F.out i (by omega)
        · have hne : w.heap.size ≠ q := by have := Hq.out; omega
          rw [heap_setCell_other _ _ _ _ hne]; exact Hres1.out
      case measure => simp [intOf]; omega
    · obtain rfl : k = 256 := by omega
      have row : wr.heap[q]? = some (.cells sboxCells 106 (0, 0)) := by rw [st.row, bytesArr_congr f sbox 256 hf]; rfl
      have Row := Lib.hid row
      have Hres := Lib.hid hres
      clear hf row hres
      go_wp2_with (first
        | (refine wpList_load_row (o := ⟨some 12, .load 106 _, _, _, _, _⟩) rfl 106 _ rfl q rfl 106 sboxCells (0, 0) _ Row.out under_256 rfl size_256 ?_; refine Go.wpList_store_row (o := ⟨none, .store 106 (.tmp 0) (.tmp 12), _, _, _, _⟩) rfl 106 _ _ rfl w.heap.size sboxCells rfl rfl 106 zeros256 Hres.out size_256 (by kernel_rfl) sboxCells_one ?_))
      try simp only [Act.put, List.setIfInBounds_toArray, List.set_cons_succ, List.set_cons_zero]
      refine bodyPost_ret (v := .agg sboxCells) (results_cell_row rfl _ _ w.heap.size 106 sboxCells (0, 0) _ rfl (setRow_heap _ _ _ _ _ _ Hres.out) under_256 rfl size_256) rfl ⟨rfl, ?_⟩
      exact st.below.trans ⟨rfl, rfl, rfl, by simp, fun k hk => setRow_other _ _ _ _ (by omega)⟩
end Go.Proofs.YtjbpjoondmcnlabDoor
