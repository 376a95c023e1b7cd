/-
  sha: the start, a state's bytes, the length's bytes.
-/
import Derived.Test.YtebhhonmpoeliaaDoorShaC
namespace Go.Proofs.YtebhhonmpoeliaaDoor
open Go Go.RowKit Go.BigFrame
set_option linter.unusedSimpArgs false
set_option linter.unusedVariables false
/-- The state ahead of any block. -/
def startW : W8 := ⟨1779033703#32, 3144134277#32, 1013904242#32, 2773480762#32, 1359893119#32, 2600822924#32, 528734635#32, 1541459225#32⟩
theorem bytesA_congr {f g : Nat → BitVec 8} {n : Nat} (e : ∀ i, i < n → f i = g i) : bytesA f n = bytesA g n := by
  unfold bytesA
  congr 1
  exact List.map_congr_left (fun i hi => by rw [e i (List.mem_range.1 hi)])
theorem bytesA_set (g : Nat → BitVec 8) (n j : Nat) (x : BitVec 8) : (bytesA g n).setIfInBounds j (.int .u8 (n8 x)) = bytesA (fun i => if i = j then x else g i) n := by
  apply Array.ext_getElem?
  intro i
  rw [Array.getElem?_setIfInBounds]
  by_cases hij : j = i
  · subst hij
    rw [if_pos rfl, bytesA_size]
    by_cases hj : j < n
    · rw [if_pos hj, bytesA_get _ hj, if_pos rfl]
    · rw [if_neg hj, Array.getElem?_eq_none (by rw [bytesA_size]; omega)]
  · rw [if_neg hij]
    by_cases hi : i < n
    · rw [bytesA_get _ hi, bytesA_get _ hi, if_neg (fun e => hij e.symm)]
    · rw [Array.getElem?_eq_none (by rw [bytesA_size]; omega), Array.getElem?_eq_none (by rw [bytesA_size]; omega)]
theorem bytesA_one (g : Nat → BitVec 8) (n : Nat) : (bytesA g n).all (·.oneCell') = true := by
  rw [Array.all_eq_true_iff_forall_mem]
  intro v hv
  simp only [bytesA, List.mem_toArray, List.mem_map] at hv
  obtain ⟨i, _, rfl⟩ := hv
  rfl
theorem replicate_bytes (n : Nat) : (Array.replicate n (.int .u8 0) : Array Value) = bytesA (fun _ => 0#8) n := by
  have z : n8 0#8 = 0 := by unfold n8; rfl
  apply Array.ext_getElem?
  intro i
  by_cases hi : i < n
  · rw [bytesA_get _ hi, z]; simp [hi]
  · rw [Array.getElem?_eq_none (by simp; omega), Array.getElem?_eq_none (by rw [bytesA_size]; omega)]
theorem startW_cells : wordsA startW.get 8 = #[.int .u32 1779033703, .int .u32 3144134277, .int .u32 1013904242, .int .u32 2773480762, .int .u32 1359893119, .int .u32 2600822924, .int .u32 528734635, .int .u32 1541459225] := by
  have e : ∀ k : Nat, n32 (BitVec.ofNat 32 k) = ((k % 4294967296 : Nat) : Int) := fun k => by unfold n32; rw [BitVec.toNat_ofNat]
  show (#[.int .u32 (n32 1779033703#32), .int .u32 (n32 3144134277#32), .int .u32 (n32 1013904242#32), .int .u32 (n32 2773480762#32), .int .u32 (n32 1359893119#32), .int .u32 (n32 2600822924#32), .int .u32 (n32 528734635#32), .int .u32 (n32 1541459225#32)] : Array Value) = _
  simp only [e]
  rfl
set_option maxRecDepth 100000 in
theorem start_any (w : World) : Calls Tryd.prog 31 #[] w fun e w' => e = .returned (.agg (wordsA startW.get 8)) ∧ Below w.heap.size w w' := by
  go_enter Tryd.func31, Tryd.ntmps31
  go_wp2_with fail
  refine ret_row w.heap.size 57 57 (wordsA startW.get 8) rfl _ rfl ?_ Tryd.underlying57 rfl (by rw [wordsA_size]; kernel_rfl) rfl ⟨rfl, ?_⟩
  · rw [startW_cells]
    exact heap_alloc_last _ _
  · exact (Below.refl _ _).alloc (Nat.le_refl _) _
theorem shr_byte32 (x : BitVec 32) (k : Nat) : n32 x / 2 ^ k % 256 = n8 ((x >>> k).setWidth 8) := by
  unfold n32 n8
  rw [BitVec.toNat_setWidth, BitVec.toNat_ushiftRight, Nat.shiftRight_eq_div_pow]
  simp
theorem shr_byte64 (x : BitVec 64) (k : Nat) : n64 x / 2 ^ k % 256 = n8 ((x >>> k).setWidth 8) := by
  unfold n64 n8
  rw [BitVec.toNat_setWidth, BitVec.toNat_ushiftRight, Nat.shiftRight_eq_div_pow]
  simp
/-- A state's bytes. -/
def stateB (v : W8) (i : Nat) : BitVec 8 := (v.get (i / 4) >>> (24 - 8 * (i % 4))).setWidth 8
theorem sumB_state (k : Nat → BitVec 32) (v : W8) (f : Nat → BitVec 8) (n : Nat) : sumB k v f n = stateB (W8.blocks k v (padded f n) ((n + 8) / 64 + 1)) := rfl
set_option maxHeartbeats 4000000 in
set_option maxRecDepth 100000 in
theorem sumOf_any (v : W8) (w : World) : Calls Tryd.prog 34 #[.agg (wordsA v.get 8)] w fun e w' => e = .returned (.agg (bytesA (stateB v) 32)) ∧ Below w.heap.size w w' := by
  go_enter Tryd.func34, Tryd.ntmps34
  have hz : (Tryd.prog.info? 42).map (·.zero) = some (some (.agg (Array.replicate 32 (.int .u8 0)))) := by kernel_rfl
  go_upto_region 2 with (refine wpList_alloc_row rfl 42 rfl _ hz ?_)
  obtain ⟨wa, hwa⟩ : ∃ wa, ((w.alloc (.cells (wordsA v.get 8) 57)).alloc (.cells (Array.replicate 32 (.int .u8 0)) 42)).alloc (.cells (Array.replicate 32 (.int .u8 0)) 42) = wa := ⟨_, rfl⟩
  have R0 := rows_alloc w [.cells (wordsA v.get 8) 57, .cells (Array.replicate 32 (.int .u8 0)) 42, .cells (Array.replicate 32 (.int .u8 0)) 42] 0
  have R1 := rows_alloc w [.cells (wordsA v.get 8) 57, .cells (Array.replicate 32 (.int .u8 0)) 42, .cells (Array.replicate 32 (.int .u8 0)) 42] 1
  have R2 := rows_alloc w [.cells (wordsA v.get 8) 57, .cells (Array.replicate 32 (.int .u8 0)) 42, .cells (Array.replicate 32 (.int .u8 0)) 42] 2
  have hb : Below w.heap.size w wa := by
    rw [← hwa]
    repeat (first | exact Below.refl _ _ | refine Below.alloc ?_ (by simp; try omega) _)
  simp only [List.foldl] at R0 R1 R2
  rw [hwa] at R0 R1 R2
  simp only [Act.put, List.setIfInBounds_toArray, List.set_cons_succ, List.set_cons_zero, alloc_size, hwa]
  clear hwa
  have K0 : wa.heap[w.heap.size]? = some (.cells (wordsA v.get 8) 57 (0, 0)) := R0
  have K1 : wa.heap[w.heap.size + 1]? = some (.cells (bytesA (fun _ => 0#8) 32) 42 (0, 0)) := by rw [← replicate_bytes]; exact R1
  have K2 : wa.heap[w.heap.size + 1 + 1]? = some (.cells (bytesA (fun _ => 0#8) 32) 42 (0, 0)) := by rw [← replicate_bytes]; exact R2
  clear R0 R1 R2
  obtain ⟨q, hq⟩ : ∃ q, w.heap.size = q := ⟨_, rfl⟩
  obtain ⟨m, hm⟩ : ∃ m, q + 1 = m := ⟨_, rfl⟩
  obtain ⟨r, hr⟩ : ∃ r, m + 1 = r := ⟨_, rfl⟩
  rw [hq] at K0 K1 K2 hb
  rw [hm] at K1 K2
  rw [hr] at K2
  simp only [hq, hm, hr]
  have hqr : q < m ∧ m < r := ⟨by omega, by omega⟩
  have HQ := Lib.hid hq
  clear hq hm hr
  have hb0 := Lib.hid hb
  clear hb
  go_wp2_with fail
  go_loopw [5] (fun s wr => ∃ i : Nat, i ≤ 32 ∧ s = .int .i64 (i : Int) ∧ wr.heap[q]? = some (.cells (wordsA v.get 8) 57 (0, 0)) ∧ wr.heap[r]? = some (.cells (bytesA (fun j => if j < i then stateB v j else 0#8) 32) 42 (0, 0)) ∧ wr.heap[m]? = some (.cells (bytesA (fun _ => 0#8) 32) 42 (0, 0)) ∧ Below q w wr) (fun s _ => 32 - (intOf s).toNat)
  case atStart => exact ⟨0, by omega, rfl, K0, by rw [bytesA_congr (g := fun _ => 0#8) (fun j _ => by rw [if_neg (by omega)])]; exact K2, K1, hb0.out⟩
  case round =>
    clear K0 K1 K2 hb0 wa
    obtain ⟨i, hi, rfl, k0, k2, k1, bel⟩ := hrel
    have BEL := Lib.hid bel
    have H0 := Lib.hid k0; have H1 := Lib.hid k1; have H2 := Lib.hid k2
    clear bel k0 k1 k2
    by_cases hlt : i < 32
    · have hlI : (i : Int) < 32 := by omega
      have hd : Int.tdiv (i : Int) 4 = ((i / 4 : Nat) : Int) := rfl
      have hm8 : Int.tmod (i : Int) 4 = ((i % 4 : Nat) : Int) := rfl
      have hs0 : 0 ≤ 24 - 8 * ((i : Int) % 4) := by omega
      have hs1 : (24 - 8 * ((i : Int) % 4)).toNat = 24 - 8 * (i % 4) := by omega
      have hsb := shr_byte32 (v.get (i / 4)) (24 - 8 * (i % 4))
      have kc : wr.cell? ⟨q, i / 4, none⟩ = some (.int .u32 (n32 (v.get (i / 4)))) := by rw [cell_of_row _ _ _ _ _ _ H0.out]; exact wordsA_get _ (by omega)
      have kr : wr.cell? ⟨r, i, none⟩ = some (.int .u8 (n8 0#8)) := by rw [cell_of_row _ _ _ _ _ _ H2.out, bytesA_get _ hlt, if_neg (by omega)]
      have fz : wr.frozen? ⟨r, i, none⟩ = false := frozen_of_row _ _ _ _ _ H2.out
      have QS := Lib.hid (rowSet_cell wr r i 42 _ (.int .u8 (n8 ((v.get (i / 4) >>> (24 - 8 * (i % 4))).setWidth 8))) H2.out)
      go_upto_region 5 with (fail)
      go_wp2_with fail
      go_roundw
      case rel =>
        refine ⟨i + 1, by omega, by go_num, (QS.out.other q (by omega)).trans H0.out, ?_, (QS.out.other m (by omega)).trans H1.out, BEL.out.trans (QS.out.below _ (by omega))⟩
        have h := QS.out.row
        rw [bytesA_set, bytesA_congr (g := fun j => if j < i + 1 then stateB v j else 0#8) (fun j _ => by
          by_cases e : j = i
          · subst e; rw [if_pos rfl, if_pos (by omega)]; rfl
          · rw [if_neg e]
            by_cases e2 : j < i
            · rw [if_pos e2, if_pos (by omega)]
            · rw [if_neg e2, if_neg (by omega)])] at h
        exact h
      case measure => (simp [intOf] <;> omega)
    · obtain rfl : i = 32 := by omega
      clear hlt hi
      have e9 : bytesA (fun j => if j < 32 then stateB v j else 0#8) 32 = bytesA (stateB v) 32 := bytesA_congr (fun j hj => by rw [if_pos hj])
      rw [e9] at H2
      clear e9
      go_wp2_with (first
        | (refine wpList_load_row rfl 42 _ rfl r rfl _ _ (0, 0) _ H2.out Tryd.underlying42 rfl (by rw [bytesA_size]; kernel_rfl) ?_)
        | (refine wpList_store_row rfl 42 _ _ rfl m _ _ (bytesA (stateB v) 32) rfl rfl H1.out (by rw [bytesA_size, bytesA_size]) (by rw [bytesA_size]; kernel_rfl) (bytesA_one _ _) ?_; intro w4 s4))
      exact ret_row m _ 42 (bytesA (stateB v) 32) rfl _ rfl s4.row Tryd.underlying42 rfl (by rw [bytesA_size]; kernel_rfl) rfl ⟨rfl, by rw [HQ.out]; exact BEL.out.trans (s4.below _ (by omega))⟩
/-- A count's eight bytes, the highest first. -/
def lengthB (x : BitVec 64) (i : Nat) : BitVec 8 := (x >>> (56 - 8 * i)).setWidth 8
set_option maxHeartbeats 4000000 in
set_option maxRecDepth 100000 in
theorem putLength_any (x : BitVec 64) (c : Nat → BitVec 8) (M g o l cp : Nat) (T : TypeId) (hl : 8 ≤ l) (hM : o + l ≤ M) (w : World) (hg : w.heap[g]? = some (.cells (bytesA c M) T (0, 0))) :
    Calls Tryd.prog 33 #[.slice (some ⟨g, o, none⟩) l cp, .int .u64 (n64 x)] w fun e w' => e = .returned (.tuple #[]) ∧ RowSet w g T (bytesA (fun j => if o ≤ j ∧ j < o + 8 then lengthB x (j - o) else c j) M) w' := by
  have HG := Lib.hid hg
  have HM := Lib.hid hM
  clear hg hM
  go_enter Tryd.func33, Tryd.ntmps33
  go_wp2_with fail
  go_loopw [5] (fun s wr => ∃ i : Nat, i ≤ 8 ∧ s = .int .i64 (i : Int) ∧ RowSet w g T (bytesA (fun j => if o ≤ j ∧ j < o + i then lengthB x (j - o) else c j) M) wr) (fun s _ => 8 - (intOf s).toNat)
  case atStart => exact ⟨0, by omega, rfl, by rw [bytesA_congr (g := c) (fun j _ => by rw [if_neg (by omega)])]; exact ⟨HG.out, fun _ _ => rfl, rfl, fun _ _ => Below.refl _ _⟩⟩
  case round =>
    obtain ⟨i, hi, rfl, rs⟩ := hrel
    have RS := Lib.hid rs
    clear rs
    by_cases hlt : i < 8
    · have hlI : (i : Int) < 8 := by omega
      have hlI2 : (i : Int) < (l : Int) := by omega
      have hs0 : 0 ≤ 56 - 8 * (i : Int) := by omega
      have hs1 : (56 - 8 * (i : Int)).toNat = 56 - 8 * i := by omega
      have hsb := shr_byte64 x (56 - 8 * i)
      have hoM : o + i < M := by have := HM.out; omega
      have kr : wr.cell? ⟨g, o + i, none⟩ = some (.int .u8 (n8 (c (o + i)))) := by rw [cell_of_row _ _ _ _ _ _ RS.out.row, bytesA_get _ hoM, if_neg (by omega)]
      have fz : wr.frozen? ⟨g, o + i, none⟩ = false := frozen_of_row _ _ _ _ _ RS.out.row
      have QS := Lib.hid (rowSet_cell wr g (o + i) T _ (.int .u8 (n8 ((x >>> (56 - 8 * i)).setWidth 8))) RS.out.row)
      go_upto_region 3 with (fail)
      go_wp2_with fail
      go_roundw
      case rel =>
        refine ⟨i + 1, by omega, by go_num, ?_, fun k hk => (QS.out.other k hk).trans (RS.out.other k hk), QS.out.size.trans RS.out.size, fun b hb => (RS.out.below b hb).trans (QS.out.below b hb)⟩
        have h := QS.out.row
        rw [bytesA_set, bytesA_congr (g := fun j => if o ≤ j ∧ j < o + (i + 1) then lengthB x (j - o) else c j) (fun j _ => by
          by_cases e : j = o + i
          · subst e; rw [if_pos rfl, if_pos (by omega), Nat.add_sub_cancel_left]; rfl
          · rw [if_neg e]
            by_cases e2 : o ≤ j ∧ j < o + i
            · rw [if_pos e2, if_pos (by omega)]
            · rw [if_neg e2, if_neg (by omega)])] at h
        exact h
      case measure => (simp [intOf] <;> omega)
    · obtain rfl : i = 8 := by omega
      clear hlt hi
      go_wp2_with fail
      go_end0
      exact ⟨rfl, RS.out⟩
end Go.Proofs.YtebhhonmpoeliaaDoor
