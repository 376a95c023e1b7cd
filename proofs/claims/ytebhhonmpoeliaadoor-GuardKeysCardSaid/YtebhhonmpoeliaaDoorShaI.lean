/-
  sha: the key's block, a hash of it, Mac.
-/
import Derived.Test.YtebhhonmpoeliaaDoorShaH
namespace Go.Proofs.YtebhhonmpoeliaaDoor
open Go Go.RowKit Go.BigFrame
set_option linter.unusedSimpArgs false
set_option linter.unusedVariables false
theorem row_range {w : World} {q M : Nat} {g : Nat → BitVec 8} {T : TypeId} (h : w.heap[q]? = some (.cells (bytesA g M) T (0, 0))) {i : Nat} (hi : i < M) : w.cell? ⟨q, i, none⟩ = some (.int .u8 (n8 (g i))) := by
  rw [cell_of_row _ _ _ _ _ _ h]; exact bytesA_get _ hi
theorem row_bytesIn {w : World} {q M : Nat} {g : Nat → BitVec 8} {T : TypeId} (h : w.heap[q]? = some (.cells (bytesA g M) T (0, 0))) (k : Nat) (hk : k ≤ M) (hm : M ≤ maxLen) : BytesIn w (some ⟨q, 0, none⟩) k g :=
  ⟨by omega, .inr ⟨q, 0, rfl, lt_row h, fun i hi => by rw [Nat.zero_add]; exact row_range h (by omega)⟩⟩
/-- 'copy' into a row of one's own, from place o of it on. -/
theorem copy_row {w : World} {q M : Nat} {g : Nat → BitVec 8} {T : TypeId} (h : w.heap[q]? = some (.cells (bytesA g M) T (0, 0))) (o dLen dCap : Nat) (a : Option Addr) (sLen sCap k : Nat) (p : Nat → BitVec 8) (hk : k = Nat.min sLen dLen) (hok : o + k ≤ M)
    (hx : BytesIn w a sLen p) : ∃ w', (Builtin.copy_ #[40, 40] 3 #[.slice (some ⟨q, o, none⟩) dLen dCap, .slice a sLen sCap]).run Tryd.prog w = .ok (goInt k) w' ∧ RowSet w q T (bytesA (over8 g o k p) M) w' := by
  have hu : Tryd.prog.underlying 40 = some (.slice 5) := by kernel_rfl
  have hs : (Tryd.prog.info? 5).map (·.size) = some 1 := by kernel_rfl
  refine ⟨w.setCells q o (cells8 p k), ?_, ?_⟩
  · by_cases k0 : k = 0
    · subst k0
      have := run_copy_none (P := Tryd.prog) w 40 40 3 5 (some ⟨q, o, none⟩) a dLen dCap sLen sCap hu hs hk.symm
      rw [this]; rfl
    · rcases hx.2 with h0 | ⟨bb, bo, rfl, hbb, hc⟩
      · exact absurd (by rw [hk, h0]; exact Nat.zero_min _) k0
      · have hks : k ≤ sLen := by rw [hk]; exact Nat.min_le_left _ _
        have := run_copy_cells (P := Tryd.prog) w 40 40 3 5 q o dLen dCap ⟨bb, bo, none⟩ sLen sCap (cells8 p k) hu hs (by rw [cells8_len]; exact hk) (fun j x hj => by
          have hj' : j < k := by have := (List.getElem?_eq_some_iff.1 hj).1; rwa [cells8_len] at this
          rw [cells8_get _ hj'] at hj
          rw [Addr.add_mid, hc j (by omega)]; exact hj) (fun j hj => by rw [cells8_len] at hj; rw [row_range h (by omega)]; rfl) (fun j hj => frozen_of_row _ _ _ _ _ h) (cells8_one p k)
        rw [cells8_len] at this
        exact this
  · have hc := setCells_chg w q o (cells8 p k)
    refine ⟨?_, fun j hj => setCells_other q j hj _ _ _, setCells_size q _ _ _, fun B hB => setCells_below B q hB _ _ _ _ (Below.refl _ _)⟩
    obtain ⟨C, h1, h2, h3⟩ := setCells_row q T (cells8 p k) o w _ h
    rw [bytesA_size] at h2
    rw [h1]
    congr 2
    apply Array.ext_getElem?
    intro i
    rw [h3, cells8_len, bytesA_size]
    by_cases hi : i < M
    · rw [show (bytesA (over8 g o k p) M)[i]? = _ from bytesA_get _ hi]
      unfold over8
      by_cases c : o ≤ i ∧ i < o + k
      · rw [if_pos ⟨c.1, c.2, hi⟩, if_pos c, cells8_get _ (by omega)]
      · rw [if_neg (fun e => c ⟨e.1, e.2.1⟩), if_neg c, bytesA_get _ hi]
    · rw [if_neg (by omega), Array.getElem?_eq_none (by rw [bytesA_size]; omega), Array.getElem?_eq_none (by rw [bytesA_size]; omega)]
theorem run_arr32_all (w : World) (b : Nat) : (Instr.sliceAt 42 (.pointer (some ⟨b, 0, none⟩)) none none none).run Tryd.prog w = .ok (.slice (some ⟨b, 0, none⟩) 32 32) w := by
  first
  | (with_unfolding_all rfl)
  | simp [go_sem]
/-- A key's block. -/
def keyB (p : Nat → BitVec 8) (m : Nat) (i : Nat) : BitVec 8 := if m ≤ 64 then (if i < m then p i else 0#8) else if i < 32 then sumS p m i else 0#8
set_option maxHeartbeats 4000000 in
set_option maxRecDepth 100000 in
theorem keyBlock_any (m c : Nat) (p : Nat → BitVec 8) (a : Option Addr) (w : World) (T : TabK w) (hx : BytesIn w a m p) (hc : m ≤ c) (hcm : c ≤ maxLen) (hsz : m < 576460752303423488) :
    Calls Tryd.prog 22 #[.slice a m c] w fun e w' => e = .returned (.agg (bytesA (keyB p m) 64)) ∧ Below w.heap.size w w' := by
  have HX := Lib.hid hx
  have TK := Lib.hid T
  clear hx T
  go_enter Tryd.func22, Tryd.ntmps22
  go_upto_region 2 with (first | (refine wpList_alloc_row (o := ⟨some 2, .alloc 48, _, _, _, _⟩) rfl 48 rfl _ zero_64 ?_) | (refine wpList_alloc_row (o := ⟨some 3, .alloc 48, _, _, _, _⟩) rfl 48 rfl _ zero_64 ?_))
  obtain ⟨wa, hwa⟩ : ∃ wa, (w.alloc (.cells (bytesA (fun _ => 0#8) 64) 48)).alloc (.cells (bytesA (fun _ => 0#8) 64) 48) = wa := ⟨_, rfl⟩
  have K0 : wa.heap[w.heap.size]? = some (.cells (bytesA (fun _ => 0#8) 64) 48 (0, 0)) := by
    rw [← hwa]; exact rows_alloc w [.cells (bytesA (fun _ => 0#8) 64) 48, .cells (bytesA (fun _ => 0#8) 64) 48] 0
  have K1 : wa.heap[w.heap.size + 1]? = some (.cells (bytesA (fun _ => 0#8) 64) 48 (0, 0)) := by
    rw [← hwa]; exact rows_alloc w [.cells (bytesA (fun _ => 0#8) 64) 48, .cells (bytesA (fun _ => 0#8) 64) 48] 1
  have hb : Below w.heap.size w wa := by
    rw [← hwa]
    repeat (first | exact Below.refl _ _ | refine Below.alloc ?_ (by simp; try omega) _)
  have hza : wa.heap.size = w.heap.size + 1 + 1 := by rw [← hwa, alloc_size, alloc_size]
  simp only [Act.put, List.setIfInBounds_toArray, List.set_cons_succ, List.set_cons_zero, alloc_size, hwa]
  clear hwa
  have Xa := Lib.hid (bytesIn_ext HX.out hb)
  have Ta := Lib.hid (TK.out.later hb)
  obtain ⟨q, hq⟩ : ∃ q, w.heap.size = q := ⟨_, rfl⟩
  obtain ⟨r, hr⟩ : ∃ r, q + 1 = r := ⟨_, rfl⟩
  rw [hq] at K0 K1 hb hza
  rw [hr] at K1 hza
  simp only [hq, hr]
  have hqr : q < r := by omega
  have HQ := Lib.hid hq
  have KA := Lib.hid K0
  have KB := Lib.hid K1
  have HB := Lib.hid hb
  clear hq hr K0 K1 hb HX TK
  have hall := fun w' => run_arr64_all w' r 0
  by_cases h64 : m ≤ 64
  · have h64I : (m : Int) ≤ 64 := by omega
    obtain ⟨w3, hcp, S3⟩ := copy_row KB.out 0 64 64 a m c m p (Nat.min_eq_left h64).symm (by omega) Xa.out
    have S := Lib.hid S3
    have K3 := Lib.hid (S3.keep (k := q) (by omega) KA.out)
    have e : over8 (fun _ => 0#8) 0 m p = keyB p m := by
      funext i
      unfold over8 keyB
      rw [if_pos h64]
      by_cases hi : i < m
      · rw [if_pos (by omega), if_pos hi]; rfl
      · rw [if_neg (by omega), if_neg hi]
    rw [e] at S
    clear S3 e
    go_wp2_with (first
      | (refine wpList_load_row rfl 48 _ rfl r rfl _ _ (0, 0) _ S.out.row Tryd.underlying48 rfl (by rw [bytesA_size]; kernel_rfl) ?_)
      | (refine wpList_store_row rfl 48 _ _ rfl q _ _ (bytesA (keyB p m) 64) rfl rfl K3.out (by rw [bytesA_size, bytesA_size]) (by rw [bytesA_size]; kernel_rfl) (bytesA_one _ _) ?_; intro w4 s4))
    exact ret_row q _ 48 (bytesA (keyB p m) 64) rfl _ rfl s4.row Tryd.underlying48 rfl (by rw [bytesA_size]; kernel_rfl) rfl ⟨rfl, by rw [HQ.out]; exact (HB.out.trans (S.out.below _ (by omega))).trans (s4.below _ (Nat.le_refl _))⟩
  · have h64I : ¬ (m : Int) ≤ 64 := by omega
    have SM := Lib.hid (shaSum_any m c p a wa Ta.out Xa.out hc hcm hsz)
    clear Xa Ta
    go_wp2_with fail
    with_reducible refine SM.out.mono ?_
    rintro e w3 ⟨rfl, hb3⟩
    have KB3 := (hb3.block r (lt_row KB.out)).trans KB.out
    have KA3 := (hb3.block q (lt_row KA.out)).trans KA.out
    have hal : Below w3.heap.size w3 (w3.alloc (.cells (bytesA (sumS p m) 32) 42)) := (Below.refl _ _).alloc (Nat.le_refl _) _
    have hal2 : (w3.alloc (.cells (bytesA (sumS p m) 32) 42)).heap[w3.heap.size]? = some (.cells (bytesA (sumS p m) 32) 42 (0, 0)) := heap_alloc_last _ _
    go_upto_region 6 with (first
      | (refine wpList_alloc_row (o := ⟨some 4, .alloc 42, _, _, _, _⟩) rfl 42 rfl _ zero_32 ?_)
      | (refine wpList_store_new (o := ⟨none, .store 42 (.tmp 4) (.tmp 13), _, _, _, _⟩) rfl 42 _ _ rfl (bytesA (fun _ => 0#8) 32) (bytesA (sumS p m) 32) _ rfl rfl rfl (by rw [bytesA_size]; kernel_rfl) (by rw [bytesA_size, bytesA_size]) (bytesA_one _ _) ?_))
    obtain ⟨w4, hw4⟩ : ∃ w4, w3.alloc (.cells (bytesA (sumS p m) 32) 42) = w4 := ⟨_, rfl⟩
    rw [hw4] at hal hal2
    simp only [hw4]
    obtain ⟨s, hs⟩ : ∃ s, w3.heap.size = s := ⟨_, rfl⟩
    have KB4 := Lib.hid ((hal.block r (lt_row KB3)).trans KB3)
    have KA4 := Lib.hid ((hal.block q (lt_row KA3)).trans KA3)
    have B4 := Lib.hid ((HB.out.trans (hb3.mono (by omega))).trans (hal.mono (by have := lt_row KA3; omega)))
    rw [hs] at hal2
    simp only [hs]
    have K4 := Lib.hid hal2
    have hrs : r < s := by have := lt_row KB3; omega
    clear KB3 KA3 hb3 hal hal2 hs hw4 KA KB HB SM hza
    clear w3 wa
    have hall2 := fun w' => run_arr32_all w' s
    refine region_class1 2 (fun w' => Below w4.heap.size w4 w') mixedOrders (by kernel_rfl) (Below.refl _ _).drew rfl ?_
    refine wpQuiet_take (by rfl) (fun K hK => ⟨.slice (some ⟨r, 0, none⟩) 64 64, fun w2' hw2 => ?_, hK _ ?_⟩)
    · clear hw2; go_simp
    clear hK K
    simp only [Act.put, List.setIfInBounds_toArray, List.set_cons_succ, List.set_cons_zero]
    refine wpQuiet_take (by rfl) (fun K hK => ⟨.slice (some ⟨s, 0, none⟩) 32 32, fun w2' hw2 => ?_, hK _ ?_⟩)
    · clear hw2; go_simp
    clear hK K
    simp only [Act.put, List.setIfInBounds_toArray, List.set_cons_succ, List.set_cons_zero]
    refine wpQuiet_take0 ?_
    intro w5 hb5
    have KB5 := Lib.hid ((hb5.block r (lt_row KB4.out)).trans KB4.out)
    have KA5 := Lib.hid ((hb5.block q (lt_row KA4.out)).trans KA4.out)
    have K5 := Lib.hid ((hb5.block s (lt_row K4.out)).trans K4.out)
    have B5 := Lib.hid (B4.out.trans (hb5.mono (by have := lt_row KA4.out; omega)))
    clear hb5 KA4 KB4 K4 B4 w4 hall hall2
    obtain ⟨w6, hcp, S6⟩ := copy_row KB5.out 0 64 64 (some ⟨s, 0, none⟩) 32 32 32 (sumS p m) rfl (by omega) (row_bytesIn K5.out 32 (Nat.le_refl _) (by unfold maxLen; omega))
    have S := Lib.hid S6
    have K6 := Lib.hid (S6.keep (k := q) (by omega) KA5.out)
    have e : over8 (fun _ => 0#8) 0 32 (sumS p m) = keyB p m := by
      funext i
      unfold over8 keyB
      rw [if_neg h64]
      by_cases hi : i < 32
      · rw [if_pos (by omega), if_pos hi]; rfl
      · rw [if_neg (by omega), if_neg hi]
    rw [e] at S
    clear S6 e
    have hcp' : (Builtin.copy_ #[40, 40] 3 #[.slice (some ⟨r, 0, none⟩) 64 64, .slice (some ⟨s, 0, none⟩) 32 32]).run Tryd.prog w5 = .ok (goInt 32) w6 := hcp
    clear hcp
    go_wp2_with (first
      | (refine wpList_load_row rfl 48 _ rfl r rfl _ _ (0, 0) _ S.out.row Tryd.underlying48 rfl (by rw [bytesA_size]; kernel_rfl) ?_)
      | (refine wpList_store_row rfl 48 _ _ rfl q _ _ (bytesA (keyB p m) 64) rfl rfl K6.out (by rw [bytesA_size, bytesA_size]) (by rw [bytesA_size]; kernel_rfl) (bytesA_one _ _) ?_; intro w7 s7))
    exact ret_row q _ 48 (bytesA (keyB p m) 64) rfl _ rfl s7.row Tryd.underlying48 rfl (by rw [bytesA_size]; kernel_rfl) rfl ⟨rfl, by rw [HQ.out]; exact (B5.out.trans (S.out.below _ (by omega))).trans (s7.below _ (Nat.le_refl _))⟩
end Go.Proofs.YtebhhonmpoeliaaDoor
