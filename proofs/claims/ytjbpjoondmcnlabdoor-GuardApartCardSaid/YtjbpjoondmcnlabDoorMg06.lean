/-
  TEXTS PUT TOGETHER: ShaH, ShaI, ShaJ, Eq.
-/
import Derived.Test.YtjbpjoondmcnlabDoorMg05
import Derived.Test.YtjbpjoondmcnlabDoorMg01
import Derived.DeepKeys
import Derived.Laws.StructEq
set_option maxRecDepth 100000
/-
  sha: New, Len, Sum of bytes, Mac.
-/
namespace Go.Proofs.YtjbpjoondmcnlabDoor
open Go Go.RowKit Go.BigFrame
set_option linter.unusedSimpArgs false
set_option linter.unusedVariables false
/-- The sum of the first n bytes. -/
def sumS (p : Nat → BitVec 8) (n : Nat) : Nat → BitVec 8 := sumB kW startW p n
theorem sumS_congr {f g : Nat → BitVec 8} {n : Nat} (h : ∀ i, i < n → f i = g i) : sumS f n = sumS g n := funext fun i => sumB_congr h i
theorem joinb_zero (f p : Nat → BitVec 8) : joinb f 0 p = p := by funext i; unfold joinb; rw [if_neg (by omega), Nat.sub_zero]
theorem zero_value {P : Program} {T : TypeId} {v : Value} (h : (P.info? T).map (·.zero) = some (some v)) (w : World) : (zeroValue T).run P w = .ok v w := by
  cases hq : P.info? T with
  | none => simp [hq] at h
  | some x =>
    have hx : x.zero = some v := by simpa [hq] using h
    simp [zeroValue, typeInfo, hq, hx, Sem.run_bind]
theorem new_any (w : World) : Calls Tryd.prog 91 #[] w fun e w' => e = .returned (.pointer (some ⟨w.heap.size, 0, none⟩)) ∧ HashRow w' w.heap.size zeroW (fun _ => 0#8) 0 ∧ Below w.heap.size w w' ∧ w'.heap.size = w.heap.size + 1 := by
  have hzv := zero_value (P := Tryd.prog) (T := 145) zero_hash
  obtain ⟨C, hC⟩ : ∃ C, hashA zeroW (fun _ => 0#8) 0 = C := ⟨_, rfl⟩
  unfold HashRow
  rw [hC] at hzv ⊢
  clear hC
  go_enter Tryd.func91, Tryd.ntmps91
  go_wp2_with fail
  go_ret
  exact ⟨rfl, heap_alloc_last _ _, (Below.refl _ _).alloc (Nat.le_refl _) _, by simp⟩
theorem write_nil (v : Value) (w : World) : Calls Tryd.prog 81 #[.pointer none, v] w fun e w' => e = .returned (.tuple #[]) ∧ w = w' := by
  go_enter Tryd.func81, Tryd.ntmps81
  go_wp2_with fail
  refine bodyPost_ret (results_none rfl _ _ _) rfl ?_
  exact ⟨rfl, rfl⟩
set_option maxHeartbeats 4000000 in
set_option maxRecDepth 100000 in
theorem shaSum_any (m c : Nat) (p : Nat → BitVec 8) (a : Option Addr) (w : World) (T : TabK w) (hx : BytesIn w a m p) (hc : m ≤ c) (hcm : c ≤ maxLen) (hsz : m < 576460752303423488) :
    Calls Tryd.prog 90 #[.slice a m c] w fun e w' => e = .returned (.agg (bytesA (sumS p m) 32)) ∧ Below w.heap.size w w' := by
  have TL := T.lt
  go_enter Tryd.func90, Tryd.ntmps90
  go_upto_region 2 with (first | (refine wpList_alloc_row (o := ⟨some 2, .alloc 103, _, _, _, _⟩) rfl 103 rfl _ zero_32 ?_) | (refine wpList_alloc_row (o := ⟨some 3, .alloc 145, _, _, _, _⟩) rfl 145 rfl _ zero_hash ?_))
  obtain ⟨wa, hwa⟩ : ∃ wa, (w.alloc (.cells (bytesA (fun _ => 0#8) 32) 103)).alloc (.cells (hashA zeroW (fun _ => 0#8) 0) 145) = wa := ⟨_, rfl⟩
  have K0 : wa.heap[w.heap.size]? = some (.cells (bytesA (fun _ => 0#8) 32) 103 (0, 0)) := by
    rw [← hwa]; exact rows_alloc w [.cells (bytesA (fun _ => 0#8) 32) 103, .cells (hashA zeroW (fun _ => 0#8) 0) 145] 0
  have K1 : HashRow wa (w.heap.size + 1) zeroW (fun _ => 0#8) 0 := by
    unfold HashRow
    rw [← hwa]; exact rows_alloc w [.cells (bytesA (fun _ => 0#8) 32) 103, .cells (hashA zeroW (fun _ => 0#8) 0) 145] 1
  have hb : Below w.heap.size w wa := by
    rw [← hwa]
    repeat (first | exact Below.refl _ _ | refine Below.alloc ?_ (by simp; try omega) _)
  simp only [Act.put, List.setIfInBounds_toArray, List.set_cons_succ, List.set_cons_zero, alloc_size, hwa]
  clear hwa
  have WR := Lib.hid (write_any (w.heap.size + 1) 0 m c p p a wa (T.later hb) (by omega) (hashSt_zero p K1) (bytesIn_ext hx hb) hc hcm (fun hm x hx' => by have := bytesIn_lt hx hm x hx'; omega) (by omega))
  have Ta := Lib.hid (T.later hb)
  have HB := Lib.hid hb
  have K0' := Lib.hid K0
  clear hx K0 K1 hb T
  obtain ⟨q, hq⟩ : ∃ q, w.heap.size = q := ⟨_, rfl⟩
  rw [hq] at WR HB K0' TL
  simp only [hq]
  have HQ := Lib.hid hq
  clear hq
  go_wp2_with fail
  with_reducible refine WR.out.mono ?_
  rintro e w5 ⟨rfl, st5, ch5⟩
  rw [joinb_zero, Nat.zero_add] at st5
  have hql := lt_row K0'.out
  have K5 := Lib.hid (ch5.row (k := q) (by omega) K0'.out)
  have B5 := Lib.hid (HB.out.trans (ch5.below (by omega) (by omega)))
  have SM := Lib.hid (sum_any (some ⟨q + 1, 0, none⟩) m p w5 (Ta.out.chg ch5 (by omega)) (.inr ⟨q + 1, rfl, st5⟩) hsz)
  clear st5 ch5 WR HB K0' Ta hql
  go_wp2_with fail
  with_reducible refine SM.out.mono ?_
  rintro e w6 ⟨rfl, hb6⟩
  have K6 := Lib.hid ((hb6.block q (lt_row K5.out)).trans K5.out)
  have B6 := Lib.hid (B5.out.trans (hb6.mono (by have := lt_row K5.out; omega)))
  clear hb6 K5 B5 SM
  go_wp2_with (refine wpList_store_row rfl 103 _ _ rfl q _ _ (bytesA (sumB kW startW p m) 32) rfl rfl K6.out (by rw [bytesA_size, bytesA_size]) (by rw [bytesA_size]; kernel_rfl) (bytesA_one _ _) ?_; intro w7 s7)
  exact ret_row q _ 103 (bytesA (sumB kW startW p m) 32) rfl _ rfl s7.row Tryd.underlying103 rfl (by rw [bytesA_size]; kernel_rfl) rfl ⟨rfl, by rw [HQ.out]; exact B6.out.trans (s7.below _ (Nat.le_refl _))⟩
end Go.Proofs.YtjbpjoondmcnlabDoor
/-
  sha: the key's block, a hash of it, Mac.
-/
namespace Go.Proofs.YtjbpjoondmcnlabDoor
open Go Go.RowKit Go.BigFrame
set_option linter.unusedSimpArgs false
set_option linter.unusedVariables false
theorem row_range {w : World} {q M : Nat} {g : Nat → BitVec 8} {T : TypeId} (h : w.heap[q]? = some (.cells (bytesA g M) T (0, 0))) {i : Nat} (hi : i < M) : w.cell? ⟨q, i, none⟩ = some (.int .u8 (n8 (g i))) := by
  rw [cell_of_row _ _ _ _ _ _ h]; exact bytesA_get _ hi
theorem row_bytesIn {w : World} {q M : Nat} {g : Nat → BitVec 8} {T : TypeId} (h : w.heap[q]? = some (.cells (bytesA g M) T (0, 0))) (k : Nat) (hk : k ≤ M) (hm : M ≤ maxLen) : BytesIn w (some ⟨q, 0, none⟩) k g :=
  ⟨by omega, .inr ⟨q, 0, rfl, lt_row h, fun i hi => by rw [Nat.zero_add]; exact row_range h (by omega)⟩⟩
/-- 'copy' into a row of one's own, from place o of it on. -/
theorem copy_row {w : World} {q M : Nat} {g : Nat → BitVec 8} {T : TypeId} (h : w.heap[q]? = some (.cells (bytesA g M) T (0, 0))) (o dLen dCap : Nat) (a : Option Addr) (sLen sCap k : Nat) (p : Nat → BitVec 8) (hk : k = Nat.min sLen dLen) (hok : o + k ≤ M)
    (hx : BytesIn w a sLen p) : ∃ w', (Builtin.copy_ #[31, 31] 3 #[.slice (some ⟨q, o, none⟩) dLen dCap, .slice a sLen sCap]).run Tryd.prog w = .ok (goInt k) w' ∧ RowSet w q T (bytesA (over8 g o k p) M) w' := by
  have hu : Tryd.prog.underlying 31 = some (.slice 5) := by kernel_rfl
  have hs : (Tryd.prog.info? 5).map (·.size) = some 1 := by kernel_rfl
  refine ⟨w.setCells q o (cells8 p k), ?_, ?_⟩
  · by_cases k0 : k = 0
    · subst k0
      have := run_copy_none (P := Tryd.prog) w 31 31 3 5 (some ⟨q, o, none⟩) a dLen dCap sLen sCap hu hs hk.symm
      rw [this]; rfl
    · rcases hx.2 with h0 | ⟨bb, bo, rfl, hbb, hc⟩
      · exact absurd (by rw [hk, h0]; exact Nat.zero_min _) k0
      · have hks : k ≤ sLen := by rw [hk]; exact Nat.min_le_left _ _
        have := run_copy_cells (P := Tryd.prog) w 31 31 3 5 q o dLen dCap ⟨bb, bo, none⟩ sLen sCap (cells8 p k) hu hs (by rw [cells8_len]; exact hk) (fun j x hj => by
          have hj' : j < k := by have := (List.getElem?_eq_some_iff.1 hj).1; rwa [cells8_len] at this
          rw [cells8_get _ hj'] at hj
          rw [Addr.add_mid, hc j (by omega)]; exact hj) (fun j hj => by rw [cells8_len] at hj; rw [row_range h (by omega)]; rfl) (fun j hj => frozen_of_row _ _ _ _ _ h) (cells8_one p k)
        rw [cells8_len] at this
        exact this
  · have hc := setCells_chg w q o (cells8 p k)
    refine ⟨?_, fun j hj => setCells_other q j hj _ _ _, setCells_size q _ _ _, fun B hB => setCells_below B q hB _ _ _ _ (Below.refl _ _)⟩
    obtain ⟨C, h1, h2, h3⟩ := setCells_row q T (cells8 p k) o w _ h
    rw [bytesA_size] at h2
    rw [h1]
    congr 2
    apply Array.ext_getElem?
    intro i
    rw [h3, cells8_len, bytesA_size]
    by_cases hi : i < M
    · rw [show (bytesA (over8 g o k p) M)[i]? = _ from bytesA_get _ hi]
      unfold over8
      by_cases c : o ≤ i ∧ i < o + k
      · rw [if_pos ⟨c.1, c.2, hi⟩, if_pos c, cells8_get _ (by omega)]
      · rw [if_neg (fun e => c ⟨e.1, e.2.1⟩), if_neg c, bytesA_get _ hi]
    · rw [if_neg (by omega), Array.getElem?_eq_none (by rw [bytesA_size]; omega), Array.getElem?_eq_none (by rw [bytesA_size]; omega)]
theorem run_arr32_all (w : World) (b : Nat) : (Instr.sliceAt 103 (.pointer (some ⟨b, 0, none⟩)) none none none).run Tryd.prog w = .ok (.slice (some ⟨b, 0, none⟩) 32 32) w := by
  first
  | (with_unfolding_all rfl)
  | simp [go_sem]
/-- A key's block. -/
def keyB (p : Nat → BitVec 8) (m : Nat) (i : Nat) : BitVec 8 := if m ≤ 64 then (if i < m then p i else 0#8) else if i < 32 then sumS p m i else 0#8
set_option maxHeartbeats 4000000 in
set_option maxRecDepth 100000 in
theorem keyBlock_any (m c : Nat) (p : Nat → BitVec 8) (a : Option Addr) (w : World) (T : TabK w) (hx : BytesIn w a m p) (hc : m ≤ c) (hcm : c ≤ maxLen) (hsz : m < 576460752303423488) :
    Calls Tryd.prog 79 #[.slice a m c] w fun e w' => e = .returned (.agg (bytesA (keyB p m) 64)) ∧ Below w.heap.size w w' := by
  have HX := Lib.hid hx
  have TK := Lib.hid T
  clear hx T
  go_enter Tryd.func79, Tryd.ntmps79
  go_upto_region 2 with (first | (refine wpList_alloc_row (o := ⟨some 2, .alloc 132, _, _, _, _⟩) rfl 132 rfl _ zero_64 ?_) | (refine wpList_alloc_row (o := ⟨some 3, .alloc 132, _, _, _, _⟩) rfl 132 rfl _ zero_64 ?_))
  obtain ⟨wa, hwa⟩ : ∃ wa, (w.alloc (.cells (bytesA (fun _ => 0#8) 64) 132)).alloc (.cells (bytesA (fun _ => 0#8) 64) 132) = wa := ⟨_, rfl⟩
  have K0 : wa.heap[w.heap.size]? = some (.cells (bytesA (fun _ => 0#8) 64) 132 (0, 0)) := by
    rw [← hwa]; exact rows_alloc w [.cells (bytesA (fun _ => 0#8) 64) 132, .cells (bytesA (fun _ => 0#8) 64) 132] 0
  have K1 : wa.heap[w.heap.size + 1]? = some (.cells (bytesA (fun _ => 0#8) 64) 132 (0, 0)) := by
    rw [← hwa]; exact rows_alloc w [.cells (bytesA (fun _ => 0#8) 64) 132, .cells (bytesA (fun _ => 0#8) 64) 132] 1
  have hb : Below w.heap.size w wa := by
    rw [← hwa]
    repeat (first | exact Below.refl _ _ | refine Below.alloc ?_ (by simp; try omega) _)
  have hza : wa.heap.size = w.heap.size + 1 + 1 := by rw [← hwa, alloc_size, alloc_size]
  simp only [Act.put, List.setIfInBounds_toArray, List.set_cons_succ, List.set_cons_zero, alloc_size, hwa]
  clear hwa
  have Xa := Lib.hid (bytesIn_ext HX.out hb)
  have Ta := Lib.hid (TK.out.later hb)
  obtain ⟨q, hq⟩ : ∃ q, w.heap.size = q := ⟨_, rfl⟩
  obtain ⟨r, hr⟩ : ∃ r, q + 1 = r := ⟨_, rfl⟩
  rw [hq] at K0 K1 hb hza
  rw [hr] at K1 hza
  simp only [hq, hr]
  have hqr : q < r := by omega
  have HQ := Lib.hid hq
  have KA := Lib.hid K0
  have KB := Lib.hid K1
  have HB := Lib.hid hb
  clear hq hr K0 K1 hb HX TK
  have hall := fun w' => run_arr64_all w' r 0
  by_cases h64 : m ≤ 64
  · have h64I : (m : Int) ≤ 64 := by omega
    obtain ⟨w3, hcp, S3⟩ := copy_row KB.out 0 64 64 a m c m p (Nat.min_eq_left h64).symm (by omega) Xa.out
    have S := Lib.hid S3
    have K3 := Lib.hid (S3.keep (k := q) (by omega) KA.out)
    have e : over8 (fun _ => 0#8) 0 m p = keyB p m := by
      funext i
      unfold over8 keyB
      rw [if_pos h64]
      by_cases hi : i < m
      · rw [if_pos (by omega), if_pos hi]; rfl
      · rw [if_neg (by omega), if_neg hi]
    rw [e] at S
    clear S3 e
    go_wp2_with (first
      | (refine wpList_load_row rfl 132 _ rfl r rfl _ _ (0, 0) _ S.out.row Tryd.underlying132 rfl (by rw [bytesA_size]; kernel_rfl) ?_)
      | (refine wpList_store_row rfl 132 _ _ rfl q _ _ (bytesA (keyB p m) 64) rfl rfl K3.out (by rw [bytesA_size, bytesA_size]) (by rw [bytesA_size]; kernel_rfl) (bytesA_one _ _) ?_; intro w4 s4))
    exact ret_row q _ 132 (bytesA (keyB p m) 64) rfl _ rfl s4.row Tryd.underlying132 rfl (by rw [bytesA_size]; kernel_rfl) rfl ⟨rfl, by rw [HQ.out]; exact (HB.out.trans (S.out.below _ (by omega))).trans (s4.below _ (Nat.le_refl _))⟩
  · have h64I : ¬ (m : Int) ≤ 64 := by omega
    have SM := Lib.hid (shaSum_any m c p a wa Ta.out Xa.out hc hcm hsz)
    clear Xa Ta
    go_wp2_with fail
    with_reducible refine SM.out.mono ?_
    rintro e w3 ⟨rfl, hb3⟩
    have KB3 := (hb3.block r (lt_row KB.out)).trans KB.out
    have KA3 := (hb3.block q (lt_row KA.out)).trans KA.out
    have hal : Below w3.heap.size w3 (w3.alloc (.cells (bytesA (sumS p m) 32) 103)) := (Below.refl _ _).alloc (Nat.le_refl _) _
    have hal2 : (w3.alloc (.cells (bytesA (sumS p m) 32) 103)).heap[w3.heap.size]? = some (.cells (bytesA (sumS p m) 32) 103 (0, 0)) := heap_alloc_last _ _
    go_upto_region 6 with (first
      | (refine wpList_alloc_row (o := ⟨some 4, .alloc 103, _, _, _, _⟩) rfl 103 rfl _ zero_32 ?_)
      | (refine wpList_store_new (o := ⟨none, .store 103 (.tmp 4) (.tmp 13), _, _, _, _⟩) rfl 103 _ _ rfl (bytesA (fun _ => 0#8) 32) (bytesA (sumS p m) 32) _ rfl rfl rfl (by rw [bytesA_size]; kernel_rfl) (by rw [bytesA_size, bytesA_size]) (bytesA_one _ _) ?_))
    obtain ⟨w4, hw4⟩ : ∃ w4, w3.alloc (.cells (bytesA (sumS p m) 32) 103) = w4 := ⟨_, rfl⟩
    rw [hw4] at hal hal2
    simp only [hw4]
    obtain ⟨s, hs⟩ : ∃ s, w3.heap.size = s := ⟨_, rfl⟩
    have KB4 := Lib.hid ((hal.block r (lt_row KB3)).trans KB3)
    have KA4 := Lib.hid ((hal.block q (lt_row KA3)).trans KA3)
    have B4 := Lib.hid ((HB.out.trans (hb3.mono (by omega))).trans (hal.mono (by have := lt_row KA3; omega)))
    rw [hs] at hal2
    simp only [hs]
    have K4 := Lib.hid hal2
    have hrs : r < s := by have := lt_row KB3; omega
    clear KB3 KA3 hb3 hal hal2 hs hw4 KA KB HB SM hza
    clear w3 wa
    have hall2 := fun w' => run_arr32_all w' s
    refine region_class1 2 (fun w' => Below w4.heap.size w4 w') mixedOrders (by kernel_rfl) (Below.refl _ _).drew rfl ?_
    refine wpQuiet_take (by rfl) (fun K hK => ⟨.slice (some ⟨r, 0, none⟩) 64 64, fun w2' hw2 => ?_, hK _ ?_⟩)
    · clear hw2; go_simp
    clear hK K
    simp only [Act.put, List.setIfInBounds_toArray, List.set_cons_succ, List.set_cons_zero]
    refine wpQuiet_take (by rfl) (fun K hK => ⟨.slice (some ⟨s, 0, none⟩) 32 32, fun w2' hw2 => ?_, hK _ ?_⟩)
    · clear hw2; go_simp
    clear hK K
    simp only [Act.put, List.setIfInBounds_toArray, List.set_cons_succ, List.set_cons_zero]
    refine wpQuiet_take0 ?_
    intro w5 hb5
    have KB5 := Lib.hid ((hb5.block r (lt_row KB4.out)).trans KB4.out)
    have KA5 := Lib.hid ((hb5.block q (lt_row KA4.out)).trans KA4.out)
    have K5 := Lib.hid ((hb5.block s (lt_row K4.out)).trans K4.out)
    have B5 := Lib.hid (B4.out.trans (hb5.mono (by have := lt_row KA4.out; omega)))
    clear hb5 KA4 KB4 K4 B4 w4 hall hall2
    obtain ⟨w6, hcp, S6⟩ := copy_row KB5.out 0 64 64 (some ⟨s, 0, none⟩) 32 32 32 (sumS p m) rfl (by omega) (row_bytesIn K5.out 32 (Nat.le_refl _) (by unfold maxLen; omega))
    have S := Lib.hid S6
    have K6 := Lib.hid (S6.keep (k := q) (by omega) KA5.out)
    have e : over8 (fun _ => 0#8) 0 32 (sumS p m) = keyB p m := by
      funext i
      unfold over8 keyB
      rw [if_neg h64]
      by_cases hi : i < 32
      · rw [if_pos (by omega), if_pos hi]; rfl
      · rw [if_neg (by omega), if_neg hi]
    rw [e] at S
    clear S6 e
    have hcp' : (Builtin.copy_ #[31, 31] 3 #[.slice (some ⟨r, 0, none⟩) 64 64, .slice (some ⟨s, 0, none⟩) 32 32]).run Tryd.prog w5 = .ok (goInt 32) w6 := hcp
    clear hcp
    go_wp2_with (first
      | (refine wpList_load_row rfl 132 _ rfl r rfl _ _ (0, 0) _ S.out.row Tryd.underlying132 rfl (by rw [bytesA_size]; kernel_rfl) ?_)
      | (refine wpList_store_row rfl 132 _ _ rfl q _ _ (bytesA (keyB p m) 64) rfl rfl K6.out (by rw [bytesA_size, bytesA_size]) (by rw [bytesA_size]; kernel_rfl) (bytesA_one _ _) ?_; intro w7 s7))
    exact ret_row q _ 132 (bytesA (keyB p m) 64) rfl _ rfl s7.row Tryd.underlying132 rfl (by rw [bytesA_size]; kernel_rfl) rfl ⟨rfl, by rw [HQ.out]; exact (B5.out.trans (S.out.below _ (by omega))).trans (s7.below _ (Nat.le_refl _))⟩
end Go.Proofs.YtjbpjoondmcnlabDoor
/-
  sha: Mac.
-/
namespace Go.Proofs.YtjbpjoondmcnlabDoor
open Go Go.RowKit Go.BigFrame
set_option linter.unusedSimpArgs false
set_option linter.unusedVariables false
/-- Each byte put together with one. -/
def xorB (K : Nat → BitVec 8) (x : BitVec 8) (i : Nat) : BitVec 8 := K i ^^^ x
set_option maxHeartbeats 4000000 in
set_option maxRecDepth 100000 in
theorem keyed_any (K : Nat → BitVec 8) (x : BitVec 8) (w : World) (T : TabK w) : Calls Tryd.prog 80 #[.agg (bytesA K 64), .int .u8 (n8 x)] w
    fun e w' => ∃ b, e = .returned (.pointer (some ⟨b, 0, none⟩)) ∧ w.heap.size ≤ b ∧ HashSt w' b (xorB K x) 64 ∧ Below w.heap.size w w' := by
  have TK := Lib.hid T
  have TL := T.lt
  clear T
  go_enter Tryd.func80, Tryd.ntmps80
  go_wp2_with fail
  obtain ⟨wa, hwa⟩ : ∃ wa, w.alloc (.cells (bytesA K 64) 132) = wa := ⟨_, rfl⟩
  have K0 : wa.heap[w.heap.size]? = some (.cells (bytesA K 64) 132 (0, 0)) := by rw [← hwa]; exact heap_alloc_last _ _
  have hb : Below w.heap.size w wa := by rw [← hwa]; exact (Below.refl _ _).alloc (Nat.le_refl _) _
  have hza : wa.heap.size = w.heap.size + 1 := by rw [← hwa]; exact alloc_size _ _
  simp only [hwa]
  clear hwa
  have Ta := Lib.hid (TK.out.later hb)
  obtain ⟨q, hq⟩ : ∃ q, w.heap.size = q := ⟨_, rfl⟩
  rw [hq] at K0 hb hza TL
  simp only [hq]
  have HQ := Lib.hid hq
  have KA := Lib.hid K0
  have HB := Lib.hid hb
  clear hq K0 hb TK
  go_loopw [7] (fun s wr => ∃ i : Nat, i ≤ 64 ∧ s = .int .i64 (i : Int) ∧ RowSet wa q 132 (bytesA (fun j => if j < i then xorB K x j else K j) 64) wr) (fun s _ => 64 - (intOf s).toNat)
  case atStart => exact ⟨0, by omega, rfl, by rw [bytesA_congr (g := K) (fun j _ => by rw [if_neg (by omega)])]; exact ⟨KA.out, fun _ _ => rfl, rfl, fun _ _ => Below.refl _ _⟩⟩
  case round =>
    obtain ⟨i, hi, rfl, rs⟩ := hrel
    have RS := Lib.hid rs
    clear rs
    by_cases hlt : i < 64
    · have hlI : (i : Int) < 64 := by omega
      have kr : wr.cell? ⟨q, i, none⟩ = some (.int .u8 (n8 (K i))) := by rw [row_range RS.out.row hlt, if_neg (by omega)]
      have fz : wr.frozen? ⟨q, i, none⟩ = false := frozen_of_row _ _ _ _ _ RS.out.row
      have QS := Lib.hid (rowSet_cell wr q i 132 _ (.int .u8 (n8 (K i ^^^ x))) RS.out.row)
      go_wp2_with fail
      go_roundw
      case rel =>
        refine ⟨i + 1, by omega, by go_num, ?_, fun k hk => (QS.out.other k hk).trans (RS.out.other k hk), QS.out.size.trans RS.out.size, fun b hb => (RS.out.below b hb).trans (QS.out.below b hb)⟩
        have h := QS.out.row
        rw [bytesA_set, bytesA_congr (g := fun j => if j < i + 1 then xorB K x j else K j) (fun j _ => by
          by_cases e : j = i
          · subst e; rw [if_pos rfl, if_pos (by omega)]; rfl
          · rw [if_neg e]
            by_cases e2 : j < i
            · rw [if_pos e2, if_pos (by omega)]
            · rw [if_neg e2, if_neg (by omega)])] at h
        exact h
      case measure => (simp [intOf] <;> omega)
    · obtain rfl : i = 64 := by omega
      clear hlt hi
      have rw1 : wr.heap[q]? = some (.cells (bytesA (xorB K x) 64) 132 (0, 0)) := by
        have h := RS.out.row
        rw [bytesA_congr (g := xorB K x) (fun j hj => by rw [if_pos hj])] at h
        exact h
      have R1 := Lib.hid rw1
      have B1 := Lib.hid (HB.out.trans (RS.out.below _ (Nat.le_refl _)))
      have T1 := Lib.hid (Ta.out.chg RS.out.chg (by omega))
      have hzr : wr.heap.size = q + 1 := by rw [RS.out.size, hza]
      clear rw1 RS Ta HB KA hza
      go_wp2_with fail
      with_reducible refine (new_any wr).mono ?_
      rintro e w2 ⟨rfl, hr2, hb2, hz2⟩
      rw [hzr] at hr2 hz2 ⊢
      have R2 := (hb2.block q (lt_row R1.out)).trans R1.out
      have hall := fun w' => run_arr64_all w' q 0
      have WR := Lib.hid (write_any (q + 1) 0 64 64 (xorB K x) (xorB K x) (some ⟨q, 0, none⟩) w2 (T1.out.later hb2) (by omega) (hashSt_zero _ hr2) (row_bytesIn R2 64 (Nat.le_refl _) (by unfold maxLen; omega)) (Nat.le_refl _) (by unfold maxLen; omega)
        (fun _ y hy => by injection hy with hy; subst hy; show q ≠ _; omega) (by omega))
      have B2 := Lib.hid (B1.out.trans (hb2.mono (by omega)))
      have hz2' := Lib.hid hz2
      clear hr2 hb2 hz2 R2 R1 B1 T1
      go_wp2_with fail
      with_reducible refine WR.out.mono ?_
      rintro e w3 ⟨rfl, st3, ch3⟩
      rw [joinb_zero, Nat.zero_add] at st3
      have ST := Lib.hid st3
      have CH := Lib.hid ch3
      clear st3 ch3 WR
      go_wp2_with fail
      go_ret
      exact ⟨q + 1, rfl, by rw [HQ.out]; omega, ST.out, by rw [HQ.out]; exact B2.out.trans (CH.out.below (by omega) (by have := hz2'.out; omega))⟩
/-- The sum by a key's block. -/
def macB (K p : Nat → BitVec 8) (n : Nat) : Nat → BitVec 8 := sumS (joinb (xorB K 92#8) 64 (sumS (joinb (xorB K 54#8) 64 p) (64 + n))) 96
set_option maxHeartbeats 4000000 in
set_option maxRecDepth 100000 in
theorem mac_any (m c n d : Nat) (k p : Nat → BitVec 8) (a a' : Option Addr) (w : World) (T : TabK w) (hx : BytesIn w a m k) (hc : m ≤ c) (hcm : c ≤ maxLen) (hsz : m < 576460752303423488)
    (hy : BytesIn w a' n p) (hd : n ≤ d) (hdm : d ≤ maxLen) (hsn : n < 144115188075855872) :
    Calls Tryd.prog 56 #[.slice a m c, .slice a' n d] w fun e w' => e = .returned (.agg (bytesA (macB (keyB k m) p n) 32)) ∧ Below w.heap.size w w' := by
  have HX := Lib.hid hx
  have HAP' := Lib.hid (bytesIn_lt hy)
  have HY := Lib.hid hy
  have TK := Lib.hid T
  have TL := T.lt
  clear hx hy T
  have e54 : n8 54#8 = 54 := by unfold n8; rfl
  have e92 : n8 92#8 = 92 := by unfold n8; rfl
  have E54 := Lib.hid e54
  have E92 := Lib.hid e92
  clear e54 e92
  go_enter Tryd.func56, Tryd.ntmps56
  go_wp2_with (refine wpList_alloc_row (o := ⟨some 4, .alloc 103, _, _, _, _⟩) rfl 103 rfl _ zero_32 ?_)
  obtain ⟨wa, hwa⟩ : ∃ wa, w.alloc (.cells (bytesA (fun _ => 0#8) 32) 103) = wa := ⟨_, rfl⟩
  have K0 : wa.heap[w.heap.size]? = some (.cells (bytesA (fun _ => 0#8) 32) 103 (0, 0)) := by rw [← hwa]; exact heap_alloc_last _ _
  have hb : Below w.heap.size w wa := by rw [← hwa]; exact (Below.refl _ _).alloc (Nat.le_refl _) _
  have hza : wa.heap.size = w.heap.size + 1 := by rw [← hwa]; exact alloc_size _ _
  simp only [Act.put, List.setIfInBounds_toArray, List.set_cons_succ, List.set_cons_zero, hwa]
  clear hwa
  have TKa := TK.out.later hb
  have Xa := bytesIn_ext HX.out hb
  have KB := keyBlock_any m c k a wa TKa Xa hc hcm hsz
  have Ya := bytesIn_ext HY.out hb
  obtain ⟨q, hq⟩ : ∃ q, w.heap.size = q := ⟨_, rfl⟩
  rw [hq] at K0 hb hza TL HAP'
  simp only [hq]
  have HQ := Lib.hid hq
  have KBH := Lib.hid KB
  have KA := Lib.hid K0
  have HB := Lib.hid hb
  have TA := Lib.hid TKa
  have YA := Lib.hid Ya
  clear hq K0 hb TK HX HY KB TKa Xa Ya
  with_reducible refine KBH.out.mono ?_
  rintro e w1 ⟨rfl, hb1⟩
  have hal : Below w1.heap.size w1 (w1.alloc (.cells (bytesA (keyB k m) 64) 132)) := (Below.refl _ _).alloc (Nat.le_refl _) _
  have hal2 : (w1.alloc (.cells (bytesA (keyB k m) 64) 132)).heap[w1.heap.size]? = some (.cells (bytesA (keyB k m) 64) 132 (0, 0)) := heap_alloc_last _ _
  have hz1 := hb1.size
  go_upto_region 2 with (first
    | (refine wpList_alloc_row (o := ⟨some 5, .alloc 132, _, _, _, _⟩) rfl 132 rfl _ zero_64 ?_)
    | (refine wpList_store_new (o := ⟨none, .store 132 (.tmp 5) (.tmp 10), _, _, _, _⟩) rfl 132 _ _ rfl (bytesA (fun _ => 0#8) 64) (bytesA (keyB k m) 64) _ rfl rfl rfl (by rw [bytesA_size]; kernel_rfl) (by rw [bytesA_size, bytesA_size]) (bytesA_one _ _) ?_))
  obtain ⟨w2, hw2⟩ : ∃ w2, w1.alloc (.cells (bytesA (keyB k m) 64) 132) = w2 := ⟨_, rfl⟩
  rw [hw2] at hal hal2
  have hz2 : w2.heap.size = w1.heap.size + 1 := by rw [← hw2]; exact alloc_size _ _
  simp only [hw2]
  obtain ⟨s, hs⟩ : ∃ s, w1.heap.size = s := ⟨_, rfl⟩
  have E2 : Below wa.heap.size wa w2 := hb1.trans (hal.mono hb1.size)
  rw [hs] at hal2 hz2 hz1
  simp only [hs]
  have S2 := Lib.hid hal2
  have KA2 := Lib.hid ((E2.block q (lt_row KA.out)).trans KA.out)
  have HB2 := Lib.hid (HB.out.trans (E2.mono (by omega)))
  have TA2 := Lib.hid (TA.out.later E2)
  have YA2 := Lib.hid (bytesIn_ext YA.out E2)
  have hqs : q < s := by omega
  clear hal hal2 hw2 hs hb1 KA HB TA YA E2 KBH hz1 hza
  clear w1 wa
  have k1 := keyed_any (keyB k m) 54#8 w2 TA2.out
  rw [E54.out] at k1
  have K1 := Lib.hid k1
  clear k1 E54
  go_wp2_with (refine wpList_load_row rfl 132 _ rfl s rfl _ _ (0, 0) _ S2.out Tryd.underlying132 rfl (by rw [bytesA_size]; kernel_rfl) ?_)
  with_reducible refine K1.out.mono ?_
  rintro e w3 ⟨b, rfl, hb3, st3, e3⟩
  have S3 := Lib.hid ((e3.block s (lt_row S2.out)).trans S2.out)
  have KA3 := Lib.hid ((e3.block q (lt_row KA2.out)).trans KA2.out)
  have HB3 := Lib.hid (HB2.out.trans (e3.mono (by omega)))
  have TA3 := TA2.out.later e3
  have YA3 := bytesIn_ext YA2.out e3
  have W3 := Lib.hid (write_any b 64 n d (xorB (keyB k m) 54#8) p a' w3 TA3 (by omega) st3 YA3 hd hdm (fun hm x hx => by have := HAP'.out hm x hx; omega) (by omega))
  have hsb : s < b := by omega
  have hsz3 : s < w3.heap.size := lt_row S3.out
  have T3 := Lib.hid TA3
  clear K1 S2 KA2 HB2 TA2 YA2 TA3 YA3 st3 e3 hb3 hz2 w2
  go_wp2_with fail
  with_reducible refine W3.out.mono ?_
  rintro e w4 ⟨rfl, st4, ch4⟩
  have S4 := Lib.hid (ch4.row (k := s) (by omega) S3.out)
  have KA4 := Lib.hid (ch4.row (k := q) (by omega) KA3.out)
  have HB4 := Lib.hid (HB3.out.trans (ch4.below (by omega) (by omega)))
  have T4 := Lib.hid (T3.out.chg ch4 (by omega))
  have SM := Lib.hid (sum_any (some ⟨b, 0, none⟩) (64 + n) _ w4 T4.out (.inr ⟨b, rfl, st4⟩) (by omega))
  clear W3 S3 KA3 HB3 T3 st4 ch4 hsz3 w3
  go_wp2_with fail
  with_reducible refine SM.out.mono ?_
  rintro e w5 ⟨rfl, hb5⟩
  obtain ⟨inn, hin⟩ : ∃ inn, sumS (joinb (xorB (keyB k m) 54#8) 64 p) (64 + n) = inn := ⟨_, rfl⟩
  have HIN := Lib.hid hin
  have hin' : sumB kW startW (joinb (xorB (keyB k m) 54#8) 64 p) (64 + n) = inn := hin
  simp only [hin']
  clear hin hin' SM
  have hal : Below w5.heap.size w5 (w5.alloc (.cells (bytesA inn 32) 103)) := (Below.refl _ _).alloc (Nat.le_refl _) _
  have hal2 : (w5.alloc (.cells (bytesA inn 32) 103)).heap[w5.heap.size]? = some (.cells (bytesA inn 32) 103 (0, 0)) := heap_alloc_last _ _
  have hz5 := hb5.size
  go_upto_region 5 with (first
    | (refine wpList_alloc_row (o := ⟨some 7, .alloc 103, _, _, _, _⟩) rfl 103 rfl _ zero_32 ?_)
    | (refine wpList_store_new (o := ⟨none, .store 103 (.tmp 7) (.tmp 17), _, _, _, _⟩) rfl 103 _ _ rfl (bytesA (fun _ => 0#8) 32) (bytesA inn 32) _ rfl rfl rfl (by rw [bytesA_size]; kernel_rfl) (by rw [bytesA_size, bytesA_size]) (bytesA_one _ _) ?_))
  obtain ⟨w6, hw6⟩ : ∃ w6, w5.alloc (.cells (bytesA inn 32) 103) = w6 := ⟨_, rfl⟩
  rw [hw6] at hal hal2
  have hz6 : w6.heap.size = w5.heap.size + 1 := by rw [← hw6]; exact alloc_size _ _
  simp only [hw6]
  obtain ⟨u, hu⟩ : ∃ u, w5.heap.size = u := ⟨_, rfl⟩
  have E6 : Below w4.heap.size w4 w6 := hb5.trans (hal.mono hb5.size)
  have hsz4 := lt_row S4.out
  rw [hu] at hal2 hz6 hz5
  simp only [hu]
  have U6 := Lib.hid hal2
  have S6 := Lib.hid ((E6.block s hsz4).trans S4.out)
  have KA6 := Lib.hid ((E6.block q (lt_row KA4.out)).trans KA4.out)
  have HB6 := Lib.hid (HB4.out.trans (E6.mono (by have := lt_row KA4.out; omega)))
  have T6 := Lib.hid (T4.out.later E6)
  have hsu : s < u := by omega
  clear hal hal2 hw6 hu hb5 E6 S4 KA4 HB4 T4 hz5 hsz4
  clear w5 w4
  have k2 := keyed_any (keyB k m) 92#8 w6 T6.out
  rw [E92.out] at k2
  have K2 := Lib.hid k2
  clear k2 E92
  go_wp2_with (refine wpList_load_row rfl 132 _ rfl s rfl _ _ (0, 0) _ S6.out Tryd.underlying132 rfl (by rw [bytesA_size]; kernel_rfl) ?_)
  with_reducible refine K2.out.mono ?_
  rintro e w7 ⟨b2, rfl, hb7, st7, e7⟩
  have U7 := (e7.block u (lt_row U6.out)).trans U6.out
  have KA7 := Lib.hid ((e7.block q (lt_row KA6.out)).trans KA6.out)
  have HB7 := Lib.hid (HB6.out.trans (e7.mono (by omega)))
  have T7 := T6.out.later e7
  have hall := fun w' => run_arr32_all w' u
  have W7 := Lib.hid (write_any b2 64 32 32 (xorB (keyB k m) 92#8) inn (some ⟨u, 0, none⟩) w7 T7 (by omega) st7 (row_bytesIn U7 32 (Nat.le_refl _) (by unfold maxLen; omega)) (Nat.le_refl _) (by unfold maxLen; omega)
    (fun _ y hy => by injection hy with hy; subst hy; show u ≠ _; omega) (by omega))
  have T7' := Lib.hid T7
  have hqb : q < b2 ∧ q < w7.heap.size := ⟨by omega, by have := lt_row KA7.out; omega⟩
  have hgb : 0 < b2 := by omega
  clear K2 S6 KA6 HB6 T6 st7 e7 hb7 T7 U7 U6 hz6 w6
  go_wp2_with fail
  with_reducible refine W7.out.mono ?_
  rintro e w8 ⟨rfl, st8, ch8⟩
  have KA8 := Lib.hid (ch8.row (k := q) (by omega) KA7.out)
  have HB8 := Lib.hid (HB7.out.trans (ch8.below (by omega) (by omega)))
  have SM := Lib.hid (sum_any (some ⟨b2, 0, none⟩) (64 + 32) _ w8 (T7'.out.chg ch8 hgb) (.inr ⟨b2, rfl, st8⟩) (by omega))
  clear W7 KA7 HB7 T7' st8 ch8 hqb
  go_wp2_with fail
  with_reducible refine SM.out.mono ?_
  rintro e w9 ⟨rfl, hb9⟩
  have K9 := Lib.hid ((hb9.block q (lt_row KA8.out)).trans KA8.out)
  have B9 := Lib.hid (HB8.out.trans (hb9.mono (by have := lt_row KA8.out; omega)))
  obtain ⟨res, hres⟩ : ∃ res, sumB kW startW (joinb (xorB (keyB k m) 92#8) 64 inn) (64 + 32) = res := ⟨_, rfl⟩
  simp only [hres]
  have hfin : macB (keyB k m) p n = res := by unfold macB; rw [HIN.out, ← hres]; rfl
  have HF := Lib.hid hfin
  clear hb9 KA8 HB8 SM hres hfin
  go_wp2_with (refine wpList_store_row rfl 103 _ _ rfl q _ _ (bytesA res 32) rfl rfl K9.out (by rw [bytesA_size, bytesA_size]) (by rw [bytesA_size]; kernel_rfl) (bytesA_one _ _) ?_; intro w10 s10)
  exact ret_row q _ 103 (bytesA res 32) rfl _ rfl s10.row Tryd.underlying103 rfl (by rw [bytesA_size]; kernel_rfl) rfl ⟨by rw [HF.out], by rw [HQ.out]; exact B9.out.trans (s10.below _ (Nat.le_refl _))⟩
end Go.Proofs.YtjbpjoondmcnlabDoor
/-
  '==' OF ARRAYS OF WORDS: the run of the comparison, out of the library's law on values that may be keys.
-/
namespace Go.Proofs.YtjbpjoondmcnlabDoor
open Go Go.RowKit
theorem mapM_some_range {α : Type} (F : Nat → Option α) (g : Nat → α) : ∀ (l : List Nat), (∀ i ∈ l, F i = some (g i)) → l.mapM F = some (l.map g)
  | [], _ => rfl
  | i :: l, h => by
    rw [List.mapM_cons, h i (by simp), mapM_some_range F g l (fun j hj => h j (by simp [hj]))]
    rfl
theorem keyLits_array {P : Program} {t e : TypeId} {n m d : Nat} {cs : List Value} (g : Nat → List Lit) (hu : P.underlying t = some (.array n e)) (hm : P.cellsOf e = m) (ht : P.cellsOf t = cs.length)
    (hg : ∀ i, i < n → P.keyLits d e ((cs.drop (i * m)).take m) = some (g i)) : P.keyLits (d + 1) t cs = some ((List.range n).map g).flatten := by
  unfold Program.keyLits
  rw [hu]
  simp only [ht, if_true, hm]
  rw [mapM_some_range _ g _ (fun i hi => hg i (List.mem_range.1 hi))]
  rfl
theorem keyLits_u32 {P : Program} {e : TypeId} {d : Nat} (x : BitVec 32) (hu : P.underlying e = some (.int .u32)) : P.keyLits (d + 1) e [.int .u32 (n32 x)] = some [.int .u32 (n32 x)] := by
  unfold Program.keyLits
  rw [hu]
  have h1 := n32_nonneg x
  have h2 := n32_lt x
  have : (Lit.int .u32 (n32 x)).wf = true := by simp [Lit.wf, IntKind.min, IntKind.max, IntKind.signed, IntKind.bits]; omega
  simp [this]
theorem keyLits_u8 {P : Program} {e : TypeId} {d : Nat} (x : BitVec 8) (hu : P.underlying e = some (.int .u8)) : P.keyLits (d + 1) e [.int .u8 (n8 x)] = some [.int .u8 (n8 x)] := by
  unfold Program.keyLits
  rw [hu]
  have h1 := n8_nonneg x
  have h2 := n8_lt x
  have : (Lit.int .u8 (n8 x)).wf = true := by simp [Lit.wf, IntKind.min, IntKind.max, IntKind.signed, IntKind.bits]; omega
  simp [this]
theorem drop_take_one {α : Type} (f : Nat → α) (n i : Nat) (h : i < n) : (((List.range n).map f).drop (i * 1)).take 1 = [f i] := by
  apply List.ext_getElem?
  intro j
  match j with
  | 0 => simp [h]
  | j + 1 => simp; omega
/-- Arrays of bytes. -/
theorem keyLits_bytes {P : Program} {t e : TypeId} {n d : Nat} (b : Nat → BitVec 8) (hu : P.underlying t = some (.array n e)) (he : P.underlying e = some (.int .u8)) (hm : P.cellsOf e = 1) (ht : P.cellsOf t = n) :
    P.keyLits (d + 2) t ((List.range n).map fun i => .int .u8 (n8 (b i))) = some ((List.range n).map fun i => [Lit.int .u8 (n8 (b i))]).flatten :=
  keyLits_array (m := 1) (fun i => [Lit.int .u8 (n8 (b i))]) hu hm (by simp [ht]) (fun i hi => by rw [drop_take_one _ _ _ hi]; exact keyLits_u8 (b i) he)
theorem flatten_single {α : Type} (f : Nat → α) (l : List Nat) : (l.map fun i => [f i]).flatten = l.map f := by
  induction l with
  | nil => rfl
  | cons i l ih => simp [ih]
/-- '==' of arrays of bytes. -/
theorem run_eq_bytes {P : Program} {t e : TypeId} {n : Nat} (b c : Nat → BitVec 8) (w : World) (hk : P.keyTypeAt 10 t = true) (hu : P.underlying t = some (.array n e)) (he : P.underlying e = some (.int .u8)) (hm : P.cellsOf e = 1) (ht : P.cellsOf t = n) :
    (Op.equalIn 10000 t (.agg ((List.range n).map fun i => .int .u8 (n8 (b i))).toArray) (.agg ((List.range n).map fun i => .int .u8 (n8 (c i))).toArray)).run P w = .ok (decide (∀ i, i < n → b i = c i)) w := by
  have fa : ∀ b : Nat → BitVec 8, (Value.agg ((List.range n).map fun i => .int .u8 (n8 (b i))).toArray).formed P t = true := fun b => by
    unfold Value.formed
    rw [hu]
    simp [ht]
  obtain ⟨r, hr, hiff⟩ := run_equalIn_deep (P := P) 9990 10 t hk w 2 2 _ _ _ _ (fa b) (fa c) (by simpa [Value.cells] using keyLits_bytes (d := 0) b hu he hm ht) (by simpa [Value.cells] using keyLits_bytes (d := 0) c hu he hm ht)
  rw [hr]
  congr 1
  rw [Bool.eq_iff_iff, hiff, flatten_single (fun i => Lit.int .u8 (n8 (b i))), flatten_single (fun i => Lit.int .u8 (n8 (c i))), decide_eq_true_eq]
  constructor
  · intro h i hi
    have := List.map_inj_left.1 h i (List.mem_range.2 hi)
    simp only [Lit.int.injEq, true_and] at this
    rwa [n8_inj] at this
  · intro h
    refine List.map_congr_left (fun i hi => ?_)
    rw [h i (List.mem_range.1 hi)]
end Go.Proofs.YtjbpjoondmcnlabDoor
