/-
  sha: New, Len, Sum of bytes, Mac.
-/
import Derived.Test.YtebhhonmpoeliaaDoorShaG
namespace Go.Proofs.YtebhhonmpoeliaaDoor
open Go Go.RowKit Go.BigFrame
set_option linter.unusedSimpArgs false
set_option linter.unusedVariables false
/-- The sum of the first n bytes. -/
def sumS (p : Nat → BitVec 8) (n : Nat) : Nat → BitVec 8 := sumB kW startW p n
theorem sumS_congr {f g : Nat → BitVec 8} {n : Nat} (h : ∀ i, i < n → f i = g i) : sumS f n = sumS g n := funext fun i => sumB_congr h i
theorem joinb_zero (f p : Nat → BitVec 8) : joinb f 0 p = p := by funext i; unfold joinb; rw [if_neg (by omega), Nat.sub_zero]
theorem zero_value {P : Program} {T : TypeId} {v : Value} (h : (P.info? T).map (·.zero) = some (some v)) (w : World) : (zeroValue T).run P w = .ok v w := by
  cases hq : P.info? T with
  | none => simp [hq] at h
  | some x =>
    have hx : x.zero = some v := by simpa [hq] using h
    simp [zeroValue, typeInfo, hq, hx, Sem.run_bind]
theorem new_any (w : World) : Calls Tryd.prog 30 #[] w fun e w' => e = .returned (.pointer (some ⟨w.heap.size, 0, none⟩)) ∧ HashRow w' w.heap.size zeroW (fun _ => 0#8) 0 ∧ Below w.heap.size w w' ∧ w'.heap.size = w.heap.size + 1 := by
  have hzv := zero_value (P := Tryd.prog) (T := 63) zero_hash
  obtain ⟨C, hC⟩ : ∃ C, hashA zeroW (fun _ => 0#8) 0 = C := ⟨_, rfl⟩
  unfold HashRow
  rw [hC] at hzv ⊢
  clear hC
  go_enter Tryd.func30, Tryd.ntmps30
  go_wp2_with fail
  go_ret
  exact ⟨rfl, heap_alloc_last _ _, (Below.refl _ _).alloc (Nat.le_refl _) _, by simp⟩
theorem write_nil (v : Value) (w : World) : Calls Tryd.prog 24 #[.pointer none, v] w fun e w' => e = .returned (.tuple #[]) ∧ w = w' := by
  go_enter Tryd.func24, Tryd.ntmps24
  go_wp2_with fail
  refine bodyPost_ret (results_none rfl _ _ _) rfl ?_
  exact ⟨rfl, rfl⟩
set_option maxHeartbeats 4000000 in
set_option maxRecDepth 100000 in
theorem shaSum_any (m c : Nat) (p : Nat → BitVec 8) (a : Option Addr) (w : World) (T : TabK w) (hx : BytesIn w a m p) (hc : m ≤ c) (hcm : c ≤ maxLen) (hsz : m < 576460752303423488) :
    Calls Tryd.prog 29 #[.slice a m c] w fun e w' => e = .returned (.agg (bytesA (sumS p m) 32)) ∧ Below w.heap.size w w' := by
  have TL := T.lt
  go_enter Tryd.func29, Tryd.ntmps29
  go_upto_region 2 with (first | (refine wpList_alloc_row (o := ⟨some 2, .alloc 42, _, _, _, _⟩) rfl 42 rfl _ zero_32 ?_) | (refine wpList_alloc_row (o := ⟨some 3, .alloc 63, _, _, _, _⟩) rfl 63 rfl _ zero_hash ?_))
  obtain ⟨wa, hwa⟩ : ∃ wa, (w.alloc (.cells (bytesA (fun _ => 0#8) 32) 42)).alloc (.cells (hashA zeroW (fun _ => 0#8) 0) 63) = wa := ⟨_, rfl⟩
  have K0 : wa.heap[w.heap.size]? = some (.cells (bytesA (fun _ => 0#8) 32) 42 (0, 0)) := by
    rw [← hwa]; exact rows_alloc w [.cells (bytesA (fun _ => 0#8) 32) 42, .cells (hashA zeroW (fun _ => 0#8) 0) 63] 0
  have K1 : HashRow wa (w.heap.size + 1) zeroW (fun _ => 0#8) 0 := by
    unfold HashRow
    rw [← hwa]; exact rows_alloc w [.cells (bytesA (fun _ => 0#8) 32) 42, .cells (hashA zeroW (fun _ => 0#8) 0) 63] 1
  have hb : Below w.heap.size w wa := by
    rw [← hwa]
    repeat (first | exact Below.refl _ _ | refine Below.alloc ?_ (by simp; try omega) _)
  simp only [Act.put, List.setIfInBounds_toArray, List.set_cons_succ, List.set_cons_zero, alloc_size, hwa]
  clear hwa
  have WR := Lib.hid (write_any (w.heap.size + 1) 0 m c p p a wa (T.later hb) (by omega) (hashSt_zero p K1) (bytesIn_ext hx hb) hc hcm (fun hm x hx' => by have := bytesIn_lt hx hm x hx'; omega) (by omega))
  have Ta := Lib.hid (T.later hb)
  have HB := Lib.hid hb
  have K0' := Lib.hid K0
  clear hx K0 K1 hb T
  obtain ⟨q, hq⟩ : ∃ q, w.heap.size = q := ⟨_, rfl⟩
  rw [hq] at WR HB K0' TL
  simp only [hq]
  have HQ := Lib.hid hq
  clear hq
  go_wp2_with fail
  with_reducible refine WR.out.mono ?_
  rintro e w5 ⟨rfl, st5, ch5⟩
  rw [joinb_zero, Nat.zero_add] at st5
  have hql := lt_row K0'.out
  have K5 := Lib.hid (ch5.row (k := q) (by omega) K0'.out)
  have B5 := Lib.hid (HB.out.trans (ch5.below (by omega) (by omega)))
  have SM := Lib.hid (sum_any (some ⟨q + 1, 0, none⟩) m p w5 (Ta.out.chg ch5 (by omega)) (.inr ⟨q + 1, rfl, st5⟩) hsz)
  clear st5 ch5 WR HB K0' Ta hql
  go_wp2_with fail
  with_reducible refine SM.out.mono ?_
  rintro e w6 ⟨rfl, hb6⟩
  have K6 := Lib.hid ((hb6.block q (lt_row K5.out)).trans K5.out)
  have B6 := Lib.hid (B5.out.trans (hb6.mono (by have := lt_row K5.out; omega)))
  clear hb6 K5 B5 SM
  go_wp2_with (refine wpList_store_row rfl 42 _ _ rfl q _ _ (bytesA (sumB kW startW p m) 32) rfl rfl K6.out (by rw [bytesA_size, bytesA_size]) (by rw [bytesA_size]; kernel_rfl) (bytesA_one _ _) ?_; intro w7 s7)
  exact ret_row q _ 42 (bytesA (sumB kW startW p m) 32) rfl _ rfl s7.row Tryd.underlying42 rfl (by rw [bytesA_size]; kernel_rfl) rfl ⟨rfl, by rw [HQ.out]; exact B6.out.trans (s7.below _ (Nat.le_refl _))⟩
end Go.Proofs.YtebhhonmpoeliaaDoor
