/-
  sha: Sum: the sum of what a hash has taken.
-/
import Derived.Test.YtebhhonmpoeliaaDoorShaF
namespace Go.Proofs.YtebhhonmpoeliaaDoor
open Go Go.RowKit Go.BigFrame
set_option linter.unusedSimpArgs false
set_option linter.unusedVariables false
def zeroW : W8 := ⟨0#32, 0#32, 0#32, 0#32, 0#32, 0#32, 0#32, 0#32⟩
theorem zero_hash : (Tryd.prog.info? 63).map (·.zero) = some (some (.agg (hashA zeroW (fun _ => 0#8) 0))) := by kernel_rfl
theorem zero_72 : (Tryd.prog.info? 66).map (·.zero) = some (some (.agg (bytesA (fun _ => 0#8) 72))) := by kernel_rfl
theorem zero_32 : (Tryd.prog.info? 42).map (·.zero) = some (some (.agg (bytesA (fun _ => 0#8) 32))) := by kernel_rfl
theorem zero_64 : (Tryd.prog.info? 48).map (·.zero) = some (some (.agg (bytesA (fun _ => 0#8) 64))) := by kernel_rfl
theorem hashSt_zero {w : World} {b : Nat} {v : W8} {g : Nat → BitVec 8} (f : Nat → BitVec 8) (h : HashRow w b v g 0) : HashSt w b f 0 := ⟨v, g, h, fun h0 => absurd rfl h0, fun i hi => by simp at hi⟩
theorem run_arr72 (w : World) (b h : Nat) (hh : h < 72) : (Instr.sliceAt 66 (.pointer (some ⟨b, 0, none⟩)) (some (.int .i64 (h : Int))) none none).run Tryd.prog w = .ok (.slice (some ⟨b, h, none⟩) (72 - h) (72 - h)) w := by
  have h0 : (0 : Int) ≤ (h : Int) := by omega
  have h1 : (h : Int) ≤ 72 := by omega
  have hne : ¬ 72 = h := by omega
  have e : ((⟨b, 0, none⟩ : Addr).add h) = ⟨b, 0 + h, none⟩ := Addr.add_mid _ _ _
  simp [go_sem, h0, h1, hne, e, slicedAt]
theorem run_arr72_upto (w : World) (b h : Nat) (hh : h ≤ 72) : (Instr.sliceAt 66 (.pointer (some ⟨b, 0, none⟩)) none (some (.int .i64 (h : Int))) none).run Tryd.prog w = .ok (.slice (some ⟨b, 0, none⟩) h 72) w := by
  have h0 : (0 : Int) ≤ (h : Int) := by omega
  have h1 : (h : Int) ≤ 72 := by omega
  simp [go_sem, h0, h1, slicedAt]
/-- What the padding is, as bytes: k of them ahead of the length's eight. -/
def padB (x : BitVec 64) (k : Nat) (i : Nat) : BitVec 8 := if k ≤ i ∧ i < k + 8 then lengthB x (i - k) else if i = 0 then 128#8 else 0#8
theorem pad_total (n : Nat) : n + (64 - (n + 8) % 64 + 8) = 64 * ((n + 8) / 64 + 1) := by omega
theorem pad_padded (f : Nat → BitVec 8) (n : Nat) (hn : n < 1152921504606846976) (i : Nat) (hi : i < 64 * ((n + 8) / 64 + 1)) :
    joinb f n (padB (BitVec.ofNat 64 (n * 8)) (64 - (n + 8) % 64)) i = padded f n i := by
  unfold joinb padded
  by_cases h1 : i < n
  · rw [if_pos h1, if_pos h1]
  rw [if_neg h1, if_neg h1]
  unfold padB
  have hk : 1 ≤ 64 - (n + 8) % 64 := by omega
  by_cases h2 : i = n
  · subst h2
    rw [if_neg (by omega), if_pos (by omega), if_pos rfl]
  rw [if_neg h2]
  by_cases h3 : 64 * ((n + 8) / 64 + 1) - 8 ≤ i
  · rw [if_pos h3, if_pos (by omega)]
    unfold lengthB
    apply BitVec.eq_of_toNat_eq
    rw [BitVec.toNat_setWidth, BitVec.toNat_ushiftRight, BitVec.toNat_ofNat, BitVec.toNat_ofNat, Nat.shiftRight_eq_div_pow, Nat.mod_eq_of_lt (a := n * 8) (by omega)]
    have e : 2 ^ (56 - 8 * (i - n - (64 - (n + 8) % 64))) = 256 ^ (64 * ((n + 8) / 64 + 1) - 1 - i) := by
      rw [show 56 - 8 * (i - n - (64 - (n + 8) % 64)) = 8 * (64 * ((n + 8) / 64 + 1) - 1 - i) by omega, Nat.pow_mul]
    rw [e]
  · rw [if_neg h3, if_neg (by omega), if_neg (by omega)]
set_option maxHeartbeats 8000000 in
set_option maxRecDepth 100000 in
theorem sum_any (x : Option Addr) (n : Nat) (f : Nat → BitVec 8) (w : World) (T : TabK w) (H : (x = none ∧ n = 0) ∨ ∃ b, x = some ⟨b, 0, none⟩ ∧ HashSt w b f n) (hsz : n < 576460752303423488) :
    Calls Tryd.prog 25 #[.pointer x] w fun e w' => e = .returned (.agg (bytesA (sumB kW startW f n) 32)) ∧ Below w.heap.size w w' := by
  have TK := Lib.hid T
  have HH := Lib.hid H
  have TL := T.lt
  clear T H
  go_enter Tryd.func25, Tryd.ntmps25
  go_upto_if 7 with (first | (refine wpList_alloc_row (o := ⟨some 2, .alloc 42, _, _, _, _⟩) rfl 42 rfl _ zero_32 ?_) | (refine wpList_alloc_row (o := ⟨some 3, .alloc 63, _, _, _, _⟩) rfl 63 rfl _ zero_hash ?_))
  obtain ⟨wa, hwa⟩ : ∃ wa, (w.alloc (.cells (bytesA (fun _ => 0#8) 32) 42)).alloc (.cells (hashA zeroW (fun _ => 0#8) 0) 63) = wa := ⟨_, rfl⟩
  have K0 : wa.heap[w.heap.size]? = some (.cells (bytesA (fun _ => 0#8) 32) 42 (0, 0)) := by
    rw [← hwa]; exact rows_alloc w [.cells (bytesA (fun _ => 0#8) 32) 42, .cells (hashA zeroW (fun _ => 0#8) 0) 63] 0
  have K1 : HashRow wa (w.heap.size + 1) zeroW (fun _ => 0#8) 0 := by
    unfold HashRow
    rw [← hwa]; exact rows_alloc w [.cells (bytesA (fun _ => 0#8) 32) 42, .cells (hashA zeroW (fun _ => 0#8) 0) 63] 1
  have hb : Below w.heap.size w wa := by
    rw [← hwa]
    repeat (first | exact Below.refl _ _ | refine Below.alloc ?_ (by simp; try omega) _)
  simp only [hwa]
  clear hwa
  have HW : Hid ((x = none ∧ n = 0) ∨ ∃ b, x = some ⟨b, 0, none⟩ ∧ b < w.heap.size ∧ HashSt wa b f n) := Lib.hid (by
    rcases HH.out with h | ⟨b, h1, h2⟩
    · exact .inl h
    · exact .inr ⟨b, h1, h2.lt, h2.later hb⟩)
  have TKa := Lib.hid (TK.out.later hb)
  obtain ⟨q, hq⟩ : ∃ q, w.heap.size = q := ⟨_, rfl⟩
  obtain ⟨r, hr⟩ : ∃ r, q + 1 = r := ⟨_, rfl⟩
  rw [hq] at K0 K1 hb HW TL
  rw [hr] at K1
  simp only [hq, hr]
  have hqr : q < r := by omega
  have HQ := Lib.hid hq
  have K0' := Lib.hid K0
  have K1' := Lib.hid K1
  have HB := Lib.hid hb
  clear hq hr K0 K1 hb TK HH
  go_cut [] (fun wx => HashSt wx r f n ∧ wx.heap[q]? = some (.cells (bytesA (fun _ => 0#8) 32) 42 (0, 0)) ∧ Below q w wx ∧ TabK wx)
  case first =>
    rcases HW.out with ⟨rfl, rfl⟩ | ⟨b, rfl, hbq, hst⟩
    · go_wp2_with fail
      go_meet
      exact ⟨hashSt_zero f K1'.out, K0'.out, HB.out, TKa.out⟩
    · obtain ⟨v, g, hrow, hv, hg⟩ := hst
      have HV := Lib.hid hv
      have HG := Lib.hid hg
      have R0 := Lib.hid hrow
      clear hv hg hrow HW
      go_wp2_with (first
        | (refine wpList_load_row rfl 63 _ rfl b rfl _ _ (0, 0) _ R0.out Tryd.underlying63 rfl (by rw [hashA_size]; kernel_rfl) ?_)
        | (refine wpList_store_row rfl 63 _ _ rfl r _ _ (hashA v g n) rfl rfl K1'.out (by rw [hashA_size, hashA_size]) (by rw [hashA_size]; kernel_rfl) (hashA_one _ _ _) ?_; intro w4 s4))
      go_meet
      exact ⟨⟨v, g, s4.row, HV.out, HG.out⟩, s4.keep (by omega) K0'.out, HB.out.trans (s4.below _ (by omega)), TKa.out.chg s4.chg (by omega)⟩
  case rest =>
    obtain ⟨st, k0, bel, tk⟩ := hcut
    clear HW K0' K1' HB TKa wa
    obtain ⟨v, g, hrow, hv, hg⟩ := st
    have hrs : r < wc.heap.size := lt_row hrow
    go_upto_region 5 with (refine wpList_alloc_row (o := ⟨some 4, .alloc 66, _, _, _, _⟩) rfl 66 rfl _ zero_72 ?_)
    have r72 : (wc.alloc (.cells (bytesA (fun _ => 0#8) 72) 66)).heap[wc.heap.size]? = some (.cells (bytesA (fun _ => 0#8) 72) 66 (0, 0)) := heap_alloc_last _ _
    have hba : Below wc.heap.size wc (wc.alloc (.cells (bytesA (fun _ => 0#8) 72) 66)) := (Below.refl _ _).alloc (Nat.le_refl _) _
    obtain ⟨wb, hwb⟩ : ∃ wb, wc.alloc (.cells (bytesA (fun _ => 0#8) 72) 66) = wb := ⟨_, rfl⟩
    have hszb : wb.heap.size = wc.heap.size + 1 := by rw [← hwb]; exact alloc_size _ _
    simp only [Act.put, List.setIfInBounds_toArray, List.set_cons_succ, List.set_cons_zero, hwb]
    rw [hwb] at r72 hba
    obtain ⟨s, hs⟩ : ∃ s, wc.heap.size = s := ⟨_, rfl⟩
    simp only [hs]
    have R1 := hrow.later hba
    have K1 := (hba.block q (by have := lt_row k0; omega)).trans k0
    have BE := bel.trans (hba.mono (by have := lt_row k0; omega))
    have T1 := tk.later hba
    rw [hs] at r72 hrs hszb
    have hv' := Lib.hid hv
    have hg' := Lib.hid hg
    have hqs : q < s := by omega
    clear hs hba hwb k0 bel tk hrow hv hg
    clear wc
    have e128 : n8 128#8 = 128 := by unfold n8; rfl
    have kc : wb.cell? ⟨s, 0, none⟩ = some (.int .u8 (n8 0#8)) := by rw [cell_of_row _ _ _ _ _ _ r72]; exact bytesA_get _ (by omega)
    have fz : wb.frozen? ⟨s, 0, none⟩ = false := frozen_of_row _ _ _ _ _ r72
    have QS := rowSet_cell wb s 0 66 _ (.int .u8 (n8 128#8)) r72
    rw [bytesA_set, e128] at QS
    have R2 := Lib.hid (QS.chg.row (k := r) (by omega) R1)
    have K2 := Lib.hid (QS.keep (k := q) (by omega) K1)
    have B2 := Lib.hid (BE.trans (QS.below _ (by omega)))
    have T2 := Lib.hid (T1.chg QS.chg (by omega))
    have S2 := Lib.hid QS.row
    have Z2 := Lib.hid QS.size
    clear R1 K1 BE T1 QS r72 e128
    go_upto_region 6 with fail
    obtain ⟨w2, hw2⟩ : ∃ w2, wb.setCell ⟨s, 0, none⟩ (.int .u8 128) = w2 := ⟨_, rfl⟩
    rw [hw2] at R2 K2 B2 T2 S2 Z2
    simp only [hw2]
    clear hw2 kc fz
    have cl := HashRow.len R2.out
    go_upto_region 7 with fail
    obtain ⟨k, hk⟩ : ∃ k, 64 - (n + 8) % 64 = k := ⟨_, rfl⟩
    have hkI : 64 - ((n : Int) + 8) % 64 = (k : Int) := by omega
    have hk72 : k < 72 := by omega
    simp only [hkI]
    have HK := Lib.hid hk
    have hsl := fun w' => run_arr72 w' s k hk72
    have hx8 : n64 (BitVec.ofNat 64 (n * 8)) = (n : Int) * 8 := by
      rw [n64_nat, BitVec.toNat_ofNat, Nat.mod_eq_of_lt (by omega)]; omega
    have HW8 := Lib.hid (show IntKind.u64.wrap ((n : Int) * 8) = (n : Int) * 8 by rw [IntKind.wrap_u64]; omega)
    clear hk hkI
    have szb : wb.heap.size = s + 1 := hszb
    refine region_class1 5 (fun w' => Below w2.heap.size w2 w') mixedOrders (by kernel_rfl) (Below.refl _ _).drew rfl ?_
    refine wpQuiet_take (by rfl) (fun K hK => ⟨.int .i64 (k : Int), fun w2' hw2 => ?_, hK _ ?_⟩)
    · clear hw2; go_simp
    clear hK K
    simp only [Act.put, List.setIfInBounds_toArray, List.set_cons_succ, List.set_cons_zero]
    refine wpQuiet_take (by rfl) (fun K hK => ⟨.slice (some ⟨s, k, none⟩) (72 - k) (72 - k), fun w2' hw2 => ?_, hK _ ?_⟩)
    · clear hw2; go_simp
    clear hK K
    simp only [Act.put, List.setIfInBounds_toArray, List.set_cons_succ, List.set_cons_zero]
    refine wpQuiet_take (by rfl) (fun K hK => ⟨.pointer (some ⟨r, 72, none⟩), fun w2' hw2 => ?_, hK _ ?_⟩)
    · clear hw2; go_simp
    clear hK K
    simp only [Act.put, List.setIfInBounds_toArray, List.set_cons_succ, List.set_cons_zero]
    refine wpQuiet_take (by rfl) (fun K hK => ⟨.int .u64 (n : Int), fun w2' hw2 => ?_, hK _ ?_⟩)
    · have cl2 := (HashRow.later R2.out hw2).len
      clear hw2; go_simp
    clear hK K
    simp only [Act.put, List.setIfInBounds_toArray, List.set_cons_succ, List.set_cons_zero]
    refine wpQuiet_take (by rfl) (fun K hK => ⟨.int .u64 ((n : Int) * 8), fun w2' hw2 => ?_, hK _ ?_⟩)
    · have h8 := HW8.out
      clear hw2; go_simp
    clear hK K
    simp only [Act.put, List.setIfInBounds_toArray, List.set_cons_succ, List.set_cons_zero]
    refine wpQuiet_take0 ?_
    intro w3 hb3
    have R3 := Lib.hid (HashRow.later R2.out hb3)
    have K3 := Lib.hid ((hb3.block q (lt_row K2.out)).trans K2.out)
    have S3 := Lib.hid ((hb3.block s (lt_row S2.out)).trans S2.out)
    have B3 := Lib.hid (B2.out.trans (hb3.mono (by have := lt_row K2.out; omega)))
    have T3 := Lib.hid (T2.out.later hb3)
    clear hb3 R2 K2 S2 B2 T2 cl
    have PL := putLength_any (BitVec.ofNat 64 (n * 8)) (fun i => if i = 0 then 128#8 else 0#8) 72 s k (72 - k) (72 - k) 66 (by have := HK.out; omega) (by omega) w3 S3.out
    rw [hx8] at PL
    have PLH := Lib.hid PL
    clear PL hx8
    go_wp2_with fail
    with_reducible refine PLH.out.mono ?_
    rintro e w4 ⟨rfl, s4⟩
    have s4' : w4.heap[s]? = some (.cells (bytesA (padB (BitVec.ofNat 64 (n * 8)) k) 72) 66 (0, 0)) := s4.row
    have R4 := Lib.hid (s4.chg.row (k := r) (by omega) R3.out)
    have K4 := Lib.hid (s4.keep (k := q) (by omega) K3.out)
    have B4 := Lib.hid (B3.out.trans (s4.below _ (by omega)))
    have T4 := Lib.hid (T3.out.chg s4.chg (by omega))
    have S4 := Lib.hid s4'
    clear s4 s4' R3 K3 B3 T3 S3 PLH
    have hsu : ∀ w' : World, (Instr.sliceAt 66 (.pointer (some ⟨s, 0, none⟩)) none (some (.int .i64 ((k : Int) + 8))) none).run Tryd.prog w' = .ok (.slice (some ⟨s, 0, none⟩) (k + 8) 72) w' := fun w' => by
      have h := run_arr72_upto w' s (k + 8) (by have := HK.out; omega)
      rw [show ((k + 8 : Nat) : Int) = (k : Int) + 8 by omega] at h
      exact h
    have WR := Lib.hid (write_any r n (k + 8) 72 f (padB (BitVec.ofNat 64 (n * 8)) k) (some ⟨s, 0, none⟩) w4 T4.out (by omega) ⟨v, g, R4.out, hv'.out, hg'.out⟩
      ⟨by unfold maxLen; omega, .inr ⟨s, 0, rfl, lt_row S4.out, fun i hi => by rw [Nat.zero_add, cell_of_row _ _ _ _ _ _ S4.out]; exact bytesA_get _ (by have := HK.out; omega)⟩⟩ (by have := HK.out; omega) (by unfold maxLen; omega)
      (fun _ x hx => by injection hx with hx; subst hx; show s ≠ r; omega) (by omega))
    clear hv' hg' R4
    go_wp2_with fail
    with_reducible refine WR.out.mono ?_
    rintro e w5 ⟨rfl, st5, ch5⟩
    obtain ⟨v5, g5, row5, hv5, _⟩ := st5
    have tot := pad_total n
    rw [HK.out] at tot
    have e5 : v5 = W8.blocks kW startW (padded f n) ((n + 8) / 64 + 1) := by
      rw [hv5 (by omega), tot, Nat.mul_div_cancel_left _ (by omega)]
      refine W8.blocks_congr _ (fun i hi => ?_)
      have := pad_padded f n (by omega) i hi
      rw [HK.out] at this
      exact this
    have R5 := Lib.hid row5
    have K5 := Lib.hid (ch5.row (k := q) (by omega) K4.out)
    have B5 := Lib.hid (B4.out.trans (ch5.below (by omega) (by have := lt_row K4.out; omega)))
    have E5 := Lib.hid e5
    clear hv5 e5 row5 ch5 WR K4 B4 T4 S4 tot hsl hsu
    go_wp2_with (refine wpList_run (o := ⟨some 29, .load 57 (.tmp 28), _, _, _, _⟩) rfl (quiet_load (load_state R5.out)) ?_)
    with_reducible refine (sumOf_any v5 _).mono ?_
    rintro e w6 ⟨rfl, hb6⟩
    have K6 := Lib.hid ((hb6.block q (lt_row K5.out)).trans K5.out)
    have B6 := Lib.hid (B5.out.trans (hb6.mono (by have := lt_row K5.out; omega)))
    clear hb6 K5 B5
    go_wp2_with (refine wpList_store_row rfl 42 _ _ rfl q _ _ (bytesA (stateB v5) 32) rfl rfl K6.out (by rw [bytesA_size, bytesA_size]) (by rw [bytesA_size]; kernel_rfl) (bytesA_one _ _) ?_; intro w7 s7)
    exact ret_row q _ 42 (bytesA (stateB v5) 32) rfl _ rfl s7.row Tryd.underlying42 rfl (by rw [bytesA_size]; kernel_rfl) rfl ⟨by rw [sumB_state, E5.out], by rw [HQ.out]; exact B6.out.trans (s7.below _ (Nat.le_refl _))⟩
end Go.Proofs.YtebhhonmpoeliaaDoor
